/-
  THE WALKS of refserveref.commit, Parse, Look.
-/
import Derived.Test.YtdnfmpjcjhblbaaG
import Derived.Test.YtdnfmpjcjhblbaaD
namespace Go.Proofs.Ytdnfmpjcjhblbaa
open Go.RowKit

theorem commit_no {s t r p m : List UInt8} {b1 b2 : Bool} (h1 : M.cut1 s 32 = (t, r, b1)) (h2 : M.cut1 r 32 = (p, m, b2)) (h : (b2 && M.idB t && M.lineB m 20) = false) : M.commitB s = none := by
  unfold M.commitB M.headOk; rw [h1]; simp only; rw [h2]; simp only; rw [if_neg (by simpa using h)]
theorem commit_yes {s t r p m : List UInt8} {b1 b2 : Bool} (h1 : M.cut1 s 32 = (t, r, b1)) (h2 : M.cut1 r 32 = (p, m, b2)) (h : (b2 && M.idB t && M.lineB m 20) = true) : M.commitB s = (M.parents p).map (t :: ·) := by
  unfold M.commitB M.headOk; rw [h1]; simp only; rw [h2]; simp only; rw [if_pos h]
theorem cut1_nil (c : UInt8) : M.cut1 [] c = ([], [], false) := rfl
theorem strs_one (w : World) (B : Nat) (X : ByteArray) (hB : B ≤ w.heap.size) : Strs (w.alloc (.cells #[.string X] 9)) B (.slice (some ⟨w.heap.size, 0, none⟩) 1 1) [X] :=
  World.ownsRow_lit w #[.string X] 1 hB (by unfold maxLen; omega) rfl

theorem par_dash {p : List UInt8} (h : (p == [45]) = true) : M.parents p = some [] := by unfold M.parents; rw [if_pos h]
theorem par_no {p q r : List UInt8} {b : Bool} (h : (p == [45]) = false) (hc : M.cut1 p 43 = (q, r, b)) (hq : M.idB q = false) : M.parents p = none := by
  unfold M.parents; rw [if_neg (by simp [h]), hc]; simp [hq]
theorem par_one {p q r : List UInt8} (h : (p == [45]) = false) (hc : M.cut1 p 43 = (q, r, false)) (hq : M.idB q = true) : M.parents p = some [q] := by
  unfold M.parents; rw [if_neg (by simp [h]), hc]; simp [hq]
theorem par_two {p q r : List UInt8} (h : (p == [45]) = false) (hc : M.cut1 p 43 = (q, r, true)) (hq : M.idB q = true) (hr : M.idB r = true) : M.parents p = some [q, r] := by
  unfold M.parents; rw [if_neg (by simp [h]), hc]; simp [hq, hr]
theorem par_bad {p q r : List UInt8} (h : (p == [45]) = false) (hc : M.cut1 p 43 = (q, r, true)) (hr : M.idB r = false) : M.parents p = none := by
  unfold M.parents; rw [if_neg (by simp [h]), hc]; simp [hr]

set_option maxHeartbeats 1000000 in
theorem rcommit_any (s : ByteArray) (w : World) (hs : s.size ≤ 2097152) :
    Calls Try.prog 24 #[.string s] w fun e w' => ∃ v ok, e = .returned (.tuple #[v, .bool ok]) ∧ Ans w' w.heap.size (M.commitB s.data.toList) v ok ∧ Below w.heap.size w w' := by
  obtain ⟨i0, hi, hz0, hz1, hz2⟩ := info_parts Try.info9
  go_enter Try.func24, Try.ntmps24
  go_wp2_with fail
  refine (rcut_any s 32 32 rfl _ (by omega)).mono ?_
  rintro e w1 ⟨T, R, b1, rfl, H1, hT, hR, _, hb1⟩
  have H1' : Hid _ := H1
  clear H1
  go_wp2_with fail
  refine (rcut_any R 32 32 rfl _ (by omega)).mono ?_
  rintro e w2 ⟨P, m, b2, rfl, H2, hP, hm, _, hb2⟩
  have H2' : Hid _ := H2
  clear H2
  go_wp2_with fail
  refine (id_any T _ (by omega)).mono ?_
  rintro e w3 ⟨rfl, rfl⟩
  generalize hit : M.idB T.data.toList = it
  have HIT : Hid _ := hit
  clear hit
  go_wp2_with fail
  refine (line_any m 20 _ (by omega)).mono ?_
  rintro e w4 ⟨rfl, rfl⟩
  generalize hlm : M.lineB m.data.toList 20 = lm
  have HLM : Hid _ := hlm
  clear hlm
  have hbb : Below w.heap.size w w4 := hb1.trans (hb2.mono hb1.size)
  have hsz : w.heap.size ≤ w4.heap.size := hbb.size
  have hfail : (b2 && it && lm) = false → M.commitB s.data.toList = none := fun h => commit_no H1'.out H2'.out (by rw [HIT.out, HLM.out]; exact h)
  have HF : Hid _ := hfail
  clear hb1 hb2 hfail
  cases b1
  · have hb2' : b2 = false := by
      have h := H2'.out
      unfold CutIs at h
      rw [cut1_nohit H1'.out, cut1_nil] at h
      simp only [Prod.mk.injEq] at h
      exact h.2.2.symm
    have HB2 : Hid _ := hb2'
    clear hb2'
    go_wp2_with fail
    go_ret2
    exact ⟨_, _, rfl, by rw [HF.out (by rw [HB2.out]; simp)]; exact ans_none _ _, hbb⟩
  · cases b2
    · go_wp2_with fail
      go_ret2
      exact ⟨_, _, rfl, by rw [HF.out (by simp)]; exact ans_none _ _, hbb⟩
    · cases it
      · go_wp2_with fail
        go_ret2
        exact ⟨_, _, rfl, by rw [HF.out (by simp)]; exact ans_none _ _, hbb⟩
      · cases lm
        · go_wp2_with fail
          go_ret2
          exact ⟨_, _, rfl, by rw [HF.out (by simp)]; exact ans_none _ _, hbb⟩
        · have HY : Hid _ := commit_yes H1'.out H2'.out (by rw [HIT.out, HLM.out]; rfl)
          clear HF
          cases hd : (P.toList == [45])
          · go_wp2_with fail
            refine (rcut_any P 43 43 rfl _ (by omega)).mono ?_
            rintro e w5 ⟨Q, R2, b3, rfl, H3, hQ, hR2, _, hb3⟩
            have H3' : Hid _ := H3
            clear H3
            go_wp2_with fail
            refine (id_any Q _ (by omega)).mono ?_
            rintro e w6 ⟨rfl, rfl⟩
            generalize hiq : M.idB Q.data.toList = iq
            have HIQ : Hid _ := hiq
            clear hiq
            have hdd : (P.data.toList == [45]) = false := by rw [← Lib.toList_data]; exact hd
            have HDD : Hid _ := hdd
            clear hdd
            have hb6 : Below w.heap.size w w6 := (hbb.alloc hsz _).trans (hb3.mono (by simp; omega))
            have HT : Hid _ := (strs_one w4 w.heap.size T hsz).below hb3
            have hsz6 : w.heap.size ≤ w6.heap.size := hb6.size
            clear hb3 hbb hsz
            cases iq
            · go_wp2_with fail
              go_ret2
              exact ⟨_, _, rfl, by rw [HY.out, par_no HDD.out H3'.out HIQ.out]; exact ans_none _ _, hb6⟩
            · cases b3
              · go_wp2_with (at_builtin; refine wpList_append_own _ rfl (.tmp 61) (.tmp 63) 28 rfl w.heap.size 9 i0 (.string ⟨#[]⟩) 1 16 Try.underlying28 hi hz0 hz1 hz2 rfl (by decide) _ 1 [.string T] rfl (World.ownsRow.alloc HT.out _) ⟨w6.heap.size, 0, none⟩ 1 1 [.string Q] rfl rfl (cell_one_new _ _ _) (by intro u hu; simp at hu; subst hu; rfl) (by unfold maxLen; omega) (by omega) (by simp; omega) ?_)
                intro v' w7 hown7 hgrow _
                have hb7 : Below w.heap.size w w7 := (hb6.alloc hsz6 _).grown hgrow (by simp; omega) (fun k hk => (World.ownsRow.lt HT.out k hk).1)
                have HS7 : Hid (Strs w7 w.heap.size v' [T, Q]) := hown7
                clear hgrow hown7
                go_wp2_with fail
                go_ret2
                exact ⟨_, _, rfl, ⟨[T, Q], HS7.out, .inl ⟨rfl, by rw [HY.out, par_one HDD.out H3'.out HIQ.out]; rfl⟩⟩, hb7⟩
              · go_wp2_with (at_builtin; refine wpList_append_own _ rfl (.tmp 61) (.tmp 63) 28 rfl w.heap.size 9 i0 (.string ⟨#[]⟩) 1 16 Try.underlying28 hi hz0 hz1 hz2 rfl (by decide) _ 1 [.string T] rfl (World.ownsRow.alloc HT.out _) ⟨w6.heap.size, 0, none⟩ 1 1 [.string Q] rfl rfl (cell_one_new _ _ _) (by intro u hu; simp at hu; subst hu; rfl) (by unfold maxLen; omega) (by omega) (by simp; omega) ?_)
                intro v' w7 hown7 hgrow _
                have hb7 : Below w.heap.size w w7 := (hb6.alloc hsz6 _).grown hgrow (by simp; omega) (fun k hk => (World.ownsRow.lt HT.out k hk).1)
                have HS7 : Hid (Strs w7 w.heap.size v' [T, Q]) := hown7
                have hsz7 : w.heap.size ≤ w7.heap.size := hb7.size
                clear hgrow hown7
                go_wp2_with fail
                refine (id_any R2 _ (by omega)).mono ?_
                rintro e w8 ⟨rfl, rfl⟩
                generalize hir : M.idB R2.data.toList = ir
                have HIR : Hid _ := hir
                clear hir
                cases ir
                · go_wp2_with fail
                  go_ret2
                  exact ⟨_, _, rfl, by rw [HY.out, par_bad HDD.out H3'.out HIR.out]; exact ans_none _ _, hb7⟩
                · go_wp2_with (at_builtin; refine wpList_append_own _ rfl (.tmp 70) (.tmp 72) 28 rfl w.heap.size 9 i0 (.string ⟨#[]⟩) 1 16 Try.underlying28 hi hz0 hz1 hz2 rfl (by decide) _ 2 [.string T, .string Q] rfl (World.ownsRow.alloc HS7.out _) ⟨w8.heap.size, 0, none⟩ 1 1 [.string R2] rfl rfl (cell_one_new _ _ _) (by intro u hu; simp at hu; subst hu; rfl) (by unfold maxLen; omega) (by omega) (by simp; omega) ?_)
                  intro v9 w9 hown9 hgrow _
                  have hb9 : Below w.heap.size w w9 := (hb7.alloc hsz7 _).grown hgrow (by simp; omega) (fun k hk => (World.ownsRow.lt HS7.out k hk).1)
                  have HS9 : Hid (Strs w9 w.heap.size v9 [T, Q, R2]) := hown9
                  clear hgrow hown9
                  go_wp2_with fail
                  go_ret2
                  exact ⟨_, _, rfl, ⟨[T, Q, R2], HS9.out, .inl ⟨rfl, by rw [HY.out, par_two HDD.out H3'.out HIQ.out HIR.out]; rfl⟩⟩, hb9⟩
          · have hdd : (P.data.toList == [45]) = true := by rw [← Lib.toList_data]; exact hd
            have HDD : Hid _ := hdd
            clear hdd
            go_wp2_with fail
            go_ret2
            exact ⟨_, _, rfl, ⟨[T], strs_one w4 w.heap.size T hsz, .inl ⟨rfl, by rw [HY.out, par_dash HDD.out]; rfl⟩⟩, hbb.alloc hsz _⟩

end Go.Proofs.Ytdnfmpjcjhblbaa
