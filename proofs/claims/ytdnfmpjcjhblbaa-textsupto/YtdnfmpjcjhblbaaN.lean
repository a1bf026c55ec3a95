/-
  THE WALKS of Commit.readParents, Commit.read, Blob.read.
-/
import Derived.Test.YtdnfmpjcjhblbaaL
namespace Go.Proofs.Ytdnfmpjcjhblbaa
open Go.RowKit

theorem take_getD (ps : List ByteArray) (k : Nat) (h : k < ps.length) : ps.take (k + 1) = ps.take k ++ [ps.getD k ByteArray.empty] := by
  rw [List.take_succ_eq_append_getElem h]; simp [List.getD, h]
theorem par_dash' {p : List UInt8} (h : (p == [45]) = true) : M.parents p = some [] := by unfold M.parents; rw [if_pos h]
theorem par_fail {p : List UInt8} {ps : List ByteArray} (hd : (p == [45]) = false) (hps : listsOf ps = piecesN p) (h : ¬ (ps.length ≤ 2 ∧ (listsOf ps).all M.idB = true)) : M.parents p = none := by
  rw [parents_eq p hd, ← hps, if_neg]
  simpa [listsOf] using h
theorem par_done {p : List UInt8} {ps : List ByteArray} (hd : (p == [45]) = false) (hps : listsOf ps = piecesN p) (h : ps.length ≤ 2) (ha : (listsOf ps).all M.idB = true) : M.parents p = some (listsOf ps) := by
  rw [parents_eq p hd, ← hps, if_pos]
  exact ⟨by simpa [listsOf] using h, ha⟩
theorem all_getD {ps : List ByteArray} {k : Nat} (h : k < ps.length) (hf : M.idB (ps.getD k ByteArray.empty).data.toList = false) : ¬ (listsOf ps).all M.idB = true := by
  rw [Bool.not_eq_true, List.all_eq_false]
  refine ⟨_, ?_, by rw [hf]; simp⟩
  simp only [listsOf, List.mem_map, List.getD, List.getElem?_eq_getElem h, Option.getD_some]
  exact ⟨ps[k], List.getElem_mem h, rfl⟩

theorem Strs.shape' {w : World} {B : Nat} {v : Value} {ids : List ByteArray} {n : Nat} (h : Strs w B v ids) (hn : ids.length = n) : ∃ a c, v = .slice a n c := by
  subst hn
  rcases h.2 with ⟨h, h0⟩ | ⟨g, cap, cur, h, _⟩
  · exact ⟨none, 0, by rw [h, h0]⟩
  · exact ⟨_, _, h⟩

set_option maxHeartbeats 2000000 in
theorem rpar_any (b : Nat) (I t T p : ByteArray) (w : World) (hblk : w.heap[b]? = some (.cells #[.string I, .string t, .string T, .slice none 0 0] 53 (0, 0))) (hm : MaxLenIs w) (hs : p.size ≤ 2097152) :
    Calls Try.prog 71 #[.pointer (some ⟨b, 0, none⟩), .string p] w fun e w' => ∃ v ok, e = .returned (.bool ok) ∧ w'.heap[b]? = some (.cells #[.string I, .string t, .string T, v] 53 (0, 0)) ∧ Fld w' w.heap.size (M.parents p.data.toList) v ok ∧ Below b w w' := by
  obtain ⟨i0, hi, hz0, hz1, hz2⟩ := info_parts Try.info9
  have hbw : b < w.heap.size := (Array.getElem?_eq_some_iff.1 hblk).1
  have HK : Hid _ := hblk
  have HM : Hid (MaxLenIs w) := hm
  clear hblk hm
  cases hd : (p.toList == [45])
  · have HDD : Hid ((p.data.toList == [45]) = false) := by
      show (p.data.toList == [45]) = false
      rw [← Lib.toList_data]; exact hd
    go_enter Try.func71, Try.ntmps71
    go_wp2_with fail
    refine (splitN43 p _ HM.out (by omega)).mono ?_
    rintro e w3 ⟨ps, cap, rfl, HP, hcap, hp3, hpl, HRow, hsz3, hb3⟩
    have HP' : Hid _ := HP
    have HPL : Hid (∀ q ∈ listsOf ps, q.length ≤ 2097152) := fun q hq => by have := hpl q hq; omega
    have HRow' : Hid _ := HRow
    have hb03 : Below b w w3 := hb3.mono (by omega)
    have HK3 : Hid (w3.heap[b]? = some (.cells #[.string I, .string t, .string T, .slice none 0 0] 53 (0, 0))) := by
      show w3.heap[b]? = _
      rw [hb3.block b (by omega)]; exact HK.out
    clear HP HRow HM HK hb3 hpl
    go_wp2_with fail
    go_loopw [12] (fun i wr => ∃ (k : Nat) (va : Option Addr) (vc : Nat), k ≤ ps.length ∧ k ≤ 2 ∧ i = .int .i64 k ∧
        Hid (wr.heap[b]? = some (.cells #[.string I, .string t, .string T, .slice va k vc] 53 (0, 0))) ∧ Hid (Strs wr (w.heap.size + 1) (.slice va k vc) (ps.take k)) ∧
        Hid ((listsOf (ps.take k)).all M.idB = true) ∧ Hid (RowIs wr w.heap.size ps.length ps) ∧ Below b w wr ∧ w.heap.size + 1 ≤ wr.heap.size) (fun i _ => ps.length - (intOf i).toNat)
    case atStart => exact ⟨0, none, 0, Nat.zero_le _, by omega, rfl, HK3, World.ownsRow_nil _ _ _ _, rfl, HRow', hb03, by omega⟩
    case round =>
      obtain ⟨k, va, vc, hk, hk2, rfl, HB, HS, HA, HRw, hbl, hsz⟩ := hrel
      clear HK3 HRow' hb03
      have hcv : wr.cell? ⟨b, 3, none⟩ = some (.slice va k vc) := by rw [cell_of_row wr b 3 _ _ _ HB.out]; rfl
      by_cases hlt : k < ps.length
      · obtain ⟨P, hP⟩ : ∃ P, P = ps.getD k ByteArray.empty := ⟨_, rfl⟩
        have hcp : wr.cell? ⟨w.heap.size, k, none⟩ = some (.string P) := by rw [HRw.out k hlt, hP]
        have hPs : P.size ≤ 2097152 := by rw [hP]; exact getD_size HPL.out
        have HPE : Hid _ := hP
        clear hP
        by_cases hk2' : k = 2
        · have hkb : ((k : Int) == 2) = true := by simp [hk2']
          have HK2 : Hid _ := hk2'
          clear hk2'
          have hpn : M.parents p.data.toList = none := par_fail HDD.out HP'.out (by have := HK2.out; omega)
          have HF : Hid (Fld wr w.heap.size (M.parents p.data.toList) (.slice va k vc) false) := ⟨_, HS.out.base (by omega), .inr ⟨rfl, hpn⟩⟩
          clear hpn
          go_wp2_with fail
          go_ret
          exact ⟨_, _, rfl, HB.out, HF.out, hbl⟩
        · have hkb : ((k : Int) == 2) = false := beq_eq_false_iff_ne.2 (by omega)
          go_wp2_with fail
          refine (canName_any P _ (by omega)).mono ?_
          rintro e w6 ⟨rfl, rfl⟩
          generalize hib : M.idB P.data.toList = ib
          have HIB : Hid _ := hib
          clear hib
          cases ib
          · have hpn : M.parents p.data.toList = none := par_fail HDD.out HP'.out (fun h => all_getD hlt (by rw [← HPE.out]; exact HIB.out) h.2)
            have HF : Hid (Fld w6 w.heap.size (M.parents p.data.toList) (.slice va k vc) false) := ⟨_, HS.out.base (by omega), .inr ⟨rfl, hpn⟩⟩
            clear hpn
            go_wp2_with fail
            go_ret
            exact ⟨_, _, rfl, HB.out, HF.out, hbl⟩
          · have hlen : (ps.take k).length = k := by rw [List.length_take]; omega
            have HLn : Hid _ := hlen
            clear hlen
            go_wp2_with (at_builtin; refine wpList_append_own _ rfl _ _ 28 rfl (w.heap.size + 1) 9 i0 (.string ⟨#[]⟩) 1 16 Try.underlying28 hi hz0 hz1 hz2 rfl (by decide) _ (ps.take k).length ((ps.take k).map Value.string) rfl (World.ownsRow.alloc HS.out _) ⟨w6.heap.size, 0, none⟩ 1 1 [.string P] rfl rfl ?c1 ?c2 ?c3 ?c4 ?c5 ?_)
            case c1 => exact cell_one_new _ _ _
            case c2 => intro u hu; simp at hu; subst hu; rfl
            case c3 => have := HLn.out; unfold maxLen; omega
            case c4 => have := HLn.out; omega
            case c5 => simp; omega
            intro v' w7 hown7 hgrow _
            have hown7' : w7.ownsRow (w.heap.size + 1) 9 1 v' ((ps.take k).length + 1) ((ps.take k).map Value.string ++ [.string P]) := by
              rw [HLn.out, List.map_take]; exact hown7
            obtain ⟨hB7, hS7, hR7, hsz7, hbl7⟩ := app_step (by omega) (by omega) HB.out HS.out HRw.out hsz hown7' hgrow
            obtain ⟨ua, uc, hu⟩ := hS7.shape' (n := k + 1) (by rw [List.length_append, HLn.out]; rfl)
            subst hu
            have hbl7' := hbl7 w hbl
            have hcv7 : w7.cell? ⟨b, 3, none⟩ = some (.slice va k vc) := by rw [cell_of_row w7 b 3 _ _ _ hB7]; rfl
            have hfr7 : w7.frozen? ⟨b, 3, none⟩ = false := frozen_of_row w7 b 3 _ _ hB7
            have HB7 : Hid _ := hB7
            have HS7 : Hid (Strs w7 (w.heap.size + 1) (.slice ua (k + 1) uc) (ps.take k ++ [P])) := hS7
            have HR7 : Hid (RowIs w7 w.heap.size ps.length ps) := hR7
            clear hgrow hown7 hown7' hB7 hS7 hR7 hbl7 hcv
            go_wp2
            go_roundw
            case rel =>
              refine ⟨k + 1, ua, uc, by omega, by omega, by go_num, ?_, ?_, ?_, ?_, ?_, ?_⟩
              · exact (heap_setCell_same _ b 3 _ _ _ HB7.out).trans (by rfl)
              · show Strs _ _ _ _
                rw [take_getD ps k hlt, ← HPE.out]
                exact ownsRow_setCell_below HS7.out (by show b < _; omega) _
              · show List.all _ _ = true
                rw [take_getD ps k hlt, ← HPE.out, listsOf_snoc, List.all_append, HA.out]
                simp [HIB.out]
              · exact HR7.out.of_block (heap_setCell_other _ _ _ _ (by show w.heap.size ≠ b; omega))
              · exact hbl7'.setCell (by exact Nat.le_refl _) _
              · simp [World.setCell]; omega
            case measure => simp [intOf]; omega
      · have hkp : ps.take k = ps := List.take_of_length_le (by omega)
        have HAll : Hid ((listsOf ps).all M.idB = true) := by
          show List.all _ _ = true
          rw [← hkp]; exact HA.out
        have HF : Hid (Fld wr w.heap.size (M.parents p.data.toList) (.slice va k vc) true) := ⟨_, HS.out.base (by omega), .inl ⟨rfl, by rw [hkp]; exact par_done HDD.out HP'.out (by omega) HAll.out⟩⟩
        clear hkp
        go_wp2_with fail
        go_ret
        exact ⟨_, _, rfl, HB.out, HF.out, hbl⟩
  · have HDD : Hid ((p.data.toList == [45]) = true) := by
      show (p.data.toList == [45]) = true
      rw [← Lib.toList_data]; exact hd
    go_enter Try.func71, Try.ntmps71
    go_wp2_with fail
    go_ret
    exact ⟨_, _, rfl, HK.out, ⟨[], World.ownsRow_nil _ _ _ _, .inl ⟨rfl, par_dash' HDD.out⟩⟩, Below.refl _ _⟩

set_option maxHeartbeats 1000000 in
theorem bread_any (b : Nat) (t : ByteArray) (w : World) (h : w.cell? ⟨b, 1, none⟩ = some (.string t)) (hs : t.size ≤ 2097152) :
    Calls Try.prog 74 #[.pointer (some ⟨b, 0, none⟩)] w fun e w' => e = .returned (.bool (M.lineB (M.cut1 t.data.toList 32).2.1 40)) ∧ Below w.heap.size w w' := by
  go_enter Try.func74, Try.ntmps74
  go_wp2_with fail
  refine (body_any b t _ h (by omega)).mono ?_
  rintro e w1 ⟨A, R, c, rfl, H1, hR, hb1⟩
  have HR : Hid (M.cut1 t.data.toList 32 = (A.data.toList, R.data.toList, c)) := H1
  clear H1
  go_wp2_with fail
  refine (isLine_any R 40 _).mono ?_
  rintro e w2 ⟨rfl, rfl⟩
  go_wp2_with fail
  go_ret
  exact ⟨ret_bool (by rw [HR.out]), hb1⟩

theorem commit_no2 {s t r p m : List UInt8} {b1 b2 : Bool} (h1 : M.cut1 s 32 = (t, r, b1)) (h2 : M.cut1 r 32 = (p, m, b2)) (h : (b2 && M.idB t && M.lineB m 20) = false) : M.commitB s = none := by
  unfold M.commitB M.headOk; rw [h1]; simp only; rw [h2]; simp only; rw [if_neg (by simpa using h)]
theorem commit_yes2 {s t r p m : List UInt8} {b1 b2 : Bool} (h1 : M.cut1 s 32 = (t, r, b1)) (h2 : M.cut1 r 32 = (p, m, b2)) (h : (b2 && M.idB t && M.lineB m 20) = true) : M.commitB s = (M.parents p).map (t :: ·) := by
  unfold M.commitB M.headOk; rw [h1]; simp only; rw [h2]; simp only; rw [if_pos h]

/-- what Commit.read leaves in its fields -/
def CFld (w' : World) (B : Nat) (r : Option (List (List UInt8))) (T : ByteArray) (v : Value) (ok : Bool) : Prop :=
  ∃ ids : List ByteArray, Strs w' B v ids ∧ ((ok = true ∧ r = some (T.data.toList :: listsOf ids) ∧ ids.length ≤ 2) ∨ (ok = false ∧ r = none))

theorem par_len {p : List UInt8} {r : List (List UInt8)} (h : M.parents p = some r) : r.length ≤ 2 := by
  unfold M.parents at h
  split at h
  · cases h; simp
  · split at h
    · cases h
    · split at h
      · split at h
        · cases h; simp
        · cases h
      · cases h; simp

set_option maxHeartbeats 2000000 in
theorem cread_any (b : Nat) (I t : ByteArray) (w : World) (hblk : w.heap[b]? = some (.cells #[.string I, .string t, .string ⟨#[]⟩, .slice none 0 0] 53 (0, 0))) (h0b : 0 < b) (hm : MaxLenIs w) (hs : t.size ≤ 2097152) :
    Calls Try.prog 69 #[.pointer (some ⟨b, 0, none⟩)] w fun e w' => ∃ T v ok, e = .returned (.bool ok) ∧ w'.heap[b]? = some (.cells #[.string I, .string t, .string T, v] 53 (0, 0)) ∧ CFld w' w.heap.size (M.commitB (M.cut1 t.data.toList 32).2.1) T v ok ∧ Below b w w' := by
  have hbw : b < w.heap.size := (Array.getElem?_eq_some_iff.1 hblk).1
  have hc1 : w.cell? ⟨b, 1, none⟩ = some (.string t) := by rw [cell_of_row w b 1 _ _ _ hblk]; rfl
  have HK : Hid _ := hblk
  have HM : Hid (MaxLenIs w) := hm
  clear hblk hm
  go_enter Try.func69, Try.ntmps69
  go_wp2_with fail
  refine (body_any b t _ hc1 (by omega)).mono ?_
  rintro e w1 ⟨A, R, c, rfl, H1, hR, hb1⟩
  have HR : Hid (M.cut1 t.data.toList 32 = (A.data.toList, R.data.toList, c)) := H1
  clear H1
  go_wp2_with fail
  refine (pcut_any R 32 _ (by omega)).mono ?_
  rintro e w2 ⟨T, R2, b1, rfl, H2, hT, hR2, _, hb2⟩
  have H2' : Hid _ := H2
  clear H2
  go_wp2_with fail
  refine (pcut_any R2 32 _ (by omega)).mono ?_
  rintro e w3 ⟨P, m, b2, rfl, H3, hP, hm3, _, hb3⟩
  have H3' : Hid _ := H3
  clear H3
  have hbb : Below w.heap.size w w3 := (hb1.trans (hb2.mono hb1.size)).trans (hb3.mono (Nat.le_trans hb1.size hb2.size))
  have hsz3 := hbb.size
  have HK3 : Hid (w3.heap[b]? = some (.cells #[.string I, .string t, .string ⟨#[]⟩, .slice none 0 0] 53 (0, 0))) := by
    show w3.heap[b]? = _
    rw [hbb.block b hbw]; exact HK.out
  have HM3 : Hid (MaxLenIs w3) := HM.out.below hbb (by omega)
  have hc3 : w3.cell? ⟨b, 2, none⟩ = some (.string ⟨#[]⟩) := by rw [cell_of_row w3 b 2 _ _ _ HK3.out]; rfl
  have hf3 : w3.frozen? ⟨b, 2, none⟩ = false := frozen_of_row w3 b 2 _ _ HK3.out
  have hfl : (b2 && M.idB T.data.toList && M.lineB m.data.toList 20) = false → CFld w3 w.heap.size (M.commitB (M.cut1 t.data.toList 32).2.1) ⟨#[]⟩ (.slice none 0 0) false := fun h =>
    ⟨[], World.ownsRow_nil _ _ _ _, .inr ⟨rfl, by rw [HR.out]; exact commit_no2 H2'.out H3'.out h⟩⟩
  have HFL : Hid _ := hfl
  clear hfl hb1 hb2 hb3 HK HM hc1
  cases b2
  · go_wp2_with fail
    go_ret
    exact ⟨_, _, _, rfl, HK3.out, HFL.out (by simp), hbb.mono (by omega)⟩
  · go_wp2_with fail
    refine (canName_any T _ (by omega)).mono ?_
    rintro e w4 ⟨rfl, rfl⟩
    generalize hit : M.idB T.data.toList = it at HFL ⊢
    have HIT : Hid _ := hit
    clear hit
    cases it
    · go_wp2_with fail
      go_ret
      exact ⟨_, _, _, rfl, HK3.out, HFL.out (by simp), hbb.mono (by omega)⟩
    · go_wp2_with fail
      refine (isLine_any m 20 _).mono ?_
      rintro e w5 ⟨rfl, rfl⟩
      generalize hlm : M.lineB m.data.toList 20 = lm at HFL ⊢
      have HLM : Hid _ := hlm
      clear hlm
      cases lm
      · go_wp2_with fail
        go_ret
        exact ⟨_, _, _, rfl, HK3.out, HFL.out (by simp), hbb.mono (by omega)⟩
      · clear HFL
        have HY : Hid (M.commitB R.data.toList = (M.parents P.data.toList).map (T.data.toList :: ·)) := commit_yes2 H2'.out H3'.out (by rw [HIT.out, HLM.out]; rfl)
        have HK6 : Hid ((w5.setCell ⟨b, 2, none⟩ (.string T)).heap[b]? = some (.cells #[.string I, .string t, .string T, .slice none 0 0] 53 (0, 0))) := (heap_setCell_same _ b 2 _ _ _ HK3.out).trans (by rfl)
        have HM6 : Hid (MaxLenIs (w5.setCell ⟨b, 2, none⟩ (.string T))) := HM3.out.below (B := b) ((Below.refl _ _).setCell (by exact Nat.le_refl _) _) h0b
        go_wp2_with fail
        refine (rpar_any b I t T P _ HK6.out HM6.out (by omega)).mono ?_
        rintro e w7 ⟨v, ok, rfl, HB7, HF7, hb7⟩
        have HB7' : Hid _ := HB7
        have HF7' : Hid _ := HF7
        clear HB7 HF7
        go_wp2_with fail
        go_ret
        refine ⟨_, _, _, rfl, HB7'.out, ?_, ?_⟩
        · obtain ⟨ids, hS, hor⟩ := HF7'.out
          refine ⟨ids, hS.base (by simp [World.setCell]; omega), ?_⟩
          rw [HR.out]
          simp only
          rw [HY.out]
          rcases hor with ⟨h1, h2⟩ | ⟨h1, h2⟩
          · exact .inl ⟨h1, by rw [h2]; rfl, by have := par_len h2; simpa [listsOf] using this⟩
          · exact .inr ⟨h1, by rw [h2]; rfl⟩
        · exact ((hbb.mono (by omega)).setCell (by exact Nat.le_refl _) _).trans hb7
end Go.Proofs.Ytdnfmpjcjhblbaa
