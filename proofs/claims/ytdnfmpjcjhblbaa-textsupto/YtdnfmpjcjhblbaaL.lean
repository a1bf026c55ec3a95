/-
  THE WALK of Tree.read.
-/
import Derived.Test.YtdnfmpjcjhblbaaK
namespace Go.Proofs.Ytdnfmpjcjhblbaa
open Go.RowKit

theorem nonempty_list (R : ByteArray) (h : R.toList.isEmpty = false) : R.data.toList ≠ [] := by
  rw [Lib.toList_data] at h; intro e; rw [e] at h; cases h
theorem empty_list (R : ByteArray) (h : R.toList.isEmpty = true) : R.data.toList = [] := by
  rw [Lib.toList_data] at h; simpa using h

theorem RowIs.of_block {w w' : World} {g n : Nat} {ps : List ByteArray} (h : RowIs w g n ps) (hb : w'.heap[g]? = w.heap[g]?) : RowIs w' g n ps := by
  intro k hk; rw [World.cell?_of_block (w := w) (by exact hb)]; exact h k hk

/-- 'x.f = append(x.f, X)', x in block b, f its last cell (number j): what it leaves, ahead of the store -/
theorem app_step {w4 w6 : World} {b g B : Nat} {cs : Array Value} {T : TypeId} {va : Option Addr} {vl vc n : Nat} {acc ps : List ByteArray} {X : ByteArray} {v' : Value}
    (hgB : g < B) (hbg : b < g) (hB4 : w4.heap[b]? = some (.cells cs T (0, 0))) (hS : Strs w4 B (.slice va vl vc) acc) (hR : RowIs w4 g n ps) (hsz : B ≤ w4.heap.size)
    (hown : w6.ownsRow B 9 1 v' (acc.length + 1) (acc.map Value.string ++ [.string X])) (hgrow : (w4.alloc (.cells #[.string X] 9)).grownBy w6 (Value.slice va vl vc).ownBlock) :
    w6.heap[b]? = some (.cells cs T (0, 0)) ∧ Strs w6 B v' (acc ++ [X]) ∧ RowIs w6 g n ps ∧ B ≤ w6.heap.size ∧ ∀ w, Below b w w4 → Below b w w6 := by
  have hne : ∀ k, k < B → some k ≠ (Value.slice va vl vc).ownBlock := fun k hk e => by
    have := (World.ownsRow.lt hS k e.symm).1; omega
  have hblk : ∀ k, k < B → w6.heap[k]? = w4.heap[k]? := fun k hk => by
    rw [hgrow.block k (by simp; omega) (hne k hk), Below.heap_alloc w4 _ k (by omega)]
  refine ⟨by rw [hblk b (by omega)]; exact hB4, ?_, hR.of_block (hblk g hgB), ?_, fun w hw => ?_⟩
  · show World.ownsRow _ _ _ _ _ _ _
    rw [List.length_append, List.map_append]; exact hown
  · have := hgrow.size; simp at this; omega
  · exact (hw.alloc (by omega) _).grown hgrow (by simp; omega) (fun k hk => by have := (World.ownsRow.lt hS k hk).1; omega)

set_option maxHeartbeats 2000000 in
theorem tread_any (b : Nat) (I t : ByteArray) (w : World) (hblk : w.heap[b]? = some (.cells #[.string I, .string t, .slice none 0 0] 50 (0, 0))) (h0b : 0 < b) (hm : MaxLenIs w) (hs : t.size ≤ 2097152) :
    Calls Try.prog 54 #[.pointer (some ⟨b, 0, none⟩)] w fun e w' => ∃ v ok, e = .returned (.bool ok) ∧ w'.heap[b]? = some (.cells #[.string I, .string t, v] 50 (0, 0)) ∧ Fld w' w.heap.size (M.entries (M.cut1 t.data.toList 32).2.1) v ok ∧ Below b w w' := by
  obtain ⟨i0, hi, hz0, hz1, hz2⟩ := info_parts Try.info9
  have hbw : b < w.heap.size := (Array.getElem?_eq_some_iff.1 hblk).1
  have hc1 : w.cell? ⟨b, 1, none⟩ = some (.string t) := by rw [cell_of_row w b 1 _ _ _ hblk]; rfl
  have HK : Hid _ := hblk
  clear hblk
  go_enter Try.func54, Try.ntmps54
  go_wp2_with fail
  refine (body_any b t _ hc1 (by omega)).mono ?_
  rintro e w1 ⟨A, R, c, rfl, H1, hR, hb1⟩
  have H1' : Hid (CutIs t 32 A R c) := H1
  have HR : Hid (M.cut1 t.data.toList 32 = (A.data.toList, R.data.toList, c)) := H1
  clear H1
  have HK1 : Hid (w1.heap[b]? = some (.cells #[.string I, .string t, .slice none 0 0] 50 (0, 0))) := by
    show w1.heap[b]? = _
    rw [hb1.block b hbw]; exact HK.out
  have hc1' : w1.cell? ⟨b, 1, none⟩ = some (.string t) := by rw [hb1.cell (by exact hbw)]; exact hc1
  have HM1 : Hid (MaxLenIs w1) := hm.below hb1 (by omega)
  have hsz1 := hb1.size
  cases he : R.toList.isEmpty
  · go_wp2_with fail
    refine (body_any b t _ hc1' (by omega)).mono ?_
    rintro e w2 ⟨A', R', c', rfl, H2, hR', hb2⟩
    obtain rfl := CutIs.same H1'.out H2
    clear H2 hR' hc1' hc1
    have HK2 : Hid (w2.heap[b]? = some (.cells #[.string I, .string t, .slice none 0 0] 50 (0, 0))) := by
      show w2.heap[b]? = _
      rw [hb2.block b (by omega)]; exact HK1.out
    have HM2 : Hid (MaxLenIs w2) := HM1.out.below hb2 (by omega)
    have hsz2 := hb2.size
    go_wp2_with fail
    refine (split44 R' _ HM2.out (by omega)).mono ?_
    rintro e w3 ⟨ps, rfl, HP, HRow, hsz3, hb3⟩
    have HE0 : Hid (EInv R'.data.toList [] (listsOf ps) []) := by
      show EInv _ _ _ _
      rw [HP]; exact EInv.start _ (nonempty_list R' he)
    have hpl : ps.length ≤ 2097153 := by
      have h := M.splitC_len 44 R'.data.toList
      rw [← HP, ← Lib.size_eq] at h
      simp [listsOf] at h; omega
    have HPL : Hid (∀ p ∈ listsOf ps, p.length ≤ 2097152) := by
      intro p hp
      rw [HP] at hp
      have h := M.splitC_piece 44 _ p hp
      rw [← Lib.size_eq] at h; omega
    have HRow' : Hid _ := HRow
    have hb03 : Below b w w3 := ((hb1.mono (by omega)).trans (hb2.mono (by omega))).trans (hb3.mono (by omega))
    have HK3 : Hid (w3.heap[b]? = some (.cells #[.string I, .string t, .slice none 0 0] 50 (0, 0))) := by
      show w3.heap[b]? = _
      rw [hb3.block b (by omega)]; exact HK2.out
    have hlt2 : w.heap.size ≤ w2.heap.size := by omega
    clear HP HRow HM1 HM2 HK HK1 HK2 hb1 hb2 hb3 hm
    go_wp2_with fail
    go_loopw [3, 20] (fun l i wr => ∃ (k : Nat) (last : ByteArray) (va : Option Addr) (vl vc : Nat) (acc : List ByteArray), k ≤ ps.length ∧ i = .int .i64 k ∧ l = .string last ∧ Hid (acc.length = k) ∧
        Hid (wr.heap[b]? = some (.cells #[.string I, .string t, .slice va vl vc] 50 (0, 0))) ∧ Strs wr (w2.heap.size + 1) (.slice va vl vc) acc ∧
        Hid (EInv R'.data.toList last.data.toList ((listsOf ps).drop k) (listsOf acc)) ∧ Hid (RowIs wr w2.heap.size ps.length ps) ∧ Below b w wr ∧ w2.heap.size + 1 ≤ wr.heap.size) (fun _ i _ => ps.length - (intOf i).toNat)
    case atStart => exact ⟨0, ⟨#[]⟩, none, 0, 0, [], Nat.zero_le _, rfl, rfl, rfl, HK3, World.ownsRow_nil _ _ _ _, HE0, HRow', hb03, by omega⟩
    case round =>
      obtain ⟨k, last, va, vl, vc, acc, hk, rfl, rfl, HAL, HB, HS, HE, HRw, hbl, hsz⟩ := hrel
      have HS' : Hid (Strs wr (w2.heap.size + 1) (.slice va vl vc) acc) := HS
      clear HS HK3 HE0 HRow' hb03
      by_cases hlt : k < ps.length
      · obtain ⟨P, hP⟩ : ∃ P, P = ps.getD k ByteArray.empty := ⟨_, rfl⟩
        have hcp : wr.cell? ⟨w2.heap.size, k, none⟩ = some (.string P) := by rw [HRw.out k hlt, hP]
        have hPs : P.size ≤ 2097152 := by rw [hP]; exact getD_size HPL.out
        have HE1 : Hid (EInv R'.data.toList last.data.toList (P.data.toList :: (listsOf ps).drop (k + 1)) (listsOf acc)) := by
          show EInv _ _ _ _
          rw [hP, ← drop_getD ps k hlt]; exact HE.out
        clear hP HE
        go_wp2_with fail
        refine (pcut_any P 61 _ (by omega)).mono ?_
        rintro e w4 ⟨N, X, ok, rfl, HD, hN, hX, _, hb4⟩
        have HD' : Hid _ := HD
        have HB4 : Hid (w4.heap[b]? = some (.cells #[.string I, .string t, .slice va vl vc] 50 (0, 0))) := by
          show w4.heap[b]? = _
          rw [hb4.block b (by omega)]; exact HB.out
        have HS4 : Hid (Strs w4 (w2.heap.size + 1) (.slice va vl vc) acc) := HS'.out.below hb4
        have HR4 : Hid (RowIs w4 w2.heap.size ps.length ps) := HRw.out.below hb4 (by omega)
        have hbl4 : Below b w w4 := hbl.trans (hb4.mono (by omega))
        have hsz4 : w2.heap.size + 1 ≤ w4.heap.size := by have := hb4.size; omega
        have hcv : w4.cell? ⟨b, 2, none⟩ = some (.slice va vl vc) := by rw [cell_of_row w4 b 2 _ _ _ HB4.out]; rfl
        have HFl : Hid (M.entries R'.data.toList = none → Fld w4 w.heap.size (M.entries (M.cut1 t.data.toList 32).2.1) (.slice va vl vc) false) := by
          intro h
          exact ⟨acc, HS4.out.base (by omega), .inr ⟨rfl, by rw [HR.out]; exact h⟩⟩
        clear HD HB HS' HRw hbl hb4 hcp
        go_wp2_with fail
        refine (only_any N _ 1 8 _ (by omega)).mono ?_
        rintro e w5 ⟨rfl, rfl⟩
        rw [name_eq]
        generalize hna : M.nameB N.data.toList = na
        have HNA : Hid _ := hna
        clear hna
        cases na
        · go_wp2_with fail
          go_ret
          exact ⟨_, _, rfl, HB4.out, HFl.out (HE1.out.fail HD'.out (by rw [HNA.out]; simp)), hbl4⟩
        · cases hle : M.leS N.data.toList last.data.toList
          · have h2 := hle
            unfold M.leS at h2
            rw [Bool.or_eq_false_iff, ← Lib.toList_data, ← Lib.toList_data] at h2
            obtain ⟨h2a, h2b⟩ := h2
            have HLE : Hid _ := hle
            clear hle
            go_wp2_with fail
            refine (canName_any X _ (by omega)).mono ?_
            rintro e w6 ⟨rfl, rfl⟩
            generalize hib : M.idB X.data.toList = ib
            have HIB : Hid _ := hib
            clear hib
            cases ib
            · go_wp2_with fail
              go_ret
              exact ⟨_, _, rfl, HB4.out, HFl.out (HE1.out.fail HD'.out (by rw [HIB.out]; simp)), hbl4⟩
            · go_wp2_with (at_builtin; refine wpList_append_own _ rfl _ _ 28 rfl (w2.heap.size + 1) 9 i0 (.string ⟨#[]⟩) 1 16 Try.underlying28 hi hz0 hz1 hz2 rfl (by decide) _ acc.length (acc.map Value.string) rfl (World.ownsRow.alloc HS4.out _) ⟨w6.heap.size, 0, none⟩ 1 1 [.string X] rfl rfl ?c1 ?c2 ?c3 ?c4 ?c5 ?_)
              case c1 => exact cell_one_new _ _ _
              case c2 => intro u hu; simp at hu; subst hu; rfl
              case c3 => have := HAL.out; unfold maxLen; omega
              case c4 => have := HAL.out; omega
              case c5 => simp; omega
              intro v' w7 hown7 hgrow _
              obtain ⟨hB7, hS7, hR7, hsz7, hbl7⟩ := app_step (by omega) (by omega) HB4.out HS4.out HR4.out hsz4 hown7 hgrow
              obtain ⟨ua, ul, uc, hu⟩ := hS7.shape
              subst hu
              have hbl7' := hbl7 w hbl4
              have hcv7 : w7.cell? ⟨b, 2, none⟩ = some (.slice va vl vc) := by rw [cell_of_row w7 b 2 _ _ _ hB7]; rfl
              have hfr7 : w7.frozen? ⟨b, 2, none⟩ = false := frozen_of_row w7 b 2 _ _ hB7
              have HB7 : Hid _ := hB7
              have HS7 : Hid (Strs w7 (w2.heap.size + 1) (.slice ua ul uc) (acc ++ [X])) := hS7
              have HR7 : Hid (RowIs w7 w2.heap.size ps.length ps) := hR7
              have HE7 : Hid _ := HE1.out.step HD'.out HNA.out HIB.out HLE.out
              clear hgrow hown7 hB7 hS7 hR7 hbl7 hcv
              go_wp2
              go_roundw
              case rel =>
                refine ⟨k + 1, N, ua, ul, uc, acc ++ [X], by omega, by go_num, rfl, ?_, ?_, ?_, ?_, ?_, ?_, ?_⟩
                · show (acc ++ [X]).length = k + 1
                  rw [List.length_append, HAL.out]; rfl
                · exact (heap_setCell_same _ b 2 _ _ _ HB7.out).trans (by rfl)
                · exact ownsRow_setCell_below HS7.out (by show b < _; omega) _
                · rw [listsOf_snoc]; exact HE7
                · exact HR7.out.of_block (heap_setCell_other _ _ _ _ (by show w2.heap.size ≠ b; omega))
                · exact hbl7'.setCell (by exact Nat.le_refl _) _
                · simp [World.setCell]; omega
              case measure => simp [intOf]; omega
          · have h2 := hle
            unfold M.leS at h2
            rw [← Lib.toList_data, ← Lib.toList_data] at h2
            have HLE : Hid _ := hle
            clear hle
            cases h3 : Op.bytesLess N.toList last.toList
            · rw [h3, Bool.false_or] at h2
              go_wp2_with fail
              go_ret
              exact ⟨_, _, rfl, HB4.out, HFl.out (HE1.out.fail HD'.out (by rw [HLE.out]; simp)), hbl4⟩
            · clear h2
              go_wp2_with fail
              go_ret
              exact ⟨_, _, rfl, HB4.out, HFl.out (HE1.out.fail HD'.out (by rw [HLE.out]; simp)), hbl4⟩
      · have hkp : k = ps.length := by omega
        have hd := HE.out
        rw [hkp, List.drop_of_length_le (by simp [listsOf])] at hd
        have HDn : Hid (M.entries R'.data.toList = some (listsOf acc)) := hd.done
        clear hkp hd HE
        go_wp2_with fail
        go_ret
        exact ⟨_, _, rfl, HB.out, ⟨acc, HS'.out.base (by omega), .inl ⟨rfl, by rw [HR.out]; exact HDn.out⟩⟩, hbl⟩
  · have HE : Hid (R.data.toList = []) := empty_list R he
    go_wp2_with fail
    go_ret
    exact ⟨_, _, rfl, HK1.out, ⟨[], World.ownsRow_nil _ _ _ _, .inl ⟨rfl, by rw [HR.out]; simp only; rw [HE.out]; rfl⟩⟩, hb1.mono (by omega)⟩
end Go.Proofs.Ytdnfmpjcjhblbaa
