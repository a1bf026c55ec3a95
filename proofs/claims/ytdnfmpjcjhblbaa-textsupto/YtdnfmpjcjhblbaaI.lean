/-
  THE WALKS of refserveref.Parse, Look.
-/
import Derived.Test.YtdnfmpjcjhblbaaH
namespace Go.Proofs.Ytdnfmpjcjhblbaa
open Go.RowKit

theorem look_no {s a r : List UInt8} {b : Bool} (h : M.cut1 s 32 = (a, r, b)) (hb : b = false ∨ (M.idOf s == M.zero8) = true) : M.look s = none := by
  unfold M.look; rw [h]; rcases hb with rfl | hb
  · simp
  · simp [hb]
theorem look_yes {s a r : List UInt8} (h : M.cut1 s 32 = (a, r, true)) (hb : (M.idOf s == M.zero8) = false) : M.look s = M.parse s := by
  unfold M.look; rw [h]; simp [hb]
theorem parse_blob {s a r : List UInt8} {b : Bool} (h : M.cut1 s 32 = (a, r, b)) (h1 : (a == M.blobW) = true) : M.parse s = if M.lineB r 40 then some [] else none := by
  unfold M.parse; rw [h]; simp only; rw [if_pos h1]
theorem parse_tree {s a r : List UInt8} {b : Bool} (h : M.cut1 s 32 = (a, r, b)) (h1 : (a == M.blobW) = false) (h2 : (a == M.treeW) = true) : M.parse s = M.entries r := by
  unfold M.parse; rw [h]; simp only; rw [if_neg (by simp [h1]), if_pos h2]
theorem parse_commit {s a r : List UInt8} {b : Bool} (h : M.cut1 s 32 = (a, r, b)) (h1 : (a == M.blobW) = false) (h2 : (a == M.treeW) = false) (h3 : (a == M.commitW) = true) : M.parse s = M.commitB r := by
  unfold M.parse; rw [h]; simp only; rw [if_neg (by simp [h1]), if_neg (by simp [h2]), if_pos h3]
theorem parse_none {s a r : List UInt8} {b : Bool} (h : M.cut1 s 32 = (a, r, b)) (h1 : (a == M.blobW) = false) (h2 : (a == M.treeW) = false) (h3 : (a == M.commitW) = false) : M.parse s = none := by
  unfold M.parse; rw [h]; simp only; rw [if_neg (by simp [h1]), if_neg (by simp [h2]), if_neg (by simp [h3])]

set_option maxHeartbeats 1000000 in
theorem rparse_any (s : ByteArray) (w : World) (hs : s.size ≤ 2097152) :
    Calls Try.prog 16 #[.string s] w fun e w' => ∃ v ok k, e = .returned (.tuple #[.agg #[.int .u8 k, v], .bool ok]) ∧ Ans w' w.heap.size (M.look s.data.toList) v ok ∧ Below w.heap.size w w' := by
  go_enter Try.func16, Try.ntmps16
  go_wp2_with fail
  refine (rcut_any s 32 32 rfl _ (by omega)).mono ?_
  rintro e w1 ⟨A, R, b, rfl, H1, hA, hR, _, hb1⟩
  have H1' : Hid _ := H1
  clear H1
  go_wp2_with fail
  refine (refID_any s _ (by omega)).mono ?_
  rintro e w2 ⟨rfl, rfl⟩
  generalize hI : (⟨(M.idOf s.data.toList).toArray⟩ : ByteArray) = I
  have HI : Hid (M.idOf s.data.toList = I.toList) := by show M.idOf s.data.toList = _; rw [Lib.toList_data, ← hI]
  clear hI
  have hc0 : w2.cell? ⟨w.heap.size, 0, none⟩ = some (.int .u8 0) := by rw [hb1.cell (by simp)]; simp
  have hc1 : w2.cell? ⟨w.heap.size, 1, none⟩ = some (.slice none 0 0) := by rw [hb1.cell (by simp)]; simp
  have hf0 : w2.frozen? ⟨w.heap.size, 0, none⟩ = false := by rw [hb1.frozen (by simp)]; simp
  have hf1 : w2.frozen? ⟨w.heap.size, 1, none⟩ = false := by rw [hb1.frozen (by simp)]; simp
  have hbb : Below w.heap.size w w2 := ((Below.refl _ _).alloc (Nat.le_refl _) _).trans (hb1.mono (by simp))
  have hsz : w.heap.size < w2.heap.size := by have := hb1.size; simp at this; omega
  clear hb1
  cases b
  · go_wp2_with fail
    refine bodyPost_ret (v := .tuple #[.agg #[.int .u8 0, .slice none 0 0], .bool false]) (by simp [results, Try.results16, go_sem, hc0, hc1]) rfl ⟨_, _, _, rfl, ?_, ?_⟩
    · rw [look_no H1'.out (.inl rfl)]; exact ans_none _ _
    · exact (hbb.setCell (Nat.le_refl _) _).setCell (Nat.le_refl _) _
  · cases hz : (I.toList == M.zero8)
    · have HZ : Hid _ := look_yes H1'.out (by rw [HI.out]; exact hz)
      have hz' : (I.toList == [48, 48, 48, 48, 48, 48, 48, 48]) = false := hz
      clear hz HI
      cases h1 : (A.toList == M.blobW)
      · have h1' : (A.toList == [98, 108, 111, 98]) = false := h1
        have h1d : (A.data.toList == M.blobW) = false := by rw [← Lib.toList_data]; exact h1
        have H1D : Hid _ := h1d
        clear h1 h1d
        cases h2 : (A.toList == M.treeW)
        · have h2' : (A.toList == [116, 114, 101, 101]) = false := h2
          have h2d : (A.data.toList == M.treeW) = false := by rw [← Lib.toList_data]; exact h2
          have H2D : Hid _ := h2d
          clear h2 h2d
          cases h3 : (A.toList == M.commitW)
          · have h3' : (A.toList == [99, 111, 109, 109, 105, 116]) = false := h3
            have h3d : (A.data.toList == M.commitW) = false := by rw [← Lib.toList_data]; exact h3
            have H3D : Hid _ := h3d
            clear h3 h3d
            go_wp2_with fail
            refine bodyPost_ret (v := .tuple #[.agg #[.int .u8 0, .slice none 0 0], .bool false]) (by simp [results, Try.results16, go_sem, hc0, hc1]) rfl ⟨_, _, _, rfl, ?_, ?_⟩
            · rw [HZ.out, parse_none H1'.out H1D.out H2D.out H3D.out]; exact ans_none _ _
            · exact (hbb.setCell (Nat.le_refl _) _).setCell (Nat.le_refl _) _
          · have h3' : (A.toList == [99, 111, 109, 109, 105, 116]) = true := h3
            have h3d : (A.data.toList == M.commitW) = true := by rw [← Lib.toList_data]; exact h3
            have HP : Hid _ := HZ.out.trans (parse_commit H1'.out H1D.out H2D.out h3d)
            clear h3 h3d
            go_wp2_with fail
            refine (rcommit_any R _ (by omega)).mono ?_
            rintro e w3 ⟨v, ok, rfl, HA, hb3⟩
            have HA' : Hid _ := HA
            clear HA
            have kc0 : w3.cell? ⟨w.heap.size, 0, none⟩ = some (.int .u8 0) := by rw [hb3.cell (by exact hsz)]; exact hc0
            have kc1 : w3.cell? ⟨w.heap.size, 1, none⟩ = some (.slice none 0 0) := by rw [hb3.cell (by exact hsz)]; exact hc1
            have kf0 : w3.frozen? ⟨w.heap.size, 0, none⟩ = false := by rw [hb3.frozen (by exact hsz)]; exact hf0
            have kf1 : w3.frozen? ⟨w.heap.size, 1, none⟩ = false := by rw [hb3.frozen (by exact hsz)]; exact hf1
            have hb4 : Below w.heap.size w w3 := hbb.trans (hb3.mono (by omega))
            clear hb3 hc0 hc1 hf0 hf1
            obtain ⟨ids, hst, hor⟩ := HA'.out
            have HST : Hid (Strs w3 w2.heap.size v ids) := hst
            have HOR : Hid _ := hor
            obtain ⟨va, vl, vc, hv⟩ : ∃ a l c, v = .slice a l c := by
              rcases hst.2 with ⟨h, _⟩ | ⟨g, cap, cur, h, _⟩
              · exact ⟨_, _, _, h⟩
              · exact ⟨_, _, _, h⟩
            clear hst hor HA'
            subst hv
            go_wp2_with fail
            refine bodyPost_ret (v := .tuple #[.agg #[.int .u8 99, .slice va vl vc], .bool ok]) (by simp [results, Try.results16, go_sem, kc0, kc1]) rfl ⟨_, _, _, rfl, ?_, ?_⟩
            · rw [HP.out]
              exact ⟨ids, ((HST.out.set (by exact hsz) _).set (by exact hsz) _).base (by omega), HOR.out⟩
            · exact (hb4.setCell (Nat.le_refl _) _).setCell (Nat.le_refl _) _
        · have h2' : (A.toList == [116, 114, 101, 101]) = true := h2
          have h2d : (A.data.toList == M.treeW) = true := by rw [← Lib.toList_data]; exact h2
          have HP : Hid _ := HZ.out.trans (parse_tree H1'.out H1D.out h2d)
          clear h2 h2d
          go_wp2_with fail
          refine (rents_any R _ (by omega)).mono ?_
          rintro e w3 ⟨v, ok, rfl, HA, hb3⟩
          have HA' : Hid _ := HA
          clear HA
          have kc0 : w3.cell? ⟨w.heap.size, 0, none⟩ = some (.int .u8 0) := by rw [hb3.cell (by exact hsz)]; exact hc0
          have kc1 : w3.cell? ⟨w.heap.size, 1, none⟩ = some (.slice none 0 0) := by rw [hb3.cell (by exact hsz)]; exact hc1
          have kf0 : w3.frozen? ⟨w.heap.size, 0, none⟩ = false := by rw [hb3.frozen (by exact hsz)]; exact hf0
          have kf1 : w3.frozen? ⟨w.heap.size, 1, none⟩ = false := by rw [hb3.frozen (by exact hsz)]; exact hf1
          have hb4 : Below w.heap.size w w3 := hbb.trans (hb3.mono (by omega))
          clear hb3 hc0 hc1 hf0 hf1
          obtain ⟨ids, hst, hor⟩ := HA'.out
          have HST : Hid (Strs w3 w2.heap.size v ids) := hst
          have HOR : Hid _ := hor
          obtain ⟨va, vl, vc, hv⟩ : ∃ a l c, v = .slice a l c := by
            rcases hst.2 with ⟨h, _⟩ | ⟨g, cap, cur, h, _⟩
            · exact ⟨_, _, _, h⟩
            · exact ⟨_, _, _, h⟩
          clear hst hor HA'
          subst hv
          go_wp2_with fail
          refine bodyPost_ret (v := .tuple #[.agg #[.int .u8 116, .slice va vl vc], .bool ok]) (by simp [results, Try.results16, go_sem, kc0, kc1]) rfl ⟨_, _, _, rfl, ?_, ?_⟩
          · rw [HP.out]
            exact ⟨ids, ((HST.out.set (by exact hsz) _).set (by exact hsz) _).base (by omega), HOR.out⟩
          · exact (hb4.setCell (Nat.le_refl _) _).setCell (Nat.le_refl _) _
      · have h1' : (A.toList == [98, 108, 111, 98]) = true := h1
        have h1d : (A.data.toList == M.blobW) = true := by rw [← Lib.toList_data]; exact h1
        have HP : Hid _ := HZ.out.trans (parse_blob H1'.out h1d)
        clear h1 h1d
        go_wp2_with fail
        refine (line_any R 40 _ (by omega)).mono ?_
        rintro e w3 ⟨rfl, rfl⟩
        generalize hlr : M.lineB R.data.toList 40 = lr
        have HLR : Hid _ := hlr
        clear hlr
        go_wp2_with fail
        refine bodyPost_ret (v := .tuple #[.agg #[.int .u8 98, .slice none 0 0], .bool lr]) (by simp [results, Try.results16, go_sem, hc0, hc1]) rfl ⟨_, _, _, rfl, ?_, ?_⟩
        · rw [HP.out, HLR.out]
          cases lr
          · exact ans_none _ _
          · exact ⟨[], World.ownsRow_nil _ _ _ _, .inl ⟨rfl, rfl⟩⟩
        · exact (hbb.setCell (Nat.le_refl _) _).setCell (Nat.le_refl _) _
    · have hz' : (I.toList == [48, 48, 48, 48, 48, 48, 48, 48]) = true := hz
      have HZ : Hid _ := look_no H1'.out (.inr (by rw [HI.out]; exact hz))
      clear hz HI
      go_wp2_with fail
      refine bodyPost_ret (v := .tuple #[.agg #[.int .u8 0, .slice none 0 0], .bool false]) (by simp [results, Try.results16, go_sem, hc0, hc1]) rfl ⟨_, _, _, rfl, ?_, ?_⟩
      · rw [HZ.out]; exact ans_none _ _
      · exact (hbb.setCell (Nat.le_refl _) _).setCell (Nat.le_refl _) _

set_option maxHeartbeats 1000000 in
theorem rlook_any (s : ByteArray) (w : World) (hs : s.size ≤ 2097152) :
    Calls Try.prog 10 #[.string s] w fun e w' => ∃ v ok, e = .returned (.tuple #[v, .bool ok]) ∧ Ans w' w.heap.size (M.look s.data.toList) v ok ∧ Below w.heap.size w w' := by
  go_enter Try.func10, Try.ntmps10
  go_wp2_with fail
  refine (rparse_any s _ hs).mono ?_
  rintro e w1 ⟨v, ok, k, rfl, HA, hb1⟩
  obtain ⟨va, vl, vc, hv⟩ := HA.shape
  subst hv
  have HA' : Hid (Ans w1 w.heap.size (M.look s.data.toList) (.slice va vl vc) ok) := HA
  clear HA
  have hsz : w.heap.size ≤ w1.heap.size := hb1.size
  cases ok
  · go_wp2_with fail
    go_ret2
    exact ⟨_, _, rfl, HA'.out.no _ _, hb1.alloc hsz _⟩
  · go_wp2_with fail
    go_ret2
    exact ⟨_, _, rfl, HA'.out.below ((Below.refl _ _).alloc (Nat.le_refl _) _), hb1.alloc hsz _⟩
end Go.Proofs.Ytdnfmpjcjhblbaa
