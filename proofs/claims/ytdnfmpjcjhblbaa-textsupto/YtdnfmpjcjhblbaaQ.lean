/-
  THE WALKS of Names.
-/
import Derived.Test.YtdnfmpjcjhblbaaP
import Derived.Deep.RegionLaw
import Derived.Deep.RegionLawGrows
namespace Go.Proofs.Ytdnfmpjcjhblbaa
open Go.RowKit

theorem strs_cells {w : World} {B g n c : Nat} {ids : List ByteArray} (h : Strs w B (.slice (some ⟨g, 0, none⟩) n c) ids) : ∀ j, j < ids.length → w.cell? ⟨g, 0 + j, none⟩ = some (.string (ids.getD j ByteArray.empty)) := by
  intro j hj
  have hh : ids.length = n := by
    rcases h.2 with ⟨h, _⟩ | ⟨g', cap, cur, h, _⟩
    · cases h
    · simp only [Value.slice.injEq] at h; exact h.2.1.symm
  have := World.ownsRow.cells h (g := g) rfl j (.string (ids.getD j ByteArray.empty)) (by simp [List.getD, hj])
  rw [Nat.zero_add]
  have hadd : (⟨g, 0, none⟩ : Addr).add j = ⟨g, j, none⟩ := by unfold Addr.add; split <;> simp_all
  rw [hadd] at this
  exact this

theorem clone20 (B : Nat) (v : Value) (ids : List ByteArray) (w : World) (h : Strs w B v ids) (hn : ids.length ≤ 4194304) :
    Calls Try.prog 20 #[v] w fun e w' => ∃ v', e = .returned v' ∧ Strs w' w.heap.size v' ids ∧ Below w.heap.size w w' := by
  rcases h.2 with ⟨rfl, h0⟩ | ⟨g, cap, cur, rfl, _⟩
  · have hids : ids = [] := List.eq_nil_of_length_eq_zero h0
    subst hids
    refine (Try.slices_Clone_string_nil 0 0 w).mono ?_
    rintro e w' ⟨rfl, rfl⟩
    exact ⟨_, rfl, World.ownsRow_nil _ _ _ _, Below.refl _ _⟩
  · refine (Try.slices_Clone_string g 0 ids.length cap ids w (Nat.le_refl _) (by omega) (strs_cells h)).mono ?_
    rintro e w' ⟨v', rfl, hown, _, hb⟩
    refine ⟨v', rfl, ?_, hb⟩
    rw [List.take_of_length_le (Nat.le_refl _)] at hown
    exact hown

theorem ta_59_45 (g : Nat) (w : World) : (Instr.typeAssert (.iface 59 (.pointer (some ⟨g, 0, none⟩))) 32 45 true).run Try.prog w = .ok (.tuple #[.pointer none, .bool false]) w := by kernel_rfl
theorem ta_59_51 (g : Nat) (w : World) : (Instr.typeAssert (.iface 59 (.pointer (some ⟨g, 0, none⟩))) 32 51 true).run Try.prog w = .ok (.tuple #[.pointer none, .bool false]) w := by kernel_rfl
theorem ta_45_45 (g : Nat) (w : World) : (Instr.typeAssert (.iface 45 (.pointer (some ⟨g, 0, none⟩))) 32 45 true).run Try.prog w = .ok (.tuple #[.pointer (some ⟨g, 0, none⟩), .bool true]) w := by kernel_rfl
theorem ta_51_45 (g : Nat) (w : World) : (Instr.typeAssert (.iface 51 (.pointer (some ⟨g, 0, none⟩))) 32 45 true).run Try.prog w = .ok (.tuple #[.pointer none, .bool false]) w := by kernel_rfl
theorem ta_51_51 (g : Nat) (w : World) : (Instr.typeAssert (.iface 51 (.pointer (some ⟨g, 0, none⟩))) 32 51 true).run Try.prog w = .ok (.tuple #[.pointer (some ⟨g, 0, none⟩), .bool true]) w := by kernel_rfl

set_option maxHeartbeats 1000000 in
theorem names_blob (g : Nat) (w : World) :
    Calls Try.prog 15 #[.iface 59 (.pointer (some ⟨g, 0, none⟩))] w fun e w' => e = .returned (.slice none 0 0) ∧ w' = w := by
  have ha := ta_59_45
  have hb := ta_59_51
  go_enter Try.func15, Try.ntmps15
  go_wp2_with fail
  go_ret
  exact ⟨rfl, rfl⟩

set_option maxHeartbeats 1000000 in
theorem names_tree (g B : Nat) (I t : ByteArray) (f : Value) (ids : List ByteArray) (w : World) (hblk : w.heap[g]? = some (.cells #[.string I, .string t, f] 50 (0, 0))) (hS : Strs w B f ids) (hn : ids.length ≤ 4194304) :
    Calls Try.prog 15 #[.iface 45 (.pointer (some ⟨g, 0, none⟩))] w fun e w' => ∃ v', e = .returned v' ∧ Strs w' w.heap.size v' ids ∧ Below w.heap.size w w' := by
  obtain ⟨fa, fl, fc, hf⟩ := hS.shape
  subst hf
  have hc : w.cell? ⟨g, 2, none⟩ = some (.slice fa fl fc) := by rw [cell_of_row w g 2 _ _ _ hblk]; rfl
  have HS : Hid (Strs w B (.slice fa fl fc) ids) := hS
  clear hblk hS
  have ha := ta_45_45
  go_enter Try.func15, Try.ntmps15
  go_wp2_with fail
  refine (clone20 B _ ids _ HS.out hn).mono ?_
  rintro e w1 ⟨v', rfl, h1, hb1⟩
  have H1 : Hid _ := h1
  clear h1
  go_wp2_with fail
  go_ret
  exact ⟨_, rfl, H1.out, hb1⟩

set_option maxHeartbeats 1000000 in
theorem names_commit (g B : Nat) (I t T : ByteArray) (f : Value) (ids : List ByteArray) (w : World) (hblk : w.heap[g]? = some (.cells #[.string I, .string t, .string T, f] 53 (0, 0))) (hS : Strs w B f ids) (hn : ids.length ≤ 4194304) :
    Calls Try.prog 15 #[.iface 51 (.pointer (some ⟨g, 0, none⟩))] w fun e w' => ∃ v', e = .returned v' ∧ Strs w' w.heap.size v' (T :: ids) ∧ Below w.heap.size w w' := by
  obtain ⟨i0, hi, hz0, hz1, hz2⟩ := info_parts Try.info9
  have hgw : g < w.heap.size := (Array.getElem?_eq_some_iff.1 hblk).1
  have hc2 : w.cell? ⟨g, 2, none⟩ = some (.string T) := by rw [cell_of_row w g 2 _ _ _ hblk]; rfl
  rcases hS.2 with ⟨rfl, h0⟩ | ⟨q, cap, cur, rfl, _⟩
  · have hc3 : w.cell? ⟨g, 3, none⟩ = some (.slice none 0 0) := by rw [cell_of_row w g 3 _ _ _ hblk]; rfl
    have ha := ta_51_45
    have hb := ta_51_51
    clear hblk hS
    go_enter Try.func15, Try.ntmps15
    go_wp2_with fail
    go_region
    go_wp2
    go_ret
    have hids : ids = [] := List.eq_nil_of_length_eq_zero h0
    subst hids
    exact ⟨_, rfl, strs_one w w.heap.size T (Nat.le_refl _), ((Below.refl _ _).alloc (Nat.le_refl _) _).drew⟩
  · have hlen : ids.length = ids.length := rfl
    have hc3 : w.cell? ⟨g, 3, none⟩ = some (.slice (some ⟨q, 0, none⟩) ids.length cap) := by rw [cell_of_row w g 3 _ _ _ hblk]; rfl
    have hcells : ∀ j u, (ids.map Value.string)[j]? = some u → (w.alloc (.cells #[.string T] 9)).cell? ((⟨q, 0, none⟩ : Addr).add j) = some u := World.ownsRow.cells (World.ownsRow.alloc hS _) rfl
    have HC : Hid _ := hcells
    have hone : ∀ u ∈ ids.map Value.string, u.oneCell' = true := by
      intro u hu
      obtain ⟨x, _, rfl⟩ := List.mem_map.1 hu
      rfl
    have HO : Hid _ := hone
    have ha := ta_51_45
    have hb := ta_51_51
    clear hblk hS hcells hone hlen
    generalize hN : ids.length = N at *
    have HN : Hid _ := hN
    clear hN
    by_cases hn0 : N = 0
    · subst hn0
      have hids : ids = [] := List.eq_nil_of_length_eq_zero HN.out
      subst hids
      clear HC HO HN
      go_enter Try.func15, Try.ntmps15
      go_wp2_with fail
      go_region_law (refine step_append_room rfl (.tmp 21) (.tmp 25) 28 rfl 9 i0 1 Try.underlying28 hi hz1 w.heap.size 0 1 1 (by simp [Act.eval]) ⟨q, 0, none⟩ 0 cap [] (by simp [Act.eval]) rfl (by intro j u hj; simp at hj) (by intro u hu; cases hu) (by omega) (by intro j hj; cases hj) ?_)
      all_goals
        simp only [World.setCells]
        go_wp2
        go_ret
        exact ⟨_, rfl, strs_one w w.heap.size T (Nat.le_refl _), ((Below.refl _ _).alloc (Nat.le_refl _) _).drew⟩
    · go_enter Try.func15, Try.ntmps15
      go_wp2_with fail
      go_region_law (refine step_append_grows rfl (.tmp 21) (.tmp 25) 28 rfl 9 i0 (.string ⟨#[]⟩) 1 16 Try.underlying28 hi hz0 hz1 hz2 rfl (by decide) (some ⟨w.heap.size, 0, none⟩) 1 1 [.string T] (by simp [Act.eval]) (by intro h; cases h) rfl (by intro b hb; cases hb; exact cell_one_new _ _ _) ⟨q, 0, none⟩ N cap (ids.map Value.string) (by simp [Act.eval]) (by rw [List.length_map, HN.out, Nat.mul_one]) HC.out HO.out (by omega) (by unfold maxLen; omega) (by omega) ?_; intro v9 w9 hown9 hgrow9)
      all_goals
        have hS9 : Strs w9 (w.heap.size + 1) v9 (T :: ids) := by
          show World.ownsRow _ _ _ _ _ _ _
          rw [List.length_cons, HN.out, List.map_cons, Nat.add_comm N 1]
          have h := hown9
          have hz : (w.alloc (.cells #[.string T] 9)).drew.heap.size = w.heap.size + 1 := by simp
          rw [hz] at h
          exact h
        have HS9 : Hid (Strs w9 w.heap.size v9 (T :: ids)) := hS9.base (by omega)
        have hb9 : Below w.heap.size w w9 := (((Below.refl _ _).alloc (Nat.le_refl _) _).drew).grown hgrow9 (by simp) (by intro k hk; cases hk)
        clear hown9 hgrow9 hS9
        go_wp2
        go_ret
        exact ⟨_, rfl, HS9.out, hb9⟩

theorem look_len {t : List UInt8} {r : List (List UInt8)} (h : M.look t = some r) : r.length ≤ t.length + 3 := by
  unfold M.look at h
  split at h
  · cases h
  · unfold M.parse at h
    have hc := cut1_lens 32 t
    split at h
    · split at h
      · cases h; simp
      · cases h
    · split at h
      · unfold M.entries at h
        split at h
        · cases h; simp
        · have h1 := M.ents_len _ _ _ h
          have h2 := M.splitC_len 44 (M.cut1 t 32).2.1
          omega
      · split at h
        · unfold M.commitB at h
          split at h
          · rw [Option.map_eq_some_iff] at h
            obtain ⟨q, hq, rfl⟩ := h
            have := par_len hq
            simp; omega
          · cases h
        · cases h

set_option maxHeartbeats 1000000 in
theorem slook_any (s : ByteArray) (w : World) (hm : MaxLenIs w) (h0 : 0 < w.heap.size) (hs : s.size ≤ 2097152) :
    Calls Try.prog 9 #[.string s] w fun e w' => ∃ v ok, e = .returned (.tuple #[v, .bool ok]) ∧ Ans w' w.heap.size (M.look s.data.toList) v ok ∧ Below w.heap.size w w' := by
  have HM : Hid (MaxLenIs w) := hm
  clear hm
  go_enter Try.func9, Try.ntmps9
  go_wp2_with fail
  refine (clone_any s _ (by omega)).mono ?_
  rintro e w1 ⟨rfl, hb1⟩
  have HM1 : Hid (MaxLenIs w1) := HM.out.below hb1 h0
  have hsz1 := hb1.size
  clear HM
  go_wp2_with fail
  refine (parse_any s _ HM1.out (by omega) hs).mono ?_
  rintro e w2 ⟨v, ok, rfl, hP, hb2⟩
  have hbb : Below w.heap.size w w2 := hb1.trans (hb2.mono hsz1)
  have hsz2 := hbb.size
  clear hb1 HM1
  rcases hP with ⟨rfl, hL⟩ | ⟨rfl, hL, g, rfl⟩ | ⟨rfl, g, I, T, f, ids, rfl, hblk, hS, hL⟩ | ⟨rfl, g, I, X, T, f, ids, rfl, hblk, hS, hl2, hL⟩
  · have HL : Hid _ := hL
    clear hL
    go_wp2_with fail
    go_ret2
    exact ⟨_, _, rfl, by rw [HL.out]; exact ans_none _ _, hbb⟩
  · have HL : Hid _ := hL
    clear hL
    go_wp2_with fail
    refine (names_blob g _).mono ?_
    rintro e w3 ⟨rfl, rfl⟩
    go_wp2_with fail
    go_ret2
    exact ⟨_, _, rfl, ⟨[], World.ownsRow_nil _ _ _ _, .inl ⟨rfl, by rw [HL.out]; rfl⟩⟩, hbb⟩
  · have hlen : ids.length ≤ 4194304 := by
      have := look_len hL
      rw [← Lib.size_eq] at this
      simp [listsOf] at this; omega
    have HL : Hid _ := hL
    have HS : Hid (Strs w2 w1.heap.size f ids) := hS
    have HB : Hid _ := hblk
    clear hL hS hblk
    go_wp2_with fail
    refine (names_tree g w1.heap.size I T f ids _ HB.out HS.out hlen).mono ?_
    rintro e w3 ⟨v', rfl, hS3, hb3⟩
    have HS3 : Hid (Strs w3 w2.heap.size v' ids) := hS3
    clear hS3
    go_wp2_with fail
    go_ret2
    exact ⟨_, _, rfl, ⟨ids, HS3.out.base hsz2, .inl ⟨rfl, HL.out⟩⟩, hbb.trans (hb3.mono hsz2)⟩
  · have HL : Hid _ := hL
    have HS : Hid (Strs w2 w1.heap.size f ids) := hS
    have HB : Hid _ := hblk
    clear hL hS hblk
    go_wp2_with fail
    refine (names_commit g w1.heap.size I X T f ids _ HB.out HS.out (by omega)).mono ?_
    rintro e w3 ⟨v', rfl, hS3, hb3⟩
    have HS3 : Hid (Strs w3 w2.heap.size v' (T :: ids)) := hS3
    clear hS3
    go_wp2_with fail
    go_ret2
    exact ⟨_, _, rfl, ⟨T :: ids, HS3.out.base hsz2, .inl ⟨rfl, HL.out⟩⟩, hbb.trans (hb3.mono hsz2)⟩
end Go.Proofs.Ytdnfmpjcjhblbaa
