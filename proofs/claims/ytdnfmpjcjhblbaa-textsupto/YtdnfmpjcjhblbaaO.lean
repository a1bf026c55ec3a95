/-
  THE WALK of unread: an object's memory.
-/
import Derived.Test.YtdnfmpjcjhblbaaN
import Derived.Test.YtdnfmpjcjhblbaaE
namespace Go.Proofs.Ytdnfmpjcjhblbaa
open Go.RowKit

/-- what unread hands back of a text whose first word is A (parted: b) -/
def Unread (t A I : ByteArray) (b : Bool) (v : Value) (w' : World) : Prop :=
  ((b = false ∨ ((A.data.toList == M.blobW) = false ∧ (A.data.toList == M.treeW) = false ∧ (A.data.toList == M.commitW) = false)) ∧ v = .nilIface) ∨
  (b = true ∧ (A.data.toList == M.blobW) = true ∧ ∃ g, v = .iface 59 (.pointer (some ⟨g, 0, none⟩)) ∧ w'.heap[g]? = some (.cells #[.string I, .string t] 61 (0, 0)) ∧ w'.heap.size = g + 1) ∨
  (b = true ∧ (A.data.toList == M.blobW) = false ∧ (A.data.toList == M.treeW) = true ∧ ∃ g, v = .iface 45 (.pointer (some ⟨g, 0, none⟩)) ∧ w'.heap[g]? = some (.cells #[.string I, .string t, .slice none 0 0] 50 (0, 0)) ∧ w'.heap.size = g + 1) ∨
  (b = true ∧ (A.data.toList == M.blobW) = false ∧ (A.data.toList == M.treeW) = false ∧ (A.data.toList == M.commitW) = true ∧ ∃ g, v = .iface 51 (.pointer (some ⟨g, 0, none⟩)) ∧ w'.heap[g]? = some (.cells #[.string I, .string t, .string ⟨#[]⟩, .slice none 0 0] 53 (0, 0)) ∧ w'.heap.size = g + 1)

theorem two_new (w : World) (o1 o2 : Obj) : ((w.alloc o1).alloc o2).heap[w.heap.size + 1]? = some o2 ∧ ((w.alloc o1).alloc o2).heap.size = w.heap.size + 1 + 1 := by
  have h : (w.alloc o1).heap.size = w.heap.size + 1 := by simp
  exact ⟨by rw [← h]; exact heap_alloc_new _ _, by simp⟩

set_option maxHeartbeats 1000000 in
theorem unread_any (t : ByteArray) (w : World) (hs : t.size ≤ 2097152) :
    Calls Try.prog 18 #[.string t] w fun e w' => ∃ (A R I : ByteArray) (b : Bool) (v : Value), e = .returned v ∧ CutIs t 32 A R b ∧ M.idOf t.data.toList = I.data.toList ∧ Unread t A I b v w' ∧ Below w.heap.size w w' ∧ (v ≠ .nilIface → w.heap.size < w'.heap.size) := by
  go_enter Try.func18, Try.ntmps18
  go_wp2_with fail
  refine (pcut_any t 32 _ (by omega)).mono ?_
  rintro e w1 ⟨A, R, b, rfl, H1, hA, hR, _, hb1⟩
  have H1' : Hid _ := H1
  clear H1
  cases b
  · go_wp2_with fail
    go_ret
    exact ⟨A, R, ⟨(M.idOf t.data.toList).toArray⟩, false, _, rfl, H1'.out, rfl, .inl ⟨.inl rfl, rfl⟩, hb1, fun h => absurd rfl h⟩
  · go_wp2_with fail
    refine (objID_any t _ (by omega)).mono ?_
    rintro e w2 ⟨rfl, hb2⟩
    generalize hI : (⟨(M.idOf t.data.toList).toArray⟩ : ByteArray) = I
    have HI : Hid (M.idOf t.data.toList = I.data.toList) := by show _ = _; rw [← hI]
    clear hI
    have hbb : Below w.heap.size w w2 := hb1.trans (hb2.mono hb1.size)
    have hsz := hbb.size
    clear hb1 hb2
    cases h1 : (A.toList == M.blobW)
    · have h1' : (A.toList == [98, 108, 111, 98]) = false := h1
      have H1D : Hid ((A.data.toList == M.blobW) = false) := by
        show (A.data.toList == M.blobW) = false
        rw [← Lib.toList_data]; exact h1
      clear h1
      cases h2 : (A.toList == M.treeW)
      · have h2' : (A.toList == [116, 114, 101, 101]) = false := h2
        have H2D : Hid ((A.data.toList == M.treeW) = false) := by
          show (A.data.toList == M.treeW) = false
          rw [← Lib.toList_data]; exact h2
        clear h2
        cases h3 : (A.toList == M.commitW)
        · have h3' : (A.toList == [99, 111, 109, 109, 105, 116]) = false := h3
          have H3D : Hid ((A.data.toList == M.commitW) = false) := by
            show (A.data.toList == M.commitW) = false
            rw [← Lib.toList_data]; exact h3
          clear h3
          go_wp2_with fail
          go_ret
          exact ⟨A, R, I, true, _, rfl, H1'.out, HI.out, .inl ⟨.inr ⟨H1D.out, H2D.out, H3D.out⟩, rfl⟩, hbb.alloc hsz _, fun h => absurd rfl h⟩
        · have h3' : (A.toList == [99, 111, 109, 109, 105, 116]) = true := h3
          have H3D : Hid ((A.data.toList == M.commitW) = true) := by
            show (A.data.toList == M.commitW) = true
            rw [← Lib.toList_data]; exact h3
          clear h3
          go_wp2_with fail
          go_ret
          refine ⟨A, R, I, true, _, rfl, H1'.out, HI.out, .inr (.inr (.inr ⟨rfl, H1D.out, H2D.out, H3D.out, w2.heap.size + 1, rfl, (two_new _ _ _).1, (two_new _ _ _).2⟩)), ?_, fun _ => ?_⟩
          · exact (hbb.alloc hsz _).alloc (by simp; omega) _
          · rw [(two_new _ _ _).2]; omega
      · have h2' : (A.toList == [116, 114, 101, 101]) = true := h2
        have H2D : Hid ((A.data.toList == M.treeW) = true) := by
          show (A.data.toList == M.treeW) = true
          rw [← Lib.toList_data]; exact h2
        clear h2
        go_wp2_with fail
        go_ret
        refine ⟨A, R, I, true, _, rfl, H1'.out, HI.out, .inr (.inr (.inl ⟨rfl, H1D.out, H2D.out, w2.heap.size + 1, rfl, (two_new _ _ _).1, (two_new _ _ _).2⟩)), ?_, fun _ => ?_⟩
        · exact (hbb.alloc hsz _).alloc (by simp; omega) _
        · rw [(two_new _ _ _).2]; omega
    · have h1' : (A.toList == [98, 108, 111, 98]) = true := h1
      have H1D : Hid ((A.data.toList == M.blobW) = true) := by
        show (A.data.toList == M.blobW) = true
        rw [← Lib.toList_data]; exact h1
      clear h1
      go_wp2_with fail
      go_ret
      refine ⟨A, R, I, true, _, rfl, H1'.out, HI.out, .inr (.inl ⟨rfl, H1D.out, w2.heap.size + 1, rfl, (two_new _ _ _).1, (two_new _ _ _).2⟩), ?_, fun _ => ?_⟩
      · exact (hbb.alloc hsz _).alloc (by simp; omega) _
      · rw [(two_new _ _ _).2]; omega
end Go.Proofs.Ytdnfmpjcjhblbaa
