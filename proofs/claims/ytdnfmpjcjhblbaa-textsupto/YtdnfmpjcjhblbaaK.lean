/-
  THE WALK of Tree.read.
-/
import Derived.Test.YtdnfmpjcjhblbaaJ
import Derived.Test.YtdnfmpjcjhblbaaSpl
namespace Go.Proofs.Ytdnfmpjcjhblbaa
open Go.RowKit

/-- internal/bytealg.MaxLen holds an int -/
def MaxLenIs (w : World) : Prop := ∃ m : Int, w.cell? ⟨0, 0, none⟩ = some (.int .i64 m)
theorem MaxLenIs.below {w w' : World} {B : Nat} (h : MaxLenIs w) (hb : Below B w w') (h0 : 0 < B) : MaxLenIs w' := by
  obtain ⟨m, hm⟩ := h; exact ⟨m, by rw [hb.cell (by exact h0)]; exact hm⟩

/-- what a method that reads an object leaves in the field v -/
def Fld (w' : World) (B : Nat) (r : Option (List (List UInt8))) (v : Value) (ok : Bool) : Prop :=
  ∃ ids : List ByteArray, Strs w' B v ids ∧ ((ok = true ∧ r = some (listsOf ids)) ∨ (ok = false ∧ r = none))

def RowIs (w : World) (g n : Nat) (ps : List ByteArray) : Prop := ∀ k, k < n → w.cell? ⟨g, k, none⟩ = some (.string (ps.getD k ByteArray.empty))

theorem drop_getD (ps : List ByteArray) (k : Nat) (h : k < ps.length) : (listsOf ps).drop k = (ps.getD k ByteArray.empty).data.toList :: (listsOf ps).drop (k + 1) := by
  rw [List.drop_eq_getElem_cons (by simpa [listsOf] using h)]
  congr 1
  simp [listsOf, List.getD, h]
theorem getD_size {ps : List ByteArray} {k n : Nat} (h : ∀ p ∈ listsOf ps, p.length ≤ n) : (ps.getD k ByteArray.empty).size ≤ n := by
  by_cases hk : k < ps.length
  · rw [Lib.size_eq]
    apply h
    simp only [listsOf, List.mem_map, List.getD, List.getElem?_eq_getElem hk, Option.getD_some]
    exact ⟨ps[k], List.getElem_mem hk, rfl⟩
  · simp [List.getD, List.getElem?_eq_none (Nat.le_of_not_lt hk)]

theorem rowIs_alloc (w : World) (ps : List ByteArray) (cells : Array Value) (h : ∀ k, k < ps.length → cells[k]? = some (.string (ps.getD k ByteArray.empty))) : RowIs (w.alloc (.cells cells 9)) w.heap.size ps.length ps := by
  intro k hk
  rw [cell_of_row _ w.heap.size k cells 9 (0, 0) (heap_alloc_new w _)]
  exact h k hk
theorem RowIs.below {w w' : World} {g n B : Nat} {ps : List ByteArray} (h : RowIs w g n ps) (hb : Below B w w') (hg : g < B) : RowIs w' g n ps := by
  intro k hk; rw [hb.cell (by exact hg)]; exact h k hk

theorem split44 (R : ByteArray) (w : World) (hm : MaxLenIs w) (hs : R.size ≤ 4194304) :
    Calls Try.prog 56 #[.string R, .string ⟨#[44]⟩] w fun e w' => ∃ ps : List ByteArray, e = .returned (.slice (some ⟨w.heap.size, 0, none⟩) ps.length ps.length) ∧ listsOf ps = M.splitC R.data.toList 44 ∧ RowIs w' w.heap.size ps.length ps ∧ w'.heap.size = w.heap.size + 1 ∧ Below w.heap.size w w' := by
  obtain ⟨m, hm⟩ := hm
  refine (Try.strings_Split R ⟨#[44]⟩ m w (by omega) hm (by decide)).mono ?_
  rintro e w' ⟨rfl, rfl⟩
  have hl : (Lib.splitB ⟨#[44]⟩ 0 (Lib.countB R ⟨#[44]⟩) R).length = Lib.countB R ⟨#[44]⟩ + 1 := split_len' R 44
  refine ⟨Lib.splitB ⟨#[44]⟩ 0 (Lib.countB R ⟨#[44]⟩) R, by rw [hl], split_all R 44, ?_, by simp, (Below.refl _ _).alloc (Nat.le_refl _) _⟩
  apply rowIs_alloc
  intro k hk
  simp [List.getD, hk]

theorem splitN43 (R : ByteArray) (w : World) (hm : MaxLenIs w) (hs : R.size ≤ 4194304) :
    Calls Try.prog 73 #[.string R, .string ⟨#[43]⟩, .int .i64 3] w fun e w' => ∃ (ps : List ByteArray) (cap : Nat), e = .returned (.slice (some ⟨w.heap.size, 0, none⟩) ps.length cap) ∧ listsOf ps = piecesN R.data.toList ∧ ps.length ≤ cap ∧ ps.length ≤ 3 ∧ (∀ q ∈ listsOf ps, q.length ≤ R.size) ∧ RowIs w' w.heap.size ps.length ps ∧ w'.heap.size = w.heap.size + 1 ∧ Below w.heap.size w w' := by
  obtain ⟨m, hm⟩ := hm
  refine (Try.strings_SplitN R ⟨#[43]⟩ 3 m w (by omega) hm (by decide) (by decide) (by decide)).mono ?_
  rintro e w' ⟨rfl, rfl⟩
  have hl := Lib.splitB_length_le ⟨#[43]⟩ 0 (min 3 (R.size + 1) - 1) R
  refine ⟨Lib.splitB ⟨#[43]⟩ 0 (min 3 (R.size + 1) - 1) R, min 3 (R.size + 1), rfl, pieces_b R, by omega, by omega, ?_, ?_, by simp, (Below.refl _ _).alloc (Nat.le_refl _) _⟩
  · rw [pieces_b R, Lib.size_eq]
    exact splitK_piece 43 _ _
  apply rowIs_alloc
  intro k hk
  unfold Lib.cellsOf
  simp [List.getD, hk, List.getElem?_append]
theorem CutIs.same {t A R A' R' : ByteArray} {x : UInt8} {c c' : Bool} (h : CutIs t x A R c) (h' : CutIs t x A' R' c') : R' = R := by
  unfold CutIs at h h'
  rw [h] at h'
  simp only [Prod.mk.injEq] at h'
  rw [← Lib.mk_data R, h'.2.1, Lib.mk_data]
end Go.Proofs.Ytdnfmpjcjhblbaa
