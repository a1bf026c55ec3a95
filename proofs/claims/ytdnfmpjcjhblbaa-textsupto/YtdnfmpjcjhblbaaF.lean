/-
  Cut in the form that callers take; what is owned.
-/
import Derived.Test.YtdnfmpjcjhblbaaA
import Derived.Test.YtdnfmpjcjhblbaaC
namespace Go.Proofs.Ytdnfmpjcjhblbaa
open Go.RowKit

theorem Try.info9 : (Try.prog.info? 9).map (fun i => (i.zero, i.size, i.bytes)) = some (some (.string ⟨#[]⟩), 1, 16) := by kernel_rfl

theorem below_dn (w : World) (n : Nat) : Below w.heap.size w (w.drewN n) := ⟨rfl, rfl, rfl, Nat.le_refl _, fun _ _ => rfl⟩
theorem own_below {w w' : World} {base n : Nat} {e : TypeId} {size : Nat} {v : Value} {xs : List Value} (h : w.ownsRow base e size v n xs) (hb : Below w.heap.size w w') : w'.ownsRow base e size v n xs :=
  h.kept (row := none) ⟨hb.os, hb.tape, hb.output, hb.size, fun k hk _ => hb.block k hk⟩ (by cases hv : v.ownBlock <;> simp)

theorem cut1_lens (c : UInt8) (l : List UInt8) : (M.cut1 l c).1.length ≤ l.length ∧ (M.cut1 l c).2.1.length ≤ l.length ∧ ((M.cut1 l c).2.2 = true → (M.cut1 l c).2.1.length < l.length) := by
  induction l with
  | nil => simp [M.cut1]
  | cons b l ih =>
    obtain ⟨h1, h2, h3⟩ := ih
    unfold M.cut1
    split
    · simp
    · refine ⟨by simp; omega, by simp; omega, fun h => ?_⟩
      have := h3 h
      simp; omega

/-- what a cut hands back -/
def CutIs (s : ByteArray) (c : UInt8) (A R : ByteArray) (b : Bool) : Prop := M.cut1 s.data.toList c = (A.data.toList, R.data.toList, b)
def Shorter (s R : ByteArray) (b : Bool) : Prop := b = true → R.size < s.size
theorem cut_facts (s : ByteArray) (c : UInt8) : ∃ A R : ByteArray, ∃ b : Bool, (⟨(M.cut1 s.data.toList c).1.toArray⟩ : ByteArray) = A ∧ (⟨(M.cut1 s.data.toList c).2.1.toArray⟩ : ByteArray) = R ∧ (M.cut1 s.data.toList c).2.2 = b ∧ CutIs s c A R b ∧ A.size ≤ s.size ∧ R.size ≤ s.size ∧ Shorter s R b := by
  obtain ⟨h1, h2, h3⟩ := cut1_lens c s.data.toList
  refine ⟨_, _, _, rfl, rfl, rfl, by simp [CutIs], ?_, ?_, fun hb => ?_⟩
  · rw [Lib.size_eq, Lib.size_eq s]; simpa using h1
  · rw [Lib.size_eq, Lib.size_eq s]; simpa using h2
  · rw [Lib.size_eq, Lib.size_eq s]; simpa using h3 hb

theorem rcut_any (s : ByteArray) (c : UInt8) (k : Int) (hk : k = (c.toNat : Int)) (w : World) (hs : s.size ≤ 4194304) :
    Calls Try.prog 21 #[.string s, .int .u8 k] w fun e w' => ∃ A R : ByteArray, ∃ b : Bool, e = .returned (.tuple #[.string A, .string R, .bool b]) ∧ CutIs s c A R b ∧ A.size ≤ s.size ∧ R.size ≤ s.size ∧ Shorter s R b ∧ Below w.heap.size w w' := by
  subst hk
  refine (cut_any s c w hs).mono ?_
  rintro e w' ⟨rfl, n, rfl⟩
  obtain ⟨A, R, b, e1, e2, e3, h⟩ := cut_facts s c
  rw [e1, e2, e3]
  exact ⟨A, R, b, rfl, h.1, h.2.1, h.2.2.1, h.2.2.2, below_dn w n⟩
theorem pcut_any (s : ByteArray) (c : UInt8) (w : World) (hs : s.size ≤ 4194304) :
    Calls Try.prog 25 #[.string s, .string ⟨#[c]⟩] w fun e w' => ∃ A R : ByteArray, ∃ b : Bool, e = .returned (.tuple #[.string A, .string R, .bool b]) ∧ CutIs s c A R b ∧ A.size ≤ s.size ∧ R.size ≤ s.size ∧ Shorter s R b ∧ Below w.heap.size w w' := by
  refine (scut_any s c w hs).mono ?_
  rintro e w' ⟨rfl, n, rfl⟩
  obtain ⟨A, R, b, e1, e2, e3, h⟩ := cut_facts s c
  rw [e1, e2, e3]
  exact ⟨A, R, b, rfl, h.1, h.2.1, h.2.2.1, h.2.2.2, below_dn w n⟩

/-- v is a slice of the call's own (from block B on) that holds just these strings -/
def Strs (w : World) (B : Nat) (v : Value) (ids : List ByteArray) : Prop := w.ownsRow B 9 1 v ids.length (ids.map Value.string)
def listsOf (ids : List ByteArray) : List (List UInt8) := ids.map (·.data.toList)
def Ans (w' : World) (B : Nat) (r : Option (List (List UInt8))) (v : Value) (ok : Bool) : Prop :=
  ∃ ids : List ByteArray, Strs w' B v ids ∧ ((ok = true ∧ r = some (listsOf ids)) ∨ (ok = false ∧ r = none ∧ v = .slice none 0 0))
theorem ans_none (w' : World) (B : Nat) : Ans w' B none (.slice none 0 0) false := ⟨[], World.ownsRow_nil _ _ _ _, .inr ⟨rfl, rfl, rfl⟩⟩
theorem Strs.below {w w' : World} {B : Nat} {v : Value} {ids : List ByteArray} (h : Strs w B v ids) (hb : Below w.heap.size w w') : Strs w' B v ids := own_below h hb
theorem Strs.base {w : World} {B B' : Nat} {v : Value} {ids : List ByteArray} (h : Strs w B v ids) (hB : B' ≤ B) : Strs w B' v ids := by
  obtain ⟨h1, h2⟩ := h
  refine ⟨h1, ?_⟩
  rcases h2 with h2 | ⟨g, cap, cur, hv, hg, r⟩
  · exact .inl h2
  · exact .inr ⟨g, cap, cur, hv, by omega, r⟩
theorem Strs.set {w : World} {B : Nat} {v : Value} {ids : List ByteArray} (h : Strs w B v ids) {a : Addr} (ha : a.block < B) (u : Value) : Strs (w.setCell a u) B v ids := ownsRow_setCell_below h ha u
theorem Strs.shape {w : World} {B : Nat} {v : Value} {ids : List ByteArray} (h : Strs w B v ids) : ∃ a l c, v = .slice a l c := by
  rcases h.2 with ⟨h, _⟩ | ⟨g, cap, cur, h, _⟩
  · exact ⟨_, _, _, h⟩
  · exact ⟨_, _, _, h⟩
theorem Ans.below {w w' : World} {B : Nat} {r : Option (List (List UInt8))} {v : Value} {ok : Bool} (h : Ans w B r v ok) (hb : Below w.heap.size w w') : Ans w' B r v ok := by
  obtain ⟨ids, h1, h2⟩ := h; exact ⟨ids, h1.below hb, h2⟩
theorem Ans.shape {w : World} {B : Nat} {r : Option (List (List UInt8))} {v : Value} {ok : Bool} (h : Ans w B r v ok) : ∃ a l c, v = .slice a l c := by
  obtain ⟨ids, h1, _⟩ := h
  rcases h1.2 with ⟨h, _⟩ | ⟨g, cap, cur, h, _⟩
  · exact ⟨_, _, _, h⟩
  · exact ⟨_, _, _, h⟩
theorem Ans.no {w : World} {B : Nat} {r : Option (List (List UInt8))} {v : Value} (h : Ans w B r v false) (w' : World) (B' : Nat) : Ans w' B' r (.slice none 0 0) false := by
  obtain ⟨ids, h1, h2⟩ := h
  rcases h2 with ⟨h, _⟩ | ⟨_, h, _⟩
  · cases h
  · rw [h]; exact ans_none _ _
theorem listsOf_snoc (ids : List ByteArray) (x : ByteArray) : listsOf (ids ++ [x]) = listsOf ids ++ [x.data.toList] := by simp [listsOf]
end Go.Proofs.Ytdnfmpjcjhblbaa
