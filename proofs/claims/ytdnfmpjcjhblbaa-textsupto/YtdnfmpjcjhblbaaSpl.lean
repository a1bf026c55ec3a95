/-
  strings.Split and SplitN at one byte, in the plain layer's words. No walk in this text.
-/
import Derived.Test.YtdnfmpjcjhblbaaG
import Derived.Lib.IndexBytes
namespace Go.Proofs.Ytdnfmpjcjhblbaa
open Go.RowKit

theorem cut1_of_index {l : List UInt8} {c : UInt8} : (Lib.index l [c] = -1 ∧ M.cut1 l c = (l, [], false)) ∨ ∃ i : Nat, i < l.length ∧ Lib.index l [c] = i ∧ M.cut1 l c = (l.take i, l.drop (i + 1), true) := by
  rw [Lib.index_one]
  rcases indexByte_spec l c with ⟨h1, h2⟩ | ⟨i, h1, h2, h3⟩
  · exact .inl ⟨h1, M.cut1_miss c l h2⟩
  · exact .inr ⟨i, (List.getElem?_eq_some_iff.1 h2).1, h1, M.cut1_hit c l i h3 h2⟩

theorem splitK_count (c : UInt8) : ∀ (fuel : Nat) (l : List UInt8), l.length < fuel → Lib.splitK [c] 0 (Lib.countFrom [c] fuel l) l = M.splitC l c
  | 0, l, h => by omega
  | fuel + 1, l, h => by
    rw [M.splitC_cut, Lib.countFrom]
    rcases cut1_of_index (l := l) (c := c) with ⟨h1, h2⟩ | ⟨i, hi, h1, h2⟩
    · rw [h1, h2]; simp [Lib.splitK]
    · rw [if_neg (by rw [h1]; simp), Nat.add_comm 1, Lib.splitK, if_neg (by rw [h1]; simp), h1, h2]
      simp only [Int.toNat_natCast, List.length_singleton, Nat.add_zero, if_true]
      rw [splitK_count c fuel (l.drop (i + 1)) (by rw [List.length_drop]; omega)]

theorem split_all (s : ByteArray) (c : UInt8) : listsOf (Lib.splitB ⟨#[c]⟩ 0 (Lib.countB s ⟨#[c]⟩) s) = M.splitC s.data.toList c := by
  show List.map _ _ = _
  rw [Lib.splitB_data]
  exact splitK_count c _ _ (Nat.lt_succ_self _)
theorem split_len (s : ByteArray) (c : UInt8) : (Lib.splitB ⟨#[c]⟩ 0 (Lib.countB s ⟨#[c]⟩) s).length = (M.splitC s.data.toList c).length := by
  rw [← split_all]; simp [listsOf]

theorem splitC_count (c : UInt8) : ∀ (fuel : Nat) (l : List UInt8), l.length < fuel → (M.splitC l c).length = Lib.countFrom [c] fuel l + 1
  | 0, l, h => by omega
  | fuel + 1, l, h => by
    rw [M.splitC_cut, Lib.countFrom]
    rcases cut1_of_index (l := l) (c := c) with ⟨h1, h2⟩ | ⟨i, hi, h1, h2⟩
    · rw [h1, h2]; simp
    · have hn : ¬ (Lib.index l [c] == -1) = true := by rw [h1]; simp
      rw [if_neg hn, h1, h2, if_pos rfl, List.length_cons, splitC_count c fuel (l.drop (i + 1)) (by rw [List.length_drop]; omega)]
      simp only [Int.toNat_natCast, List.length_singleton]
      omega
theorem split_len' (s : ByteArray) (c : UInt8) : (Lib.splitB ⟨#[c]⟩ 0 (Lib.countB s ⟨#[c]⟩) s).length = Lib.countB s ⟨#[c]⟩ + 1 := by
  rw [split_len]; exact splitC_count c _ _ (Nat.lt_succ_self _)

def piecesN (l : List UInt8) : List (List UInt8) := Lib.splitK [43] 0 (min 3 (l.length + 1) - 1) l
theorem pieces_b (s : ByteArray) : listsOf (Lib.splitB ⟨#[43]⟩ 0 (min 3 (s.size + 1) - 1) s) = piecesN s.data.toList := by
  show List.map _ _ = _
  rw [Lib.splitB_data, piecesN, Lib.size_eq]

theorem splitK_one (c : UInt8) (k : Nat) (l : List UInt8) : Lib.splitK [c] 0 (k + 1) l = (M.cut1 l c).1 :: (if (M.cut1 l c).2.2 then Lib.splitK [c] 0 k (M.cut1 l c).2.1 else []) := by
  rw [Lib.splitK]
  rcases cut1_of_index (l := l) (c := c) with ⟨h1, h2⟩ | ⟨i, hi, h1, h2⟩
  · rw [if_pos (by rw [h1]; rfl), h2]; simp
  · rw [if_neg (by rw [h1]; simp), h1, h2]; simp
theorem splitK_piece (c : UInt8) : ∀ (k : Nat) (l : List UInt8), ∀ q ∈ Lib.splitK [c] 0 k l, q.length ≤ l.length
  | 0, l, q, h => by simp [Lib.splitK] at h; simp [h]
  | k + 1, l, q, h => by
    obtain ⟨h1, h2, _⟩ := cut1_lens c l
    rw [splitK_one] at h
    rcases List.mem_cons.1 h with rfl | h
    · exact h1
    · split at h
      · exact Nat.le_trans (splitK_piece c k _ q h) h2
      · cases h
theorem idB_plus {l : List UInt8} (h : (M.cut1 l 43).2.2 = true) : M.idB l = false := by
  rcases cut1_of_index (l := l) (c := 43) with ⟨_, h2⟩ | ⟨i, hi, h1, h2⟩
  · rw [h2] at h; cases h
  · rw [Lib.index_one] at h1
    have := (Lib.indexByte_some h1).1
    have hm : (43 : UInt8) ∈ l := List.mem_of_getElem? this
    unfold M.idB
    have : l.all M.isHex = false := by
      rw [List.all_eq_false]; exact ⟨43, hm, by decide⟩
    rw [this]; rfl

/-- what the loop over the pieces comes to -/
theorem parents_eq (l : List UInt8) (hd : (l == [45]) = false) : M.parents l = if (piecesN l).length ≤ 2 ∧ (piecesN l).all M.idB = true then some (piecesN l) else none := by
  unfold M.parents piecesN
  rw [if_neg (by simp [hd])]
  rcases cut1_of_index (l := l) (c := 43) with ⟨_, h2⟩ | ⟨i, hi, _, h2⟩
  · have hp : Lib.splitK [43] 0 (min 3 (l.length + 1) - 1) l = [l] := by
      rcases hk : min 3 (l.length + 1) - 1 with _ | k
      · rfl
      · rw [splitK_one, h2]; simp
    rw [hp, h2]
    cases hq : M.idB l <;> simp [hq]
  · have h1 : 1 ≤ l.length := by omega
    obtain ⟨k, hk⟩ : ∃ k, min 3 (l.length + 1) - 1 = k + 1 := ⟨min 3 (l.length + 1) - 2, by omega⟩
    rw [hk, splitK_one, h2]
    simp only [if_true]
    rcases k with _ | k
    · simp only [Lib.splitK]
      cases hq : M.idB (l.take i) <;> cases hr : M.idB (l.drop (i + 1)) <;> simp [hq, hr]
    · rw [splitK_one]
      cases hb : (M.cut1 (l.drop (i + 1)) 43).2.2
      · have he : (M.cut1 (l.drop (i + 1)) 43).1 = l.drop (i + 1) := by
          rcases cut1_of_index (l := l.drop (i + 1)) (c := 43) with ⟨_, h3⟩ | ⟨j, _, _, h3⟩
          · rw [h3]
          · rw [h3] at hb; cases hb
        rw [he]
        cases hq : M.idB (l.take i) <;> cases hr : M.idB (l.drop (i + 1)) <;> simp [hq, hr]
      · have hr := idB_plus hb
        have hk0 : k = 0 := by omega
        subst hk0
        simp [Lib.splitK, hr]
end Go.Proofs.Ytdnfmpjcjhblbaa
