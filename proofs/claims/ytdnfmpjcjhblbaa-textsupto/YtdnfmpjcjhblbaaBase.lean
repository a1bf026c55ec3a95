/-
  SMALL FACTS that the walks share.
-/
import Derived.Test.YtdnfmpjcjhblbaaRows
import Derived.Test.YtdnfmpjcjhblbaaShelf
import Derived.Test.YtdnfmpjcjhblbaaMath
import Derived.WalkKit
import Derived.WalkLawsBesides
import Derived.WalkSpells
import Derived.BigQuiet
import Derived.Deep.QuietTactic
namespace Go.Proofs.Ytdnfmpjcjhblbaa
open Go.RowKit

theorem ret_bool {a b : Bool} (h : a = b) : Ending.returned (.bool a) = .returned (.bool b) := by rw [h]
theorem ret_str {a b : ByteArray} (h : a = b) : Ending.returned (.string a) = .returned (.string b) := by rw [h]

theorem take_snoc (s : ByteArray) (k : Nat) (h : k < s.size) : s.data.toList.take (k + 1) = s.data.toList.take k ++ [s[k]] := by
  rw [List.take_succ_eq_append_getElem (by simpa using h)]; rfl
theorem all_snoc (p : UInt8 → Bool) (s : ByteArray) (k : Nat) (h : k < s.size) (ha : (s.data.toList.take k).all p = true) (hp : p s[k] = true) : (s.data.toList.take (k + 1)).all p = true := by
  rw [take_snoc s k h, List.all_append, ha]; simpa using hp
theorem all_done (p : UInt8 → Bool) (s : ByteArray) (k : Nat) (h : s.size ≤ k) (ha : (s.data.toList.take k).all p = true) : s.data.toList.all p = true := by
  rwa [List.take_of_length_le (by simpa using h)] at ha
theorem all_fail (p : UInt8 → Bool) (s : ByteArray) (k : Nat) (h : k < s.size) (hp : p s[k] = false) : s.data.toList.all p = false := by
  rw [List.all_eq_false]
  exact ⟨s[k], by simp only [ByteArray.getElem_eq_getElem_data]; exact (Array.getElem_mem_toList _), by simpa using hp⟩

theorem isHex_yes (c : UInt8) (h : (48 ≤ (c.toNat : Int) ∧ (c.toNat : Int) ≤ 57) ∨ (97 ≤ (c.toNat : Int) ∧ (c.toNat : Int) ≤ 102)) : M.isHex c = true := by
  simp only [M.isHex, Bool.or_eq_true, Bool.and_eq_true, decide_eq_true_eq]; omega
theorem isHex_no (c : UInt8) (h : ¬ ((48 ≤ (c.toNat : Int) ∧ (c.toNat : Int) ≤ 57) ∨ (97 ≤ (c.toNat : Int) ∧ (c.toNat : Int) ≤ 102))) : M.isHex c = false := by
  rw [Bool.eq_false_iff]; intro h'; simp only [M.isHex, Bool.or_eq_true, Bool.and_eq_true, decide_eq_true_eq] at h'; omega
theorem isLow_yes (c : UInt8) (h : 97 ≤ (c.toNat : Int) ∧ (c.toNat : Int) ≤ 122) : M.isLow c = true := by
  simp only [M.isLow, Bool.and_eq_true, decide_eq_true_eq]; omega
theorem isLow_no (c : UInt8) (h : ¬ (97 ≤ (c.toNat : Int) ∧ (c.toNat : Int) ≤ 122)) : M.isLow c = false := by
  rw [Bool.eq_false_iff]; intro h'; simp only [M.isLow, Bool.and_eq_true, decide_eq_true_eq] at h'; omega
theorem notLf_yes (c : UInt8) (h : (c.toNat : Int) ≠ 10) : M.notLf c = true := by
  simp only [M.notLf, Bool.not_eq_true', beq_eq_false_iff_ne]; intro e; subst e; simp at h
theorem notLf_no (c : UInt8) (h : (c.toNat : Int) = 10) : M.notLf c = false := by
  simp only [M.notLf, Bool.not_eq_false', beq_iff_eq]; apply UInt8.toNat.inj; simp; omega
theorem nameB_of (s : ByteArray) (h : s.data.toList.all M.isLow = true) : M.nameB s.data.toList = (decide (1 ≤ s.size) && decide (s.size ≤ 8)) := by
  rw [M.nameB, h, Bool.true_and, ← Lib.size_eq]
theorem idB_eq (s : ByteArray) : M.idB s.data.toList = (M.hexB s.data.toList && decide (s.size = 8) && !(s.toList == M.zero8)) := by
  rw [M.idB, M.hexB, ← Lib.size_eq, Lib.toList_data]
theorem cut_hitB (s : ByteArray) (c : UInt8) (k : Nat) (h : k < s.size) (hn : ∀ x ∈ s.data.toList.take k, x ≠ c) (hc : s[k] = c) :
    (⟨(M.cut1 s.data.toList c).1.toArray⟩ : ByteArray) = s.extract 0 k ∧ (⟨(M.cut1 s.data.toList c).2.1.toArray⟩ : ByteArray) = s.extract (k + 1) s.size ∧ (M.cut1 s.data.toList c).2.2 = true := by
  have hg : s.data.toList[k]? = some c := by
    rw [List.getElem?_eq_getElem (by simpa using h)]
    subst hc; rfl
  rw [M.cut1_hit c _ k hn hg]
  refine ⟨?_, ?_, rfl⟩
  · rw [Lib.extract_eq]; simp
  · have ht : List.take (s.size - (k + 1)) (List.drop (k + 1) s.data.toList) = List.drop (k + 1) s.data.toList :=
      List.take_of_length_le (by rw [List.length_drop, ← Lib.size_eq]; exact Nat.le_refl _)
    rw [Lib.extract_eq, ht]
theorem cut_missB (s : ByteArray) (c : UInt8) (k : Nat) (h : s.size ≤ k) (hn : ∀ x ∈ s.data.toList.take k, x ≠ c) :
    (⟨(M.cut1 s.data.toList c).1.toArray⟩ : ByteArray) = s ∧ (⟨(M.cut1 s.data.toList c).2.1.toArray⟩ : ByteArray) = ⟨#[]⟩ ∧ (M.cut1 s.data.toList c).2.2 = false := by
  rw [List.take_of_length_le (by rw [← Lib.size_eq]; exact h)] at hn
  rw [M.cut1_miss c _ hn]
  exact ⟨Lib.mk_data s, rfl, rfl⟩
theorem mem_take {s : ByteArray} {c : UInt8} {k : Nat} (h : k < s.size) (hn : ∀ x ∈ s.data.toList.take k, x ≠ c) (hc : s[k] ≠ c) : ∀ x ∈ s.data.toList.take (k + 1), x ≠ c := by
  rw [take_snoc s k h]
  intro x hx
  rcases List.mem_append.1 hx with h | h
  · exact hn x h
  · simp at h; subst h; exact hc
end Go.Proofs.Ytdnfmpjcjhblbaa
