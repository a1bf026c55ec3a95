/-
  NUMBERS: the hash's step, in the walk's own forms. No walk in this text.
-/
import Derived.Test.YtdnfmpjcjhblbaaBase
namespace Go.Proofs.Ytdnfmpjcjhblbaa
open Go.RowKit

theorem fnvStep_lt (h : Nat) (c : UInt8) : M.fnvStep h c < 4294967296 := by
  unfold M.fnvStep; exact Nat.mod_lt _ (by omega)
theorem foldl_lt : ∀ (l : List UInt8) (h : Nat), h < 4294967296 → l.foldl M.fnvStep h < 4294967296
  | [], _, hh => hh
  | c :: l, h, _ => foldl_lt l (M.fnvStep h c) (fnvStep_lt h c)
theorem fnv_lt (l : List UInt8) : M.fnv l < 4294967296 := by
  unfold M.fnv; exact foldl_lt l _ (by omega)
theorem foldl_snoc (l : List UInt8) (c : UInt8) (h : Nat) : (l ++ [c]).foldl M.fnvStep h = M.fnvStep (l.foldl M.fnvStep h) c := by
  rw [List.foldl_append, List.foldl_cons, List.foldl_nil]
theorem fnv_snoc (s : ByteArray) (k : Nat) (h : k < s.size) : M.fnv (s.data.toList.take (k + 1)) = M.fnvStep (M.fnv (s.data.toList.take k)) s[k] := by
  unfold M.fnv; rw [take_snoc s k h, foldl_snoc]
theorem fnv_all (s : ByteArray) (k : Nat) (h : s.size ≤ k) : M.fnv (s.data.toList.take k) = M.fnv s.data.toList := by
  rw [List.take_of_length_le (by rw [← Lib.size_eq]; exact h)]

theorem ofInt_i64 (a : Nat) (ha : a < 9223372036854775808) : (BitVec.ofInt 64 (a : Int)).toNat = a := by
  rw [BitVec.ofInt_natCast, BitVec.toNat_ofNat]; exact Nat.mod_eq_of_lt (by omega)
theorem xor_i64 (a b : Nat) (ha : a < 4294967296) (hb : b < 4294967296) : bits .xor .i64 (a : Int) (b : Int) = ((a ^^^ b : Nat) : Int) ∧ a ^^^ b < 4294967296 := by
  have hx : a ^^^ b < 2 ^ 32 := Nat.xor_lt_two_pow (by omega) (by omega)
  refine ⟨?_, by omega⟩
  show IntKind.i64.wrap ((BitVec.ofInt 64 (a : Int) ^^^ BitVec.ofInt 64 (b : Int)).toNat : Int) = _
  rw [BitVec.toNat_xor, ofInt_i64 a (by omega), ofInt_i64 b (by omega), IntKind.wrap_i64]
  omega
theorem step_i64 (v : Nat) (c : UInt8) (hv : v < 4294967296) : (wrap64 (bits .xor .i64 (v : Int) (c.toNat : Int) * 16777619)).tmod 4294967296 = ((M.fnvStep v c : Nat) : Int) := by
  have hc := c.toNat_lt
  obtain ⟨e, hx⟩ := xor_i64 v c.toNat hv (by omega)
  rw [e]
  unfold M.fnvStep
  generalize v ^^^ c.toNat = x at *
  have h1 : wrap64 ((x : Int) * 16777619) = (x : Int) * 16777619 := by
    unfold wrap64; omega
  rw [h1, Int.tmod_eq_emod_of_nonneg (by omega)]
  omega
theorem step_u32 (v : Nat) (c : UInt8) (hv : v < 4294967296) : bits .xor .u32 (v : Int) (c.toNat : Int) * 16777619 % 4294967296 = ((M.fnvStep v c : Nat) : Int) := by
  have hc := c.toNat_lt
  rw [u32_xor_nat v c.toNat hv (by omega)]
  unfold M.fnvStep
  generalize v ^^^ c.toNat = x at *
  omega

theorem hexN_succ (m h : Nat) (S : List UInt8) : M.hexN (m + 1) h ++ S = M.hexN m (h / 16) ++ (M.digit h :: S) := by
  rw [M.hexN, List.append_assoc]; rfl
theorem hexN_len : ∀ k v, (M.hexN k v).length = k
  | 0, _ => rfl
  | k + 1, v => by rw [M.hexN, List.length_append, hexN_len k]; rfl
theorem dig16 : ∀ n : Fin 16, ((⟨#[48, 49, 50, 51, 52, 53, 54, 55, 56, 57, 97, 98, 99, 100, 101, 102]⟩ : ByteArray).extract n.val (n.val + 1)).data.toList = [M.hexDigits.getD n.val 0] := by
  decide +kernel
theorem dig_cat (x : Nat) (S : ByteArray) : (((⟨#[48, 49, 50, 51, 52, 53, 54, 55, 56, 57, 97, 98, 99, 100, 101, 102]⟩ : ByteArray).extract (x % 16) (x % 16 + 1)) ++ S).data.toList = M.digit x :: S.data.toList := by
  rw [ByteArray.data_append, Array.toList_append, dig16 ⟨x % 16, Nat.mod_lt _ (by omega)⟩]
  rfl
theorem dig_step (n j x v : Nat) (S : ByteArray) (hj : j < n) (hS : S.size = j) (h : M.hexN (n - j) x ++ S.data.toList = M.hexN n v) :
    (((⟨#[48, 49, 50, 51, 52, 53, 54, 55, 56, 57, 97, 98, 99, 100, 101, 102]⟩ : ByteArray).extract (x % 16) (x % 16 + 1)) ++ S).size = j + 1 ∧
    M.hexN (n - (j + 1)) (x / 16) ++ (((⟨#[48, 49, 50, 51, 52, 53, 54, 55, 56, 57, 97, 98, 99, 100, 101, 102]⟩ : ByteArray).extract (x % 16) (x % 16 + 1)) ++ S).data.toList = M.hexN n v := by
  refine ⟨?_, ?_⟩
  · rw [Lib.size_eq, dig_cat, List.length_cons, ← Lib.size_eq, hS]
  · rw [dig_cat, ← hexN_succ, ← h]
    congr 2; omega
theorem str_of_list (S : ByteArray) (l : List UInt8) (h : S.data.toList = l) : S = ⟨l.toArray⟩ := by
  subst h; exact (Lib.mk_data S).symm
end Go.Proofs.Ytdnfmpjcjhblbaa
