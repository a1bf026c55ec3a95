/-
  THE WALKS of the program's small functions: Only, IsID, canName, isLine, Hex, ID, Packet, Clone.
-/
import Derived.Test.YtdnfmpjcjhblbaaBase
namespace Go.Proofs.Ytdnfmpjcjhblbaa
open Go.RowKit

theorem indexByte_mem (l : List UInt8) (c : UInt8) : (0 ≤ Lib.indexByte l c) ↔ c ∈ l := by
  induction l with
  | nil => simp [Lib.indexByte]
  | cons b l ih =>
    have hge := Lib.indexByte_ge l c
    unfold Lib.indexByte
    by_cases hb : (b == c) = true
    · have : b = c := by simpa using hb
      rw [if_pos hb]; simp [this]
    · have hb' : ¬ c = b := fun e => hb (by simp [e])
      rw [if_neg hb]
      split
      · rename_i h
        have h : Lib.indexByte l c = -1 := by simpa using h
        rw [h] at ih
        simp [hb', ← ih]
      · rename_i h
        have h : ¬ Lib.indexByte l c = -1 := by simpa using h
        have : 0 ≤ Lib.indexByte l c := by omega
        simp [hb', ih.1 this]; omega

def inSet (set : ByteArray) (c : UInt8) : Bool := set.data.toList.contains c
theorem inSet_no (set : ByteArray) (c : UInt8) (h : Lib.indexByte set.data.toList c < 0) : inSet set c = false := by
  rw [inSet, Bool.eq_false_iff]; intro h'
  have := (indexByte_mem set.data.toList c).2 (by simpa using h'); omega
theorem inSet_yes (set : ByteArray) (c : UInt8) (h : ¬ Lib.indexByte set.data.toList c < 0) : inSet set c = true := by
  rw [inSet]; simpa using (indexByte_mem set.data.toList c).1 (by omega)
def allIn (set s : ByteArray) : Bool := s.data.toList.all (inSet set)
theorem u8_back (c : UInt8) : ((c.toNat : Int).toNat.toUInt8) = c := by simp

set_option maxHeartbeats 400000 in
theorem only_any (s set : ByteArray) (a b : Nat) (w : World) (hs : s.size ≤ 4194304) :
    Calls Try.prog 57 #[.string s, .string set, .int .i64 a, .int .i64 b] w fun e w' => e = .returned (.bool (allIn set s && decide (a ≤ s.size) && decide (s.size ≤ b))) ∧ w' = w := by
  by_cases h1 : (s.size : Int) < a
  · go_enter Try.func57, Try.ntmps57
    go_wp2
    go_ret
    exact ⟨ret_bool (by rw [decide_eq_false (by omega : ¬ a ≤ s.size)]; simp), rfl⟩
  · by_cases h2 : (b : Int) < s.size
    · go_enter Try.func57, Try.ntmps57
      go_wp2
      go_ret
      exact ⟨ret_bool (by rw [decide_eq_false (by omega : ¬ s.size ≤ b)]; simp), rfl⟩
    · rw [decide_eq_true (by omega : a ≤ s.size), decide_eq_true (by omega : s.size ≤ b), Bool.and_true, Bool.and_true]
      go_enter Try.func57, Try.ntmps57
      go_wp2
      go_loop [22] (fun i => ∃ k : Nat, k ≤ s.size ∧ i = .int .i64 k ∧ (s.data.toList.take k).all (inSet set) = true) (fun i => s.size - (intOf i).toNat)
      case atStart => exact ⟨0, Nat.zero_le _, rfl, rfl⟩
      case round =>
        obtain ⟨k, hk, rfl, ha⟩ := hrel
        have HA : Hid ((s.data.toList.take k).all (inSet set) = true) := ha
        clear ha
        by_cases hlt : k < s.size
        · by_cases hx : Lib.indexByte set.data.toList s[k] < 0
          · go_wp2_with (go_at_call 60; refine (Try.strings_IndexByte _ _ _).mono ?_; rintro e w' ⟨rfl, rfl⟩; rw [u8_back])
            go_ret
            exact ⟨ret_bool (by rw [allIn, all_fail (inSet set) s k hlt (inSet_no set _ hx)]), rfl⟩
          · go_wp2_with (go_at_call 60; refine (Try.strings_IndexByte _ _ _).mono ?_; rintro e w' ⟨rfl, rfl⟩; rw [u8_back])
            go_round
            case rel => exact ⟨k + 1, by omega, by go_num, all_snoc (inSet set) s k hlt HA.out (inSet_yes set _ (by omega))⟩
            case measure => simp [intOf]; omega
        · go_wp2_with fail
          go_ret
          exact ⟨ret_bool (by rw [allIn, all_done (inSet set) s k (by omega) HA.out]), rfl⟩

theorem all_u8 (p : UInt8 → Bool) (h : ∀ n : Fin 256, p (UInt8.ofNat n.val) = true) (c : UInt8) : p c = true := by
  have := h ⟨c.toNat, c.toNat_lt⟩
  simpa using this
theorem inHex (c : UInt8) : inSet ⟨#[48, 49, 50, 51, 52, 53, 54, 55, 56, 57, 97, 98, 99, 100, 101, 102]⟩ c = M.isHex c := by
  simpa using all_u8 (fun c => inSet ⟨#[48, 49, 50, 51, 52, 53, 54, 55, 56, 57, 97, 98, 99, 100, 101, 102]⟩ c == M.isHex c) (by decide +kernel) c
theorem inLow (c : UInt8) : inSet ⟨#[97, 98, 99, 100, 101, 102, 103, 104, 105, 106, 107, 108, 109, 110, 111, 112, 113, 114, 115, 116, 117, 118, 119, 120, 121, 122]⟩ c = M.isLow c := by
  simpa using all_u8 (fun c => inSet ⟨#[97, 98, 99, 100, 101, 102, 103, 104, 105, 106, 107, 108, 109, 110, 111, 112, 113, 114, 115, 116, 117, 118, 119, 120, 121, 122]⟩ c == M.isLow c) (by decide +kernel) c
def isIdB (s : ByteArray) : Bool := M.hexB s.data.toList && decide (s.size = 8)
theorem isId_eq (s : ByteArray) : (allIn ⟨#[48, 49, 50, 51, 52, 53, 54, 55, 56, 57, 97, 98, 99, 100, 101, 102]⟩ s && decide (8 ≤ s.size) && decide (s.size ≤ 8)) = isIdB s := by
  rw [allIn, isIdB, M.hexB, show inSet _ = M.isHex from funext inHex, Bool.and_assoc, ← Bool.decide_and]
  congr 1; rw [decide_eq_decide]; omega
theorem name_eq (s : ByteArray) : (allIn ⟨#[97, 98, 99, 100, 101, 102, 103, 104, 105, 106, 107, 108, 109, 110, 111, 112, 113, 114, 115, 116, 117, 118, 119, 120, 121, 122]⟩ s && decide (1 ≤ s.size) && decide (s.size ≤ 8)) = M.nameB s.data.toList := by
  rw [allIn, M.nameB, show inSet _ = M.isLow from funext inLow, ← Lib.size_eq]

set_option maxHeartbeats 400000 in
theorem isID_any (s : ByteArray) (w : World) (hs : s.size ≤ 4194304) :
    Calls Try.prog 61 #[.string s] w fun e w' => e = .returned (.bool (isIdB s)) ∧ w' = w := by
  go_enter Try.func61, Try.ntmps61
  go_wp2_with (go_at_call 57; refine (only_any _ _ 8 8 _ hs).mono ?_; rintro e w' ⟨rfl, rfl⟩; rw [isId_eq])
  go_ret
  exact ⟨rfl, rfl⟩

set_option maxHeartbeats 400000 in
theorem canName_any (s : ByteArray) (w : World) (hs : s.size ≤ 4194304) :
    Calls Try.prog 58 #[.string s] w fun e w' => e = .returned (.bool (M.idB s.data.toList)) ∧ w' = w := by
  have e0 : M.idB s.data.toList = (isIdB s && !(s.toList == M.zero8)) := by rw [idB_eq, isIdB]
  rw [e0]
  clear e0
  cases hx : isIdB s
  all_goals
    have HX : Hid (isIdB s = _) := hx
    clear hx
    go_enter Try.func58, Try.ntmps58
    go_wp2_with (go_at_call 61; refine (isID_any _ _ hs).mono ?_; rintro e w' ⟨rfl, rfl⟩; rw [HX.out])
    go_ret
    exact ⟨ret_bool (by simp [M.zero8]), rfl⟩

theorem lineB_eq (s : ByteArray) (n : Nat) : M.lineB s.data.toList n = (decide (s.size ≤ n) && !decide (0 ≤ Lib.indexByte s.data.toList 10)) := by
  rw [M.lineB, ← Lib.size_eq, Bool.and_comm]
  congr 1
  rw [Bool.eq_iff_iff]
  simp only [List.all_eq_true, Bool.not_eq_true', decide_eq_false_iff_not, indexByte_mem, M.notLf, beq_eq_false_iff_ne]
  constructor
  · intro h h'; exact h 10 h' rfl
  · intro h x hx e; subst e; exact h hx

set_option maxHeartbeats 400000 in
theorem isLine_any (s : ByteArray) (n : Nat) (w : World) :
    Calls Try.prog 70 #[.string s, .int .i64 n] w fun e w' => e = .returned (.bool (M.lineB s.data.toList n)) ∧ w' = w := by
  rw [lineB_eq]
  by_cases h1 : (s.size : Int) ≤ n
  all_goals
    go_enter Try.func70, Try.ntmps70
    go_wp2_with (go_at_call 72; refine (Try.strings_Contains_one _ 10 _).mono ?_; rintro e w' ⟨rfl, rfl⟩)
    go_ret
  · exact ⟨ret_bool (by rw [decide_eq_true (by omega : s.size ≤ n), Bool.true_and]), rfl⟩
  · exact ⟨ret_bool (by rw [decide_eq_false (by omega : ¬ s.size ≤ n), Bool.false_and]), rfl⟩

set_option maxHeartbeats 400000 in
theorem clone_any (s : ByteArray) (w : World) (hs : s.size ≤ 4194304) :
    Calls Try.prog 14 #[.string s] w fun e w' => e = .returned (.string s) ∧ Below w.heap.size w w' := by
  go_enter Try.func14, Try.ntmps14
  go_wp2_with (go_at_call 19; refine (Try.stringslite_Clone _ _ (by omega)).mono ?_; rintro e w' ⟨rfl, hb⟩)
  go_ret
  exact ⟨rfl, hb⟩

end Go.Proofs.Ytdnfmpjcjhblbaa
