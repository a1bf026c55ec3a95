/-
  THE WALKS of refserveref's small functions: hex, line, name, id, cut.
-/
import Derived.Test.YtdnfmpjcjhblbaaBase
namespace Go.Proofs.Ytdnfmpjcjhblbaa
open Go.RowKit

set_option maxHeartbeats 400000 in
theorem hex_any (s : ByteArray) (w : World) (hs : s.size ≤ 4194304) :
    Calls Try.prog 29 #[.string s] w fun e w' => e = .returned (.bool (M.hexB s.data.toList)) ∧ w' = w := by
  go_enter Try.func29, Try.ntmps29
  go_wp2
  go_loop [3] (fun i => ∃ k : Nat, k ≤ s.size ∧ i = .int .i64 k ∧ (s.data.toList.take k).all M.isHex = true) (fun i => s.size - (intOf i).toNat)
  case atStart => exact ⟨0, Nat.zero_le _, rfl, rfl⟩
  case round =>
    obtain ⟨k, hk, rfl, ha⟩ := hrel
    have HA : Hid ((s.data.toList.take k).all M.isHex = true) := ha
    clear ha
    by_cases hlt : k < s.size
    · go_wp2
      all_goals first
        | (go_round
           case rel => exact ⟨k + 1, by omega, by go_num, all_snoc M.isHex s k hlt HA.out (isHex_yes _ (by omega))⟩
           case measure => simp [intOf]; omega)
        | (go_ret; exact ⟨ret_bool (by rw [M.hexB, all_fail M.isHex s k hlt (isHex_no _ (by omega))]), rfl⟩)
    · go_wp2
      go_ret
      exact ⟨ret_bool (by rw [M.hexB, all_done M.isHex s k (by omega) HA.out]), rfl⟩

set_option maxHeartbeats 400000 in
theorem line_any (s : ByteArray) (n : Nat) (w : World) (hs : s.size ≤ 4194304) :
    Calls Try.prog 22 #[.string s, .int .i64 n] w fun e w' => e = .returned (.bool (M.lineB s.data.toList n)) ∧ w' = w := by
  go_enter Try.func22, Try.ntmps22
  go_wp2
  go_loop [5] (fun i => ∃ k : Nat, k ≤ s.size ∧ i = .int .i64 k ∧ (s.data.toList.take k).all M.notLf = true) (fun i => s.size - (intOf i).toNat)
  case atStart => exact ⟨0, Nat.zero_le _, rfl, rfl⟩
  case round =>
    obtain ⟨k, hk, rfl, ha⟩ := hrel
    have HA : Hid ((s.data.toList.take k).all M.notLf = true) := ha
    clear ha
    by_cases hlt : k < s.size
    · by_cases h10 : (s[k].toNat : Int) = 10
      · go_wp2
        go_ret
        exact ⟨ret_bool (by rw [M.lineB, all_fail M.notLf s k hlt (notLf_no _ h10), Bool.false_and]), rfl⟩
      · go_wp2
        go_round
        case rel => exact ⟨k + 1, by omega, by go_num, all_snoc M.notLf s k hlt HA.out (notLf_yes _ h10)⟩
        case measure => simp [intOf]; omega
    · go_wp2
      go_ret
      exact ⟨ret_bool (by rw [M.lineB, all_done M.notLf s k (by omega) HA.out, Bool.true_and]; rw [decide_eq_decide]; simp), rfl⟩

set_option maxHeartbeats 400000 in
theorem name_any (s : ByteArray) (w : World) (hs : s.size ≤ 4194304) :
    Calls Try.prog 26 #[.string s] w fun e w' => e = .returned (.bool (M.nameB s.data.toList)) ∧ w' = w := by
  go_enter Try.func26, Try.ntmps26
  go_wp2
  go_loop [3] (fun i => ∃ k : Nat, k ≤ s.size ∧ i = .int .i64 k ∧ (s.data.toList.take k).all M.isLow = true) (fun i => s.size - (intOf i).toNat)
  case atStart => exact ⟨0, Nat.zero_le _, rfl, rfl⟩
  case round =>
    obtain ⟨k, hk, rfl, ha⟩ := hrel
    have HA : Hid ((s.data.toList.take k).all M.isLow = true) := ha
    clear ha
    by_cases hlt : k < s.size
    · go_wp2
      all_goals first
        | (go_round
           case rel => exact ⟨k + 1, by omega, by go_num, all_snoc M.isLow s k hlt HA.out (isLow_yes _ (by omega))⟩
           case measure => simp [intOf]; omega)
        | (go_ret; exact ⟨ret_bool (by rw [M.nameB, all_fail M.isLow s k hlt (isLow_no _ (by omega)), Bool.false_and, Bool.false_and]), rfl⟩)
    · go_wp2
      all_goals
        go_ret
        exact ⟨ret_bool (by rw [nameB_of s (all_done M.isLow s k (by omega) HA.out), Bool.eq_iff_iff]; simp; omega), rfl⟩

set_option maxHeartbeats 400000 in
theorem id_any (s : ByteArray) (w : World) (hs : s.size ≤ 4194304) :
    Calls Try.prog 27 #[.string s] w fun e w' => e = .returned (.bool (M.idB s.data.toList)) ∧ w' = w := by
  rw [idB_eq]
  cases hx : M.hexB s.data.toList
  all_goals
    have HX : Hid (M.hexB s.data.toList = _) := hx
    clear hx
    go_enter Try.func27, Try.ntmps27
    go_wp2_with (go_at_call 29; refine (hex_any _ _ hs).mono ?_; rintro e w' ⟨rfl, rfl⟩; rw [HX.out])
  · go_ret
    exact ⟨ret_bool (by simp), rfl⟩
  · go_ret
    have h8 : s.size = 8 := by omega
    exact ⟨ret_bool (by simp [M.zero8, h8]), rfl⟩
  · go_ret
    have h8 : ¬ s.size = 8 := by omega
    exact ⟨ret_bool (by simp [h8]), rfl⟩

set_option maxHeartbeats 400000 in
theorem cut_any (s : ByteArray) (c : UInt8) (w : World) (hs : s.size ≤ 4194304) :
    Calls Try.prog 21 #[.string s, .int .u8 c.toNat] w fun e w' => e = .returned (.tuple #[.string ⟨(M.cut1 s.data.toList c).1.toArray⟩, .string ⟨(M.cut1 s.data.toList c).2.1.toArray⟩, .bool (M.cut1 s.data.toList c).2.2]) ∧ ∃ n, w' = w.drewN n := by
  go_enter Try.func21, Try.ntmps21
  go_wp2
  go_loop [7] (fun i => ∃ k : Nat, k ≤ s.size ∧ i = .int .i64 k ∧ ∀ x ∈ s.data.toList.take k, x ≠ c) (fun i => s.size - (intOf i).toNat)
  case atStart => exact ⟨0, Nat.zero_le _, rfl, by simp⟩
  case round =>
    obtain ⟨k, hk, rfl, ha⟩ := hrel
    have HA : Hid (∀ x ∈ s.data.toList.take k, x ≠ c) := ha
    clear ha
    by_cases hlt : k < s.size
    · by_cases hc : (s[k].toNat : Int) = c.toNat
      · have hc' : s[k] = c := UInt8.toNat.inj (by omega)
        have HC : Hid (s[k] = c) := hc'
        clear hc'
        have hcb : ((s[k].toNat : Int) == c.toNat) = true := by simpa using hc
        clear hc
        go_wp2
        go_quiet (fail)
        go_wp2
        obtain ⟨e1, e2, e3⟩ := cut_hitB s c k hlt HA.out HC.out
        rw [e1, e2, e3]
        go_ret3
        exact ⟨rfl, _, rfl⟩
      · have hcb : ((s[k].toNat : Int) == c.toNat) = false := by simpa using hc
        have HC : Hid (s[k] ≠ c) := fun e => hc (by rw [e])
        clear hc
        go_wp2
        go_round
        case rel => exact ⟨k + 1, by omega, by go_num, mem_take hlt HA.out HC.out⟩
        case measure => simp [intOf]; omega
    · go_wp2
      obtain ⟨e1, e2, e3⟩ := cut_missB s c k (by omega) HA.out
      rw [e1, e2, e3]
      go_ret3
      exact ⟨rfl, 0, rfl⟩

end Go.Proofs.Ytdnfmpjcjhblbaa
