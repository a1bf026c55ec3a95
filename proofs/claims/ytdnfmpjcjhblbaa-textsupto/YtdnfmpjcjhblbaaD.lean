/-
  THE WALKS of the reference's ids and packets.
-/
import Derived.Test.YtdnfmpjcjhblbaaNum
namespace Go.Proofs.Ytdnfmpjcjhblbaa
open Go.RowKit

set_option maxHeartbeats 400000 in
theorem refID_any (s : ByteArray) (w : World) (hs : s.size ≤ 4194304) :
    Calls Try.prog 6 #[.string s] w fun e w' => e = .returned (.string ⟨(M.idOf s.data.toList).toArray⟩) ∧ w' = w := by
  go_enter Try.func6, Try.ntmps6
  go_wp2
  go_loop [3, 4] (fun h i => ∃ k : Nat, k ≤ s.size ∧ i = .int .i64 k ∧ ∃ v : Nat, h = .int .i64 v ∧ v = M.fnv (s.data.toList.take k)) (fun _ i => s.size - (intOf i).toNat)
  case atStart => exact ⟨0, Nat.zero_le _, rfl, 2166136261, rfl, by rw [List.take_zero, M.fnv, List.foldl_nil]⟩
  case round =>
    obtain ⟨k, hk, rfl, v, rfl, ha⟩ := hrel
    have hv : v < 4294967296 := by rw [ha]; exact fnv_lt _
    have HA : Hid (v = M.fnv (s.data.toList.take k)) := ha
    clear ha
    by_cases hlt : k < s.size
    · have hb : (s[k].toNat : Int) < 256 := by have := s[k].toNat_lt; omega
      go_wp2
      go_round
      case rel => exact ⟨k + 1, by omega, by go_num, M.fnvStep v s[k], by rw [step_i64 v _ hv], by rw [fnv_snoc s k hlt, ← HA.out]⟩
      case measure => simp [intOf]; omega
    · have HV : Hid (M.fnv s.data.toList = v) := by rw [← fnv_all s k (by omega)]; exact HA.out.symm
      clear HA
      go_wp2
      go_loop [3, 5, 6] (fun h t i => ∃ j : Nat, j ≤ 8 ∧ i = .int .i64 j ∧ ∃ x : Nat, h = .int .i64 x ∧ x < 4294967296 ∧ ∃ S : ByteArray, t = .string S ∧ S.size = j ∧ M.hexN (8 - j) x ++ S.data.toList = M.hexN 8 v) (fun _ _ i => 8 - (intOf i).toNat)
      case atStart => exact ⟨0, Nat.zero_le _, rfl, v, rfl, hv, ⟨#[]⟩, rfl, rfl, by simp⟩
      case round =>
        obtain ⟨j, hj, rfl, x, rfl, hx, S, rfl, hS, hrest⟩ := hrel
        have HR : Hid (M.hexN (8 - j) x ++ S.data.toList = M.hexN 8 v) := hrest
        clear hrest
        by_cases hj8 : j < 8
        · go_wp2
          go_roundw
          case rel =>
            have hd := dig_step 8 j x v S hj8 hS HR.out
            exact ⟨j + 1, by omega, by go_num, x / 16, by go_num, by omega, _, rfl, hd.1, hd.2⟩
          case measure => simp [intOf]; omega
        · go_wp2
          go_ret
          have h8 : j = 8 := by omega
          have hh := HR.out
          rw [h8, Nat.sub_self, M.hexN, List.nil_append] at hh
          exact ⟨ret_str (by rw [M.idOf, HV.out]; exact str_of_list _ _ hh), rfl⟩

theorem packet_eq (s : ByteArray) (h0 : s.size ≠ 0) (h2 : s.size ≤ 200) : M.packet s.data.toList = M.hexN 4 (s.size + 4) ++ s.data.toList := by
  unfold M.packet; rw [← Lib.size_eq, if_neg (by omega)]
theorem packet_no (s : ByteArray) (h : s.size = 0 ∨ 200 < s.size) : M.packet s.data.toList = [] := by
  unfold M.packet; rw [← Lib.size_eq, if_pos h]

set_option maxHeartbeats 400000 in
theorem refPacket_any (s : ByteArray) (w : World) (hs : s.size ≤ 4194304) :
    Calls Try.prog 8 #[.string s] w fun e w' => e = .returned (.string ⟨(M.packet s.data.toList).toArray⟩) ∧ w' = w := by
  by_cases h0 : s.size = 0 ∨ 200 < s.size
  · rw [packet_no s h0]
    rcases h0 with h0 | h0
    · have hb : ((s.size : Int) == 0) = true := by simp [h0]
      have H0 : Hid (s.size = 0) := h0
      clear h0
      go_enter Try.func8, Try.ntmps8
      go_wp2
      go_ret
      exact ⟨rfl, rfl⟩
    · have hb : ((s.size : Int) == 0) = false := beq_eq_false_iff_ne.2 (by omega)
      go_enter Try.func8, Try.ntmps8
      go_wp2
      go_ret
      exact ⟨rfl, rfl⟩
  · have hb : ((s.size : Int) == 0) = false := beq_eq_false_iff_ne.2 (by omega)
    have h2 : s.size ≤ 200 := by omega
    rw [packet_eq s (by omega) h2]
    go_enter Try.func8, Try.ntmps8
    go_wp2
    go_loop [3, 4, 5] (fun h t i => ∃ j : Nat, j ≤ 4 ∧ i = .int .i64 j ∧ ∃ x : Nat, h = .int .i64 x ∧ x < 65536 ∧ ∃ S : ByteArray, t = .string S ∧ S.size = j ∧ M.hexN (4 - j) x ++ S.data.toList = M.hexN 4 (s.size + 4)) (fun _ _ i => 4 - (intOf i).toNat)
    case atStart => exact ⟨0, Nat.zero_le _, rfl, s.size + 4, by go_num, by omega, ⟨#[]⟩, rfl, rfl, by simp⟩
    case round =>
      obtain ⟨j, hj, rfl, x, rfl, hx, S, rfl, hS, hrest⟩ := hrel
      have HR : Hid (M.hexN (4 - j) x ++ S.data.toList = M.hexN 4 (s.size + 4)) := hrest
      clear hrest
      by_cases hj4 : j < 4
      · go_wp2
        go_roundw
        case rel =>
          have hd := dig_step 4 j x _ S hj4 hS HR.out
          exact ⟨j + 1, by omega, by go_num, x / 16, by go_num, by omega, _, rfl, hd.1, hd.2⟩
        case measure => simp [intOf]; omega
      · go_wp2
        go_ret
        have h4 : j = 4 := by omega
        have hh := HR.out
        rw [h4, Nat.sub_self, M.hexN, List.nil_append] at hh
        exact ⟨ret_str (str_of_list _ _ (by rw [ByteArray.data_append, Array.toList_append, hh])), rfl⟩
end Go.Proofs.Ytdnfmpjcjhblbaa
