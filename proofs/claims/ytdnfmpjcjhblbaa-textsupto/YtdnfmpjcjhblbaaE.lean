/-
  THE WALKS of the program's ids and packets.
-/
import Derived.Test.YtdnfmpjcjhblbaaNum
import Derived.Test.YtdnfmpjcjhblbaaB
import Derived.Lib.UnsafeStr
namespace Go.Proofs.Ytdnfmpjcjhblbaa
open Go.RowKit

theorem Try.info5 : (Try.prog.info? 5).map (fun i => (i.zero, i.size, i.bytes)) = some (some (.int .u8 0), 1, 1) := by kernel_rfl

def rowOf (n j : Nat) (S : List UInt8) : List Value := List.replicate (n - j) (Value.int .u8 0) ++ Lib.byteCells S
theorem rowOf_len (n j : Nat) (S : List UInt8) (hj : j ≤ n) (hS : S.length = j) : (rowOf n j S).length = n := by
  simp [rowOf, Lib.byteCells_length]; omega
theorem rowOf_zero (n : Nat) : (madeCells (Value.int .u8 0).cells (n * 1)).toList = rowOf n 0 [] := by
  show (madeCells #[Value.int .u8 0] (n * 1)).toList = _
  rw [toList_madeCells_one]; simp [rowOf, Lib.byteCells]
theorem rowOf_set (n j : Nat) (S : List UInt8) (hj : j < n) (c : UInt8) : (rowOf n j S).set (n - 1 - j) (.int .u8 c.toNat) = rowOf n (j + 1) (c :: S) := by
  have h1 : n - j = (n - 1 - j) + 1 := by omega
  have h2 : n - (j + 1) = n - 1 - j := by omega
  unfold rowOf
  rw [h1, h2, List.replicate_succ', List.append_assoc, List.set_append_right _ _ (by simp)]
  simp [Lib.byteCells]
theorem rowOf_at (n j : Nat) (S : List UInt8) (hj : j < n) : (rowOf n j S)[n - 1 - j]? = some (.int .u8 0) := by
  unfold rowOf
  rw [List.getElem?_append_left (by simp; omega), List.getElem?_replicate, if_pos (by omega)]
theorem dig_ix (x : Nat) (h : x % 16 < (⟨#[48, 49, 50, 51, 52, 53, 54, 55, 56, 57, 97, 98, 99, 100, 101, 102]⟩ : ByteArray).size) : (⟨#[48, 49, 50, 51, 52, 53, 54, 55, 56, 57, 97, 98, 99, 100, 101, 102]⟩ : ByteArray)[x % 16] = M.digit x := by
  have : ∀ n : Fin 16, (⟨#[48, 49, 50, 51, 52, 53, 54, 55, 56, 57, 97, 98, 99, 100, 101, 102]⟩ : ByteArray)[n.val]'(by have := n.isLt; exact this) = M.hexDigits.getD n.val 0 := by decide +kernel
  exact this ⟨x % 16, Nat.mod_lt _ (by omega)⟩

theorem foldl_push : ∀ (l : List UInt8) (r : ByteArray), ((l.map fun b => (b.toNat : Int)).foldl (fun r n => r.push (UInt8.ofNat n.toNat)) r).data.toList = r.data.toList ++ l
  | [], r => by simp
  | b :: l, r => by
    rw [List.map_cons, List.foldl_cons, foldl_push l]
    simp
theorem run_str (wr : World) (g n : Nat) (S : List UInt8) (hS : S.length = n) (hown : wr.ownsRow g 5 1 (.slice (some ⟨g, 0, none⟩) n n) n (Lib.byteCells S)) :
    (convert 57 9 (.slice (some ⟨g, 0, none⟩) n n)).run Try.prog wr = .ok (.string ⟨S.toArray⟩) wr := by
  rw [run_convert_bytes_string wr 57 9 5 _ _ _ Try.underlying57 Try.underlying5 Try.underlying9]
  have hl := run_loadCells_list (P := Try.prog) (w := wr) ⟨g, 0, none⟩ (Lib.byteCells S) (hown.cells rfl)
  rw [Lib.byteCells_length, hS] at hl
  have hm : Lib.byteCells S = (S.map fun b => (b.toNat : Int)).map (Value.int .u8) := by simp [Lib.byteCells]
  rw [hm] at hl
  rw [run_bytesToString wr ⟨g, 0, none⟩ n n _ hl]
  congr 2
  exact str_of_list _ _ (by rw [foldl_push]; simp)

set_option maxHeartbeats 400000 in
theorem hexW_any (v n : Nat) (w : World) (hv : v < 4294967296) (hn : n ≤ 100) :
    Calls Try.prog 17 #[.int .u32 v, .int .i64 n] w fun e w' => e = .returned (.string ⟨(M.hexN n v).toArray⟩) ∧ Below w.heap.size w w' := by
  obtain ⟨i0, hi, hz0, hz1, hz2⟩ := info_parts Try.info5
  go_enter Try.func17, Try.ntmps17
  go_wp2_with (at_make; refine wpList_make_full _ rfl _ _ 57 rfl w.heap.size 5 i0 (.int .u8 0) 1 Try.underlying57 hi hz0 hz1 .i64 .i64 _ _ n rfl rfl rfl rfl (by rw [hz2]; omega) (by unfold maxLen; omega) (Nat.le_refl _) ?_; intro w1 hown hgrow; rw [rowOf_zero] at hown)
  have hb0 : Below w.heap.size w w1 := (Below.refl _ _).grown hgrow (Nat.le_refl _) (by intro k hk; cases hk)
  clear hgrow
  go_loopw [0, 6] (fun m i wr => ∃ j : Nat, j ≤ n ∧ i = .int .i64 ((n : Int) - 1 - j) ∧ ∃ x : Nat, m = .int .u32 x ∧ x < 4294967296 ∧ ∃ S : List UInt8, S.length = j ∧ M.hexN (n - j) x ++ S = M.hexN n v ∧
      wr.ownsRow w.heap.size 5 1 (.slice (some ⟨w.heap.size, 0, none⟩) n n) n (rowOf n j S) ∧ Below w.heap.size w wr) (fun _ i _ => (intOf i + 1).toNat)
  case atStart => exact ⟨0, Nat.zero_le _, by go_num, v, rfl, hv, [], rfl, by simp, hown, hb0⟩
  case round =>
    clear hown hb0
    obtain ⟨j, hj, rfl, x, rfl, hx, S, hS, hhex, hown, hb⟩ := hrel
    by_cases hlt : j < n
    · have hcell : wr.cell? ⟨w.heap.size, n - 1 - j, none⟩ = some (.int .u8 0) := by rw [hown.cellAt _ (by omega), rowOf_at n j S hlt]
      have hfr := hown.frozenAt (n - 1 - j)
      have HO := hown.stored (n - 1 - j) (.int .u8 (M.digit x).toNat)
      rw [rowOf_set n j S hlt] at HO
      have HO' : Hid _ := HO
      have HH : Hid _ := hhex
      have HB : Hid _ := hb
      clear HO hhex hown hb
      go_wp2
      go_roundw
      case rel =>
        refine ⟨j + 1, by omega, by go_num, x / 16, by go_num, by omega, M.digit x :: S, by simp [hS], ?_, ?_, ?_⟩
        · rw [← hexN_succ, ← HH.out]; congr 2; omega
        · rw [dig_ix]; exact HO'.out.1
        · rw [dig_ix]; exact HB.out.setCell (Nat.le_refl _) _
      case measure => simp [intOf]; omega
    · have hjn : j = n := by omega
      have hfin : S = M.hexN n v := by rw [← hhex, hjn, Nat.sub_self]; rfl
      have hrow : rowOf n j S = Lib.byteCells S := by rw [hjn]; simp [rowOf]
      rw [hrow] at hown
      have hcv := run_str wr w.heap.size n S (by omega) hown
      have HF : Hid _ := hfin
      have HB : Hid _ := hb
      clear hjn hfin hrow hown hb hhex
      go_wp2
      go_ret
      exact ⟨ret_str (by rw [HF.out]), HB.out⟩

set_option maxHeartbeats 400000 in
theorem objID_any (s : ByteArray) (w : World) (hs : s.size ≤ 4194304) :
    Calls Try.prog 11 #[.string s] w fun e w' => e = .returned (.string ⟨(M.idOf s.data.toList).toArray⟩) ∧ Below w.heap.size w w' := by
  go_enter Try.func11, Try.ntmps11
  go_wp2
  go_loop [3, 7] (fun h i => ∃ k : Nat, k ≤ s.size ∧ i = .int .i64 k ∧ ∃ v : Nat, h = .int .u32 v ∧ v = M.fnv (s.data.toList.take k)) (fun _ i => s.size - (intOf i).toNat)
  case atStart => exact ⟨0, Nat.zero_le _, rfl, 2166136261, rfl, by rw [List.take_zero, M.fnv, List.foldl_nil]⟩
  case round =>
    obtain ⟨k, hk, rfl, v, rfl, ha⟩ := hrel
    have hv : v < 4294967296 := by rw [ha]; exact fnv_lt _
    have HA : Hid (v = M.fnv (s.data.toList.take k)) := ha
    clear ha
    by_cases hlt : k < s.size
    · have hb : (s[k].toNat : Int) < 256 := by have := s[k].toNat_lt; omega
      go_wp2
      go_round
      case rel => exact ⟨k + 1, by omega, by go_num, M.fnvStep v s[k], by rw [step_u32 v _ hv], by rw [fnv_snoc s k hlt, ← HA.out]⟩
      case measure => simp [intOf]; omega
    · have HV : Hid (M.fnv s.data.toList = v) := by rw [← fnv_all s k (by omega)]; exact HA.out.symm
      clear HA
      go_wp2_with (go_at_call 17; refine (hexW_any v 8 _ hv (by omega)).mono ?_; rintro e w' ⟨rfl, hb⟩)
      go_ret
      exact ⟨ret_str (by rw [M.idOf, HV.out]), hb⟩

set_option maxHeartbeats 400000 in
theorem srvID_any (s : ByteArray) (w : World) (hs : s.size ≤ 4194304) :
    Calls Try.prog 5 #[.string s] w fun e w' => e = .returned (.string ⟨(M.idOf s.data.toList).toArray⟩) ∧ Below w.heap.size w w' := by
  go_enter Try.func5, Try.ntmps5
  go_wp2_with (go_at_call 11; refine (objID_any _ _ hs).mono ?_; rintro e w' ⟨rfl, hb⟩)
  go_ret
  exact ⟨rfl, hb⟩

theorem nonempty_of (s : ByteArray) (h : s.size ≠ 0) : s.toList.isEmpty = false := by
  rw [Lib.toList_data, Bool.eq_false_iff]
  intro h'
  rw [List.isEmpty_iff] at h'
  exact h (by rw [Lib.size_eq, h']; rfl)
theorem hexW_int (v : Int) (n : Nat) (w : World) (h0 : 0 ≤ v) (hv : v < 4294967296) (hn : n ≤ 100) :
    Calls Try.prog 17 #[.int .u32 v, .int .i64 n] w fun e w' => e = .returned (.string ⟨(M.hexN n v.toNat).toArray⟩) ∧ Below w.heap.size w w' := by
  obtain ⟨V, rfl⟩ := Int.eq_ofNat_of_zero_le h0
  exact hexW_any V n w (by omega) hn
theorem packet_eq' (s : ByteArray) (h0 : s.size ≠ 0) (h2 : s.size ≤ 200) : M.packet s.data.toList = M.hexN 4 (s.size + 4) ++ s.data.toList := by
  unfold M.packet; rw [← Lib.size_eq, if_neg (by omega)]
theorem packet_no' (s : ByteArray) (h : s.size = 0 ∨ 200 < s.size) : M.packet s.data.toList = [] := by
  unfold M.packet; rw [← Lib.size_eq, if_pos h]

set_option maxHeartbeats 400000 in
theorem pushPacket_any (s : ByteArray) (w : World) (hs : s.size ≤ 4194304) :
    Calls Try.prog 12 #[.string s] w fun e w' => e = .returned (.string ⟨(M.packet s.data.toList).toArray⟩) ∧ Below w.heap.size w w' := by
  by_cases h0 : s.size = 0 ∨ 200 < s.size
  · rw [packet_no' s h0]
    rcases h0 with h0 | h0
    · have hnm : s.toList.isEmpty = true := by rw [Lib.toList_data]; rw [List.isEmpty_iff]; apply List.eq_nil_of_length_eq_zero; rw [← Lib.size_eq, h0]
      have H0 : Hid (s.size = 0) := h0
      clear h0
      go_enter Try.func12, Try.ntmps12
      go_wp2
      go_ret
      exact ⟨rfl, Below.refl _ _⟩
    · have hnm : s.toList.isEmpty = false := nonempty_of s (by omega)
      go_enter Try.func12, Try.ntmps12
      go_wp2
      go_ret
      exact ⟨rfl, Below.refl _ _⟩
  · have hnm : s.toList.isEmpty = false := nonempty_of s (by omega)
    have h2 : s.size ≤ 200 := by omega
    rw [packet_eq' s (by omega) h2]
    have hl4 : (M.hexN 4 (s.size + 4)).length ≤ 4 := by rw [hexN_len]; exact Nat.le_refl _
    go_enter Try.func12, Try.ntmps12
    go_wp2_with (go_at_call 17; refine (hexW_int _ 4 _ (by omega) (by omega) (by omega)).mono ?_; rintro e w' ⟨rfl, hb⟩)
    go_ret
    exact ⟨ret_str (str_of_list _ _ (by rw [ByteArray.data_append, Array.toList_append])), hb⟩

set_option maxHeartbeats 400000 in
theorem srvPacket_any (s : ByteArray) (w : World) (hs : s.size ≤ 4194304) :
    Calls Try.prog 7 #[.string s] w fun e w' => e = .returned (.string ⟨(M.packet s.data.toList).toArray⟩) ∧ Below w.heap.size w w' := by
  go_enter Try.func7, Try.ntmps7
  go_wp2_with (go_at_call 12; refine (pushPacket_any _ _ hs).mono ?_; rintro e w' ⟨rfl, hb⟩)
  go_ret
  exact ⟨rfl, hb⟩
end Go.Proofs.Ytdnfmpjcjhblbaa
