/-
  THE WALK of refservelaw.Texts.
-/
import Derived.Test.YtdnfmpjcjhblbaaR
namespace Go.Proofs.Ytdnfmpjcjhblbaa
open Go.RowKit

/-- a step of a script, as it lies in memory: its kind and its text -/
def OpAt (w : World) (b off i : Nat) : Prop := ∃ (K : Int) (S : ByteArray), w.cell? ⟨b, off + i * 4, none⟩ = some (.int .i64 K) ∧ w.cell? ⟨b, off + i * 4 + 3, none⟩ = some (.string S) ∧ S.size ≤ 2097152

set_option maxHeartbeats 1000000 in
set_option maxRecDepth 100000 in
theorem Texts_some (b off n c : Nat) (w : World) (hb : b < w.heap.size) (hops : ∀ i, i < n → OpAt w b off i) (hm : MaxLenIs w) (h0 : 0 < w.heap.size) (hn : n ≤ 4194304) :
    Calls Try.prog 3 #[.slice (some ⟨b, off, none⟩) n c] w fun e w' => e = .returned (.bool true) ∧ Below w.heap.size w w' := by
  have HM : Hid (MaxLenIs w) := hm
  have HO : Hid (∀ i, i < n → OpAt w b off i) := hops
  clear hm hops
  go_enter Try.func3, Try.ntmps3
  go_wp2_with fail
  go_loopw [3] (fun i wr => ∃ k : Nat, k ≤ n ∧ i = .int .i64 k ∧ Below w.heap.size w wr) (fun i _ => n - (intOf i).toNat)
  case atStart => exact ⟨0, Nat.zero_le _, rfl, Below.refl _ _⟩
  case round =>
    obtain ⟨k, hk, rfl, hbb⟩ := hrel
    by_cases hlt : k < n
    · obtain ⟨K, S, hcK, hcS, hS⟩ := HO.out k hlt
      have hK : wr.cell? ⟨b, off + k * 4, none⟩ = some (.int .i64 K) := by rw [hbb.cell (by exact hb)]; exact hcK
      have hT : wr.cell? ⟨b, off + k * 4 + 3, none⟩ = some (.string S) := by rw [hbb.cell (by exact hb)]; exact hcS
      have HMr : Hid (MaxLenIs wr) := HM.out.below hbb h0
      have hsz := hbb.size
      have hbig : (k : Int) < 1152921504606846976 := by omega
      clear hcK hcS
      generalize (1152921504606846976 : Int) = C at hbig ⊢
      cases hK1 : (K == 1)
      · go_wp2_with fail
        go_roundw
        case rel => exact ⟨k + 1, by omega, by go_num, hbb⟩
        case measure => simp [intOf]; omega
      · go_wp2_with fail
        refine (texts_any S _ HMr.out (by omega) hS).mono ?_
        rintro e w1 ⟨rfl, hb1⟩
        go_wp2_with fail
        go_roundw
        case rel => exact ⟨k + 1, by omega, by go_num, hbb.trans (hb1.mono hsz)⟩
        case measure => simp [intOf]; omega
    · go_wp2_with fail
      go_ret
      exact ⟨rfl, hbb⟩

set_option maxHeartbeats 1000000 in
theorem Texts_none (a : Option Addr) (c : Nat) (w : World) :
    Calls Try.prog 3 #[.slice a 0 c] w fun e w' => e = .returned (.bool true) ∧ Below w.heap.size w w' := by
  go_enter Try.func3, Try.ntmps3
  go_wp2_with fail
  refine wp_loop_rounds 1 ?_
  rw [rounds_succ]
  go_wp2_with fail
  go_ret
  exact ⟨rfl, Below.refl _ _⟩
end Go.Proofs.Ytdnfmpjcjhblbaa
