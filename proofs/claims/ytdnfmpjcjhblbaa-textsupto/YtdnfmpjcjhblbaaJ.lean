/-
  THE WALKS of common's methods and Blob.read.
-/
import Derived.Test.YtdnfmpjcjhblbaaF
namespace Go.Proofs.Ytdnfmpjcjhblbaa
open Go.RowKit

set_option maxHeartbeats 400000 in
theorem comID_any (b : Nat) (I : ByteArray) (w : World) (h : w.cell? ⟨b, 0, none⟩ = some (.string I)) :
    Calls Try.prog 52 #[.pointer (some ⟨b, 0, none⟩)] w fun e w' => e = .returned (.string I) ∧ w' = w := by
  go_enter Try.func52, Try.ntmps52
  go_wp2
  go_ret
  exact ⟨rfl, rfl⟩

set_option maxHeartbeats 400000 in
theorem body_any (b : Nat) (t : ByteArray) (w : World) (h : w.cell? ⟨b, 1, none⟩ = some (.string t)) (hs : t.size ≤ 4194304) :
    Calls Try.prog 55 #[.pointer (some ⟨b, 0, none⟩)] w fun e w' => ∃ A R : ByteArray, ∃ c : Bool, e = .returned (.string R) ∧ CutIs t 32 A R c ∧ R.size ≤ t.size ∧ Below w.heap.size w w' := by
  go_enter Try.func55, Try.ntmps55
  go_wp2_with fail
  refine (pcut_any t 32 _ (by omega)).mono ?_
  rintro e w1 ⟨A, R, c, rfl, H1, hA, hR, _, hb1⟩
  have H1' : Hid _ := H1
  clear H1
  go_wp2_with fail
  go_ret
  exact ⟨A, R, c, rfl, H1'.out, hR, hb1⟩
end Go.Proofs.Ytdnfmpjcjhblbaa
