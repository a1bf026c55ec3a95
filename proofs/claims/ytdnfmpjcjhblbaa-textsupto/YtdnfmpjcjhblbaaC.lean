/-
  THE WALKS of Cut at one byte; common's methods.
-/
import Derived.Test.YtdnfmpjcjhblbaaB
namespace Go.Proofs.Ytdnfmpjcjhblbaa
open Go.RowKit

theorem indexByte_spec (l : List UInt8) (c : UInt8) : (Lib.indexByte l c = -1 ∧ ∀ x ∈ l, x ≠ c) ∨ ∃ i : Nat, Lib.indexByte l c = i ∧ l[i]? = some c ∧ ∀ x ∈ l.take i, x ≠ c := by
  induction l with
  | nil => left; simp [Lib.indexByte]
  | cons b l ih =>
    unfold Lib.indexByte
    by_cases hb : (b == c) = true
    · right
      have : b = c := by simpa using hb
      exact ⟨0, by rw [if_pos hb]; rfl, by simp [this], by simp⟩
    · have hb' : b ≠ c := fun e => hb (by simp [e])
      rw [if_neg hb]
      rcases ih with ⟨h1, h2⟩ | ⟨i, h1, h2, h3⟩
      · left
        exact ⟨by rw [h1]; rfl, by intro x hx; rcases List.mem_cons.1 hx with rfl | h; exact hb'; exact h2 x h⟩
      · right
        refine ⟨i + 1, ?_, by simpa using h2, ?_⟩
        · have : ¬ ((i : Int) == -1) = true := by simp
          rw [h1, if_neg this]; omega
        · intro x hx
          rw [List.take_succ_cons] at hx
          rcases List.mem_cons.1 hx with rfl | h
          · exact hb'
          · exact h3 x h

set_option maxHeartbeats 400000 in
theorem slcut_any (s : ByteArray) (c : UInt8) (w : World) (hs : s.size ≤ 4194304) :
    Calls Try.prog 28 #[.string s, .string ⟨#[c]⟩] w fun e w' => e = .returned (.tuple #[.string ⟨(M.cut1 s.data.toList c).1.toArray⟩, .string ⟨(M.cut1 s.data.toList c).2.1.toArray⟩, .bool (M.cut1 s.data.toList c).2.2]) ∧ ∃ n, w' = w.drewN n := by
  rcases indexByte_spec s.data.toList c with ⟨h1, h2⟩ | ⟨i, h1, h2, h3⟩
  · obtain ⟨e1, e2, e3⟩ := cut_missB s c s.size (Nat.le_refl _) (by intro x hx; exact h2 x (List.mem_of_mem_take hx))
    rw [e1, e2, e3]
    have HX : Hid (Lib.indexByte s.data.toList c = -1) := h1
    clear h1 h2 e1 e2 e3
    go_enter Try.func28, Try.ntmps28
    go_wp2_with (go_at_call 30; refine (Try.stringslite_Index_one _ c _).mono ?_; rintro e w' ⟨rfl, rfl⟩; rw [HX.out])
    go_ret3
    exact ⟨rfl, 0, rfl⟩
  · have hi : i < s.size := by
      rw [Lib.size_eq]
      exact (List.getElem?_eq_some_iff.1 h2).1
    have hci : s[i] = c := by
      have := (List.getElem?_eq_some_iff.1 h2).2
      exact this
    obtain ⟨e1, e2, e3⟩ := cut_hitB s c i hi h3 hci
    rw [e1, e2, e3]
    have HX : Hid (Lib.indexByte s.data.toList c = i) := h1
    clear h1 h2 e1 e2 e3 hci h3
    have c1 : (0 : Int) ≤ ↑i := by omega
    have c2 : (↑i : Int) ≤ ↑s.size := by omega
    have c3 : (0 : Int) ≤ ↑i + 1 := by omega
    have c4 : (↑i + 1 : Int) ≤ ↑s.size := by omega
    go_enter Try.func28, Try.ntmps28
    go_wp2_with (go_at_call 30; refine (Try.stringslite_Index_one _ c _).mono ?_; rintro e w' ⟨rfl, rfl⟩; rw [HX.out])
    go_quiet (fail)
    go_wp2
    go_ret3
    exact ⟨rfl, _, rfl⟩

set_option maxHeartbeats 400000 in
theorem scut_any (s : ByteArray) (c : UInt8) (w : World) (hs : s.size ≤ 4194304) :
    Calls Try.prog 25 #[.string s, .string ⟨#[c]⟩] w fun e w' => e = .returned (.tuple #[.string ⟨(M.cut1 s.data.toList c).1.toArray⟩, .string ⟨(M.cut1 s.data.toList c).2.1.toArray⟩, .bool (M.cut1 s.data.toList c).2.2]) ∧ ∃ n, w' = w.drewN n := by
  go_enter Try.func25, Try.ntmps25
  go_wp2_with (go_at_call 28; refine (slcut_any _ c _ hs).mono ?_; rintro e w' ⟨rfl, n, rfl⟩)
  go_ret3
  exact ⟨rfl, n, rfl⟩

end Go.Proofs.Ytdnfmpjcjhblbaa
