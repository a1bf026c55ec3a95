/-
  THE WALK of refservelaw.texts.
-/
import Derived.Test.YtdnfmpjcjhblbaaQ
namespace Go.Proofs.Ytdnfmpjcjhblbaa
open Go.RowKit

theorem listsOf_inj : ∀ {a b : List ByteArray}, listsOf a = listsOf b → a = b
  | [], [], _ => rfl
  | [], _ :: _, h => by simp [listsOf] at h
  | _ :: _, [], h => by simp [listsOf] at h
  | x :: a, y :: b, h => by
    simp only [listsOf, List.map_cons, List.cons.injEq] at h
    have h1 : x = y := by rw [← Lib.mk_data x, h.1, Lib.mk_data]
    rw [h1, listsOf_inj (a := a) (b := b) h.2]

/-- one text, asked twice -/
theorem Ans.agree {w w' : World} {B B' : Nat} {r : Option (List (List UInt8))} {va vb : Value} {oka okb : Bool} (ha : Ans w B r va oka) (hb : Ans w' B' r vb okb) :
    okb = oka ∧ ∃ ids : List ByteArray, Strs w B va ids ∧ Strs w' B' vb ids ∧ ((oka = true ∧ r = some (listsOf ids)) ∨ (oka = false ∧ r = none ∧ ids = [])) := by
  obtain ⟨ia, hsa, hoa⟩ := ha
  obtain ⟨ib, hsb, hob⟩ := hb
  rcases hoa with ⟨rfl, h1⟩ | ⟨rfl, h1, h2⟩
  · rcases hob with ⟨rfl, h3⟩ | ⟨_, h3, _⟩
    · rw [h1, Option.some.injEq] at h3
      obtain rfl := listsOf_inj h3
      exact ⟨rfl, ia, hsa, hsb, .inl ⟨rfl, h1⟩⟩
    · rw [h1] at h3; cases h3
  · rcases hob with ⟨_, h3⟩ | ⟨rfl, _, h4⟩
    · rw [h1] at h3; cases h3
    · subst h2; subst h4
      exact ⟨rfl, [], World.ownsRow_nil _ _ _ _, World.ownsRow_nil _ _ _ _, .inr ⟨rfl, h1, rfl⟩⟩
theorem Strs.some_of {w : World} {B : Nat} {v : Value} {ids : List ByteArray} (h : Strs w B v ids) (hn : ids.length ≠ 0) : ∃ g c, v = .slice (some ⟨g, 0, none⟩) ids.length c ∧ B ≤ g ∧ g < w.heap.size ∧ RowIs w g ids.length ids ∧ ∀ j, w.frozen? ⟨g, j, none⟩ = false := by
  rcases h.2 with ⟨_, h0⟩ | ⟨g, cap, cur, rfl, hg, hh, _⟩
  · exact absurd h0 hn
  · refine ⟨g, cap, rfl, hg, (Array.getElem?_eq_some_iff.1 hh).1, ?_, fun j => frozen_of_row w g j _ _ hh⟩
    intro k hk
    have := strs_cells h k hk
    rwa [Nat.zero_add] at this

/-- the cells from k on hold what they held -/
def RowFrom (w : World) (g k n : Nat) (ids : List ByteArray) : Prop := ∀ j, k ≤ j → j < n → w.cell? ⟨g, j, none⟩ = some (.string (ids.getD j ByteArray.empty))
theorem RowFrom.step {w w' : World} {g k n : Nat} {ids : List ByteArray} {u : Value} (h : RowFrom w g k n ids) (hw : ∀ j, k + 1 ≤ j → w'.cell? ⟨g, j, none⟩ = (w.setCell ⟨g, k, none⟩ u).cell? ⟨g, j, none⟩) : RowFrom w' g (k + 1) n ids := by
  intro j h1 h2
  rw [hw j h1, World.cell?_setCell_other _ _ _ _ (by intro e; simp only [Addr.mk.injEq] at e; omega)]
  exact h j (by omega) h2

set_option maxHeartbeats 2000000 in
theorem texts_any (s : ByteArray) (w : World) (hm : MaxLenIs w) (h0 : 0 < w.heap.size) (hs : s.size ≤ 2097152) :
    Calls Try.prog 4 #[.string s] w fun e w' => e = .returned (.bool true) ∧ Below w.heap.size w w' := by
  have HM : Hid (MaxLenIs w) := hm
  have HM0 : Hid (MaxLenIs w) := hm
  clear hm
  go_enter Try.func4, Try.ntmps4
  go_wp2_with fail
  refine (srvID_any s _ (by omega)).mono ?_
  rintro e w1 ⟨rfl, hb1⟩
  generalize hI : (⟨(M.idOf s.data.toList).toArray⟩ : ByteArray) = I
  have HI : Hid _ := hI
  clear hI
  go_wp2_with fail
  refine (refID_any s _ (by omega)).mono ?_
  rintro e w2 ⟨rfl, rfl⟩
  rw [HI.out]
  go_wp2_with fail
  refine (srvPacket_any s _ (by omega)).mono ?_
  rintro e w3 ⟨rfl, hb3⟩
  generalize hK : (⟨(M.packet s.data.toList).toArray⟩ : ByteArray) = K
  have HK : Hid _ := hK
  clear hK
  go_wp2_with fail
  refine (refPacket_any s _ (by omega)).mono ?_
  rintro e w4 ⟨rfl, rfl⟩
  rw [HK.out]
  have hs1 := hb1.size
  have hs3 := hb3.size
  have hb4 : Below w.heap.size w w4 := hb1.trans (hb3.mono hs1)
  have HM4 : Hid (MaxLenIs w4) := HM.out.below hb4 h0
  have hs4 := hb4.size
  clear hb1 hb3 HM
  go_wp2_with fail
  refine (slook_any s _ HM4.out (by omega) hs).mono ?_
  rintro e w5 ⟨va, oka, rfl, hAa, hb5⟩
  have hs5 := hb5.size
  have HA : Hid (Ans w5 w4.heap.size (M.look s.data.toList) va oka) := hAa
  have HLt : Hid (∀ k, va.ownBlock = some k → k < w5.heap.size) := by
    obtain ⟨ia, h, _⟩ := hAa
    exact fun k hk => (World.ownsRow.lt h k hk).2
  clear hAa
  go_wp2_with fail
  refine (rlook_any s _ hs).mono ?_
  rintro e w6 ⟨vb, okb, rfl, hAb, hb6⟩
  have hs6 := hb6.size
  have HA6 : Hid (Ans w6 w4.heap.size (M.look s.data.toList) va oka) := HA.out.below hb6
  have HB6 : Hid (Ans w6 w5.heap.size (M.look s.data.toList) vb okb) := hAb
  have hbb : Below w.heap.size w w6 := (hb4.trans (hb5.mono hs4)).trans (hb6.mono (by omega))
  have HM6 : Hid (MaxLenIs w6) := HM4.out.below ((hb5.mono (Nat.le_refl _)).trans (hb6.mono hs5)) (by omega)
  clear hAb HA hb4 hb5 hb6 HM4
  obtain ⟨hok, ids, hSa, hSb, hL⟩ := HA6.out.agree HB6.out
  subst hok
  have HL : Hid _ := hL
  have hlen : ids.length ≤ 2097155 := by
    rcases hL with ⟨_, h⟩ | ⟨_, _, h⟩
    · have := look_len h
      rw [← Lib.size_eq] at this
      simp [listsOf] at this; omega
    · subst h; simp
  by_cases hn : ids.length = 0
  · have hids : ids = [] := List.eq_nil_of_length_eq_zero hn
    obtain ⟨aa, ca, hva⟩ := hSa.shape' hn
    obtain ⟨ab, cb, hvb⟩ := hSb.shape' hn
    subst hva hvb
    have HN : Hid _ := hn
    clear hn hL hSa hSb HB6 hids
    go_wp2_with fail
    refine wp_loop_rounds 1 ?_
    rw [rounds_succ]
    go_wp2_with fail
    refine (slook_any s _ HM6.out (by omega) hs).mono ?_
    rintro e w7 ⟨vk, okk, rfl, hAk, hb7⟩
    obtain ⟨hokk, idk, _, hSk, hLk⟩ := HA6.out.agree hAk
    subst hokk
    have hnk : idk.length = 0 := by
      rcases hLk with ⟨h1, h⟩ | ⟨_, _, h⟩
      · rcases HL.out with ⟨_, h'⟩ | ⟨h1', _⟩
        · rw [h, Option.some.injEq] at h'
          rw [listsOf_inj h']; exact HN.out
        · rw [h1] at h1'; cases h1'
      · subst h; rfl
    obtain ⟨ak, ck, hvk⟩ := hSk.shape' hnk
    subst hvk
    have hb8 : Below w.heap.size w w7 := hbb.trans (hb7.mono (by omega))
    clear hAk hSk hLk hnk hb7 hbb HA6 HM6
    go_wp2_with fail
    refine wp_loop_rounds 1 ?_
    rw [rounds_succ]
    go_wp2_with fail
    go_ret
    exact ⟨rfl, hb8⟩
  · obtain ⟨ga, ca, hva, hga, hga6, hRa, hFa⟩ := hSa.some_of hn
    obtain ⟨gb, cb, hvb, hgb, hgb6, hRb, hFb⟩ := hSb.some_of hn
    subst hva hvb
    have hga5 : ga < w5.heap.size := HLt.out ga rfl
    have hLk : M.look s.data.toList = some (listsOf ids) ∧ okb = true := by
      rcases hL with ⟨h1, h⟩ | ⟨_, _, h⟩
      · exact ⟨h, h1⟩
      · subst h; exact absurd rfl hn
    obtain ⟨hLo, rfl⟩ := hLk
    have HLo : Hid _ := hLo
    have HRa : Hid (RowFrom w6 ga 0 ids.length ids) := fun j _ hj => hRa j hj
    have HRb : Hid (RowIs w6 gb ids.length ids) := hRb
    have HFa : Hid (∀ j, w6.frozen? ⟨ga, j, none⟩ = false) := hFa
    clear hFb hRa hRb hFa hL hSa hSb HA6 HB6 hLo HL
    generalize hNN : ids.length = n at *
    have HNN : Hid _ := hNN
    clear hNN
    go_wp2_with fail
    go_loopw [11] (fun i wr => ∃ k : Nat, k ≤ n ∧ i = .int .i64 k ∧ Hid (RowFrom wr ga k n ids) ∧ Hid (RowIs wr gb n ids) ∧ Hid (∀ j, wr.frozen? ⟨ga, j, none⟩ = false) ∧ Below w.heap.size w wr ∧ w6.heap.size ≤ wr.heap.size) (fun i _ => n - (intOf i).toNat)
    case atStart => exact ⟨0, Nat.zero_le _, rfl, HRa, HRb, HFa, hbb, Nat.le_refl _⟩
    case round =>
      clear HRa HRb HFa hbb
      obtain ⟨k, hk, rfl, HRa, HRb, HFa, hbb, hsr⟩ := hrel
      by_cases hlt : k < n
      · obtain ⟨X, hX⟩ : ∃ X, X = ids.getD k ByteArray.empty := ⟨_, rfl⟩
        have hca : wr.cell? ⟨ga, k, none⟩ = some (.string X) := by rw [hX]; exact HRa.out k (Nat.le_refl _) hlt
        have hcb : wr.cell? ⟨gb, k, none⟩ = some (.string X) := by rw [hX]; exact HRb.out k hlt
        have hfa : wr.frozen? ⟨ga, k, none⟩ = false := HFa.out k
        have hki : (k : Int) < (n : Int) := by omega
        clear hX
        go_wp2_with fail
        go_quiet (fail)
        go_wp2
        go_roundw
        case rel =>
          refine ⟨k + 1, by omega, by go_num, ?_, ?_, ?_, ?_, ?_⟩
          · exact HRa.out.step (fun j _ => rfl)
          · exact HRb.out.of_block (heap_setCell_other _ _ _ _ (by show gb ≠ ga; omega))
          · intro j
            rw [World.frozen?_setCell]
            exact HFa.out j
          · exact (below_drewN hbb _).setCell (by show w.heap.size ≤ ga; omega) _
          · simp [World.setCell]; exact hsr
        case measure => simp [intOf]; omega
      · have HM7 : Hid (MaxLenIs wr) := HM0.out.below hbb h0
        go_wp2_with fail
        refine (slook_any s _ HM7.out (by have := hbb.size; omega) hs).mono ?_
        rintro e w7 ⟨vk, okk, rfl, hAk, hb7⟩
        have hkk : okk = true ∧ Strs w7 wr.heap.size vk ids := by
          obtain ⟨idk, h1, h2⟩ := hAk
          rcases h2 with ⟨h3, h4⟩ | ⟨_, h4, _⟩
          · rw [HLo.out, Option.some.injEq] at h4
            obtain rfl := listsOf_inj h4
            exact ⟨h3, h1⟩
          · rw [HLo.out] at h4; cases h4
        obtain ⟨rfl, hSk⟩ := hkk
        obtain ⟨gk, ck, hvk, hgk, hgk7, hRk, _⟩ := hSk.some_of (by rw [HNN.out]; exact hn)
        rw [HNN.out] at hvk hRk
        subst hvk
        have HRk : Hid (RowIs w7 gk n ids) := hRk
        have HRb7 : Hid (RowIs w7 gb n ids) := HRb.out.below hb7 (by omega)
        have hb8 : Below w.heap.size w w7 := hbb.trans (hb7.mono hbb.size)
        clear hAk hSk hRk HRb HRa HFa hb7 hbb
        go_wp2_with fail
        go_loopw [14] (fun i wq => ∃ k : Nat, k ≤ n ∧ i = .int .i64 k ∧ Hid (RowIs wq gk n ids) ∧ Hid (RowIs wq gb n ids) ∧ Below w.heap.size w wq) (fun i _ => n - (intOf i).toNat)
        case atStart => exact ⟨0, Nat.zero_le _, rfl, HRk, HRb7, hb8⟩
        case round =>
          clear HRk HRb7 hb8
          obtain ⟨k, hk, rfl, HRk, HRb, hbb⟩ := hrel
          by_cases hlt : k < n
          · obtain ⟨X, hX⟩ : ∃ X, X = ids.getD k ByteArray.empty := ⟨_, rfl⟩
            have hca : wr.cell? ⟨gk, k, none⟩ = some (.string X) := by rw [hX]; exact HRk.out k hlt
            have hcb : wr.cell? ⟨gb, k, none⟩ = some (.string X) := by rw [hX]; exact HRb.out k hlt
            have hki : (k : Int) < (n : Int) := by omega
            clear hX
            go_wp2_with fail
            go_quiet (fail)
            go_wp2
            go_roundw
            case rel => exact ⟨k + 1, by omega, by go_num, HRk.out.of_block rfl, HRb.out.of_block rfl, below_drewN hbb _⟩
            case measure => simp [intOf]; omega
          · go_wp2_with fail
            go_ret
            exact ⟨rfl, hbb⟩
end Go.Proofs.Ytdnfmpjcjhblbaa
