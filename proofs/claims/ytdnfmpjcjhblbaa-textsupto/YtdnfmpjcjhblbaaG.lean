/-
  THE WALK of refserveref.entries.
-/
import Derived.Test.YtdnfmpjcjhblbaaF
namespace Go.Proofs.Ytdnfmpjcjhblbaa
open Go.RowKit

def EInv (s last : List UInt8) (rest acc : List (List UInt8)) : Prop := M.entries s = (M.ents last rest).map (acc ++ ·)
theorem EInv.start (s : List UInt8) (h : s ≠ []) : EInv s [] (M.splitC s 44) [] := by
  unfold EInv M.entries; rw [if_neg h]; simp
theorem EInv.empty : EInv [] [] [] [] := by
  unfold EInv M.entries; simp [M.ents]
theorem EInv.step {s last p : List UInt8} {ps acc : List (List UInt8)} (h : EInv s last (p :: ps) acc) {n x : List UInt8} {ok : Bool} (hc : M.cut1 p 61 = (n, x, ok)) (hn : M.nameB n = true) (hx : M.idB x = true) (hl : M.leS n last = false) : EInv s n ps (acc ++ [x]) := by
  unfold EInv at *
  rw [h, M.ents, if_pos (by unfold M.entOk; rw [hc]; simp [hn, hx, hl]), hc, Option.map_map]
  congr 1; funext r; simp
theorem EInv.fail {s last p : List UInt8} {ps acc : List (List UInt8)} (h : EInv s last (p :: ps) acc) {n x : List UInt8} {ok : Bool} (hc : M.cut1 p 61 = (n, x, ok)) (hf : (M.nameB n && M.idB x && !M.leS n last) = false) : M.entries s = none := by
  unfold EInv at h
  rw [h, M.ents, if_neg (by unfold M.entOk; rw [hc]; simpa using hf)]; rfl
theorem EInv.done {s last : List UInt8} {acc : List (List UInt8)} (h : EInv s last [] acc) : M.entries s = some acc := by
  unfold EInv at h; rw [h]; simp [M.ents]
theorem cut1_nohit {p : List UInt8} {c : UInt8} {n x : List UInt8} (hc : M.cut1 p c = (n, x, false)) : x = [] := by
  by_cases h : ∀ y ∈ p, y ≠ c
  · rw [M.cut1_miss c p h] at hc; simp at hc; exact hc.2
  · exfalso
    have hm : c ∈ p := by
      apply Classical.byContradiction; intro hn; exact h fun y hy e => hn (e ▸ hy)
    clear h
    induction p generalizing n x with
    | nil => simp at hm
    | cons b l ih =>
      unfold M.cut1 at hc
      split at hc
      · simp at hc
      · rename_i hb
        simp only [Prod.mk.injEq] at hc
        rcases List.mem_cons.1 hm with e | hm'
        · exact hb (by simp [e])
        · exact ih (n := (M.cut1 l c).1) (x := (M.cut1 l c).2.1) (by rw [← hc.2.2]) hm'
theorem idB_nil : M.idB [] = false := by decide

/-- the loop's measure -/
def eMsr : Value → Value → Nat
  | .string s, .bool true => s.size + 1
  | _, _ => 0
def restOf (R : ByteArray) (b : Bool) : List (List UInt8) := if b then M.splitC R.data.toList 44 else []
theorem restOf_cut {S A R : ByteArray} {b : Bool} (h : CutIs S 44 A R b) : restOf S true = A.data.toList :: restOf R b := by
  unfold restOf
  rw [if_pos rfl, M.splitC_cut, h]
theorem restOf_le {s S A R : ByteArray} {b : Bool} {a : Nat} (h : CutIs S 44 A R b) (hl : a + (restOf S true).length ≤ s.size + 1) : a + 1 + (restOf R b).length ≤ s.size + 1 ∧ a ≤ s.size := by
  rw [restOf_cut h] at hl
  simp at hl; omega

theorem einv_start (s : ByteArray) : EInv s.data.toList (⟨#[]⟩ : ByteArray).data.toList (restOf s !s.toList.isEmpty) (listsOf []) := by
  rw [Lib.toList_data]
  show EInv s.data.toList [] _ []
  by_cases h : s.data.toList = []
  · rw [h]; exact EInv.empty
  · rw [show (!s.data.toList.isEmpty) = true from by simpa using h]
    exact EInv.start _ h
theorem erest_start (s : ByteArray) : ([] : List ByteArray).length + (restOf s !s.toList.isEmpty).length ≤ s.size + 1 := by
  have := M.splitC_len 44 s.data.toList
  rw [← Lib.size_eq] at this
  unfold restOf
  split <;> simp; omega

set_option maxHeartbeats 1000000 in
theorem rents_any (s : ByteArray) (w : World) (hs : s.size ≤ 2097152) :
    Calls Try.prog 23 #[.string s] w fun e w' => ∃ v ok, e = .returned (.tuple #[v, .bool ok]) ∧ Ans w' w.heap.size (M.entries s.data.toList) v ok ∧ Below w.heap.size w w' := by
  obtain ⟨i0, hi, hz0, hz1, hz2⟩ := info_parts Try.info9
  go_enter Try.func23, Try.ntmps23
  go_wp2
  go_loopw [0, 4, 5, 6] (fun t v l m wr => ∃ (S last : ByteArray) (b : Bool) (acc : List ByteArray), t = .string S ∧ l = .string last ∧ m = .bool b ∧ S.size ≤ s.size ∧
      Strs wr w.heap.size v acc ∧ Hid (EInv s.data.toList last.data.toList (restOf S b) (listsOf acc)) ∧ Hid (acc.length + (restOf S b).length ≤ s.size + 1) ∧ Below w.heap.size w wr) (fun t _ _ m _ => eMsr t m)
  case atStart =>
    refine ⟨s, ⟨#[]⟩, _, [], rfl, rfl, rfl, Nat.le_refl _, World.ownsRow_nil _ _ _ _, ?_, ?_, Below.refl _ _⟩
    · exact einv_start s
    · exact erest_start s
  case round =>
    obtain ⟨S, last, b, acc, rfl, rfl, rfl, hS, hown, HE, HL, hb⟩ := hrel
    cases b
    · have hd := HE.out
      simp only [restOf, Bool.false_eq_true, if_false] at hd
      have HD : Hid _ := hd.done
      have HO : Hid _ := hown
      clear hd hown HE HL
      go_wp2
      go_ret2
      exact ⟨_, _, rfl, ⟨acc, HO.out, .inl ⟨rfl, HD.out⟩⟩, hb⟩
    · have HO : Hid _ := hown
      clear hown
      go_wp2_with fail
      refine (rcut_any S 44 44 rfl _ (by omega)).mono ?_
      rintro e w1 ⟨A, R, b, rfl, HC, hA, hR, HSh, hb1⟩
      have HE1 : Hid (EInv s.data.toList last.data.toList (A.data.toList :: restOf R b) (listsOf acc)) := by rw [← restOf_cut HC]; exact HE.out
      have HL1 : Hid _ := restOf_le (s := s) HC HL.out
      have HSh' : Hid _ := HSh
      clear HC HSh HE HL
      go_wp2_with fail
      refine (rcut_any A 61 61 rfl _ (by omega)).mono ?_
      rintro e w2 ⟨N, X, ok, rfl, HD, hN, hX, _, hb2⟩
      have HD' : Hid _ := HD
      clear HD
      go_wp2_with fail
      refine (name_any N _ (by omega)).mono ?_
      rintro e w3 ⟨rfl, rfl⟩
      generalize hna : M.nameB N.data.toList = na
      have HNA : Hid _ := hna
      clear hna
      go_wp2_with fail
      refine (id_any X _ (by omega)).mono ?_
      rintro e w4 ⟨rfl, rfl⟩
      generalize hib : M.idB X.data.toList = ib
      have HIB : Hid _ := hib
      clear hib
      have hbb : Below w.heap.size w w4 := (hb.trans (hb1.mono hb.size)).trans (hb2.mono (Nat.le_trans hb.size hb1.size))
      have HO' : Hid _ := (Strs.below (Strs.below HO.out hb1) hb2)
      have hsz : w.heap.size ≤ w4.heap.size := hbb.size
      have hfail : (na && ib && !M.leS N.data.toList last.data.toList) = false → M.entries s.data.toList = none := fun h => HE1.out.fail HD'.out (by rw [HNA.out, HIB.out]; exact h)
      have HF : Hid _ := hfail
      clear hb1 hb2 HO hfail
      cases ok
      · have hx0 : ib = false := by rw [← HIB.out, cut1_nohit HD'.out]; exact idB_nil
        have HX0 : Hid _ := hx0
        clear hx0
        go_wp2_with fail
        go_ret2
        exact ⟨_, _, rfl, by rw [HF.out (by rw [HX0.out]; simp)]; exact ans_none _ _, hbb⟩
      · cases na
        · go_wp2_with fail
          go_ret2
          exact ⟨_, _, rfl, by rw [HF.out (by simp)]; exact ans_none _ _, hbb⟩
        · cases ib
          · go_wp2_with fail
            go_ret2
            exact ⟨_, _, rfl, by rw [HF.out (by simp)]; exact ans_none _ _, hbb⟩
          · cases hle : M.leS N.data.toList last.data.toList
            · have h2 := hle
              unfold M.leS at h2
              rw [Bool.or_eq_false_iff, ← Lib.toList_data, ← Lib.toList_data] at h2
              obtain ⟨h2a, h2b⟩ := h2
              have HLE : Hid _ := hle
              clear hle
              go_wp2_with (at_builtin; refine wpList_append_own _ rfl _ _ 28 rfl w.heap.size 9 i0 (.string ⟨#[]⟩) 1 16 Try.underlying28 hi hz0 hz1 hz2 rfl (by decide) _ acc.length (acc.map Value.string) rfl (World.ownsRow.alloc HO'.out _) ⟨w4.heap.size, 0, none⟩ 1 1 [.string X] rfl rfl ?c1 ?c2 ?c3 ?c4 ?c5 ?_)
              case c1 => exact cell_one_new _ _ _
              case c2 => intro u hu; simp at hu; subst hu; rfl
              case c3 => have := HL1.out; unfold maxLen; omega
              case c4 => have := HL1.out; omega
              case c5 => simp; omega
              intro v' w5 hown5 hgrow _
              have hb5 : Below w.heap.size w w5 := (hbb.alloc hsz _).grown hgrow (by simp; omega) (fun k hk => (World.ownsRow.lt HO'.out k hk).1)
              have HS5 : Hid (Strs w5 w.heap.size v' (acc ++ [X])) := by
                show World.ownsRow _ _ _ _ _ _ _
                rw [List.length_append, List.map_append]; exact hown5
              have HE5 : Hid _ := HE1.out.step HD'.out HNA.out HIB.out HLE.out
              clear hgrow hown5
              go_wp2
              go_roundw
              case rel => exact ⟨R, N, b, acc ++ [X], rfl, rfl, rfl, by omega, HS5.out, by rw [listsOf_snoc]; exact HE5, by have := HL1.out; rw [List.length_append]; exact this.1, hb5⟩
              case measure =>
                have := HSh'.out
                cases b
                · simp [eMsr]
                · have := this rfl
                  simp [eMsr]; omega
            · have h2 := hle
              unfold M.leS at h2
              rw [← Lib.toList_data, ← Lib.toList_data] at h2
              have HLE : Hid _ := hle
              clear hle
              cases h3 : Op.bytesLess N.toList last.toList
              · rw [h3, Bool.false_or] at h2
                go_wp2_with fail
                go_ret2
                exact ⟨_, _, rfl, by rw [HF.out (by rw [HLE.out]; simp)]; exact ans_none _ _, hbb⟩
              · clear h2
                go_wp2_with fail
                go_ret2
                exact ⟨_, _, rfl, by rw [HF.out (by rw [HLE.out]; simp)]; exact ans_none _ _, hbb⟩
end Go.Proofs.Ytdnfmpjcjhblbaa
