/-
  THE WALK of Parse.
-/
import Derived.Test.YtdnfmpjcjhblbaaO
import Derived.Test.YtdnfmpjcjhblbaaI
namespace Go.Proofs.Ytdnfmpjcjhblbaa
open Go.RowKit

theorem m_blob_read (g : Nat) (w : World) : (method 197 59 (.pointer (some ⟨g, 0, none⟩)) "refserve/object.read").run Try.prog w = .ok (74, .pointer (some ⟨g, 0, none⟩)) w := by kernel_rfl
theorem m_blob_ID (g : Nat) (w : World) : (method 197 59 (.pointer (some ⟨g, 0, none⟩)) "ID").run Try.prog w = .ok (52, .pointer (some ⟨g, 0, none⟩)) w := by kernel_rfl
theorem m_tree_read (g : Nat) (w : World) : (method 197 45 (.pointer (some ⟨g, 0, none⟩)) "refserve/object.read").run Try.prog w = .ok (54, .pointer (some ⟨g, 0, none⟩)) w := by kernel_rfl
theorem m_tree_ID (g : Nat) (w : World) : (method 197 45 (.pointer (some ⟨g, 0, none⟩)) "ID").run Try.prog w = .ok (52, .pointer (some ⟨g, 0, none⟩)) w := by kernel_rfl
theorem m_commit_read (g : Nat) (w : World) : (method 197 51 (.pointer (some ⟨g, 0, none⟩)) "refserve/object.read").run Try.prog w = .ok (69, .pointer (some ⟨g, 0, none⟩)) w := by kernel_rfl
theorem m_commit_ID (g : Nat) (w : World) : (method 197 51 (.pointer (some ⟨g, 0, none⟩)) "ID").run Try.prog w = .ok (52, .pointer (some ⟨g, 0, none⟩)) w := by kernel_rfl

/-- what Parse hands back: B: the heap's size when the call began -/
def Parsed (B : Nat) (t : List UInt8) (v : Value) (ok : Bool) (w' : World) : Prop :=
  (ok = false ∧ M.look t = none) ∨
  (ok = true ∧ M.look t = some [] ∧ ∃ g, v = .iface 59 (.pointer (some ⟨g, 0, none⟩))) ∨
  (ok = true ∧ ∃ (g : Nat) (I T : ByteArray) (f : Value) (ids : List ByteArray), v = .iface 45 (.pointer (some ⟨g, 0, none⟩)) ∧ w'.heap[g]? = some (.cells #[.string I, .string T, f] 50 (0, 0)) ∧ Strs w' B f ids ∧ M.look t = some (listsOf ids)) ∨
  (ok = true ∧ ∃ (g : Nat) (I X T : ByteArray) (f : Value) (ids : List ByteArray), v = .iface 51 (.pointer (some ⟨g, 0, none⟩)) ∧ w'.heap[g]? = some (.cells #[.string I, .string X, .string T, f] 53 (0, 0)) ∧ Strs w' B f ids ∧ ids.length ≤ 2 ∧ M.look t = some (T.data.toList :: listsOf ids))

theorem look_none_of {t A R : ByteArray} {b : Bool} (h : CutIs t 32 A R b) (hn : b = false ∨ ((A.data.toList == M.blobW) = false ∧ (A.data.toList == M.treeW) = false ∧ (A.data.toList == M.commitW) = false)) : M.look t.data.toList = none := by
  rcases hn with rfl | ⟨h1, h2, h3⟩
  · exact look_no h (.inl rfl)
  · unfold M.look; rw [parse_none h h1 h2 h3]; split <;> rfl
theorem look_of_parse {t A R I : ByteArray} {b : Bool} (h : CutIs t 32 A R b) (hb : b = true) (hI : M.idOf t.data.toList = I.data.toList) : M.look t.data.toList = if (I.toList == M.zero8) then none else M.parse t.data.toList := by
  unfold M.look; rw [h, hI, Lib.toList_data]; subst hb; simp
theorem look_parse_none {t A R : ByteArray} {b : Bool} (_h : CutIs t 32 A R b) (hp : M.parse t.data.toList = none) : M.look t.data.toList = none := by
  unfold M.look; rw [hp]; split <;> rfl

set_option maxHeartbeats 2000000 in
theorem parse_any (t : ByteArray) (w : World) (hm : MaxLenIs w) (h0 : 0 < w.heap.size) (hs : t.size ≤ 2097152) :
    Calls Try.prog 13 #[.string t] w fun e w' => ∃ v ok, e = .returned (.tuple #[v, .bool ok]) ∧ Parsed w.heap.size t.data.toList v ok w' ∧ Below w.heap.size w w' := by
  have hmr1 := m_blob_read
  have hmr2 := m_tree_read
  have hmr3 := m_commit_read
  have hmi1 := m_blob_ID
  have hmi2 := m_tree_ID
  have hmi3 := m_commit_ID
  have HM : Hid (MaxLenIs w) := hm
  clear hm
  go_enter Try.func13, Try.ntmps13
  go_wp2_with fail
  refine (unread_any t _ (by omega)).mono ?_
  rintro e w1 ⟨A, R, I, b, v, rfl, H1, HI, HU, hb1, hlt⟩
  have H1' : Hid (CutIs t 32 A R b) := H1
  have HI' : Hid (M.idOf t.data.toList = I.data.toList) := HI
  have HL : Hid _ := hlt
  have HM1 : Hid (MaxLenIs w1) := HM.out.below hb1 h0
  clear H1 HI hlt HM
  rcases HU with ⟨hno, rfl⟩ | ⟨rfl, hk, g, rfl, hblk, hgs⟩ | ⟨rfl, hk, hk2, g, rfl, hblk, hgs⟩ | ⟨rfl, hk, hk2, hk3, g, rfl, hblk, hgs⟩
  · have HN : Hid _ := look_none_of H1'.out hno
    clear hno
    go_wp2_with fail
    go_ret2
    exact ⟨_, _, rfl, .inl ⟨rfl, HN.out⟩, hb1⟩
  · have hlt := HL.out (by simp)
    have hc0 : w1.cell? ⟨g, 0, none⟩ = some (.string I) := by rw [cell_of_row w1 g 0 _ _ _ hblk]; rfl
    have hc1 : w1.cell? ⟨g, 1, none⟩ = some (.string t) := by rw [cell_of_row w1 g 1 _ _ _ hblk]; rfl
    have HPB : Hid _ := parse_blob H1'.out hk
    have HLP : Hid _ := look_of_parse H1'.out rfl HI'.out
    clear hblk hk HL
    have hgw : g < w1.heap.size := by omega
    go_wp2_with fail
    refine (bread_any g t _ hc1 (by omega)).mono ?_
    rintro e w2 ⟨rfl, hb2⟩
    generalize hlb : M.lineB (M.cut1 t.data.toList 32).2.1 40 = lb
    have HLB : Hid (M.parse t.data.toList = if lb then some [] else none) := by
      show M.parse _ = _
      rw [HPB.out, ← hlb, H1'.out]
    clear hlb HPB
    have hc02 : w2.cell? ⟨g, 0, none⟩ = some (.string I) := by rw [hb2.cell (by exact hgw)]; exact hc0
    have hbb : Below w.heap.size w w2 := hb1.trans (hb2.mono (by omega))
    clear hc0 hc1 hb1 hb2
    cases lb
    · go_wp2_with fail
      go_ret2
      exact ⟨_, _, rfl, .inl ⟨rfl, look_parse_none H1'.out (by rw [HLB.out]; rfl)⟩, hbb⟩
    · cases hz : (I.toList == M.zero8)
      · have hz' : (I.toList == [48, 48, 48, 48, 48, 48, 48, 48]) = false := hz
        have HLL : Hid (M.look t.data.toList = some []) := by
          show M.look _ = _
          rw [HLP.out, hz, HLB.out]; rfl
        clear hz
        go_wp2_with fail
        refine (comID_any g I _ hc02).mono ?_
        rintro e w3 ⟨rfl, rfl⟩
        go_wp2_with fail
        go_ret2
        exact ⟨_, _, rfl, .inr (.inl ⟨rfl, HLL.out, g, rfl⟩), hbb⟩
      · have hz' : (I.toList == [48, 48, 48, 48, 48, 48, 48, 48]) = true := hz
        have HLL : Hid (M.look t.data.toList = none) := by
          show M.look _ = _
          rw [HLP.out, hz]; rfl
        clear hz
        go_wp2_with fail
        refine (comID_any g I _ hc02).mono ?_
        rintro e w3 ⟨rfl, rfl⟩
        go_wp2_with fail
        go_ret2
        exact ⟨_, _, rfl, .inl ⟨rfl, HLL.out⟩, hbb⟩
  · have hlt := HL.out (by simp)
    have HPB : Hid _ := parse_tree H1'.out hk hk2
    have HLP : Hid _ := look_of_parse H1'.out rfl HI'.out
    have HB : Hid _ := hblk
    have hgw : g < w1.heap.size := by omega
    have hwg : w.heap.size ≤ g := by omega
    clear hblk hk HL hk2
    go_wp2_with fail
    refine (tread_any g I t _ HB.out (by omega) HM1.out (by omega)).mono ?_
    rintro e w2 ⟨f, ok, rfl, hB2, hF2, hb2⟩
    have HF2 : Hid (Fld w2 w1.heap.size (M.parse t.data.toList) f ok) := by
      show Fld _ _ _ _ _
      rw [HPB.out]
      have h := hF2
      rw [H1'.out] at h
      exact h
    have hc02 : w2.cell? ⟨g, 0, none⟩ = some (.string I) := by rw [cell_of_row w2 g 0 _ _ _ hB2]; rfl
    have HB2 : Hid _ := hB2
    have hbb : Below w.heap.size w w2 := hb1.trans (hb2.mono hwg)
    have hsz1 := hb1.size
    clear hB2 hF2 HB HPB hb1 hb2
    cases ok
    · have HLL : Hid (M.look t.data.toList = none) := by
        obtain ⟨ids, _, h⟩ := HF2.out
        rcases h with ⟨h, _⟩ | ⟨_, h⟩
        · cases h
        · exact look_parse_none H1'.out h
      go_wp2_with fail
      go_ret2
      exact ⟨_, _, rfl, .inl ⟨rfl, HLL.out⟩, hbb⟩
    · cases hz : (I.toList == M.zero8)
      · have hz' : (I.toList == [48, 48, 48, 48, 48, 48, 48, 48]) = false := hz
        have HPP : Hid (M.look t.data.toList = M.parse t.data.toList) := by
          show M.look _ = _
          rw [HLP.out, hz]; rfl
        clear hz
        go_wp2_with fail
        refine (comID_any g I _ hc02).mono ?_
        rintro e w3 ⟨rfl, rfl⟩
        go_wp2_with fail
        go_ret2
        refine ⟨_, _, rfl, .inr (.inr (.inl ⟨rfl, ?_⟩)), hbb⟩
        obtain ⟨ids, hS, h⟩ := HF2.out
        rcases h with ⟨_, h⟩ | ⟨h, _⟩
        · exact ⟨g, I, t, f, ids, rfl, HB2.out, hS.base hsz1, by rw [HPP.out]; exact h⟩
        · cases h
      · have hz' : (I.toList == [48, 48, 48, 48, 48, 48, 48, 48]) = true := hz
        have HLL : Hid (M.look t.data.toList = none) := by
          show M.look _ = _
          rw [HLP.out, hz]; rfl
        clear hz
        go_wp2_with fail
        refine (comID_any g I _ hc02).mono ?_
        rintro e w3 ⟨rfl, rfl⟩
        go_wp2_with fail
        go_ret2
        exact ⟨_, _, rfl, .inl ⟨rfl, HLL.out⟩, hbb⟩
  · have hlt := HL.out (by simp)
    have HPB : Hid _ := parse_commit H1'.out hk hk2 hk3
    have HLP : Hid _ := look_of_parse H1'.out rfl HI'.out
    have HB : Hid _ := hblk
    have hgw : g < w1.heap.size := by omega
    have hwg : w.heap.size ≤ g := by omega
    clear hblk hk HL hk2 hk3
    go_wp2_with fail
    refine (cread_any g I t _ HB.out (by omega) HM1.out (by omega)).mono ?_
    rintro e w2 ⟨T, f, ok, rfl, hB2, hF2, hb2⟩
    have HF2 : Hid (CFld w2 w1.heap.size (M.parse t.data.toList) T f ok) := by
      show CFld _ _ _ _ _ _
      rw [HPB.out]
      have h := hF2
      rw [H1'.out] at h
      exact h
    have hc02 : w2.cell? ⟨g, 0, none⟩ = some (.string I) := by rw [cell_of_row w2 g 0 _ _ _ hB2]; rfl
    have HB2 : Hid _ := hB2
    have hbb : Below w.heap.size w w2 := hb1.trans (hb2.mono hwg)
    have hsz1 := hb1.size
    clear hB2 hF2 HB HPB hb1 hb2
    cases ok
    · have HLL : Hid (M.look t.data.toList = none) := by
        obtain ⟨ids, _, h⟩ := HF2.out
        rcases h with ⟨h, _⟩ | ⟨_, h⟩
        · cases h
        · exact look_parse_none H1'.out h
      go_wp2_with fail
      go_ret2
      exact ⟨_, _, rfl, .inl ⟨rfl, HLL.out⟩, hbb⟩
    · cases hz : (I.toList == M.zero8)
      · have hz' : (I.toList == [48, 48, 48, 48, 48, 48, 48, 48]) = false := hz
        have HPP : Hid (M.look t.data.toList = M.parse t.data.toList) := by
          show M.look _ = _
          rw [HLP.out, hz]; rfl
        clear hz
        go_wp2_with fail
        refine (comID_any g I _ hc02).mono ?_
        rintro e w3 ⟨rfl, rfl⟩
        go_wp2_with fail
        go_ret2
        refine ⟨_, _, rfl, .inr (.inr (.inr ⟨rfl, ?_⟩)), hbb⟩
        obtain ⟨ids, hS, h⟩ := HF2.out
        rcases h with ⟨_, h, hl⟩ | ⟨h, _⟩
        · exact ⟨g, I, t, T, f, ids, rfl, HB2.out, hS.base hsz1, hl, by rw [HPP.out]; exact h⟩
        · cases h
      · have hz' : (I.toList == [48, 48, 48, 48, 48, 48, 48, 48]) = true := hz
        have HLL : Hid (M.look t.data.toList = none) := by
          show M.look _ = _
          rw [HLP.out, hz]; rfl
        clear hz
        go_wp2_with fail
        refine (comID_any g I _ hc02).mono ?_
        rintro e w3 ⟨rfl, rfl⟩
        go_wp2_with fail
        go_ret2
        exact ⟨_, _, rfl, .inl ⟨rfl, HLL.out⟩, hbb⟩
end Go.Proofs.Ytdnfmpjcjhblbaa
