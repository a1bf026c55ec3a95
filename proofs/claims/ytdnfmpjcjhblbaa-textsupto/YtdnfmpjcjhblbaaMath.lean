/-
  THE PLAIN LAYER: what the document says of texts, over lists of bytes. No walk in this text.
-/
import Derived.Lib.Split
import Derived.Lib.IndexMore
import Derived.Lib.CountLaws
import Derived.Laws.Strings
namespace Go.Proofs.Ytdnfmpjcjhblbaa
namespace M

def isHex (c : UInt8) : Bool := (decide (48 ≤ c.toNat) && decide (c.toNat ≤ 57)) || (decide (97 ≤ c.toNat) && decide (c.toNat ≤ 102))
def isLow (c : UInt8) : Bool := decide (97 ≤ c.toNat) && decide (c.toNat ≤ 122)
def notLf (c : UInt8) : Bool := !(c == 10)
def hexDigits : List UInt8 := [48, 49, 50, 51, 52, 53, 54, 55, 56, 57, 97, 98, 99, 100, 101, 102]
def lowLetters : List UInt8 := [97, 98, 99, 100, 101, 102, 103, 104, 105, 106, 107, 108, 109, 110, 111, 112, 113, 114, 115, 116, 117, 118, 119, 120, 121, 122]
def zero8 : List UInt8 := [48, 48, 48, 48, 48, 48, 48, 48]

def hexB (l : List UInt8) : Bool := l.all isHex
def idB (l : List UInt8) : Bool := l.all isHex && decide (l.length = 8) && !(l == zero8)
def nameB (l : List UInt8) : Bool := l.all isLow && decide (1 ≤ l.length) && decide (l.length ≤ 8)
def lineB (l : List UInt8) (n : Nat) : Bool := l.all notLf && decide (l.length ≤ n)

/-- the text ahead of the first c, what stands behind it, is there one? -/
def cut1 : List UInt8 → UInt8 → List UInt8 × List UInt8 × Bool
  | [], _ => ([], [], false)
  | b :: l, c => if b == c then ([], l, true) else (b :: (cut1 l c).1, (cut1 l c).2.1, (cut1 l c).2.2)

/-- the pieces between the c's: never none -/
def splitC : List UInt8 → UInt8 → List (List UInt8)
  | [], _ => [[]]
  | b :: l, c => if b == c then [] :: splitC l c else (b :: (splitC l c).headD []) :: (splitC l c).tail

def leS (a b : List UInt8) : Bool := Op.bytesLess a b || a == b

/-- one entry of a tree behind the name 'last': is it right? -/
def entOk (last p : List UInt8) : Bool := nameB (cut1 p 61).1 && idB (cut1 p 61).2.1 && !leS (cut1 p 61).1 last
def ents : List UInt8 → List (List UInt8) → Option (List (List UInt8))
  | _, [] => some []
  | last, p :: ps => if entOk last p then (ents (cut1 p 61).1 ps).map ((cut1 p 61).2.1 :: ·) else none
def entries (s : List UInt8) : Option (List (List UInt8)) := if s = [] then some [] else ents [] (splitC s 44)

def parents (p : List UInt8) : Option (List (List UInt8)) :=
  if p == [45] then some []
  else if !idB (cut1 p 43).1 then none
  else if (cut1 p 43).2.2 then (if idB (cut1 p 43).2.1 then some [(cut1 p 43).1, (cut1 p 43).2.1] else none)
  else some [(cut1 p 43).1]
def headOk (s : List UInt8) : Bool := (cut1 (cut1 s 32).2.1 32).2.2 && idB (cut1 s 32).1 && lineB (cut1 (cut1 s 32).2.1 32).2.1 20
def commitB (s : List UInt8) : Option (List (List UInt8)) :=
  if headOk s then (parents (cut1 (cut1 s 32).2.1 32).1).map ((cut1 s 32).1 :: ·) else none

def fnvStep (h : Nat) (c : UInt8) : Nat := ((h ^^^ c.toNat) * 16777619) % 4294967296
def fnv (l : List UInt8) : Nat := l.foldl fnvStep 2166136261
def digit (n : Nat) : UInt8 := hexDigits.getD (n % 16) 0
def hexN : Nat → Nat → List UInt8
  | 0, _ => []
  | k + 1, v => hexN k (v / 16) ++ [digit v]
def idOf (l : List UInt8) : List UInt8 := hexN 8 (fnv l)
def packet (p : List UInt8) : List UInt8 := if p.length = 0 ∨ 200 < p.length then [] else hexN 4 (p.length + 4) ++ p

def blobW : List UInt8 := [98, 108, 111, 98]
def treeW : List UInt8 := [116, 114, 101, 101]
def commitW : List UInt8 := [99, 111, 109, 109, 105, 116]

def parse (t : List UInt8) : Option (List (List UInt8)) :=
  if (cut1 t 32).1 == blobW then (if lineB (cut1 t 32).2.1 40 then some [] else none)
  else if (cut1 t 32).1 == treeW then entries (cut1 t 32).2.1
  else if (cut1 t 32).1 == commitW then commitB (cut1 t 32).2.1
  else none
def look (t : List UInt8) : Option (List (List UInt8)) := if !(cut1 t 32).2.2 || idOf t == zero8 then none else parse t

/-! facts -/
theorem cut1_miss (c : UInt8) : ∀ l : List UInt8, (∀ x ∈ l, x ≠ c) → cut1 l c = (l, [], false)
  | [], _ => rfl
  | b :: l, h => by
    have hb : (b == c) = false := by simpa using h b (by simp)
    rw [cut1, hb, cut1_miss c l fun x hx => h x (List.mem_cons_of_mem _ hx)]
    simp
theorem cut1_hit (c : UInt8) : ∀ (l : List UInt8) (i : Nat), (∀ x ∈ l.take i, x ≠ c) → l[i]? = some c → cut1 l c = (l.take i, l.drop (i + 1), true)
  | [], i, _, h => by simp at h
  | b :: l, 0, _, h => by
    have : b = c := by simpa using h
    subst this
    simp [cut1]
  | b :: l, i + 1, hn, h => by
    have hb : (b == c) = false := by simpa using hn b (by simp)
    have := cut1_hit c l i (fun x hx => hn x (by simp [hx])) (by simpa using h)
    rw [cut1, hb, this]
    simp

theorem splitC_ne (c : UInt8) (l : List UInt8) : splitC l c ≠ [] := by
  cases l with
  | nil => simp [splitC]
  | cons b l => unfold splitC; split <;> simp

theorem splitC_cut (c : UInt8) : ∀ l : List UInt8, splitC l c = (cut1 l c).1 :: (if (cut1 l c).2.2 then splitC (cut1 l c).2.1 c else [])
  | [] => rfl
  | b :: l => by
    rw [splitC, cut1]
    by_cases h : (b == c) = true
    · rw [if_pos h, if_pos h]; simp
    · rw [if_neg h, if_neg h, splitC_cut c l]; simp

theorem cut1_len (c : UInt8) : ∀ l : List UInt8, (cut1 l c).1.length + (cut1 l c).2.1.length ≤ l.length
  | [] => by simp [cut1]
  | b :: l => by
    have := cut1_len c l
    unfold cut1
    split
    · simp
    · simp; omega

theorem splitC_len (c : UInt8) (l : List UInt8) : (splitC l c).length ≤ l.length + 1 := by
  induction l with
  | nil => simp [splitC]
  | cons b l ih =>
    unfold splitC
    split
    · simp; omega
    · have := splitC_ne c l
      simp
      have : 1 ≤ (splitC l c).length := by
        rcases h : splitC l c with _ | ⟨x, y⟩
        · exact absurd h (splitC_ne c l)
        · simp
      omega

theorem splitC_piece (c : UInt8) : ∀ l : List UInt8, ∀ p ∈ splitC l c, p.length ≤ l.length
  | [], p, hp => by simp [splitC] at hp; simp [hp]
  | b :: l, p, hp => by
    unfold splitC at hp
    split at hp
    · rcases List.mem_cons.1 hp with rfl | h
      · simp
      · have := splitC_piece c l p h; simp; omega
    · rcases List.mem_cons.1 hp with rfl | h
      · have := splitC_piece c l ((splitC l c).headD []) (by
          rcases h : splitC l c with _ | ⟨x, y⟩
          · exact absurd h (splitC_ne c l)
          · simp)
        simp; simpa using this
      · have := splitC_piece c l p (List.mem_of_mem_tail h); simp; omega

theorem ents_len : ∀ (ps : List (List UInt8)) (last : List UInt8) (r : List (List UInt8)), ents last ps = some r → r.length = ps.length
  | [], _, r, h => by simp [ents] at h; simp [← h]
  | p :: ps, last, r, h => by
    unfold ents at h
    split at h
    · rw [Option.map_eq_some_iff] at h
      obtain ⟨q, hq, rfl⟩ := h
      simp [ents_len ps _ q hq]
    · cases h

end M
end Go.Proofs.Ytdnfmpjcjhblbaa
