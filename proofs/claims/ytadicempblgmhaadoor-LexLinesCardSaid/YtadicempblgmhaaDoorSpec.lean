/-
  What tokens of texts are, as plain functions on lists of bytes: bytes, runs, words, numbers, signs. No program is named here.
-/
import Derived.WalkKit
import Derived.Lib.IndexMore
namespace Go.Proofs.YtadicempblgmhaaDoor
namespace Lx

def letter (c : UInt8) : Bool := (97 ≤ c && c ≤ 122) || (65 ≤ c && c ≤ 90)
def digit (c : UInt8) : Bool := 48 ≤ c && c ≤ 57
def inRun (c : UInt8) : Bool := letter c || digit c || c == 95
def printable (c : UInt8) : Bool := 32 ≤ c && c ≤ 126
def named (lo hi c : UInt8) : Bool := (lo ≤ c && c ≤ hi) || digit c || c == 95

/-- How many bytes at the beginning belong together. -/
def span (p : UInt8 → Bool) : List UInt8 → Nat
  | [] => 0
  | c :: r => if p c then span p r + 1 else 0

theorem span_le (p : UInt8 → Bool) (l : List UInt8) : span p l ≤ l.length := by
  induction l with
  | nil => simp [span]
  | cons c r ih => simp only [span]; split <;> simp <;> omega

theorem span_take (p : UInt8 → Bool) (l : List UInt8) : ∀ c ∈ l.take (span p l), p c = true := by
  induction l with
  | nil => simp [span]
  | cons c r ih =>
    intro x hx
    simp only [span] at hx
    split at hx
    · rename_i hc
      simp at hx
      rcases hx with rfl | hx
      · exact hc
      · exact ih x hx
    · simp at hx

/-- Up to k all belong; k is the end, or does not: then it is the span. -/
theorem span_eq (p : UInt8 → Bool) (l : List UInt8) (k : Nat) (hk : k ≤ l.length) (h : ∀ i (hi : i < k), p (l[i]'(by omega)) = true) (hs : ∀ (h : k < l.length), p l[k] = false) : span p l = k := by
  induction l generalizing k with
  | nil => simp at hk; subst hk; rfl
  | cons c r ih =>
    cases k with
    | zero =>
      have := hs (by simp)
      simp at this
      simp [span, this]
    | succ k =>
      have h0 := h 0 (by omega)
      simp at h0
      simp only [span, h0, if_true]
      rw [ih k (by simpa using hk) (fun i hi => by have := h (i + 1) (by omega); simpa using this) (fun hh => by have := hs (by simpa using hh); simpa using this)]

theorem span_all (p : UInt8 → Bool) (l : List UInt8) : span p l = l.length ↔ l.all p = true := by
  induction l with
  | nil => simp [span]
  | cons c r ih =>
    simp only [span, List.length_cons, List.all_cons]
    by_cases hc : p c = true
    · simp [hc, ih]
    · simp [hc]

/-- All signs, in the order of the text. -/
def signs : List (List UInt8) := [[58, 61], [47, 61], [60, 61], [62, 61], [47, 47], [61], [60], [62], [43], [45], [42], [37], [40], [41], [91], [93], [123], [125], [44], [59], [58], [46]]

/-- The longest sign with which a text begins, or nothing. -/
def longest (l : List UInt8) : List UInt8 :=
  if 2 ≤ l.length ∧ l.take 2 ∈ signs then l.take 2 else if 1 ≤ l.length ∧ l.take 1 ∈ signs then l.take 1 else []

def kwText : List UInt8 := [32,97,110,100,32,97,115,32,97,116,116,97,99,104,101,100,32,99,104,101,99,107,32,99,108,97,115,115,32,99,114,101,97,116,101,32,100,101,102,101,114,114,101,100,32,100,101,116,97,99,104,97,98,108,101,32,100,111,32,101,108,115,101,32,101,110,100,32,101,110,115,117,114,101,32,102,101,97,116,117,114,101,32,102,114,111,109,32,105,102,32,105,109,112,108,105,101,115,32,105,110,104,101,114,105,116,32,105,110,118,97,114,105,97,110,116,32,108,111,99,97,108,32,108,111,111,112,32,110,111,116,32,111,108,100,32,111,114,32,112,117,116,32,114,97,105,115,101,32,114,101,100,101,102,105,110,101,32,114,101,110,97,109,101,32,114,101,113,117,105,114,101,32,114,101,115,99,117,101,32,114,101,116,114,121,32,115,101,108,101,99,116,32,115,101,112,97,114,97,116,101,32,116,104,101,110,32,117,110,100,101,102,105,110,101,32,117,110,116,105,108,32,118,97,114,105,97,110,116,32,119,104,101,110,32]

def capitals : List (List UInt8) := [[84, 114, 117, 101], [70, 97, 108, 115, 101], [86, 111, 105, 100], [67, 117, 114, 114, 101, 110, 116], [82, 101, 115, 117, 108, 116]]
def smalls : List (List UInt8) := [[116, 114, 117, 101], [102, 97, 108, 115, 101], [118, 111, 105, 100], [99, 117, 114, 114, 101, 110, 116], [114, 101, 115, 117, 108, 116]]

/-- kind, error -/
def wordShape (l : List UInt8) : Int × Int :=
  if l ∈ capitals then (3, 0)
  else if l ∈ smalls then (0, 4)
  else if Lib.contains kwText (32 :: (l ++ [32])) then (3, 0)
  else if !(l.all (named 97 122)) && !(l.all (named 65 90)) then (0, 2)
  else if 20 < l.length then (0, 3)
  else if l.all (named 97 122) then (1, 0)
  else (2, 0)

/-- The number so far, or none where it was too great. -/
def numTo (n : Int) : List UInt8 → Option Int
  | [] => some n
  | c :: r => if 1099511627776 < 10 * n + ((c.toNat : Int) - 48) then none else numTo (10 * n + ((c.toNat : Int) - 48)) r

/-- value, error: of a run that begins with a digit -/
def number (l : List UInt8) : Int × Int :=
  if span digit l < l.length ∨ (1 < l.length ∧ l.head? = some 48) then (0, 2)
  else match numTo 0 l with
    | none => (0, 3)
    | some n => (n, 0)

def shape (l : List UInt8) : Int × Int :=
  match l with
  | [] => (0, 2)
  | c :: _ =>
    if l.all inRun && letter c then wordShape l
    else if l.all inRun && digit c then (if (number l).2 = 0 then (4, 0) else (0, (number l).2))
    else if longest l = l then (5, 0)
    else (0, 2)

def value (l : List UInt8) : Int × Int :=
  if (shape l).2 ≠ 0 then (0, (shape l).2) else if (shape l).1 ≠ 4 then (0, 2) else number l

/-- How long the run is with which a text begins. -/
def runLength (l : List UInt8) : Nat :=
  match l with
  | [] => 0
  | c :: _ =>
    if [45, 45].isPrefixOf l then l.length
    else if letter c || digit c then span inRun l
    else max 1 (longest l).length

end Lx
end Go.Proofs.YtadicempblgmhaaDoor
