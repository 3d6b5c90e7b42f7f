/-
  Reading lines: tokens, comments, the first error; places. Plain functions on lists of bytes.
-/
import Derived.Test.YtadicempblgmhaaDoorSpec
namespace Go.Proofs.YtadicempblgmhaaDoor
namespace Lx

structure Tok where
  kind : Int
  text : List UInt8
  line : Int
  col : Int
  deriving DecidableEq

/-- What has been read: tokens, comments, the place of the error, the error. -/
structure Red where
  toks : List Tok := []
  notes : List Tok := []
  line : Int := 0
  col : Int := 0
  err : Int := 0
  deriving DecidableEq

/-- One run, at a place: what is read then, and whether it is right. -/
def Red.take (r : Red) (run : List UInt8) (line col : Int) : Red × Bool :=
  if [45, 45].isPrefixOf run then
    if span printable run < run.length then ({ line := line, col := col + span printable run, err := 2 }, false)
    else ({ r with notes := r.notes ++ [⟨6, run, line, col⟩] }, true)
  else if (shape run).2 ≠ 0 then ({ line := line, col := col, err := (shape run).2 }, false)
  else ({ r with toks := r.toks ++ [⟨(shape run).1, run, line, col⟩] }, true)

theorem longest_le (l : List UInt8) : (longest l).length ≤ l.length := by
  unfold longest
  split
  · simp; omega
  · split
    · simp; omega
    · simp

theorem span_pos {p : UInt8 → Bool} {c : UInt8} {r : List UInt8} (h : p c = true) : 1 ≤ span p (c :: r) := by
  simp [span, h]

theorem runLength_pos (c : UInt8) (r : List UInt8) : 1 ≤ runLength (c :: r) := by
  unfold runLength
  dsimp only
  split
  · simp
  · split
    · rename_i h
      apply span_pos
      unfold inRun
      rw [Bool.or_eq_true]
      exact .inl h
    · omega

theorem runLength_le (l : List UInt8) : runLength l ≤ l.length := by
  unfold runLength
  split
  · simp
  · rename_i c r
    split
    · omega
    · split
      · exact span_le _ _
      · have := longest_le (c :: r)
        simp at this ⊢
        omega

/-- The runs of what is left of a line, from an offset on; n: steps enough. -/
def runsFrom : Nat → Nat → List UInt8 → List (Nat × List UInt8)
  | 0, _, _ => []
  | _ + 1, _, [] => []
  | n + 1, at_, c :: r =>
    (if c = 32 then [] else [(at_, (c :: r).take (runLength (c :: r)))]) ++ runsFrom n (at_ + runLength (c :: r)) ((c :: r).drop (runLength (c :: r)))

def runs (l : List UInt8) : List (Nat × List UInt8) := runsFrom l.length 0 l

/-- The runs of a line are read, up to the first that is wrong. -/
def takes (r : Red) (line : Int) : List (Nat × List UInt8) → Red × Bool
  | [] => (r, true)
  | x :: xs => if (r.take x.2 line ((x.1 : Int) + 1)).2 then takes (r.take x.2 line ((x.1 : Int) + 1)).1 line xs else ((r.take x.2 line ((x.1 : Int) + 1)).1, false)

/-- Lines are read, up to the first error. -/
def readLs (r : Red) (line : Int) : List (List UInt8) → Red
  | [] => r
  | x :: xs => if (takes r line (runs x)).2 then readLs (takes r line (runs x)).1 (line + 1) xs else (takes r line (runs x)).1

/-- The lines of a text. -/
def lines : List UInt8 → List (List UInt8)
  | [] => [[]]
  | c :: r => if c = 10 then [] :: lines r else
    match lines r with
    | [] => [[c]]
    | x :: xs => (c :: x) :: xs

def readLines (text : List UInt8) (first : Int) : Red := readLs {} first (lines text)

def readText (text : List UInt8) : Red :=
  if 20000 < text.length then { err := 3 }
  else if 6000 < (readLines text 1).toks.length then { err := 3 }
  else readLines text 1

end Lx
end Go.Proofs.YtadicempblgmhaaDoor
