/-
  Joined texts are read as the texts, one behind the other, moved by their lines. Plain functions.
-/
import Derived.Test.YtmmemkkljadglabDoorShift
namespace Go.Proofs.YtmmemkkljadglabDoor
namespace Lx

/-- Texts are read one by one, from a line on. -/
def readAll : Int → Red → List (List UInt8) → Red
  | _, q, [] => q
  | n, q, s :: L =>
    if (readLines s 1).err = 0 then readAll (n + (s.count 10 + 1 : Nat)) { q with toks := q.toks ++ (readLines s 1).toks.map (shift (n - 1)), notes := q.notes ++ (readLines s 1).notes.map (shift (n - 1)) } L
    else { line := (readLines s 1).line + (n - 1), col := (readLines s 1).col, err := (readLines s 1).err }

theorem read_join : ∀ (L : List (List UInt8)) (n : Int) (q : Red), q.err = 0 → q.line = 0 → q.col = 0 → readLs q n (lines (L.flatMap (· ++ [10]))) = readAll n q L
  | [], n, q, _, _, _ => by
    show readLs q n [[]] = q
    rfl
  | s :: L, n, q, h, h1, h2 => by
    rw [List.flatMap_cons, List.append_assoc, List.singleton_append, read_cat s _ n q h h1 h2]
    unfold readAll
    by_cases he : (readLines s 1).err = 0
    · rw [if_pos he, if_pos he]
      exact read_join L _ _ h h1 h2
    · rw [if_neg he, if_neg he]
end Lx
end Go.Proofs.YtmmemkkljadglabDoor
