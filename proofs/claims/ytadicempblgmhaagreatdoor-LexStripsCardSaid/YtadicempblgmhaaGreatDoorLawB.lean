/-
  For every text, LexStands returns true: Offset and PlaceOf undo each other, and tokens stand at their places.
-/
import Derived.Test.YtadicempblgmhaaGreatDoorSane
import Derived.Test.YtadicempblgmhaaGreatDoorStand
import Derived.Deep.QuietTactic
import Derived.BigQuiet
namespace Go.Proofs.YtadicempblgmhaaGreatDoor
open Go.RowKit Go.Shelf

theorem Lx.readText_count (l : List UInt8) : (Lx.readText l).toks.length ≤ l.length := by
  unfold Lx.readText
  have := Lx.readLines_count l 1
  split
  · simp
  · split
    · simp
    · exact this
theorem san_at {w : World} (hE : Env w) (htab : Lib.TabIs Tryz.prog w "strings.asciiSpace" .u8 Lib.asciiSpaceTab) : ∀ W, Below w.heap.size w W → Calls Tryz.prog 5 #[] W fun e w' => e = .returned (.bool true) ∧ Below W.heap.size W w' :=
  fun W hb => sanity_any W (hE.below hb (Nat.le_refl _)) (tab_below (g := 0) (by kernel_rfl) htab hb (Nat.le_refl _))

end Go.Proofs.YtadicempblgmhaaGreatDoor
