/-
  What Write and Tight return, in package lex: with a blank between all; by what is needed.
-/
import Derived.Test.YtadicempblgmhaaGreatDoorWrite
namespace Go.Proofs.YtadicempblgmhaaGreatDoor
open Go.RowKit

theorem Tight_any (v : Value) (l : List Lx.Tok) (w : World) (hl : ToksAt w v l) (hlen : l.length ≤ 100000) (ht : ∀ t ∈ l, t.text.length ≤ 400) (hE : Env w) :
    Calls Tryz.prog 11 #[v] w fun e w' => e = .returned (.tuple #[.string ⟨(Lx.written Lx.needs l).1.toArray⟩, .int .i64 (Lx.written Lx.needs l).2]) ∧ Below w.heap.size w w' := by
  have C := Lib.hid (write_tight v l w hl hlen ht hE)
  generalize Lx.written Lx.needs l = r at *
  go_enter Tryz.func11, Tryz.ntmps11
  go_wp2_with (go_at_call 28; refine C.out.mono ?_; rintro e w1 ⟨rfl, hb⟩)
  go_ret2
  exact ⟨rfl, hb⟩
end Go.Proofs.YtadicempblgmhaaGreatDoor
