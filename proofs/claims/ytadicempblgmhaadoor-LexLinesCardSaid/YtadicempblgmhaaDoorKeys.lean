/-
  What Keywords returns, in package lex.
-/
import Derived.Test.YtadicempblgmhaaDoorEdit
namespace Go.Proofs.YtadicempblgmhaaDoor
open Go.RowKit Go.Shelf

namespace Lx
def keywords : List (List UInt8) := Lib.fields kwText
theorem keywords_length : keywords.length = 37 := by decide +kernel
end Lx

theorem kw_ascii : ∀ (j : Nat) (b : UInt8), Lx.kwText[j]? = some b → b.toNat < 128 := by
  have h : ∀ b ∈ Lx.kwText, b.toNat < 128 := by decide +kernel
  intro j b hj
  exact h b (List.mem_of_getElem? hj)

set_option maxRecDepth 100000 in
theorem Keywords_any (w : World) (htab : Lib.TabIs Tryd.prog w "strings.asciiSpace" .u8 Lib.asciiSpaceTab) :
    Calls Tryd.prog 19 #[] w fun e w' => e = .returned (.slice (some ⟨w.heap.size, 0, none⟩) Lx.keywords.length Lx.keywords.length) ∧ w' = w.alloc (.cells (Lx.keywords.map fun l => Value.string ⟨l.toArray⟩).toArray 9) := by
  have cF := Tryd.strings_Fields ⟨Lx.kwText.toArray⟩ w (by decide +kernel) (by simpa using kw_ascii) htab
  rw [show (⟨Lx.kwText.toArray⟩ : ByteArray).data.toList = Lx.kwText from by simp] at cF
  rw [show Lib.fields Lx.kwText = Lx.keywords from rfl] at cF
  generalize Lx.keywords = K at *
  have CF := Lib.hid cF
  clear cF
  go_enter Tryd.func19, Tryd.ntmps19
  go_wp2_with (go_at_call 62; refine CF.out.mono ?_; rintro e w' ⟨rfl, rfl⟩)
  go_ret
  exact ⟨rfl, rfl⟩
end Go.Proofs.YtadicempblgmhaaDoor
