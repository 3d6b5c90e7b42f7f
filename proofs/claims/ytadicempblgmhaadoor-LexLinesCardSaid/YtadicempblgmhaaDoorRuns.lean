/-
  What the runs of a line are in package lex.
-/
import Derived.Test.YtadicempblgmhaaDoorShapeD
import Derived.Test.YtadicempblgmhaaDoorSpecB
namespace Go.Proofs.YtadicempblgmhaaDoor
open Go.RowKit

theorem hasPrefix_any (s p : ByteArray) (w : World) :
    Calls Tryd.prog 47 #[.string s, .string p] w fun e w' => e = .returned (.bool (p.data.toList.isPrefixOf s.data.toList)) ∧ w = w' :=
  (Tryd.strings_HasPrefix s p w).mono fun _ _ ⟨he, hw⟩ => ⟨he, hw.symm⟩

theorem cons_of (s : ByteArray) (h : 0 < s.size) : ∃ tl, s.data.toList = s[0] :: tl := by
  refine ⟨s.data.toList.tail, ?_⟩
  have hlen : s.data.toList.length = s.size := by simp
  have hne : s.data.toList ≠ [] := fun hh => by
    rw [hh] at hlen
    simp at hlen
    omega
  rw [← List.cons_head_tail hne]
  congr 1
  rw [List.head_eq_getElem]; rfl

set_option maxRecDepth 100000 in
set_option maxHeartbeats 1000000 in
theorem runLength_any (s : ByteArray) (w : World) (hs : s.size ≤ 1000000) (hE : Env w) (h0 : 0 < s.size) :
    Calls Tryd.prog 107 #[.string s] w fun e w' => e = .returned (.int .i64 (Lx.runLength s.data.toList)) ∧ w = w' := by
  obtain ⟨tl, hl⟩ := cons_of s h0
  have hsp : Lx.runLength s.data.toList = if [45, 45].isPrefixOf s.data.toList then s.data.toList.length else if Lx.letter s[0] || Lx.digit s[0] then Lx.span Lx.inRun s.data.toList else max 1 (Lx.longest s.data.toList).length := by
    rw [hl]; rfl
  rw [show s.data.toList.length = s.size from by simp] at hsp
  have cP := hasPrefix_any s ⟨#[45, 45]⟩ w
  rw [show (⟨#[45, 45]⟩ : ByteArray).data.toList = [45, 45] from rfl] at cP
  have cL := isLetter_any s[0] w
  have cD := isDigit_any s[0] w
  have hlle := Lx.longest_le s.data.toList
  rw [show s.data.toList.length = s.size from by simp] at hlle
  clear hl
  generalize ([45, 45].isPrefixOf s.data.toList) = bp at cP hsp
  generalize Lx.letter s[0] = bl at cL hsp
  generalize Lx.digit s[0] = bd at cD hsp
  have CP := Lib.hid cP
  have CL := Lib.hid cL
  have CD := Lib.hid cD
  have HSP := Lib.hid hsp
  have CS := Lib.hid (longestSign_any s w (by unfold maxLen; omega) hE.signs)
  clear cP cL cD hsp
  generalize Lx.longest s.data.toList = lo at CS HSP hlle
  cases bp <;> cases bl <;> cases bd
  all_goals
    go_enter Tryd.func107, Tryd.ntmps107
    go_wp2_with (first
      | (go_at_call 47; refine CP.out.mono ?_; rintro e w1 ⟨rfl, rfl⟩)
      | (go_at_call 49; refine (span_inRun s _ (by unfold maxLen; omega)).mono ?_; rintro e w1 ⟨rfl, rfl⟩)
      | (go_at_call 51; refine CL.out.mono ?_; rintro e w1 ⟨rfl, rfl⟩)
      | (go_at_call 53; refine CD.out.mono ?_; rintro e w1 ⟨rfl, rfl⟩)
      | (go_at_call 55; refine CS.out.mono ?_; rintro e w1 ⟨rfl, rfl⟩))
    go_ret
    exact ⟨ret_int (by rw [HSP.out]; simp; try omega), rfl⟩
end Go.Proofs.YtadicempblgmhaaDoor
