/-
  What Shape and Value return in package lex.
-/
import Derived.Test.YtadicempblgmhaaDoorShapeC
namespace Go.Proofs.YtadicempblgmhaaDoor
open Go.RowKit

theorem wordShape_any (s : ByteArray) (w : World) (hs : s.size ≤ 1000000) (hE : Env w) :
    Calls Tryd.prog 52 #[.string s] w fun e w' => e = .returned (.tuple #[.int .i64 (Lx.wordShape s.data.toList).1, .int .i64 (Lx.wordShape s.data.toList).2]) ∧ Below w.heap.size w w' := by
  by_cases h : s.data.toList ∈ Lx.capitals ∨ s.data.toList ∈ Lx.smalls
  · exact (wordShape_fixed s w h).mono fun e w' ⟨he, hw⟩ => ⟨he, hw ▸ Below.refl _ _⟩
  · exact wordShape_other s w hs hE (fun hh => h (.inl hh)) (fun hh => h (.inr hh))

set_option maxRecDepth 100000 in
set_option maxHeartbeats 1000000 in
theorem Shape_any (s : ByteArray) (w : World) (hs : s.size ≤ 1000000) (hE : Env w) :
    Calls Tryd.prog 15 #[.string s] w fun e w' => e = .returned (.tuple #[.int .i64 (Lx.shape s.data.toList).1, .int .i64 (Lx.shape s.data.toList).2]) ∧ Below w.heap.size w w' := by
  by_cases h0 : s.size = 0
  · obtain rfl : s = ⟨#[]⟩ := of_list (l := []) (List.eq_nil_of_length_eq_zero (by simpa using h0))
    go_enter Tryd.func15, Tryd.ntmps15
    go_wp2_with fail
    go_ret2
    exact ⟨rfl, Below.refl _ _⟩
  · have hne : s.toList.isEmpty = false := by
      rw [Lib.toList_data]
      cases h : s.data.toList with
      | nil => exact absurd (by have := congrArg List.length h; simpa using this) h0
      | cons => rfl
    have hpos : (0 : Int) < s.size := by omega
    have hps : 0 < s.size := by omega
    obtain ⟨tl, hl⟩ : ∃ tl, s.data.toList = s[0] :: tl := by
      refine ⟨s.data.toList.tail, ?_⟩
      have : s.data.toList ≠ [] := fun h => by rw [Lib.toList_data, h] at hne; cases hne
      rw [← List.cons_head_tail this]
      congr 1
      rw [List.head_eq_getElem]; rfl
    have hsp : Lx.shape s.data.toList = if s.data.toList.all Lx.inRun && Lx.letter s[0] then Lx.wordShape s.data.toList
        else if s.data.toList.all Lx.inRun && Lx.digit s[0] then (if (Lx.number s.data.toList).2 = 0 then (4, 0) else (0, (Lx.number s.data.toList).2))
        else if Lx.longest s.data.toList = s.data.toList then (5, 0) else (0, 2) := by
      rw [hl]; rfl
    have hq : ((Lx.span Lx.inRun s.data.toList : Int) == s.size) = s.data.toList.all Lx.inRun := by
      rw [Bool.eq_iff_iff, ← Lx.span_all]; simp; omega
    have hlo : (Lx.longest s.data.toList == s.toList) = decide (Lx.longest s.data.toList = s.data.toList) := by
      rw [Lib.toList_data, Bool.eq_iff_iff]; simp
    clear hl
    generalize s.data.toList.all Lx.inRun = bw at hq hsp
    have cL := isLetter_any s[0] w
    have cD := isDigit_any s[0] w
    generalize Lx.letter s[0] = bl at cL hsp
    generalize Lx.digit s[0] = bd at cD hsp
    have CL := Lib.hid cL
    have CD := Lib.hid cD
    clear cL cD
    have CW := Lib.hid (wordShape_any s w hs hE)
    have CN := Lib.hid (number_any s w (by unfold maxLen; omega) (by omega))
    have CS := Lib.hid (longestSign_any s w (by unfold maxLen; omega) hE.signs)
    have HSP := Lib.hid hsp
    have HLO := Lib.hid hlo
    clear hsp hlo
    generalize Lx.longest s.data.toList = lo at CS HSP HLO
    generalize Lx.number s.data.toList = nu at CN HSP
    cases bw <;> cases bl <;> cases bd
    all_goals
      go_enter Tryd.func15, Tryd.ntmps15
      go_wp2_with (first
        | (go_at_call 49; refine (span_inRun s _ (by unfold maxLen; omega)).mono ?_; rintro e w1 ⟨rfl, rfl⟩)
        | (go_at_call 51; refine CL.out.mono ?_; rintro e w1 ⟨rfl, rfl⟩)
        | (go_at_call 53; refine CD.out.mono ?_; rintro e w1 ⟨rfl, rfl⟩)
        | (go_at_call 52; refine CW.out.mono ?_; rintro e w1 ⟨rfl, hb⟩)
        | (go_at_call 54; refine CN.out.mono ?_; rintro e w1 ⟨rfl, rfl⟩)
        | (go_at_call 55; refine CS.out.mono ?_; rintro e w1 ⟨rfl, rfl⟩))
    all_goals first
      | (have h : (lo == s.toList) = true := by assumption
         have e : lo = s.data.toList := by
           have := HLO.out
           rw [h] at this
           simpa using this.symm
         go_ret2
         exact ⟨by rw [HSP.out, if_neg (by decide), if_neg (by decide), if_pos e]; rfl, Below.refl _ _⟩)
      | (have h : (lo == s.toList) = false := by assumption
         have e : ¬ lo = s.data.toList := by
           have := HLO.out
           rw [h] at this
           simpa using this.symm
         go_ret2
         exact ⟨by rw [HSP.out, if_neg (by decide), if_neg (by decide), if_neg e]; rfl, Below.refl _ _⟩)
      | (go_ret2
         exact ⟨by rw [HSP.out, if_pos (by decide)]; rfl, hb⟩)
      | (have h : (nu.2 != 0) = true := by assumption
         have e : ¬ nu.2 = 0 := by simpa using h
         go_ret2
         exact ⟨by rw [HSP.out, if_neg (by decide), if_pos (by decide), if_neg e]; rfl, Below.refl _ _⟩)
      | (have h : (nu.2 != 0) = false := by assumption
         have e : nu.2 = 0 := by simpa using h
         go_ret2
         exact ⟨by rw [HSP.out, if_neg (by decide), if_pos (by decide), if_pos e]; rfl, Below.refl _ _⟩)

theorem number_err (l : List UInt8) (h : (Lx.number l).2 ≠ 0) : (Lx.number l).1 = 0 := by
  unfold Lx.number at h ⊢
  split
  · rfl
  · rename_i hh
    rw [if_neg hh] at h
    split
    · rfl
    · rename_i e; rw [e] at h; exact absurd rfl h
theorem wordShape_err (l : List UInt8) (h : (Lx.wordShape l).2 ≠ 0) : (Lx.wordShape l).1 = 0 := by
  revert h
  unfold Lx.wordShape
  repeat' split
  all_goals simp
theorem shape_err (l : List UInt8) (h : (Lx.shape l).2 ≠ 0) : (Lx.shape l).1 = 0 := by
  revert h
  unfold Lx.shape
  cases l with
  | nil => simp
  | cons c r =>
    dsimp only
    split
    · exact wordShape_err _
    · repeat' split
      all_goals simp

end Go.Proofs.YtadicempblgmhaaDoor
