/-
  What Value returns, in package lex.
-/
import Derived.Test.YtnfpcojaaimcjaaDoorShapeD
namespace Go.Proofs.YtnfpcojaaimcjaaDoor
open Go.RowKit Go.Shelf

set_option maxRecDepth 100000 in
set_option maxHeartbeats 1000000 in
theorem Value_any (s : ByteArray) (w : World) (hs : s.size ≤ 1000000) (hE : Env w) :
    Calls Tryd.prog 11 #[.string s] w fun e w' => e = .returned (.tuple #[.int .i64 (Lx.value s.data.toList).1, .int .i64 (Lx.value s.data.toList).2]) ∧ Below w.heap.size w w' := by
  have hv : Lx.value s.data.toList = if (Lx.shape s.data.toList).2 ≠ 0 then (0, (Lx.shape s.data.toList).2) else if (Lx.shape s.data.toList).1 ≠ 4 then (0, 2) else Lx.number s.data.toList := rfl
  have hpos : (Lx.shape s.data.toList).1 = 4 → 0 < s.size := by
    intro h
    rcases Nat.eq_zero_or_pos s.size with h0 | h0
    · have : s.data.toList = [] := List.eq_nil_of_length_eq_zero (by simpa using h0)
      rw [this] at h; cases h
    · exact h0
  have CS := Lib.hid (Shape_any s w hs hE)
  have CN := fun (h : 0 < s.size) w => number_any s w (by unfold maxLen; omega) h
  have HCN := Lib.hid CN
  have HV := Lib.hid hv
  clear hv CN
  generalize Lx.shape s.data.toList = sh at CS HV hpos
  generalize Lx.number s.data.toList = nu at HCN HV
  obtain ⟨k, e⟩ := sh
  by_cases h1 : (e != 0) = true
  · go_enter Tryd.func11, Tryd.ntmps11
    go_wp2_with (go_at_call 9; refine CS.out.mono ?_; rintro e w1 ⟨rfl, hb⟩)
    go_ret2
    exact ⟨by rw [HV.out, if_pos (by simpa using h1)]; rfl, hb⟩
  · by_cases h2 : (k != 4) = true
    · go_enter Tryd.func11, Tryd.ntmps11
      go_wp2_with (go_at_call 9; refine CS.out.mono ?_; rintro e w1 ⟨rfl, hb⟩)
      go_ret2
      exact ⟨by rw [HV.out, if_neg (by simpa using h1), if_pos (by simpa using h2)]; rfl, hb⟩
    · have hp : 0 < s.size := hpos (by simpa using h2)
      clear hpos
      go_enter Tryd.func11, Tryd.ntmps11
      go_wp2_with (first
        | (go_at_call 9; refine CS.out.mono ?_; rintro e w1 ⟨rfl, hb⟩)
        | (go_at_call 43; refine (HCN.out hp _).mono ?_; rintro e w1 ⟨rfl, rfl⟩))
      go_ret2
      exact ⟨by rw [HV.out, if_neg (by simpa using h1), if_neg (by simpa using h2)]; rfl, hb⟩
end Go.Proofs.YtnfpcojaaimcjaaDoor
