/-
  For every two texts LexStrips returns true: Strip and Same return what the reference returns.
-/
import Derived.Test.YtadicempblgmhaaGreatDoorRefS
import Derived.Test.YtadicempblgmhaaGreatDoorSameA
namespace Go.Proofs.YtadicempblgmhaaGreatDoor
open Go.RowKit Go.Shelf

theorem short_is (s : ByteArray) (w : World) : Calls Tryz.prog 4 #[.string s] w fun e w' => e = .returned (.bool (decide (s.size ≤ 400 ∨ (20000 < s.size ∧ s.size ≤ 20100)))) ∧ w = w' := by
  go_enter Tryz.func4, Tryz.ntmps4
  go_wp2
  all_goals go_ret
  all_goals exact ⟨ret_bool (by rw [Bool.eq_iff_iff]; simp; omega), rfl⟩

set_option maxRecDepth 100000 in
set_option maxHeartbeats 2000000 in
theorem LexStrips_any (a b : ByteArray) (w : World) (hE : Env w) (htab : Lib.TabIs Tryz.prog w "strings.asciiSpace" .u8 Lib.asciiSpaceTab) :
    Calls Tryz.prog 3 #[.string a, .string b] w fun e w' => e = .returned (.bool true) ∧ Below w.heap.size w w' := by
  have HSan := Lib.hid (san_at hE htab)
  have HA := Lib.hid (fun W => short_is a W)
  have HB := Lib.hid (fun W => short_is b W)
  by_cases ha : a.size ≤ 400 ∨ (20000 < a.size ∧ a.size ≤ 20100)
  · rw [decide_eq_true ha] at HA
    by_cases hb : b.size ≤ 400 ∨ (20000 < b.size ∧ b.size ≤ 20100)
    · rw [decide_eq_true hb] at HB
      have hE' : ∀ W, Below w.heap.size w W → Env W := fun W h => hE.below h (Nat.le_refl _)
      have C1 := Lib.hid (fun W (h : Below w.heap.size w W) => Strip_any a W (by omega) (hE' W h))
      have C2 := Lib.hid (fun W => rStrip_any a W (by omega))
      have C3 := Lib.hid (fun W (h : Below w.heap.size w W) => Same_any a b W (hE' W h) (by omega) (by omega))
      have C4 := Lib.hid (fun W => rSame_any a b W (by omega) (by omega))
      generalize Lx.sameOut (Lx.readText a.data.toList) (Lx.readText b.data.toList) = o at *
      generalize (⟨(if (Lx.readText a.data.toList).err = 0 then Lx.strip a.data.toList else []).toArray⟩ : ByteArray) = T at *
      generalize (Lx.readText a.data.toList).err = er at *
      obtain ⟨ob, oe⟩ := o
      dsimp only at C3 C4
      clear hE htab hE' ha hb
      go_enter Tryz.func3, Tryz.ntmps3
      go_wp2_with fail
      refine (HA.out _).mono ?_
      rintro e w1 ⟨rfl, rfl⟩
      go_wp2_with fail
      refine (HB.out _).mono ?_
      rintro e w1 ⟨rfl, rfl⟩
      go_wp2_with fail
      refine (C1.out _ (Below.refl _ _)).mono ?_
      rintro e w1 ⟨rfl, hb1⟩
      have B1 := Lib.hid hb1
      clear hb1
      go_wp2_with fail
      refine (C2.out _).mono ?_
      rintro e w2 ⟨rfl, hb2⟩
      have B2 := Lib.hid (stepN B1.out hb2)
      have X2 := Lib.hid (Has.new w2 28 #[.string T, .int .i64 er])
      clear hb2
      go_wp2_with fail
      refine (C3.out _ (B2.out.alloc B2.out.size _)).mono ?_
      rintro e w3 ⟨rfl, hb3⟩
      have B3 := Lib.hid (stepA B2.out _ hb3)
      have X3 := Lib.hid (X2.out.below hb3 (by simp))
      clear hb3
      go_wp2_with fail
      refine (C4.out _).mono ?_
      rintro e w4 ⟨rfl, hb4⟩
      have B4 := Lib.hid (stepN B3.out hb4)
      have X4 := Lib.hid (X3.out.below hb4 X3.out.lt)
      have Y4 := Lib.hid (Has.new w4 33 #[.bool ob, .int .i64 oe])
      clear hb4 X3
      go_wp2_with fail
      refine (HSan.out _ (B4.out.alloc B4.out.size _)).mono ?_
      rintro e w5 ⟨rfl, hb5⟩
      have B5 := Lib.hid (stepA B4.out _ hb5)
      have hx := (X4.out.alloc (.cells #[.bool ob, .int .i64 oe] 33)).below hb5 (by have := X4.out.lt; simp; omega)
      have hy := Y4.out.below hb5 (by simp)
      have x0 := hx.cell 0
      have x1 := hx.cell 1
      have y0 := hy.cell 0
      have y1 := hy.cell 1
      have lx := hx.lt
      have ly := hy.lt
      simp only [List.getElem?_toArray, List.getElem?_cons_zero, List.getElem?_cons_succ] at x0 x1 y0 y1
      clear hb5 hx hy X4 Y4 X2
      go_wp2_with fail
      go_ret
      exact ⟨by simp, B5.out⟩
    · rw [decide_eq_false hb] at HB
      go_enter Tryz.func3, Tryz.ntmps3
      go_wp2_with fail
      refine (HA.out _).mono ?_
      rintro e w1 ⟨rfl, rfl⟩
      go_wp2_with fail
      refine (HB.out _).mono ?_
      rintro e w1 ⟨rfl, rfl⟩
      go_wp2_with fail
      refine (HSan.out _ (Below.refl _ _)).mono ?_
      rintro e w1 ⟨rfl, hb1⟩
      go_wp2_with fail
      go_ret
      exact ⟨rfl, hb1⟩
  · rw [decide_eq_false ha] at HA
    go_enter Tryz.func3, Tryz.ntmps3
    go_wp2_with fail
    refine (HA.out _).mono ?_
    rintro e w1 ⟨rfl, rfl⟩
    go_wp2_with fail
    refine (HSan.out _ (Below.refl _ _)).mono ?_
    rintro e w1 ⟨rfl, hb1⟩
    go_wp2_with fail
    go_ret
    exact ⟨rfl, hb1⟩
end Go.Proofs.YtadicempblgmhaaGreatDoor
