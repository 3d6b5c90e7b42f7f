/-
  For every text, LexShapes returns true: Shape and Value return what the reference returns, and Keywords the keywords.
-/
import Derived.Test.YtnfpcojaaimcjaaDoorRefF
import Derived.Test.YtnfpcojaaimcjaaDoorSane
import Derived.Test.YtnfpcojaaimcjaaDoorValue
import Derived.Deep.QuietTactic
import Derived.BigQuiet
namespace Go.Proofs.YtnfpcojaaimcjaaDoor
open Go.RowKit Go.Shelf

theorem StrsAt.first {w : World} {A : Option Addr} {n c : Nat} {L : List ByteArray} (h : StrsAt w (.slice A n c) L) (h0 : 0 < L.length) : ∃ b o, A = some ⟨b, o, none⟩ ∧ ∀ i (h : i < L.length), w.cell? ⟨b, o + i, none⟩ = some (.string L[i]) := by
  obtain ⟨A', c', hv, h1⟩ := h
  cases hv
  exact h1 h0
theorem keys_len : (bytesOf Lx.keywords).length = 37 := by rw [List.length_map, Lx.keywords_length]
theorem keys_any (W : World) (htab : Lib.TabIs Tryd.prog W "strings.asciiSpace" .u8 Lib.asciiSpaceTab) : Calls Tryd.prog 13 #[] W fun e w' => ∃ b o, e = .returned (.slice (some ⟨b, o, none⟩) 37 37) ∧ (∀ i (h : i < 37), w'.cell? ⟨b, o + i, none⟩ = some (.string ((bytesOf Lx.keywords)[i]'(by rw [keys_len]; exact h)))) ∧ Below W.heap.size W w' := by
  refine (Keywords_any W htab).mono ?_
  rintro e w' ⟨rfl, rfl⟩
  have hl := StrsAt.laid W (bytesOf Lx.keywords) 37 W.heap.size rfl ((Lx.keywords.map fun l => Value.string ⟨l.toArray⟩).toArray) (by simp [bytesOf, Function.comp_def])
  obtain ⟨b, o, hA, hc⟩ := hl.first (by rw [keys_len]; decide)
  cases hA
  refine ⟨_, 0, by rw [Lx.keywords_length], fun i h => hc i (by rw [keys_len]; exact h), (Below.refl _ _).alloc (Nat.le_refl _) _⟩
theorem rkeys_any (W : World) : Calls Tryd.prog 14 #[] W fun e w' => ∃ b o, e = .returned (.slice (some ⟨b, o, none⟩) 37 37) ∧ (∀ i (h : i < 37), w'.cell? ⟨b, o + i, none⟩ = some (.string ((bytesOf Lx.keywords)[i]'(by rw [keys_len]; exact h)))) ∧ Below W.heap.size W w' := by
  refine (rKeywords_any W).mono ?_
  rintro e w' ⟨A, rfl, hl, hb⟩
  obtain ⟨b, o, rfl, hc⟩ := hl.first (by rw [keys_len]; decide)
  exact ⟨b, o, rfl, fun i h => hc i (by rw [keys_len]; exact h), hb⟩

set_option maxRecDepth 100000 in
set_option maxHeartbeats 2000000 in
theorem LexShapes_any (s : ByteArray) (w : World) (hE : Env w) (htab : Lib.TabIs Tryd.prog w "strings.asciiSpace" .u8 Lib.asciiSpaceTab) :
    Calls Tryd.prog 3 #[.string s] w fun e w' => e = .returned (.bool true) ∧ Below w.heap.size w w' := by
  have HSan := Lib.hid (fun W (hb : Below w.heap.size w W) => sanity_any W (hE.below hb (Nat.le_refl _)) (tab_below (g := 1) (by kernel_rfl) htab hb (Nat.le_refl _)))
  have HKey := Lib.hid (fun W (hb : Below w.heap.size w W) => keys_any W (tab_below (g := 1) (by kernel_rfl) htab hb (Nat.le_refl _)))
  have HRK := Lib.hid rkeys_any
  by_cases h60 : (60 : Int) < s.size
  · clear HKey HRK
    go_enter Tryd.func3, Tryd.ntmps3
    go_wp2_with fail
    refine (HSan.out _ (Below.refl _ _)).mono ?_
    rintro e w1 ⟨rfl, hb1⟩
    go_wp2_with fail
    go_ret
    exact ⟨rfl, hb1⟩
  · have hs : s.size ≤ 1000000 := by omega
    have C1 := Lib.hid (Shape_any s w hs hE)
    have C2 := Lib.hid (fun W => rShape_any s W hs)
    have C3 := Lib.hid (fun W (hb : Below w.heap.size w W) => Value_any s W hs (hE.below hb (Nat.le_refl _)))
    have C4 := Lib.hid (fun W => rValue_any s W hs)
    clear hE htab
    generalize Lx.shape s.data.toList = sh at *
    generalize Lx.value s.data.toList = vl at *
    obtain ⟨k, er⟩ := sh
    obtain ⟨n, fr⟩ := vl
    go_enter Tryd.func3, Tryd.ntmps3
    go_wp2_with fail
    refine C1.out.mono ?_
    rintro e w1 ⟨rfl, hb1⟩
    have B1 := Lib.hid hb1
    clear hb1
    go_wp2_with fail
    refine (C2.out _).mono ?_
    rintro e w2 ⟨rfl, hb2⟩
    have B2 := Lib.hid (stepN B1.out hb2)
    clear hb2
    have hX := Lib.hid (Has.new w2 27 #[.int .i64 k, .int .i64 er])
    go_wp2_with fail
    refine (C3.out _ (B2.out.alloc B2.out.size _)).mono ?_
    rintro e w3 ⟨rfl, hb3⟩
    have B3 := Lib.hid (stepA B2.out _ hb3)
    have hX3 := Lib.hid (hX.out.below hb3 hX.out.lt)
    clear hb3
    go_wp2_with fail
    refine (C4.out _).mono ?_
    rintro e w4 ⟨rfl, hb4⟩
    have B4 := Lib.hid (stepN B3.out hb4)
    have hX4 := Lib.hid ((hX3.out.below hb4 hX3.out.lt).alloc (.cells #[.int .i64 n, .int .i64 fr] 30))
    have hY := Lib.hid (Has.new w4 30 #[.int .i64 n, .int .i64 fr])
    clear hb4
    go_wp2_with fail
    refine (HKey.out _ (B4.out.alloc B4.out.size _)).mono ?_
    rintro e w5 ⟨bl, ol, rfl, hl, hb5⟩
    have B5 := Lib.hid (stepA B4.out _ hb5)
    have hX5 := Lib.hid (hX4.out.below hb5 hX4.out.lt)
    have hY5 := Lib.hid (hY.out.below hb5 hY.out.lt)
    have HL := Lib.hid hl
    clear hb5 hl
    go_wp2_with fail
    refine (HRK.out _).mono ?_
    rintro e w6 ⟨bm, om, rfl, hm, hb6⟩
    have B6 := Lib.hid (stepN B5.out hb6)
    have hX6 := Lib.hid (hX5.out.below hb6 hX5.out.lt)
    have hY6 := Lib.hid (hY5.out.below hb6 hY5.out.lt)
    have HL6 := Lib.hid (fun i h => kept_below hb6 (Nat.le_refl _) _ _ (HL.out i h))
    have HM := Lib.hid hm
    clear hb6 hm HL
    go_wp2_with fail
    go_loopw [11] (fun i wr => ∃ j : Nat, j ≤ 37 ∧ i = .int .i64 j ∧ Below w6.heap.size w6 wr) (fun i _ => 37 - (intOf i).toNat)
    case atStart => exact ⟨0, by decide, rfl, Below.refl _ _⟩
    case round =>
      obtain ⟨j, hj, rfl, hB⟩ := hrel
      by_cases hlt : j < 37
      · have f1 := kept_below hB (Nat.le_refl _) _ _ (HL6.out j hlt)
        have f2 := kept_below hB (Nat.le_refl _) _ _ (HM.out j hlt)
        generalize (bytesOf Lx.keywords)[j]'(by rw [keys_len]; exact hlt) = x at *
        have HB := Lib.hid hB
        clear hB
        have hjI : (j : Int) < 37 := by omega
        go_wp2_with fail
        go_quiet (fail)
        go_wp2_with fail
        exact ⟨⟨j + 1, by omega, by go_num, below_drewN HB.out nq⟩, by simp [intOf]; omega⟩
      · obtain rfl : j = 37 := by omega
        have BW := Lib.hid (B6.out.trans (hB.mono B6.out.size))
        have hX7 := Lib.hid (hX6.out.below hB hX6.out.lt)
        have hY7 := Lib.hid (hY6.out.below hB hY6.out.lt)
        clear hB
        go_wp2_with fail
        refine (HSan.out _ BW.out).mono ?_
        rintro e w7 ⟨rfl, hb7⟩
        have hX8 := hX7.out.below hb7 hX7.out.lt
        have hY8 := hY7.out.below hb7 hY7.out.lt
        have BZ := Lib.hid (BW.out.trans (hb7.mono BW.out.size))
        have x0 := hX8.cell 0
        have x1 := hX8.cell 1
        have y0 := hY8.cell 0
        have y1 := hY8.cell 1
        simp only [List.getElem?_toArray, List.getElem?_cons_zero, List.getElem?_cons_succ] at x0 x1 y0 y1
        clear hb7 hX8 hY8
        go_wp2_with fail
        go_ret
        exact ⟨by simp, BZ.out⟩
end Go.Proofs.YtnfpcojaaimcjaaDoor
