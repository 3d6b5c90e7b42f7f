/-
  For every text, LexTokens returns true: Tokens and Comments return what the reference returns.
-/
import Derived.Test.YtmmemkkljadglaaDoorRefI
import Derived.Test.YtmmemkkljadglaaDoorSameT
namespace Go.Proofs.YtmmemkkljadglaaDoor
open Go.RowKit Go.Shelf

theorem short_any (s : ByteArray) (w : World) : Calls Tryd.prog 15 #[.string s] w fun e w' => e = .returned (.bool (decide (s.size ≤ 400 ∨ (20000 < s.size ∧ s.size ≤ 20100)))) ∧ w' = w := by
  go_enter Tryd.func15, Tryd.ntmps15
  go_wp2
  all_goals go_ret
  all_goals exact ⟨ret_bool (by rw [Bool.eq_iff_iff]; simp; omega), rfl⟩

theorem same_refl (u v : Value) (l : List Lx.Tok) (w : World) (hl : ToksAt w u l) (hm : ToksAt w v l) (hlen : l.length ≤ 100000) :
    Calls Tryd.prog 19 #[u, v] w fun e w' => e = .returned (.bool true) ∧ Below w.heap.size w w' := by
  have := sameToks_any u v l l w hl hm hlen hlen
  rwa [decide_eq_true rfl] at this

set_option maxRecDepth 100000 in
set_option maxHeartbeats 2000000 in
theorem LexTokens_any (s : ByteArray) (w : World) (hE : Env w) (htab : Lib.TabIs Tryd.prog w "strings.asciiSpace" .u8 Lib.asciiSpaceTab) :
    Calls Tryd.prog 4 #[.string s] w fun e w' => e = .returned (.bool true) ∧ Below w.heap.size w w' := by
  have HSan := Lib.hid (fun W (hb : Below w.heap.size w W) => sanity_any W (hE.below hb (Nat.le_refl _)) (tab_below (g := 1) (by kernel_rfl) htab hb (Nat.le_refl _)))
  have HSh := Lib.hid (short_any s)
  by_cases hsh : s.size ≤ 400 ∨ (20000 < s.size ∧ s.size ≤ 20100)
  · have hs : s.size ≤ 100000 := by omega
    have CT := Lib.hid (Tokens_any s w hs hE)
    have CR := Lib.hid (fun W => rTokens_any s W hs)
    have CC := Lib.hid (fun W (hb : Below w.heap.size w W) => Comments_any s W hs (hE.below hb (Nat.le_refl _)))
    have hn1 := Lx.readText_toks s.data.toList
    have hn2 := Lx.readText_notes s.data.toList
    rw [show s.data.toList.length = s.size from by simp] at hn1 hn2
    have hd := HSh.out
    rw [decide_eq_true hsh] at hd
    have HD := Lib.hid hd
    clear hE htab hd HSh hsh
    generalize Lx.readText s.data.toList = R at *
    go_enter Tryd.func4, Tryd.ntmps4
    go_wp2_with fail
    refine (HD.out _).mono ?_
    rintro e w0 ⟨rfl, rfl⟩
    go_wp2_with fail
    refine CT.out.mono ?_
    rintro e w1 ⟨A, c, rfl, ho, hb1⟩
    have B1 := Lib.hid hb1
    have T1 := Lib.hid (ToksAt.of_own ho)
    clear ho hb1
    go_wp2_with fail
    refine (CR.out _).mono ?_
    rintro e w2 ⟨vt, vn, rfl, ht, hn, hb2⟩
    obtain ⟨At, ct, rfl⟩ := own_len ht
    obtain ⟨An, cn, rfl⟩ := own_len hn
    have B2 := Lib.hid (stepA B1.out _ hb2)
    have T2 := Lib.hid ((T1.out.below ((Below.refl _ _).alloc (Nat.le_refl _) (.cells #[.int .i64 R.line, .int .i64 R.col] 37)) (Nat.le_refl _)).below hb2 (Nat.le_refl _))
    have P2 := Lib.hid ((Has.new w1 37 #[.int .i64 R.line, .int .i64 R.col]).below hb2 (by simp))
    have U2 := Lib.hid (ToksAt.of_own ht)
    have V2 := Lib.hid (ToksAt.of_own hn)
    have X2 := Lib.hid (Has.new w2 41 #[.slice At R.toks.length ct, .slice An R.notes.length cn, .int .i64 R.line, .int .i64 R.col, .int .i64 R.err])
    have BX := Lib.hid ((Below.refl w2.heap.size w2).alloc (Nat.le_refl _) (.cells #[.slice At R.toks.length ct, .slice An R.notes.length cn, .int .i64 R.line, .int .i64 R.col, .int .i64 R.err] 41))
    clear ht hn hb2
    go_wp2_with fail
    refine (CC.out _ (B2.out.alloc B2.out.size _)).mono ?_
    rintro e w3 ⟨A3, c3, rfl, ho3, hb3⟩
    have B3 := Lib.hid (stepA B2.out _ hb3)
    have T3 := Lib.hid ((T2.out.below BX.out (Nat.le_refl _)).below hb3 (Nat.le_refl _))
    have U3 := Lib.hid ((U2.out.below BX.out (Nat.le_refl _)).below hb3 (Nat.le_refl _))
    have V3 := Lib.hid ((V2.out.below BX.out (Nat.le_refl _)).below hb3 (Nat.le_refl _))
    have P3 := Lib.hid ((P2.out.alloc (.cells #[.slice At R.toks.length ct, .slice An R.notes.length cn, .int .i64 R.line, .int .i64 R.col, .int .i64 R.err] 41)).below hb3 (by have := P2.out.lt; simp; omega))
    have X3 := Lib.hid (X2.out.below hb3 (by simp))
    have C3 := Lib.hid (ToksAt.of_own ho3)
    clear ho3 hb3 T1 T2 U2 V2 P2 X2
    have x0 := X3.out.cell 0
    simp only [List.getElem?_toArray, List.getElem?_cons_zero, List.getElem?_cons_succ] at x0
    go_wp2_with fail
    refine (same_refl _ _ R.toks w3 T3.out U3.out (by omega)).mono ?_
    rintro e w4 ⟨rfl, hb4⟩
    have B4 := Lib.hid (stepN B3.out hb4)
    have V4 := Lib.hid (V3.out.below hb4 (Nat.le_refl _))
    have C4 := Lib.hid (C3.out.below hb4 (Nat.le_refl _))
    have P4 := Lib.hid (P3.out.below hb4 P3.out.lt)
    have X4 := Lib.hid (X3.out.below hb4 X3.out.lt)
    clear hb4 x0 T3 U3 V3 C3 P3 X3
    have x1 := X4.out.cell 1
    simp only [List.getElem?_toArray, List.getElem?_cons_zero, List.getElem?_cons_succ] at x1
    go_wp2_with fail
    refine (same_refl _ _ R.notes w4 C4.out V4.out (by omega)).mono ?_
    rintro e w5 ⟨rfl, hb5⟩
    have B5 := Lib.hid (stepN B4.out hb5)
    have P5 := Lib.hid (P4.out.below hb5 P4.out.lt)
    have X5 := Lib.hid (X4.out.below hb5 X4.out.lt)
    clear hb5 x1 V4 C4 P4 X4
    go_wp2_with fail
    refine (HSan.out _ B5.out).mono ?_
    rintro e w6 ⟨rfl, hb6⟩
    have B6 := Lib.hid (stepN B5.out hb6)
    have P6 := P5.out.below hb6 P5.out.lt
    have X6 := X5.out.below hb6 X5.out.lt
    have y0 := P6.cell 0
    have y1 := P6.cell 1
    have x2 := X6.cell 2
    have x3 := X6.cell 3
    have x4 := X6.cell 4
    simp only [List.getElem?_toArray, List.getElem?_cons_zero, List.getElem?_cons_succ] at y0 y1 x2 x3 x4
    clear hb6 P6 X6 P5 X5
    go_wp2_with fail
    go_ret
    exact ⟨by simp, B6.out⟩
  · have hd := HSh.out
    rw [decide_eq_false hsh] at hd
    have HD := Lib.hid hd
    clear hE htab hd HSh hsh
    go_enter Tryd.func4, Tryd.ntmps4
    go_wp2_with fail
    refine (HD.out _).mono ?_
    rintro e w0 ⟨rfl, rfl⟩
    go_wp2_with fail
    refine (HSan.out _ (Below.refl _ _)).mono ?_
    rintro e w1 ⟨rfl, hb1⟩
    go_wp2_with fail
    go_ret
    exact ⟨rfl, hb1⟩
end Go.Proofs.YtmmemkkljadglaaDoor
