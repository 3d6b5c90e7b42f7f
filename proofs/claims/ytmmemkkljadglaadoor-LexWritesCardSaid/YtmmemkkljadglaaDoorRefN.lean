/-
  The reference's right, needs and Needs, by contract: they are the program's.
-/
import Derived.Test.YtmmemkkljadglaaDoorNeedsP
import Derived.Test.YtmmemkkljadglaaDoorSameK
namespace Go.Proofs.YtmmemkkljadglaaDoor
open Go.RowKit Go.Shelf

set_option maxRecDepth 100000 in
set_option maxHeartbeats 1000000 in
theorem rright_any (t : Lx.Tok) (w : World) (hs : t.text.length ≤ 1000000) :
    Calls Tryd.prog 59 #[tokVal t] w fun e w' => e = .returned (.bool (Lx.right t)) ∧ Below w.heap.size w w' := by
  obtain ⟨tk, tt, tl, tc⟩ := t
  have CS := rShape_any ⟨tt.toArray⟩ (w.alloc (.cells #[.int .i64 tk, .string ⟨tt.toArray⟩, .int .i64 tl, .int .i64 tc] 55)) (by simpa [ByteArray.size] using hs)
  rw [show (⟨tt.toArray⟩ : ByteArray).data.toList = tt from by simp] at CS
  have hr : Lx.right ⟨tk, tt, tl, tc⟩ = ((Lx.shape tt).2 == 0 && (Lx.shape tt).1 == tk) := rfl
  generalize Lx.shape tt = sh at *
  obtain ⟨k, e⟩ := sh
  generalize Lx.right ⟨tk, tt, tl, tc⟩ = rr at *
  have HC := Lib.hid CS
  have HR := Lib.hid hr
  clear CS hr
  go_enter Tryd.func59, Tryd.ntmps59
  go_wp2_with fail
  refine HC.out.mono ?_
  rintro e' w1 ⟨rfl, hb⟩
  have hX := ((Has.new w 55 #[.int .i64 tk, .string ⟨tt.toArray⟩, .int .i64 tl, .int .i64 tc]).below hb (by simp)).alloc (.cells #[.int .i64 k, .int .i64 e] 27)
  have BW := Lib.hid ((stepA (Below.refl w.heap.size w) _ hb).alloc (stepA (Below.refl w.heap.size w) _ hb).size (.cells #[.int .i64 k, .int .i64 e] 27))
  have x0 := hX.cell 0
  simp only [List.getElem?_toArray, List.getElem?_cons_zero] at x0
  have hlt := hX.lt
  clear hb hX
  by_cases he : e = 0
  · subst he
    by_cases hk : k = tk
    · subst hk
      go_wp2_with fail
      go_ret
      exact ⟨ret_bool (by rw [HR.out]; simp), BW.out⟩
    · have hkb : (k == tk) = false := by simpa using hk
      go_wp2_with fail
      go_ret
      exact ⟨ret_bool (by rw [HR.out, hkb]; simp), BW.out⟩
  · have heb : (e == 0) = false := by simpa using he
    go_wp2_with fail
    go_ret
    exact ⟨ret_bool (by rw [HR.out, heb]; simp), BW.out⟩

set_option maxRecDepth 100000 in
set_option maxHeartbeats 2000000 in
theorem rneeds_any (a b : Lx.Tok) (w : World) (hal : a.text.length ≤ 40000) (hbl : b.text.length ≤ 40000) (ha : Lx.right a = true) (hb : Lx.right b = true) :
    Calls Tryd.prog 60 #[tokVal a, tokVal b] w fun e w' => e = .returned (.bool (Lx.needs a b)) ∧ Below w.heap.size w w' := by
  have htwo := Lx.two_read ha hb
  have hcnt := Lx.readLines_count (a.text ++ b.text) 1
  rw [List.length_append] at hcnt
  have hk : Lx.kinds [a, b] = [(a.kind, a.text), (b.kind, b.text)] := rfl
  generalize Lx.needs a b = nd at *
  have CL := fun W c cs hcs => ToksAt.laid W [a, b] c cs hcs
  obtain ⟨ak, atx, al, ac⟩ := a
  obtain ⟨bk, btx, bl, bc⟩ := b
  dsimp only at hal hbl htwo hcnt hk
  have CR := rread_any (⟨atx.toArray⟩ ++ ⟨btx.toArray⟩) ((w.alloc (.cells #[.int .i64 ak, .string ⟨atx.toArray⟩, .int .i64 al, .int .i64 ac] 55)).alloc (.cells #[.int .i64 bk, .string ⟨btx.toArray⟩, .int .i64 bl, .int .i64 bc] 55)) (by simp [ByteArray.size]; omega)
  rw [show ((⟨atx.toArray⟩ ++ ⟨btx.toArray⟩ : ByteArray)).data.toList = atx ++ btx from by simp] at CR
  generalize Lx.readLines (atx ++ btx) 1 = R at *
  have HC := Lib.hid CR
  have HT := Lib.hid htwo
  have HL := Lib.hid CL
  clear CR htwo CL
  have hsum : ¬ ((9223372036854775807 : Int) < (atx.length : Int) + btx.length) := by omega
  go_enter Tryd.func60, Tryd.ntmps60
  go_wp2_with fail
  refine HC.out.mono ?_
  rintro e' w1 ⟨vt, vn, rfl, ht, hn, hb1⟩
  obtain ⟨At, ct, rfl⟩ := own_len ht
  obtain ⟨An, cn, rfl⟩ := own_len hn
  have B0 : Below w.heap.size w ((w.alloc (.cells #[.int .i64 ak, .string ⟨atx.toArray⟩, .int .i64 al, .int .i64 ac] 55)).alloc (.cells #[.int .i64 bk, .string ⟨btx.toArray⟩, .int .i64 bl, .int .i64 bc] 55)) := ((Below.refl _ _).alloc (Nat.le_refl _) _).alloc (by simp) _
  have B1 := Lib.hid (stepN B0 hb1)
  have hA := ((Has.new w 55 #[.int .i64 ak, .string ⟨atx.toArray⟩, .int .i64 al, .int .i64 ac]).alloc (.cells #[.int .i64 bk, .string ⟨btx.toArray⟩, .int .i64 bl, .int .i64 bc] 55)).below hb1 (by simp only [World.size_alloc]; omega)
  have hBt := (Has.new (w.alloc (.cells #[.int .i64 ak, .string ⟨atx.toArray⟩, .int .i64 al, .int .i64 ac] 55)) 55 #[.int .i64 bk, .string ⟨btx.toArray⟩, .int .i64 bl, .int .i64 bc]).below hb1 (by simp only [World.size_alloc]; omega)
  rw [World.size_alloc] at hBt
  have T1 := Lib.hid (ToksAt.of_own ht)
  clear ht hn hb1 B0
  have hA2 := hA.alloc (.cells #[.slice At R.toks.length ct, .slice An R.notes.length cn, .int .i64 R.line, .int .i64 R.col, .int .i64 R.err] 41)
  have hB2 := hBt.alloc (.cells #[.slice At R.toks.length ct, .slice An R.notes.length cn, .int .i64 R.line, .int .i64 R.col, .int .i64 R.err] 41)
  have x0 := hA2.cell 0
  have x1 := hA2.cell 1
  have x2 := hA2.cell 2
  have x3 := hA2.cell 3
  have y0 := hB2.cell 0
  have y1 := hB2.cell 1
  have y2 := hB2.cell 2
  have y3 := hB2.cell 3
  simp only [List.getElem?_toArray, List.getElem?_cons_zero, List.getElem?_cons_succ] at x0 x1 x2 x3 y0 y1 y2 y3
  have hlt1 := hA.lt
  have hlt2 := hBt.lt
  clear hA hBt hA2 hB2
  have BX := Lib.hid (B1.out.alloc B1.out.size (.cells #[.slice At R.toks.length ct, .slice An R.notes.length cn, .int .i64 R.line, .int .i64 R.col, .int .i64 R.err] 41))
  have XX := Lib.hid (Has.new w1 41 #[.slice At R.toks.length ct, .slice An R.notes.length cn, .int .i64 R.line, .int .i64 R.col, .int .i64 R.err])
  have TX := Lib.hid (T1.out.below ((Below.refl w1.heap.size w1).alloc (Nat.le_refl _) (.cells #[.slice At R.toks.length ct, .slice An R.notes.length cn, .int .i64 R.line, .int .i64 R.col, .int .i64 R.err] 41)) (Nat.le_refl _))
  go_wp2_with fail
  generalize hWX : w1.alloc (.cells #[.slice At R.toks.length ct, .slice An R.notes.length cn, .int .i64 R.line, .int .i64 R.col, .int .i64 R.err] 41) = wX at *
  have hsz : wX.heap.size = w1.heap.size + 1 := by rw [← hWX]; simp
  have hlaid := HL.out wX 2 #[.int .i64 ak, .string ⟨atx.toArray⟩, .int .i64 al, .int .i64 ac, .int .i64 bk, .string ⟨btx.toArray⟩, .int .i64 bl, .int .i64 bc] rfl
  rw [hsz] at hlaid
  refine (sameKinds_any _ _ R.toks _ _ (TX.out.below ((Below.refl wX.heap.size wX).alloc (Nat.le_refl _) _) (Nat.le_refl _)) hlaid (by omega) (by simp)).mono ?_
  rintro e' w2 ⟨rfl, hb2⟩
  have BZ := Lib.hid (stepA BX.out _ hb2)
  have hX2 := (XX.out.alloc (.cells #[.int .i64 ak, .string ⟨atx.toArray⟩, .int .i64 al, .int .i64 ac, .int .i64 bk, .string ⟨btx.toArray⟩, .int .i64 bl, .int .i64 bc] 55)).below hb2 (by have := XX.out.lt; simp only [World.size_alloc]; omega)
  have z4 := hX2.cell 4
  simp only [List.getElem?_toArray, List.getElem?_cons_zero, List.getElem?_cons_succ] at z4
  clear hb2 hX2 hlaid
  have hspec : nd = !(decide (R.err = 0) && decide (Lx.kinds R.toks = Lx.kinds [⟨ak, atx, al, ac⟩, ⟨bk, btx, bl, bc⟩])) := by
    have ht2 := HT.out
    rw [Bool.eq_iff_iff]
    simp only [Bool.not_eq_true', Bool.and_eq_false_iff, decide_eq_false_iff_not]
    constructor
    · intro h
      by_cases h1 : R.err = 0
      · right
        intro h2
        have := ht2.2 ⟨h1, h2⟩
        rw [h] at this
        cases this
      · exact .inl h1
    · intro h
      cases hnd : nd with
      | true => rfl
      | false =>
        obtain ⟨h1, h2⟩ := ht2.1 hnd
        rcases h with h | h
        · exact absurd h1 h
        · exact absurd h2 h
  have HSP := Lib.hid hspec
  clear hspec
  generalize decide (Lx.kinds R.toks = Lx.kinds [⟨ak, atx, al, ac⟩, ⟨bk, btx, bl, bc⟩]) = sk at *
  by_cases he : R.err = 0
  · have heb : (R.err != 0) = false := by rw [he]; rfl
    cases sk
    · go_wp2_with fail
      go_ret
      exact ⟨ret_bool (by rw [HSP.out]; simp), BZ.out⟩
    · go_wp2_with fail
      go_ret
      exact ⟨ret_bool (by rw [HSP.out]; simp [he]), BZ.out⟩
  · have heb : (R.err != 0) = true := by simpa using he
    go_wp2_with fail
    go_ret
    exact ⟨ret_bool (by rw [HSP.out]; simp [he]), BZ.out⟩

/-- What Needs answers. -/
def Lx.needsOut (a b : Lx.Tok) : Bool × Int := if Lx.right a && Lx.right b then (Lx.needs a b, 0) else (false, 1)

set_option maxRecDepth 100000 in
set_option maxHeartbeats 2000000 in
theorem rNeeds_any (a b : Lx.Tok) (w : World) (hal : a.text.length ≤ 40000) (hbl : b.text.length ≤ 40000) :
    Calls Tryd.prog 26 #[tokVal a, tokVal b] w fun e w' => e = .returned (.agg #[.bool (Lx.needsOut a b).1, .int .i64 (Lx.needsOut a b).2]) ∧ Below w.heap.size w w' := by
  have CA := Lib.hid (fun W => rright_any a W (by omega))
  have CB := Lib.hid (fun W => rright_any b W (by omega))
  have CN := Lib.hid (fun W (ha : Lx.right a = true) (hb : Lx.right b = true) => rneeds_any a b W hal hbl ha hb)
  have hout : Lx.needsOut a b = if Lx.right a && Lx.right b then (Lx.needs a b, 0) else (false, 1) := rfl
  generalize Lx.needsOut a b = fin at *
  obtain ⟨r, er⟩ := fin
  generalize Lx.right a = ra at *
  generalize Lx.right b = rb at *
  generalize Lx.needs a b = nd at *
  obtain ⟨ak, atx, al, ac⟩ := a
  obtain ⟨bk, btx, bl, bc⟩ := b
  have HF := Lib.hid hout
  clear hout
  go_enter Tryd.func26, Tryd.ntmps26
  have HB0 : Hid (Below w.heap.size w (((w.alloc (.cells #[.int .i64 ak, .string ⟨atx.toArray⟩, .int .i64 al, .int .i64 ac] 55)).alloc (.cells #[.int .i64 bk, .string ⟨btx.toArray⟩, .int .i64 bl, .int .i64 bc] 55)).alloc (.cells #[.bool false, .int .i64 0] 57))) := (((Below.refl w.heap.size w).alloc (Nat.le_refl _) _).alloc (by simp) _).alloc (by simp only [World.size_alloc]; omega) _
  have HA0 : Hid (Has (((w.alloc (.cells #[.int .i64 ak, .string ⟨atx.toArray⟩, .int .i64 al, .int .i64 ac] 55)).alloc (.cells #[.int .i64 bk, .string ⟨btx.toArray⟩, .int .i64 bl, .int .i64 bc] 55)).alloc (.cells #[.bool false, .int .i64 0] 57)) w.heap.size 55 #[.int .i64 ak, .string ⟨atx.toArray⟩, .int .i64 al, .int .i64 ac]) := ((Has.new _ _ _).alloc _).alloc _
  have HBB0 : Hid (Has (((w.alloc (.cells #[.int .i64 ak, .string ⟨atx.toArray⟩, .int .i64 al, .int .i64 ac] 55)).alloc (.cells #[.int .i64 bk, .string ⟨btx.toArray⟩, .int .i64 bl, .int .i64 bc] 55)).alloc (.cells #[.bool false, .int .i64 0] 57)) (w.heap.size + 1) 55 #[.int .i64 bk, .string ⟨btx.toArray⟩, .int .i64 bl, .int .i64 bc]) := by
    have := (Has.new (w.alloc (.cells #[.int .i64 ak, .string ⟨atx.toArray⟩, .int .i64 al, .int .i64 ac] 55)) 55 #[.int .i64 bk, .string ⟨btx.toArray⟩, .int .i64 bl, .int .i64 bc]).alloc (.cells #[.bool false, .int .i64 0] 57)
    rw [World.size_alloc] at this
    exact this
  have HR0 : Hid (Has (((w.alloc (.cells #[.int .i64 ak, .string ⟨atx.toArray⟩, .int .i64 al, .int .i64 ac] 55)).alloc (.cells #[.int .i64 bk, .string ⟨btx.toArray⟩, .int .i64 bl, .int .i64 bc] 55)).alloc (.cells #[.bool false, .int .i64 0] 57)) (w.heap.size + 1 + 1) 57 #[.bool false, .int .i64 0]) := by
    have := Has.new ((w.alloc (.cells #[.int .i64 ak, .string ⟨atx.toArray⟩, .int .i64 al, .int .i64 ac] 55)).alloc (.cells #[.int .i64 bk, .string ⟨btx.toArray⟩, .int .i64 bl, .int .i64 bc] 55)) 57 #[.bool false, .int .i64 0]
    rw [World.size_alloc, World.size_alloc] at this
    exact this
  go_wp2_with fail
  generalize ((w.alloc (.cells #[.int .i64 ak, .string ⟨atx.toArray⟩, .int .i64 al, .int .i64 ac] 55)).alloc (.cells #[.int .i64 bk, .string ⟨btx.toArray⟩, .int .i64 bl, .int .i64 bc] 55)).alloc (.cells #[.bool false, .int .i64 0] 57) = w0 at *
  refine (CA.out _).mono ?_
  rintro e w1 ⟨rfl, hb1⟩
  have B1 := Lib.hid (stepN HB0.out hb1)
  have A1 := Lib.hid (HA0.out.below hb1 HA0.out.lt)
  have D1 := Lib.hid (HBB0.out.below hb1 HBB0.out.lt)
  have R1 := Lib.hid (HR0.out.below hb1 HR0.out.lt)
  clear hb1
  have y0 := D1.out.cell 0
  have y1 := D1.out.cell 1
  have y2 := D1.out.cell 2
  have y3 := D1.out.cell 3
  simp only [List.getElem?_toArray, List.getElem?_cons_zero, List.getElem?_cons_succ] at y0 y1 y2 y3
  go_wp2_with fail
  refine (CB.out _).mono ?_
  rintro e w2 ⟨rfl, hb2⟩
  have B2 := Lib.hid (stepN B1.out hb2)
  have A2 := Lib.hid (A1.out.below hb2 A1.out.lt)
  have D2 := Lib.hid (D1.out.below hb2 D1.out.lt)
  have R2 := Lib.hid (R1.out.below hb2 R1.out.lt)
  clear hb2 y0 y1 y2 y3
  have x0 := A2.out.cell 0
  have x1 := A2.out.cell 1
  have x2 := A2.out.cell 2
  have x3 := A2.out.cell 3
  have y0 := D2.out.cell 0
  have y1 := D2.out.cell 1
  have y2 := D2.out.cell 2
  have y3 := D2.out.cell 3
  have z0 := R2.out.cell 0
  have z1 := R2.out.cell 1
  have f0 := R2.out.free 0
  have f1 := R2.out.free 1
  simp only [List.getElem?_toArray, List.getElem?_cons_zero, List.getElem?_cons_succ] at x0 x1 x2 x3 y0 y1 y2 y3 z0 z1
  cases hab : (ra && rb)
  · have hfin : (r, er) = (false, 1) := by have := HF.out; rw [hab] at this; simpa using this
    obtain ⟨rfl, rfl⟩ := Prod.mk.inj hfin
    have hcases : ra = false ∨ (ra = true ∧ rb = false) := by cases ra <;> cases rb <;> simp_all
    rcases hcases with rfl | ⟨rfl, rfl⟩
    all_goals
      go_wp2_with fail
      clear z0 z1
      have hf := (R2.out.set 0 (.bool false)).set 1 (.int .i64 1)
      have z0 := hf.cell 0
      have z1 := hf.cell 1
      refine bodyPost_ret (v := .agg #[.bool false, .int .i64 1]) (by simp [results, Tryd.results26, go_sem, z0, z1]) rfl ⟨rfl, ?_⟩
      exact (B2.out.setCell (p := ⟨w.heap.size + 1 + 1, 0, none⟩) (by simp only; omega) _).setCell (p := ⟨w.heap.size + 1 + 1, 1, none⟩) (by simp only; omega) _
  · have hfin : (r, er) = (nd, 0) := by have := HF.out; rw [hab] at this; simpa using this
    obtain ⟨rfl, rfl⟩ := Prod.mk.inj hfin
    obtain ⟨rfl, rfl⟩ : ra = true ∧ rb = true := by simpa using hab
    go_wp2_with fail
    refine (CN.out _ (by trivial) (by trivial)).mono ?_
    rintro e w3 ⟨rfl, hb3⟩
    have B3 := Lib.hid (stepN B2.out hb3)
    have R3 := Lib.hid (R2.out.below hb3 R2.out.lt)
    clear hb3 x0 x1 x2 x3 y0 y1 y2 y3 z0 z1 f0 f1
    have z0 := R3.out.cell 0
    have z1 := R3.out.cell 1
    have f0 := R3.out.free 0
    have f1 := R3.out.free 1
    simp only [List.getElem?_toArray, List.getElem?_cons_zero, List.getElem?_cons_succ] at z0 z1
    go_wp2_with fail
    clear z0 z1
    have hf := (R3.out.set 0 (.bool r)).set 1 (.int .i64 0)
    have z0 := hf.cell 0
    have z1 := hf.cell 1
    refine bodyPost_ret (v := .agg #[.bool r, .int .i64 0]) (by simp [results, Tryd.results26, go_sem, z0, z1]) rfl ⟨rfl, ?_⟩
    exact (B3.out.setCell (p := ⟨w.heap.size + 1 + 1, 0, none⟩) (by simp only; omega) _).setCell (p := ⟨w.heap.size + 1 + 1, 1, none⟩) (by simp only; omega) _
end Go.Proofs.YtmmemkkljadglaaDoor
