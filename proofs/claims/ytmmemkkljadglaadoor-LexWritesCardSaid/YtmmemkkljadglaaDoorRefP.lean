/-
  The reference's Write and Tight, and the program's Needs, by contract.
-/
import Derived.Test.YtmmemkkljadglaaDoorRefO
import Derived.Test.YtmmemkkljadglaaDoorWriteB
namespace Go.Proofs.YtmmemkkljadglaaDoor
open Go.RowKit Go.Shelf

set_option maxRecDepth 100000 in
set_option maxHeartbeats 1000000 in
theorem rWrite_any (v : Value) (l : List Lx.Tok) (w : World) (hl : ToksAt w v l) (hlen : l.length ≤ 100000) (ht : ∀ t ∈ l, t.text.length ≤ 400) :
    Calls Tryd.prog 22 #[v] w fun e w' => e = .returned (.agg #[.string ⟨(Lx.written Lx.always l).1.toArray⟩, .int .i64 (Lx.written Lx.always l).2]) ∧ Below w.heap.size w w' := by
  have CP := Lib.hid (rput_any true v l (w.alloc (.cells #[.string ⟨#[]⟩, .int .i64 0] 50)) (hl.below ((Below.refl _ _).alloc (Nat.le_refl _) _) (Nat.le_refl _)) hlen ht)
  rw [show Lx.gapOf true = Lx.always from rfl] at CP
  generalize Lx.written Lx.always l = fin at *
  obtain ⟨r, er⟩ := fin
  generalize (⟨r.toArray⟩ : ByteArray) = R at *
  obtain ⟨A, c, rfl, -⟩ := hl
  go_enter Tryd.func22, Tryd.ntmps22
  go_wp2_with fail
  refine CP.out.mono ?_
  rintro e w1 ⟨rfl, hb1⟩
  have hR := (Has.new w 50 #[.string ⟨#[]⟩, .int .i64 0]).below hb1 (by simp)
  have BW := Lib.hid (stepA (Below.refl w.heap.size w) _ hb1)
  have z0 := hR.cell 0
  have z1 := hR.cell 1
  have f0 := hR.free 0
  have f1 := hR.free 1
  simp only [List.getElem?_toArray, List.getElem?_cons_zero, List.getElem?_cons_succ] at z0 z1
  clear hb1
  go_wp2_with fail
  clear z0 z1
  have hf := (hR.set 0 (.string R)).set 1 (.int .i64 er)
  have z0 := hf.cell 0
  have z1 := hf.cell 1
  refine bodyPost_ret (v := .agg #[.string R, .int .i64 er]) (by simp [results, Tryd.results22, go_sem, z0, z1]) rfl ⟨rfl, ?_⟩
  exact (BW.out.setCell (p := ⟨w.heap.size, 0, none⟩) (Nat.le_refl _) _).setCell (p := ⟨w.heap.size, 1, none⟩) (Nat.le_refl _) _

set_option maxRecDepth 100000 in
set_option maxHeartbeats 1000000 in
theorem rTight_any (v : Value) (l : List Lx.Tok) (w : World) (hl : ToksAt w v l) (hlen : l.length ≤ 100000) (ht : ∀ t ∈ l, t.text.length ≤ 400) :
    Calls Tryd.prog 24 #[v] w fun e w' => e = .returned (.agg #[.string ⟨(Lx.written Lx.needs l).1.toArray⟩, .int .i64 (Lx.written Lx.needs l).2]) ∧ Below w.heap.size w w' := by
  have CP := Lib.hid (rput_any false v l (w.alloc (.cells #[.string ⟨#[]⟩, .int .i64 0] 50)) (hl.below ((Below.refl _ _).alloc (Nat.le_refl _) _) (Nat.le_refl _)) hlen ht)
  rw [show Lx.gapOf false = Lx.needs from rfl] at CP
  generalize Lx.written Lx.needs l = fin at *
  obtain ⟨r, er⟩ := fin
  generalize (⟨r.toArray⟩ : ByteArray) = R at *
  obtain ⟨A, c, rfl, -⟩ := hl
  go_enter Tryd.func24, Tryd.ntmps24
  go_wp2_with fail
  refine CP.out.mono ?_
  rintro e w1 ⟨rfl, hb1⟩
  have hR := (Has.new w 50 #[.string ⟨#[]⟩, .int .i64 0]).below hb1 (by simp)
  have BW := Lib.hid (stepA (Below.refl w.heap.size w) _ hb1)
  have z0 := hR.cell 0
  have z1 := hR.cell 1
  have f0 := hR.free 0
  have f1 := hR.free 1
  simp only [List.getElem?_toArray, List.getElem?_cons_zero, List.getElem?_cons_succ] at z0 z1
  clear hb1
  go_wp2_with fail
  clear z0 z1
  have hf := (hR.set 0 (.string R)).set 1 (.int .i64 er)
  have z0 := hf.cell 0
  have z1 := hf.cell 1
  refine bodyPost_ret (v := .agg #[.string R, .int .i64 er]) (by simp [results, Tryd.results24, go_sem, z0, z1]) rfl ⟨rfl, ?_⟩
  exact (BW.out.setCell (p := ⟨w.heap.size, 0, none⟩) (Nat.le_refl _) _).setCell (p := ⟨w.heap.size, 1, none⟩) (Nat.le_refl _) _

set_option maxRecDepth 100000 in
set_option maxHeartbeats 2000000 in
theorem Needs_any (a b : Lx.Tok) (w : World) (hal : a.text.length ≤ 40000) (hbl : b.text.length ≤ 40000) (hE : Env w) :
    Calls Tryd.prog 25 #[tokVal a, tokVal b] w fun e w' => e = .returned (.tuple #[.bool (Lx.needsOut a b).1, .int .i64 (Lx.needsOut a b).2]) ∧ Below w.heap.size w w' := by
  have CA := Lib.hid (fun W (hW : Below w.heap.size w W) => isRight_any a W (by omega) (hE.below hW (Nat.le_refl _)))
  have CB := Lib.hid (fun W (hW : Below w.heap.size w W) => isRight_any b W (by omega) (hE.below hW (Nat.le_refl _)))
  have CN := Lib.hid (fun W (hW : Below w.heap.size w W) (ha : Lx.right a = true) => needs_any a b W (by omega) (by omega) (hE.below hW (Nat.le_refl _)) (Lx.right_pos a ha))
  have hout : Lx.needsOut a b = if Lx.right a && Lx.right b then (Lx.needs a b, 0) else (false, 1) := rfl
  generalize Lx.needsOut a b = fin at *
  obtain ⟨r, er⟩ := fin
  generalize Lx.right a = ra at *
  generalize Lx.right b = rb at *
  generalize Lx.needs a b = nd at *
  obtain ⟨ak, atx, al, ac⟩ := a
  obtain ⟨bk, btx, bl, bc⟩ := b
  have HF := Lib.hid hout
  clear hout hE
  have HB0 : Hid (Below w.heap.size w ((w.alloc (.cells #[.int .i64 ak, .string ⟨atx.toArray⟩, .int .i64 al, .int .i64 ac] 55)).alloc (.cells #[.int .i64 bk, .string ⟨btx.toArray⟩, .int .i64 bl, .int .i64 bc] 55))) := ((Below.refl w.heap.size w).alloc (Nat.le_refl _) _).alloc (by simp) _
  have HA0 : Hid (Has ((w.alloc (.cells #[.int .i64 ak, .string ⟨atx.toArray⟩, .int .i64 al, .int .i64 ac] 55)).alloc (.cells #[.int .i64 bk, .string ⟨btx.toArray⟩, .int .i64 bl, .int .i64 bc] 55)) w.heap.size 55 #[.int .i64 ak, .string ⟨atx.toArray⟩, .int .i64 al, .int .i64 ac]) := (Has.new _ _ _).alloc _
  have HBB0 : Hid (Has ((w.alloc (.cells #[.int .i64 ak, .string ⟨atx.toArray⟩, .int .i64 al, .int .i64 ac] 55)).alloc (.cells #[.int .i64 bk, .string ⟨btx.toArray⟩, .int .i64 bl, .int .i64 bc] 55)) (w.heap.size + 1) 55 #[.int .i64 bk, .string ⟨btx.toArray⟩, .int .i64 bl, .int .i64 bc]) := by
    have := Has.new (w.alloc (.cells #[.int .i64 ak, .string ⟨atx.toArray⟩, .int .i64 al, .int .i64 ac] 55)) 55 #[.int .i64 bk, .string ⟨btx.toArray⟩, .int .i64 bl, .int .i64 bc]
    rw [World.size_alloc] at this
    exact this
  go_enter Tryd.func25, Tryd.ntmps25
  go_wp2_with fail
  generalize (w.alloc (.cells #[.int .i64 ak, .string ⟨atx.toArray⟩, .int .i64 al, .int .i64 ac] 55)).alloc (.cells #[.int .i64 bk, .string ⟨btx.toArray⟩, .int .i64 bl, .int .i64 bc] 55) = w0 at *
  refine (CA.out _ HB0.out).mono ?_
  rintro e w1 ⟨rfl, hb1⟩
  have B1 := Lib.hid (stepN HB0.out hb1)
  have A1 := Lib.hid (HA0.out.below hb1 HA0.out.lt)
  have D1 := Lib.hid (HBB0.out.below hb1 HBB0.out.lt)
  clear hb1
  cases ra
  · obtain ⟨rfl, rfl⟩ := Prod.mk.inj (show (r, er) = (false, 1) by have := HF.out; simpa using this)
    go_wp2_with fail
    go_ret2
    exact ⟨rfl, B1.out⟩
  · have y0 := D1.out.cell 0
    have y1 := D1.out.cell 1
    have y2 := D1.out.cell 2
    have y3 := D1.out.cell 3
    simp only [List.getElem?_toArray, List.getElem?_cons_zero, List.getElem?_cons_succ] at y0 y1 y2 y3
    go_wp2_with fail
    refine (CB.out _ B1.out).mono ?_
    rintro e w2 ⟨rfl, hb2⟩
    have B2 := Lib.hid (stepN B1.out hb2)
    have A2 := Lib.hid (A1.out.below hb2 A1.out.lt)
    have D2 := Lib.hid (D1.out.below hb2 D1.out.lt)
    clear hb2 y0 y1 y2 y3
    cases rb
    · obtain ⟨rfl, rfl⟩ := Prod.mk.inj (show (r, er) = (false, 1) by have := HF.out; simpa using this)
      go_wp2_with fail
      go_ret2
      exact ⟨rfl, B2.out⟩
    · obtain ⟨rfl, rfl⟩ := Prod.mk.inj (show (r, er) = (nd, 0) by have := HF.out; simpa using this)
      have x0 := A2.out.cell 0
      have x1 := A2.out.cell 1
      have x2 := A2.out.cell 2
      have x3 := A2.out.cell 3
      have y0 := D2.out.cell 0
      have y1 := D2.out.cell 1
      have y2 := D2.out.cell 2
      have y3 := D2.out.cell 3
      simp only [List.getElem?_toArray, List.getElem?_cons_zero, List.getElem?_cons_succ] at x0 x1 x2 x3 y0 y1 y2 y3
      go_wp2_with fail
      refine (CN.out _ B2.out (by trivial)).mono ?_
      rintro e w3 ⟨rfl, hb3⟩
      have B3 := Lib.hid (stepN B2.out hb3)
      clear hb3 x0 x1 x2 x3 y0 y1 y2 y3
      go_wp2_with fail
      go_ret2
      exact ⟨rfl, B3.out⟩
end Go.Proofs.YtmmemkkljadglaaDoor
