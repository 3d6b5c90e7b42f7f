/-
  What Patch returns, in package lex.
-/
import Derived.Test.YtadicempblgmhaaDoorPlaced
import Derived.Test.YtadicempblgmhaaDoorText
import Derived.StillTailTactics
namespace Go.Proofs.YtadicempblgmhaaDoor
open Go.RowKit Go.Shelf

namespace Lx
def pFirst (s : List UInt8) (f : Nat) : Nat := (s.take f).count 10 + 1
def pLast (s : List UInt8) (f t : Nat) : Nat := pFirst s f + ((s.take t).drop f).count 10
def pPiece (s x : List UInt8) (f t : Nat) : List UInt8 := (s.take f).drop (lineStart s f) ++ x ++ (s.take (lineEnd s t)).drop t
def pRead (s x : List UInt8) (f t : Nat) : Red := readLines (pPiece s x f t) (pFirst s f)
def pAll (l : List Tok) (s x : List UInt8) (f t : Nat) : List Tok :=
  [moved (fun y => decide (y < (pFirst s f : Int))) 0 l, (pRead s x f t).toks, moved (fun y => decide ((pLast s f t : Int) < y)) ((x.count 10 : Int) - ((pLast s f t : Int) - (pFirst s f : Int))) l].flatten
end Lx

set_option maxRecDepth 100000 in
set_option maxHeartbeats 2000000 in
theorem Patch_bad (v : Value) (l : List Lx.Tok) (s x : ByteArray) (f t : Int) (w : World) (hl : ToksAt w v l) (hlen : l.length ≤ 100000) (hs : s.size ≤ 900000) (hx : x.size ≤ 900000) (h : Lx.editErr s.size f t x.size ≠ 0) :
    Calls Tryd.prog 41 #[v, .string s, chVal f t x] w fun e w' => e = .returned (.tuple #[.slice none 0 0, .int .i64 0, .agg #[.int .i64 0, .int .i64 0], .int .i64 (Lx.editErr s.size f t x.size)]) ∧ Below w.heap.size w w' := by
  have hE := fun w => editError_any s x f t w hs hx
  obtain ⟨A, c, rfl, -⟩ := hl
  generalize Lx.editErr s.size f t x.size = er at *
  have HE := Lib.hid hE
  clear hE
  have hB0 : Below w.heap.size w ((w.alloc (.cells #[.int .i64 f, .int .i64 t, .string x] 60)).alloc (.cells #[.int .i64 0, .int .i64 0] 37)) := ((Below.refl _ _).alloc (Nat.le_refl _) _).alloc (by simp) _
  have hR0 : Has ((w.alloc (.cells #[.int .i64 f, .int .i64 t, .string x] 60)).alloc (.cells #[.int .i64 0, .int .i64 0] 37)) (w.heap.size + 1) 37 #[.int .i64 0, .int .i64 0] := by
    have := Has.new (w.alloc (.cells #[.int .i64 f, .int .i64 t, .string x] 60)) 37 #[.int .i64 0, .int .i64 0]
    rw [World.size_alloc] at this; exact this
  have hS0 : ((w.alloc (.cells #[.int .i64 f, .int .i64 t, .string x] 60)).alloc (.cells #[.int .i64 0, .int .i64 0] 37)).heap.size = w.heap.size + 2 := by simp
  have HR0 := Lib.hid hR0
  have HS0 := Lib.hid hS0
  have HB0 := Lib.hid hB0
  clear hR0 hS0 hB0
  go_enter Tryd.func41, Tryd.ntmps41
  go_wp2_with (go_at_call 77; refine (HE.out _).mono ?_; rintro e w' ⟨rfl, hb⟩; have hp8 := HR0.out.below hb (by rw [HS0.out]; omega); have c80 := hp8.cell 0; have c81 := hp8.cell 1; have f80 := hp8.free 0; have f81 := hp8.free 1; simp only [List.getElem?_toArray, List.getElem?_cons_zero, List.getElem?_cons_succ] at c80 c81)
  have hq := (hp8.set 0 (.int .i64 0)).set 1 (.int .i64 0)
  have d0 := hq.cell 0
  have d1 := hq.cell 1
  simp at d0 d1
  refine bodyPost_ret (v := .tuple #[.slice none 0 0, .int .i64 0, .agg #[.int .i64 0, .int .i64 0], .int .i64 er]) ?_ rfl ⟨rfl, ?_⟩
  · simp [results, Tryd.results41, go_sem, d0, d1]
  · exact (((HB0.out.trans (hb.mono (by rw [HS0.out]; omega))).setCell (by show w.heap.size ≤ w.heap.size + 1; omega) _).setCell (by show w.heap.size ≤ w.heap.size + 1; omega) _)

set_option maxRecDepth 100000 in
set_option maxHeartbeats 2000000 in
theorem Patch_unplaced (v : Value) (l : List Lx.Tok) (s x : ByteArray) (f t : Int) (w : World) (hl : ToksAt w v l) (hlen : l.length ≤ 100000) (hs : s.size ≤ 900000) (hx : x.size ≤ 900000) (h : Lx.editErr s.size f t x.size = 0) (hp : Lx.placed l s.data.toList = false) :
    Calls Tryd.prog 41 #[v, .string s, chVal f t x] w fun e w' => e = .returned (.tuple #[.slice none 0 0, .int .i64 0, .agg #[.int .i64 0, .int .i64 0], .int .i64 1]) ∧ Below w.heap.size w w' := by
  have hE := fun w => editError_any s x f t w hs hx
  rw [h] at hE
  have hP := fun W (hW : Below w.heap.size w W) => arePlaced_any v l s W (hl.below hW (Nat.le_refl _)) hlen hs
  rw [hp] at hP
  obtain ⟨A, c, rfl, -⟩ := hl
  have HE := Lib.hid hE
  have HP := Lib.hid hP
  clear hE hP h hp
  have hB0 : Below w.heap.size w ((w.alloc (.cells #[.int .i64 f, .int .i64 t, .string x] 60)).alloc (.cells #[.int .i64 0, .int .i64 0] 37)) := ((Below.refl _ _).alloc (Nat.le_refl _) _).alloc (by simp) _
  have hR0 : Has ((w.alloc (.cells #[.int .i64 f, .int .i64 t, .string x] 60)).alloc (.cells #[.int .i64 0, .int .i64 0] 37)) (w.heap.size + 1) 37 #[.int .i64 0, .int .i64 0] := by
    have := Has.new (w.alloc (.cells #[.int .i64 f, .int .i64 t, .string x] 60)) 37 #[.int .i64 0, .int .i64 0]
    rw [World.size_alloc] at this; exact this
  have hS0 : ((w.alloc (.cells #[.int .i64 f, .int .i64 t, .string x] 60)).alloc (.cells #[.int .i64 0, .int .i64 0] 37)).heap.size = w.heap.size + 2 := by simp
  have HR0 := Lib.hid hR0
  have HS0 := Lib.hid hS0
  have HB0 := Lib.hid hB0
  clear hR0 hS0 hB0
  go_enter Tryd.func41, Tryd.ntmps41
  go_wp2_with (first | (go_at_call 77; refine (HE.out _).mono ?_; rintro e w' ⟨e1, hb⟩; subst e1) | (go_at_call 81; refine (HP.out _ (HB0.out.trans (hb.mono (by rw [HS0.out]; omega)))).mono ?_; rintro e w2 ⟨rfl, hb2⟩; have hp8 := (HR0.out.below hb (by rw [HS0.out]; omega)).below hb2 (by have := hb.size; rw [HS0.out] at this; omega); have c80 := hp8.cell 0; have c81 := hp8.cell 1; have f80 := hp8.free 0; have f81 := hp8.free 1; simp only [List.getElem?_toArray, List.getElem?_cons_zero, List.getElem?_cons_succ] at c80 c81))
  have hq := (hp8.set 0 (.int .i64 0)).set 1 (.int .i64 0)
  have d0 := hq.cell 0
  have d1 := hq.cell 1
  simp at d0 d1
  refine bodyPost_ret (v := .tuple #[.slice none 0 0, .int .i64 0, .agg #[.int .i64 0, .int .i64 0], .int .i64 1]) ?_ rfl ⟨rfl, ?_⟩
  · simp [results, Tryd.results41, go_sem, d0, d1]
  · have := hb.size
    rw [HS0.out] at this
    exact (((HB0.out.trans (hb.mono (by rw [HS0.out]; omega))).trans (hb2.mono (by omega))).setCell (by show w.heap.size ≤ w.heap.size + 1; omega) _).setCell (by show w.heap.size ≤ w.heap.size + 1; omega) _
end Go.Proofs.YtadicempblgmhaaDoor
