/-
  What Patch lays down on its way: the change, the place, the lines' numbers, what was read. And bounds, as plain facts.
-/
import Derived.Test.YtadicempblgmhaaDoorPatch
import Derived.Test.YtadicempblgmhaaDoorRefB
namespace Go.Proofs.YtadicempblgmhaaDoor
open Go.RowKit Go.Shelf

namespace Lx
/-- Tokens, how many were read anew, the place, the error. -/
def pOut (l : List Tok) (s x : List UInt8) (f t : Nat) : List Tok × Nat × (Int × Int) × Int :=
  if (pRead s x f t).err ≠ 0 then ([], 0, ((pRead s x f t).line, (pRead s x f t).col), (pRead s x f t).err)
  else if 6000 < (pAll l s x f t).length then ([], 0, (0, 0), 3)
  else (pAll l s x f t, (pRead s x f t).toks.length, (0, 0), 0)
theorem lineEnd_ge (l : List UInt8) (k : Nat) (h : k ≤ l.length) : k ≤ lineEnd l k := by
  unfold lineEnd
  split <;> omega
theorem lineEnd_le (l : List UInt8) (k : Nat) (h : k ≤ l.length) : lineEnd l k ≤ l.length := by
  unfold lineEnd
  split
  · rename_i h0
    have h1 := (Lib.indexByte_some (l := l.drop k) (c := 10) (o := (Lib.indexByte (l.drop k) 10).toNat) (by omega)).1
    have h2 := (List.getElem?_eq_some_iff.1 h1).1
    rw [List.length_drop] at h2
    omega
  · exact Nat.le_refl _
end Lx

def PatchEnd (w : World) (r : List Lx.Tok × Nat × (Int × Int) × Int) (e : Ending) (w' : World) : Prop :=
  ∃ v, e = .returned (.tuple #[v, .int .i64 r.2.1, .agg #[.int .i64 r.2.2.1.1, .int .i64 r.2.2.1.2], .int .i64 r.2.2.2]) ∧ w'.ownsRow w.heap.size 55 4 v r.1.length (toksCells r.1) ∧ Below w.heap.size w w'

theorem ba_append (a b : ByteArray) : (a ++ b).data.toList = a.data.toList ++ b.data.toList := by simp
/-- The change and the result's place lie where Patch laid them. -/
structure PQ (w : World) (f t : Int) (x : ByteArray) (W : World) : Prop where
  below : Below w.heap.size w W
  chg : Has W w.heap.size 60 #[.int .i64 f, .int .i64 t, .string x]
  res : Has W (w.heap.size + 1) 37 #[.int .i64 0, .int .i64 0]
theorem PQ.later {w W W' : World} {f t : Int} {x : ByteArray} (h : PQ w f t x W) (hb : Below W.heap.size W W') : PQ w f t x W' :=
  ⟨h.below.trans (hb.mono h.below.size), h.chg.below hb h.chg.lt, h.res.below hb h.res.lt⟩
/-- And the number of the first line. -/
structure PS (w : World) (f t : Int) (x : ByteArray) (b : Nat) (n : Int) (W : World) : Prop where
  q : PQ w f t x W
  fst : Has W b 3 #[.int .i64 n]
theorem PS.later {w W W' : World} {f t : Int} {x : ByteArray} {b : Nat} {n : Int} (h : PS w f t x b n W) (hb : Below W.heap.size W W') : PS w f t x b n W' :=
  ⟨h.q.later hb, h.fst.below hb h.fst.lt⟩
theorem PS.alloc {w W : World} {f t : Int} {x : ByteArray} {b : Nat} {n : Int} (h : PS w f t x b n W) (o : Obj) : PS w f t x b n (W.alloc o) := h.later ((Below.refl _ _).alloc (Nat.le_refl _) o)
theorem PS.drew {w W : World} {f t : Int} {x : ByteArray} {b : Nat} {n : Int} (h : PS w f t x b n W) : PS w f t x b n W.drew := ⟨⟨h.q.below.drew, h.q.chg, h.q.res⟩, h.fst⟩
/-- A store into a block that was laid since. -/
theorem PS.set {w V W : World} {f t : Int} {x : ByteArray} {b d : Nat} {n : Int} (h : PS w f t x b n W) (k : PS w f t x b n V) (hd : V.heap.size ≤ d) (i : Nat) (u : Value) : PS w f t x b n (W.setCell ⟨d, i, none⟩ u) :=
  ⟨⟨h.q.below.setCell (by have := k.q.below.size; show w.heap.size ≤ d; omega) u, h.q.chg.other (by have := k.q.chg.lt; show w.heap.size ≠ d; omega) u, h.q.res.other (by have := k.q.res.lt; show w.heap.size + 1 ≠ d; omega) u⟩, h.fst.other (by have := k.fst.lt; show b ≠ d; omega) u⟩
theorem PS.give {w W : World} {f t : Int} {x : ByteArray} {b : Nat} {n : Int} (h : PS w f t x b n W) :
    W.cell? ⟨w.heap.size, 0, none⟩ = some (.int .i64 f) ∧ W.cell? ⟨w.heap.size, 1, none⟩ = some (.int .i64 t) ∧ W.cell? ⟨w.heap.size, 2, none⟩ = some (.string x) ∧ W.cell? ⟨b, 0, none⟩ = some (.int .i64 n) ∧ PS w f t x b n W :=
  ⟨(h.q.chg.cell 0).trans rfl, (h.q.chg.cell 1).trans rfl, (h.q.chg.cell 2).trans rfl, (h.fst.cell 0).trans rfl, h⟩

/-- And that of the last line. -/
structure PT (w : World) (f t : Int) (x : ByteArray) (b : Nat) (n : Int) (d : Nat) (m : Int) (W : World) : Prop where
  s : PS w f t x b n W
  lst : Has W d 3 #[.int .i64 m]
theorem PT.later {w W W' : World} {f t : Int} {x : ByteArray} {b d : Nat} {n m : Int} (h : PT w f t x b n d m W) (hb : Below W.heap.size W W') : PT w f t x b n d m W' :=
  ⟨h.s.later hb, h.lst.below hb h.lst.lt⟩
theorem PT.alloc {w W : World} {f t : Int} {x : ByteArray} {b d : Nat} {n m : Int} (h : PT w f t x b n d m W) (o : Obj) : PT w f t x b n d m (W.alloc o) := h.later ((Below.refl _ _).alloc (Nat.le_refl _) o)
theorem PT.drew {w W : World} {f t : Int} {x : ByteArray} {b d : Nat} {n m : Int} (h : PT w f t x b n d m W) : PT w f t x b n d m W.drew := ⟨h.s.drew, h.lst⟩
theorem PT.set {w V W : World} {f t : Int} {x : ByteArray} {b d : Nat} {n m : Int} (h : PT w f t x b n d m W) (k : PT w f t x b n d m V) {g : Nat} (hd : V.heap.size ≤ g) (i : Nat) (u : Value) : PT w f t x b n d m (W.setCell ⟨g, i, none⟩ u) :=
  ⟨h.s.set k.s hd i u, h.lst.other (by have := k.lst.lt; show d ≠ g; omega) u⟩
theorem PT.set5 {w V W : World} {f t : Int} {x : ByteArray} {b d : Nat} {n m : Int} (h : PT w f t x b n d m W) (k : PT w f t x b n d m V) {g : Nat} (hd : V.heap.size ≤ g) (u0 u1 u2 u3 u4 : Value) : PT w f t x b n d m (set5 W g u0 u1 u2 u3 u4) :=
  ((((h.set k hd 0 u0).set k hd 1 u1).set k hd 2 u2).set k hd 3 u3).set k hd 4 u4
theorem PT.give {w W : World} {f t : Int} {x : ByteArray} {b d : Nat} {n m : Int} (h : PT w f t x b n d m W) :
    W.cell? ⟨w.heap.size, 0, none⟩ = some (.int .i64 f) ∧ W.cell? ⟨w.heap.size, 1, none⟩ = some (.int .i64 t) ∧ W.cell? ⟨w.heap.size, 2, none⟩ = some (.string x) ∧ W.cell? ⟨b, 0, none⟩ = some (.int .i64 n) ∧ PT w f t x b n d m W :=
  ⟨(h.s.q.chg.cell 0).trans rfl, (h.s.q.chg.cell 1).trans rfl, (h.s.q.chg.cell 2).trans rfl, (h.s.fst.cell 0).trans rfl, h⟩
theorem PT.below {w W : World} {f t : Int} {x : ByteArray} {b d : Nat} {n m : Int} (h : PT w f t x b n d m W) : Below w.heap.size w W := h.s.q.below


theorem own_set1 {w : World} {B e size n b : Nat} {v : Value} {xs : List Value} (h : w.ownsRow B e size v n xs) (hb : b < B) (i : Nat) (u : Value) : (w.setCell ⟨b, i, none⟩ u).ownsRow B e size v n xs :=
  h.kept (grown_set w b i u) (by
    cases hv : v.ownBlock with
    | none => exact .inl rfl
    | some g => exact .inr (fun e => by have := own_ge h hv; cases e; omega))
theorem own_set5 {w : World} {B e size n b : Nat} {v : Value} {xs : List Value} (h : w.ownsRow B e size v n xs) (hb : b < B) (u0 u1 u2 u3 u4 : Value) : (set5 w b u0 u1 u2 u3 u4).ownsRow B e size v n xs :=
  own_set1 (own_set1 (own_set1 (own_set1 (own_set1 h hb 0 u0) hb 1 u1) hb 2 u2) hb 3 u3) hb 4 u4
theorem own_alloc {w : World} {B e size n : Nat} {v : Value} {xs : List Value} (h : w.ownsRow B e size v n xs) (o : Obj) : (w.alloc o).ownsRow B e size v n xs :=
  own_below h ((Below.refl _ _).alloc (Nat.le_refl _) o) (Nat.le_refl _)
theorem below_drewN {B : Nat} {w W : World} (h : Below B w W) (n : Nat) : Below B w (W.drewN n) :=
  ⟨h.os, h.tape, h.output, h.size, h.block⟩
theorem own_drew {w : World} {B e size n : Nat} {v : Value} {xs : List Value} (h : w.ownsRow B e size v n xs) : w.drew.ownsRow B e size v n xs := h

namespace Lx
theorem leftOf_sub (s : List UInt8) (t : Tok) : ∀ (pre : List Nat) (l : List Tok), t ∈ l → t ∈ leftOf s l pre ∨ ∃ k ∈ pre, atPlace s k t = true
  | [], l, h => .inl h
  | k :: pre, l, h => by
    have hs : ∀ r : List Tok, t ∈ r → t ∈ r.dropWhile (atPlace s k) ∨ atPlace s k t = true := by
      intro r hr
      induction r with
      | nil => cases hr
      | cons x r ih =>
        by_cases hx : atPlace s k x = true
        · rw [List.dropWhile_cons_of_pos hx]
          rcases List.mem_cons.1 hr with rfl | hr
          · exact .inr hx
          · exact ih hr
        · rw [List.dropWhile_cons_of_neg hx]
          exact .inl hr
    rcases hs l h with h1 | h1
    · rcases leftOf_sub s t pre _ h1 with h2 | ⟨j, hj, h2⟩
      · exact .inl h2
      · exact .inr ⟨j, List.mem_cons_of_mem _ hj, h2⟩
    · exact .inr ⟨k, List.mem_cons_self, h1⟩
theorem placed_line (l : List Tok) (s : List UInt8) (h : placed l s = true) : ∀ t ∈ l, 0 ≤ t.line ∧ t.line ≤ s.length + 1 := by
  intro t ht
  unfold placed at h
  rw [List.isEmpty_iff] at h
  rcases leftOf_sub s t (List.range (s.length + 1)) l ht with h1 | ⟨k, _, h1⟩
  · rw [h] at h1; cases h1
  · have := (place_le s k).1
    unfold atPlace at h1
    simp only [Bool.and_eq_true, beq_iff_eq] at h1
    omega
theorem refRead_count : ∀ (n : Nat) (line col : Int) (out : Red) (l : List UInt8), (refRead n line col out l).toks.length ≤ out.toks.length + l.length
  | 0, _, _, _, _ => by simp [refRead]
  | n + 1, _, _, _, [] => by simp [refRead]
  | n + 1, line, col, out, c :: r => by
    have ih := refRead_count n
    unfold refRead
    split
    · have := ih (line + 1) 1 out r
      simp only [List.length_cons]; omega
    split
    · have := ih line (col + 1) out r
      simp only [List.length_cons]; omega
    split
    · split
      · simp
      · have := ih line (col + (refNote (c :: r)).length) { out with notes := out.notes ++ [⟨6, refNote (c :: r), line, col⟩] } ((c :: r).drop (refNote (c :: r)).length)
        rw [List.length_drop] at this
        dsimp only at this
        omega
    split
    · simp
    · rename_i hs
      have h0 : 1 ≤ (refRun (c :: r)).length := by
        cases hh : refRun (c :: r) with
        | nil => rw [hh] at hs; simp [shape] at hs
        | cons a b => simp
      have := ih line (col + (refRun (c :: r)).length) { out with toks := out.toks ++ [⟨(shape (refRun (c :: r))).1, refRun (c :: r), line, col⟩] } ((c :: r).drop (refRun (c :: r)).length)
      rw [List.length_drop, List.length_append] at this
      simp only [List.length_cons, List.length_nil] at this ⊢
      omega
theorem refRead_lines (l : List UInt8) (first : Int) : refRead l.length first 1 {} l = readLines l first := by
  have := refRead_eq l.length first 0 {} l (Nat.le_refl _)
  rw [show ((0 : Nat) : Int) + 1 = 1 from rfl] at this
  rw [this]
  obtain ⟨tl, h1, _⟩ := lines_hd l
  unfold lineRead readLines
  rw [h1]
  rfl
theorem readLines_count (l : List UInt8) (first : Int) : (readLines l first).toks.length ≤ l.length := by
  rw [← refRead_lines]
  have := refRead_count l.length first 1 {} l
  simpa using this
end Lx
end Go.Proofs.YtadicempblgmhaaDoor
