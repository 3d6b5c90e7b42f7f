/-
  What sanity of the laws returns: true. The chapter's examples, one by one.
-/
import Derived.Test.YtadicempblgmhaaDoorPatchB
import Derived.Test.YtadicempblgmhaaDoorJoin
import Derived.Test.YtadicempblgmhaaDoorWriteB
import Derived.Lib.SmallJoins
import Derived.Deep.RegionHeld3
import Derived.Test.YtadicempblgmhaaDoorOffset
namespace Go.Proofs.YtadicempblgmhaaDoor
open Go.RowKit Go.Shelf

/-- A token lies at an offset of a block. -/
def TokAt (w : World) (b o : Nat) (t : Lx.Tok) : Prop :=
  w.cell? ⟨b, o, none⟩ = some (.int .i64 t.kind) ∧ w.cell? ⟨b, o + 1, none⟩ = some (.string ⟨t.text.toArray⟩) ∧ w.cell? ⟨b, o + 2, none⟩ = some (.int .i64 t.line) ∧ w.cell? ⟨b, o + 3, none⟩ = some (.int .i64 t.col)
theorem TokAt.below {w w' : World} {B b o : Nat} {t : Lx.Tok} (h : TokAt w b o t) (hb : Below B w w') (hB : w.heap.size ≤ B) : TokAt w' b o t :=
  ⟨kept_below hb hB _ _ h.1, kept_below hb hB _ _ h.2.1, kept_below hb hB _ _ h.2.2.1, kept_below hb hB _ _ h.2.2.2⟩
theorem ToksAt.first {w : World} {v : Value} {l : List Lx.Tok} (h : ToksAt w v l) (h0 : 0 < l.length) : ∃ b o c, v = .slice (some ⟨b, o, none⟩) l.length c ∧ ∀ i (h : i < l.length), TokAt w b (o + i * 4) l[i] := by
  obtain ⟨A, c, rfl, h1⟩ := h
  obtain ⟨b, o, rfl, h2⟩ := h1 h0
  exact ⟨b, o, c, rfl, h2⟩
theorem ToksAt.laid (w : World) (l : List Lx.Tok) (c : Nat) (cs : Array Value) (hcs : cs = (toksCells l).toArray) : ToksAt (w.alloc (.cells cs 55)) (.slice (some ⟨w.heap.size, 0, none⟩) l.length c) l := by
  subst hcs
  refine ⟨_, c, rfl, fun h0 => ⟨w.heap.size, 0, rfl, fun i hi => ?_⟩⟩
  have hc := (Has.new w 55 (toksCells l).toArray).cell
  obtain ⟨h1, h2, h3, h4⟩ := toksCells_at l i hi
  simp only [List.getElem?_toArray] at hc
  rw [Nat.zero_add]
  exact ⟨(hc _).trans h1, (hc _).trans h2, (hc _).trans h3, (hc _).trans h4⟩

namespace Lx
def ex1 : List UInt8 := [120, 32, 58, 61, 32, 97, 47, 47, 50, 32, 45, 45, 32, 104, 97, 108, 102]
def ex2 : List UInt8 := [65, 46, 98, 10, 32, 48, 49]
def ex3 : List UInt8 := [114, 101, 115, 117, 108, 116]
def ex4 : List UInt8 := [82, 101, 115, 117, 108, 116, 115]
def ex5 : List UInt8 := [97, 10, 98, 32, 99, 10, 100]
def exT : List Tok := [⟨3, [105, 102], 0, 0⟩, ⟨1, [97], 0, 0⟩, ⟨5, [60], 0, 0⟩, ⟨5, [61], 0, 0⟩, ⟨3, [116, 104, 101, 110], 0, 0⟩]
def exO : List Tok := [⟨1, [97], 1, 1⟩, ⟨1, [98], 2, 1⟩, ⟨1, [99], 2, 3⟩, ⟨1, [100], 3, 1⟩]
def exN : List Tok := [⟨1, [97], 1, 1⟩, ⟨1, [120], 2, 1⟩, ⟨1, [121], 3, 1⟩, ⟨1, [99], 3, 3⟩, ⟨1, [100], 4, 1⟩]
theorem read1 : readText ex1 = ⟨[⟨1, [120], 1, 1⟩, ⟨5, [58, 61], 1, 3⟩, ⟨1, [97], 1, 6⟩, ⟨5, [47, 47], 1, 7⟩, ⟨4, [50], 1, 9⟩], [⟨6, [45, 45, 32, 104, 97, 108, 102], 1, 11⟩], 0, 0, 0⟩ := by decide +kernel
theorem read2 : readText ex2 = ⟨[], [], 2, 2, 2⟩ := by decide +kernel
theorem read3 : readText ex3 = ⟨[], [], 1, 1, 4⟩ := by decide +kernel
theorem read4 : readText ex4 = ⟨[], [], 1, 1, 2⟩ := by decide +kernel
theorem read5 : readText ex5 = ⟨exO, [], 0, 0, 0⟩ := by decide +kernel
theorem tight1 : written needs exT = ([105, 102, 32, 97, 60, 32, 61, 116, 104, 101, 110], 0) := by decide +kernel
theorem offset1 : offset [97, 98, 10, 99, 100] (2, 3) = (5, 0) := by decide +kernel
theorem offset2 : offset [97, 98, 10, 99, 100] (2, 4) = (0, 1) := by decide +kernel
theorem patch1 : pOut exO ex5 [120, 10, 121] 2 3 = (exN, 3, (0, 0), 0) := by decide +kernel
theorem placed1 : placed exO ex5 = true := by decide +kernel
theorem joined1 : joined [⟨#[97]⟩, ⟨#[98, 10]⟩] = ([97, 10, 98, 10, 10], [1, 2], 0) := by decide +kernel
end Lx

theorem tokens_none (x : List UInt8) (ln cl er : Int) (h : Lx.readText x = ⟨[], [], ln, cl, er⟩) (hx : x.length ≤ 100000) (W : World) (hE : Env W) :
    Calls Tryd.prog 22 #[.string ⟨x.toArray⟩] W fun e w' => ∃ A c, e = .returned (.tuple #[.slice A 0 c, .agg #[.int .i64 ln, .int .i64 cl], .int .i64 er]) ∧ Below W.heap.size W w' := by
  have hz : (⟨x.toArray⟩ : ByteArray).data.toList = x := by simp
  have := Tokens_any ⟨x.toArray⟩ W (by show x.toArray.size ≤ 100000; simpa using hx) hE
  rw [hz, h] at this
  refine this.mono ?_
  rintro e w' ⟨A, c, rfl, _, hb⟩
  exact ⟨A, c, rfl, hb⟩
theorem tokens_some (x : List UInt8) (l notes : List Lx.Tok) (n : Nat) (hn : l.length = n) (h : Lx.readText x = ⟨l, notes, 0, 0, 0⟩) (hx : x.length ≤ 100000) (h0 : 0 < n) (W : World) (hE : Env W) :
    Calls Tryd.prog 22 #[.string ⟨x.toArray⟩] W fun e w' => ∃ b o c, e = .returned (.tuple #[.slice (some ⟨b, o, none⟩) n c, .agg #[.int .i64 0, .int .i64 0], .int .i64 0]) ∧ (∀ i (h : i < l.length), TokAt w' b (o + i * 4) l[i]) ∧ ToksAt w' (.slice (some ⟨b, o, none⟩) n c) l ∧ Below W.heap.size W w' := by
  subst hn
  have hz : (⟨x.toArray⟩ : ByteArray).data.toList = x := by simp
  have := Tokens_any ⟨x.toArray⟩ W (by show x.toArray.size ≤ 100000; simpa using hx) hE
  rw [hz, h] at this
  refine this.mono ?_
  rintro e w' ⟨A, c, rfl, ho, hb⟩
  have ht := ToksAt.of_own ho
  obtain ⟨b, o, c', hv, hc⟩ := ht.first h0
  cases hv
  exact ⟨b, o, c, rfl, hc, ht, hb⟩

theorem at_any (a b : Int) (w : World) : Calls Tryd.prog 48 #[.int .i64 a, .int .i64 b] w fun e w' => e = .returned (.agg #[.int .i64 a, .int .i64 b]) ∧ Below w.heap.size w w' := by
  go_enter Tryd.func48, Tryd.ntmps48
  go_wp2
  refine bodyPost_ret (v := .agg #[.int .i64 a, .int .i64 b]) ?_ rfl ⟨rfl, (Below.refl _ _).alloc (Nat.le_refl _) _⟩
  simp [results, Tryd.results48, go_sem]

theorem tight_ex (W : World) (hE : Env W) (g : Nat) (hg : g = W.heap.size) (c : Nat) (cs : Array Value) (hcs : cs = (toksCells Lx.exT).toArray) :
    Calls Tryd.prog 29 #[.slice (some ⟨g, 0, none⟩) 5 c] (W.alloc (.cells cs 55)) fun e w' => e = .returned (.tuple #[.string ⟨#[105, 102, 32, 97, 60, 32, 61, 116, 104, 101, 110]⟩, .int .i64 0]) ∧ Below W.heap.size W w' := by
  subst hg
  have := Tight_any _ Lx.exT (W.alloc (.cells cs 55)) (ToksAt.laid W Lx.exT c cs hcs) (by decide) (by decide) (hE.alloc _)
  rw [Lx.tight1] at this
  refine this.mono ?_
  rintro e w' ⟨rfl, hb⟩
  exact ⟨rfl, ((Below.refl _ _).alloc (Nat.le_refl _) _).trans (hb.mono (by simp))⟩
theorem offset_ex1 (W : World) : Calls Tryd.prog 33 #[.string ⟨#[97, 98, 10, 99, 100]⟩, .agg #[.int .i64 2, .int .i64 3]] W fun e w' => e = .returned (.tuple #[.int .i64 5, .int .i64 0]) ∧ Below W.heap.size W w' := by
  have := Offset_any ⟨#[97, 98, 10, 99, 100]⟩ 2 3 W (by decide)
  rwa [show (⟨#[97, 98, 10, 99, 100]⟩ : ByteArray).data.toList = [97, 98, 10, 99, 100] from rfl, Lx.offset1] at this
theorem offset_ex2 (W : World) : Calls Tryd.prog 33 #[.string ⟨#[97, 98, 10, 99, 100]⟩, .agg #[.int .i64 2, .int .i64 4]] W fun e w' => e = .returned (.tuple #[.int .i64 0, .int .i64 1]) ∧ Below W.heap.size W w' := by
  have := Offset_any ⟨#[97, 98, 10, 99, 100]⟩ 2 4 W (by decide)
  rwa [show (⟨#[97, 98, 10, 99, 100]⟩ : ByteArray).data.toList = [97, 98, 10, 99, 100] from rfl, Lx.offset2] at this
theorem patch_ex (W : World) (hE : Env W) (v : Value) (hv : ToksAt W v Lx.exO) : Calls Tryd.prog 41 #[v, .string ⟨#[97, 10, 98, 32, 99, 10, 100]⟩, .agg #[.int .i64 2, .int .i64 3, .string ⟨#[120, 10, 121]⟩]] W fun e w' =>
    ∃ b o c, e = .returned (.tuple #[.slice (some ⟨b, o, none⟩) 5 c, .int .i64 3, .agg #[.int .i64 0, .int .i64 0], .int .i64 0]) ∧ TokAt w' b (o + 8) ⟨1, [121], 3, 1⟩ ∧ TokAt w' b (o + 16) ⟨1, [100], 4, 1⟩ ∧ Below W.heap.size W w' := by
  have := Patch_good v Lx.exO ⟨#[97, 10, 98, 32, 99, 10, 100]⟩ ⟨#[120, 10, 121]⟩ 2 3 W hv (by decide) (by decide) (by decide) (by decide) (by exact Lx.placed1) hE
  rw [show (⟨#[97, 10, 98, 32, 99, 10, 100]⟩ : ByteArray).data.toList = Lx.ex5 from rfl, show (⟨#[120, 10, 121]⟩ : ByteArray).data.toList = [120, 10, 121] from rfl, Lx.patch1] at this
  refine this.mono ?_
  rintro e w' ⟨v, rfl, ho, hb⟩
  obtain ⟨b, o, c, rfl, hc⟩ := (ToksAt.of_own ho).first (by decide)
  exact ⟨b, o, c, rfl, hc 2 (by decide), hc 4 (by decide), hb⟩
theorem join_ex (W : World) (h : Nat) (hh : h = W.heap.size) (c : Nat) : Calls Tryd.prog 39 #[.slice (some ⟨h, 0, none⟩) 2 c] (W.alloc (.cells #[.string ⟨#[97]⟩, .string ⟨#[98, 10]⟩] 9)) fun e w' =>
    ∃ g c, e = .returned (.tuple #[.string ⟨#[97, 10, 98, 10, 10]⟩, .slice (some ⟨g, 0, none⟩) 2 c, .int .i64 0]) ∧ w'.cell? ⟨g, 0, none⟩ = some (.int .i64 1) ∧ w'.cell? ⟨g, 1, none⟩ = some (.int .i64 2) ∧ Below W.heap.size W w' := by
  subst hh
  have hS : StrsAt (W.alloc (.cells #[.string ⟨#[97]⟩, .string ⟨#[98, 10]⟩] 9)) (.slice (some ⟨W.heap.size, 0, none⟩) 2 c) [⟨#[97]⟩, ⟨#[98, 10]⟩] := by
    refine ⟨_, c, rfl, fun _ => ⟨W.heap.size, 0, rfl, fun i hi => ?_⟩⟩
    have hc := (Has.new W 9 #[.string ⟨#[97]⟩, .string ⟨#[98, 10]⟩]).cell i
    rw [Nat.zero_add, hc]
    match i, hi with
    | 0, _ => rfl
    | 1, _ => rfl
  have := Join_any _ [⟨#[97]⟩, ⟨#[98, 10]⟩] _ hS (by decide) (by decide)
  rw [Lx.joined1] at this
  refine this.mono ?_
  rintro e w' ⟨vl, rfl, ho, hb⟩
  have hbb := ((Below.refl W.heap.size W).alloc (Nat.le_refl _) (.cells #[.string ⟨#[97]⟩, .string ⟨#[98, 10]⟩] 9)).trans (hb.mono (by simp))
  rcases ho.2 with ⟨_, h1⟩ | ⟨g, cap, cur, rfl, _⟩
  · cases h1
  · have hc := ho.cells (g := g) rfl
    exact ⟨g, cap, rfl, hc 0 _ rfl, hc 1 _ rfl, hbb⟩

theorem tab_below {w w' : World} {B : Nat} {n : String} {k : IntKind} {zs : List Int} {g : Nat} (hg : Tryd.prog.globalNamed n = some g) (h : Lib.TabIs Tryd.prog w n k zs) (hb : Below B w w') (hB : w.heap.size ≤ B) : Lib.TabIs Tryd.prog w' n k zs := Joins.tab_stays hg h hb hB

theorem stepA {w W W' : World} (h : Below w.heap.size w W) (o : Obj) (hb : Below (W.alloc o).heap.size (W.alloc o) W') : Below w.heap.size w W' :=
  (h.alloc h.size o).trans (hb.mono (by rw [World.size_alloc]; have := h.size; omega))
theorem stepN {w W W' : World} (h : Below w.heap.size w W) (hb : Below W.heap.size W W') : Below w.heap.size w W' := h.trans (hb.mono h.size)

set_option maxRecDepth 100000 in
set_option maxHeartbeats 4000000 in
theorem sanity_any (w : World) (hE : Env w) (htab : Lib.TabIs Tryd.prog w "strings.asciiSpace" .u8 Lib.asciiSpaceTab) :
    Calls Tryd.prog 14 #[] w fun e w' => e = .returned (.bool true) ∧ Below w.heap.size w w' := by
  have HE := Lib.hid hE
  have HT := Lib.hid htab
  have AT := Lib.hid at_any
  clear hE htab
  go_enter Tryd.func14, Tryd.ntmps14
  go_wp2_with fail
  refine (tokens_some Lx.ex1 _ _ 5 rfl Lx.read1 (by decide) (by decide) w HE.out).mono ?_
  rintro e w1 ⟨b1, o1, c1, rfl, tk1, ht1, hb1⟩
  have T1 := Lib.hid tk1
  clear tk1 ht1
  have B1 := Lib.hid hb1
  clear hb1
  go_wp2_with fail
  refine (tokens_none Lx.ex2 _ _ _ Lx.read2 (by decide) _ (HE.out.below (B1.out.alloc B1.out.size _) (Nat.le_refl _))).mono ?_
  rintro e w2 ⟨A2, c2, rfl, hb2⟩
  have B2 := Lib.hid (stepA B1.out _ hb2)
  have K2 := Lib.hid (stepA (Below.refl w1.heap.size w1) _ hb2)
  clear hb2
  go_wp2_with fail
  refine (tokens_none Lx.ex3 _ _ _ Lx.read3 (by decide) _ (HE.out.below (B2.out.alloc B2.out.size _) (Nat.le_refl _))).mono ?_
  rintro e w3 ⟨A3, c3, rfl, hb3⟩
  have B3 := Lib.hid (stepA B2.out _ hb3)
  have K3 := Lib.hid (stepA K2.out _ hb3)
  have hP := Lib.hid ((Has.new w2 37 #[.int .i64 2, .int .i64 2]).below hb3 (by simp))
  clear hb3
  go_wp2_with fail
  refine (tokens_none Lx.ex4 _ _ _ Lx.read4 (by decide) _ (HE.out.below (B3.out.alloc B3.out.size _) (Nat.le_refl _))).mono ?_
  rintro e w4 ⟨A4, c4, rfl, hb4⟩
  have B4 := Lib.hid (stepA B3.out _ hb4)
  have K4 := Lib.hid (stepA K3.out _ hb4)
  have L4 := Lib.hid (stepA (Below.refl w3.heap.size w3) _ hb4)
  clear hb4
  go_wp2_with fail
  refine (tight_ex _ (HE.out.below (B4.out.alloc B4.out.size _) (Nat.le_refl _)) _ (by simp) 5 _ rfl).mono ?_
  rintro e w5 ⟨rfl, hb5⟩
  have B5 := Lib.hid (stepA B4.out _ hb5)
  have K5 := Lib.hid (stepA K4.out _ hb5)
  have L5 := Lib.hid (stepA L4.out _ hb5)
  clear hb5
  go_wp2_with fail
  refine (AT.out 2 3 _).mono ?_
  rintro e w6 ⟨rfl, hb6⟩
  have B6 := Lib.hid (stepN B5.out hb6)
  have K6 := Lib.hid (stepN K5.out hb6)
  have L6 := Lib.hid (stepN L5.out hb6)
  clear hb6
  go_wp2_with fail
  refine (offset_ex1 _).mono ?_
  rintro e w7 ⟨rfl, hb7⟩
  have B7 := Lib.hid (stepN B6.out hb7)
  have K7 := Lib.hid (stepN K6.out hb7)
  have L7 := Lib.hid (stepN L6.out hb7)
  clear hb7
  go_wp2_with fail
  refine (AT.out 2 4 _).mono ?_
  rintro e w8 ⟨rfl, hb8⟩
  have B8 := Lib.hid (stepN B7.out hb8)
  have K8 := Lib.hid (stepN K7.out hb8)
  have L8 := Lib.hid (stepN L7.out hb8)
  clear hb8
  go_wp2_with fail
  refine (offset_ex2 _).mono ?_
  rintro e w9 ⟨rfl, hb9⟩
  have B9 := Lib.hid (stepN B8.out hb9)
  have K9 := Lib.hid (stepN K8.out hb9)
  have L9 := Lib.hid (stepN L8.out hb9)
  clear hb9
  go_wp2_with fail
  refine (tokens_some Lx.ex5 _ _ 4 rfl Lx.read5 (by decide) (by decide) _ (HE.out.below B9.out (Nat.le_refl _))).mono ?_
  rintro e w10 ⟨b10, o10, c10, rfl, -, ht10, hb10⟩
  have B10 := Lib.hid (stepN B9.out hb10)
  have K10 := Lib.hid (stepN K9.out hb10)
  have L10 := Lib.hid (stepN L9.out hb10)
  have T10 := Lib.hid ht10
  clear hb10 ht10
  go_wp2_with fail
  refine (patch_ex _ (HE.out.below (B10.out.alloc B10.out.size _) (Nat.le_refl _)) _ (T10.out.below ((Below.refl _ _).alloc (Nat.le_refl _) _) (Nat.le_refl _))).mono ?_
  rintro e w11 ⟨b11, o11, c11, rfl, hy, hd, hb11⟩
  have B11 := Lib.hid (stepA B10.out _ hb11)
  have K11 := Lib.hid (stepA K10.out _ hb11)
  have L11 := Lib.hid (stepA L10.out _ hb11)
  have HY := Lib.hid hy
  have HD := Lib.hid hd
  clear hb11 hy hd
  go_wp2_with fail
  refine (join_ex _ _ (by simp) 2).mono ?_
  rintro e w12 ⟨g12, c12, rfl, j0, j1, hb12⟩
  have B12 := Lib.hid (stepA B11.out _ hb12)
  have K12 := Lib.hid (stepA K11.out _ hb12)
  have L12 := Lib.hid (stepA L11.out _ hb12)
  have M12 := Lib.hid (stepA (Below.refl w11.heap.size w11) _ hb12)
  clear hb12
  go_wp2_with fail
  have ATX := Lib.hid (fun (a b : Int) (W : World) (hW : Below w12.heap.size w12 W) => (at_any a b W).mono (fun e w' (h : e = .returned (.agg #[.int .i64 a, .int .i64 b]) ∧ Below W.heap.size W w') => (⟨h.1, stepN hW h.2⟩ : e = .returned (.agg #[.int .i64 a, .int .i64 b]) ∧ Below w12.heap.size w12 w')))
  have f1 := (T1.out 1 (by decide)).below K12.out (Nat.le_refl _)
  have f4 := (T1.out 4 (by decide)).below K12.out (Nat.le_refl _)
  have fp := hP.out.below L12.out hP.out.lt
  have fy := HY.out.below M12.out (Nat.le_refl _)
  have fd := HD.out.below M12.out (Nat.le_refl _)
  have GIVE := Lib.hid (fun (W : World) (hW : Below w12.heap.size w12 W) => (⟨kept_below hW (Nat.le_refl _) _ _ f1.1, kept_below hW (Nat.le_refl _) _ _ f1.2.1, kept_below hW (Nat.le_refl _) _ _ f1.2.2.1, kept_below hW (Nat.le_refl _) _ _ f1.2.2.2,
    kept_below hW (Nat.le_refl _) _ _ f4.1, kept_below hW (Nat.le_refl _) _ _ f4.2.1, kept_below hW (Nat.le_refl _) _ _ f4.2.2.1, kept_below hW (Nat.le_refl _) _ _ f4.2.2.2,
    kept_below hW (Nat.le_refl _) _ _ ((fp.cell 0).trans rfl), kept_below hW (Nat.le_refl _) _ _ ((fp.cell 1).trans rfl), hW⟩ :
    W.cell? ⟨b1, o1 + 4, none⟩ = some (.int .i64 5) ∧ W.cell? ⟨b1, o1 + 5, none⟩ = some (.string ⟨#[58, 61]⟩) ∧ W.cell? ⟨b1, o1 + 6, none⟩ = some (.int .i64 1) ∧ W.cell? ⟨b1, o1 + 7, none⟩ = some (.int .i64 3) ∧
    W.cell? ⟨b1, o1 + 16, none⟩ = some (.int .i64 4) ∧ W.cell? ⟨b1, o1 + 17, none⟩ = some (.string ⟨#[50]⟩) ∧ W.cell? ⟨b1, o1 + 18, none⟩ = some (.int .i64 1) ∧ W.cell? ⟨b1, o1 + 19, none⟩ = some (.int .i64 9) ∧
    W.cell? ⟨w2.heap.size, 0, none⟩ = some (.int .i64 2) ∧ W.cell? ⟨w2.heap.size, 1, none⟩ = some (.int .i64 2) ∧ Below w12.heap.size w12 W))
  have GIVF := Lib.hid (fun (W : World) (hW : Below w12.heap.size w12 W) => (⟨kept_below hW (Nat.le_refl _) _ _ fy.1, kept_below hW (Nat.le_refl _) _ _ fy.2.1, kept_below hW (Nat.le_refl _) _ _ fy.2.2.1, kept_below hW (Nat.le_refl _) _ _ fy.2.2.2,
    kept_below hW (Nat.le_refl _) _ _ fd.2.2.1, kept_below hW (Nat.le_refl _) _ _ fd.2.2.2,
    kept_below hW (Nat.le_refl _) _ _ j0, kept_below hW (Nat.le_refl _) _ _ j1, hW⟩ :
    W.cell? ⟨b11, o11 + 8, none⟩ = some (.int .i64 1) ∧ W.cell? ⟨b11, o11 + 9, none⟩ = some (.string ⟨#[121]⟩) ∧ W.cell? ⟨b11, o11 + 10, none⟩ = some (.int .i64 3) ∧ W.cell? ⟨b11, o11 + 11, none⟩ = some (.int .i64 1) ∧
    W.cell? ⟨b11, o11 + 18, none⟩ = some (.int .i64 4) ∧ W.cell? ⟨b11, o11 + 19, none⟩ = some (.int .i64 1) ∧
    W.cell? ⟨g12, 0, none⟩ = some (.int .i64 1) ∧ W.cell? ⟨g12, 1, none⟩ = some (.int .i64 2) ∧ Below w12.heap.size w12 W))
  clear f1 f4 fp fy fd j0 j1
  go_region_held3 (fun W => W.cell? ⟨b1, o1 + 4, none⟩ = some (.int .i64 5) ∧ W.cell? ⟨b1, o1 + 5, none⟩ = some (.string ⟨#[58, 61]⟩) ∧ W.cell? ⟨b1, o1 + 6, none⟩ = some (.int .i64 1) ∧ W.cell? ⟨b1, o1 + 7, none⟩ = some (.int .i64 3) ∧
    W.cell? ⟨b1, o1 + 16, none⟩ = some (.int .i64 4) ∧ W.cell? ⟨b1, o1 + 17, none⟩ = some (.string ⟨#[50]⟩) ∧ W.cell? ⟨b1, o1 + 18, none⟩ = some (.int .i64 1) ∧ W.cell? ⟨b1, o1 + 19, none⟩ = some (.int .i64 9) ∧
    W.cell? ⟨w2.heap.size, 0, none⟩ = some (.int .i64 2) ∧ W.cell? ⟨w2.heap.size, 1, none⟩ = some (.int .i64 2) ∧ Below w12.heap.size w12 W)
    (with_reducible (refine GIVE.out _ ?_; first | exact hbx | exact (Below.refl _ _).drew))
    (first
      | (go_at_call 48; refine (ATX.out _ _ _ (by with_reducible first | exact hbx | exact (Below.refl _ _).drew)).mono ?_; rintro e wx ⟨rfl, hbx⟩))
  go_wp2_with fail
  have HBX := Lib.hid hbx
  go_region_held3 (fun W => W.cell? ⟨b11, o11 + 8, none⟩ = some (.int .i64 1) ∧ W.cell? ⟨b11, o11 + 9, none⟩ = some (.string ⟨#[121]⟩) ∧ W.cell? ⟨b11, o11 + 10, none⟩ = some (.int .i64 3) ∧ W.cell? ⟨b11, o11 + 11, none⟩ = some (.int .i64 1) ∧
    W.cell? ⟨b11, o11 + 18, none⟩ = some (.int .i64 4) ∧ W.cell? ⟨b11, o11 + 19, none⟩ = some (.int .i64 1) ∧
    W.cell? ⟨g12, 0, none⟩ = some (.int .i64 1) ∧ W.cell? ⟨g12, 1, none⟩ = some (.int .i64 2) ∧ Below w12.heap.size w12 W)
    (with_reducible (refine GIVF.out _ ?_; first | exact hby | exact HBX.out.drew))
    (first
      | (go_at_call 48; refine (ATX.out _ _ _ (by with_reducible first | exact hby | exact HBX.out.drew)).mono ?_; rintro e wy ⟨rfl, hby⟩))
  go_wp2_with fail
  refine (Keywords_any _ (tab_below (g := 1) (by kernel_rfl) HT.out (B12.out.trans (hby.mono B12.out.size)) (Nat.le_refl _))).mono ?_
  rintro e wz ⟨rfl, rfl⟩
  rw [Lx.keywords_length]
  have BZ := Lib.hid ((B12.out.trans (hby.mono B12.out.size)).alloc (Nat.le_trans B12.out.size hby.size) (.cells (Lx.keywords.map fun l => Value.string ⟨l.toArray⟩).toArray 9))
  generalize wy.alloc (.cells (Lx.keywords.map fun l => Value.string ⟨l.toArray⟩).toArray 9) = wk at *
  go_wp2_with fail
  go_ret
  exact ⟨rfl, BZ.out⟩
end Go.Proofs.YtadicempblgmhaaDoor
