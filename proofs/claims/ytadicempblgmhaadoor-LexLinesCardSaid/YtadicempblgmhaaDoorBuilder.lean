/-
  The contracts of strings.Builder's methods at this program.
-/
import Derived.Test.YtadicempblgmhaaDoorText
namespace Go.Proofs.YtadicempblgmhaaDoor
open Go.RowKit Go.Shelf Go.Proofs

def L166_ren : Go.Shelf.Ren := ⟨fun | 166 => 78 | 240 => 113 | 276 => 126 | n => n, fun | 0 => 0 | 3 => 3 | 4 => 4 | 5 => 5 | 9 => 9 | 20 => 20 | 37 => 112 | 70 => 111 | 72 => 114 | 75 => 116 | 80 => 120 | 164 => 161 | n => n, fun | n => n⟩
theorem L166 : Go.Proofs.Lays.n166 Tryd.prog L166_ren := {
  mixed := by kernel_rfl
  f166 := Tryd.func78.trans (congrArg some (by kernel_rfl))
  f240 := Tryd.func113.trans (congrArg some (by kernel_rfl))
  f276 := Tryd.func126.trans (congrArg some (by kernel_rfl))
  t0 := Tryd.underlying0
  a0 := Tryd.isAgg0
  z0 := Tryd.sizeOf0
  v0 := Tryd.zeroValue0
  t3 := Tryd.underlying3
  a3 := Tryd.isAgg3
  z3 := Tryd.sizeOf3
  v3 := Tryd.zeroValue3
  t4 := Tryd.underlying4
  a4 := Tryd.isAgg4
  z4 := Tryd.sizeOf4
  v4 := Tryd.zeroValue4
  t9 := Tryd.underlying9
  a9 := Tryd.isAgg9
  z9 := Tryd.sizeOf9
  v9 := Tryd.zeroValue9
  t20 := Tryd.underlying20
  a20 := Tryd.isAgg20
  z20 := Tryd.sizeOf20
  v20 := Tryd.zeroValue20
  t37 := Tryd.underlying112
  a37 := Tryd.isAgg112
  z37 := Tryd.sizeOf112
  v37 := Tryd.zeroValue112
  t70 := Tryd.underlying111
  a70 := Tryd.isAgg111
  z70 := Tryd.sizeOf111
  v70 := Tryd.zeroValue111
  t72 := Tryd.underlying114
  a72 := Tryd.isAgg114
  z72 := Tryd.sizeOf114
  v72 := Tryd.zeroValue114
  t75 := Tryd.underlying116
  a75 := Tryd.isAgg116
  z75 := Tryd.sizeOf116
  v75 := Tryd.zeroValue116
  t164 := Tryd.underlying161
  a164 := Tryd.isAgg161
  z164 := Tryd.sizeOf161
  v164 := Tryd.zeroValue161 }
theorem X166 : Builder.Extra Tryd.prog L166_ren := {
  sizeBuilder := by kernel_rfl
  liesBuilder := by kernel_rfl
  t5 := Tryd.underlying5
  a5 := Tryd.isAgg5
  z5 := Tryd.sizeOf5
  v5 := Tryd.zeroValue5
  infoByte := by kernel_rfl
  cellsByte := by kernel_rfl
  sizeByte := by kernel_rfl
  neB5 := by decide }
def L167_ren : Go.Shelf.Ren := ⟨fun | 167 => 79 | 240 => 113 | 276 => 126 | n => n, fun | 0 => 0 | 4 => 4 | 5 => 5 | 9 => 9 | 20 => 20 | 37 => 112 | 70 => 111 | 72 => 114 | 75 => 116 | 80 => 120 | 164 => 161 | n => n, fun | n => n⟩
theorem L167 : Go.Proofs.Lays.n167 Tryd.prog L167_ren := {
  mixed := by kernel_rfl
  f167 := Tryd.func79.trans (congrArg some (by kernel_rfl))
  f240 := Tryd.func113.trans (congrArg some (by kernel_rfl))
  f276 := Tryd.func126.trans (congrArg some (by kernel_rfl))
  t0 := Tryd.underlying0
  a0 := Tryd.isAgg0
  z0 := Tryd.sizeOf0
  v0 := Tryd.zeroValue0
  t4 := Tryd.underlying4
  a4 := Tryd.isAgg4
  z4 := Tryd.sizeOf4
  v4 := Tryd.zeroValue4
  t5 := Tryd.underlying5
  a5 := Tryd.isAgg5
  z5 := Tryd.sizeOf5
  v5 := Tryd.zeroValue5
  t9 := Tryd.underlying9
  a9 := Tryd.isAgg9
  z9 := Tryd.sizeOf9
  v9 := Tryd.zeroValue9
  t20 := Tryd.underlying20
  a20 := Tryd.isAgg20
  z20 := Tryd.sizeOf20
  v20 := Tryd.zeroValue20
  t37 := Tryd.underlying112
  a37 := Tryd.isAgg112
  z37 := Tryd.sizeOf112
  v37 := Tryd.zeroValue112
  t70 := Tryd.underlying111
  a70 := Tryd.isAgg111
  z70 := Tryd.sizeOf111
  v70 := Tryd.zeroValue111
  t72 := Tryd.underlying114
  a72 := Tryd.isAgg114
  z72 := Tryd.sizeOf114
  v72 := Tryd.zeroValue114
  t75 := Tryd.underlying116
  a75 := Tryd.isAgg116
  z75 := Tryd.sizeOf116
  v75 := Tryd.zeroValue116
  t164 := Tryd.underlying161
  a164 := Tryd.isAgg161
  z164 := Tryd.sizeOf161
  v164 := Tryd.zeroValue161 }
theorem X167 : Builder.Extra Tryd.prog L167_ren := {
  sizeBuilder := by kernel_rfl
  liesBuilder := by kernel_rfl
  t5 := Tryd.underlying5
  a5 := Tryd.isAgg5
  z5 := Tryd.sizeOf5
  v5 := Tryd.zeroValue5
  infoByte := by kernel_rfl
  cellsByte := by kernel_rfl
  sizeByte := by kernel_rfl
  neB5 := by decide }

/-- A builder that the call has made holds these bytes. -/
abbrev Holds (B b : Nat) (l : List UInt8) (w : World) : Prop := Lib.IsBuilderF 114 5 B b (Lib.byteCells l) w
/-- What a builder's write leaves alone. -/
structure Wrote (B b : Nat) (w w' : World) : Prop where
  below : Below B w w'
  rest : Lib.OthersKept 5 (some b) w w'
theorem Wrote.has {B b g : Nat} {w w' : World} {t : TypeId} {cs : Array Value} (h : Wrote B b w w') (hg : Has w g t cs) (hne : g ≠ b) (ht : t ≠ 5) : Has w' g t cs :=
  h.rest g _ hg (by simpa using hne) (fun c fz e => by cases e; exact ht rfl)

theorem writeString_any (B b : Nat) (l : List UInt8) (s : ByteArray) (w : World) (h : Holds B b l w) (hlen : l.length + s.size ≤ 100000000) (hBw : B ≤ w.heap.size) :
    Calls Tryd.prog 78 #[.pointer (some ⟨b, 0, none⟩), .string s] w fun e w' => e = .returned (.tuple #[.int .i64 s.size, .nilIface]) ∧ Holds B b (l ++ s.data.toList) w' ∧ Wrote B b w w' := by
  refine (Any.Builder_WriteString_k L166 X166 B b (Lib.byteCells l) s w h (by simp [Lib.byteCells]; omega) hBw).mono ?_
  rintro e w' ⟨rfl, h1, h2, h3⟩
  refine ⟨rfl, .inr ?_, h2, h3⟩
  have e : Lib.byteCells (l ++ s.data.toList) = Lib.byteCells l ++ Lib.strCells s := by
    simp [Lib.byteCells, Lib.strCells_eq]
  rw [e]
  exact h1

theorem writeByte_any (B b : Nat) (l : List UInt8) (c : UInt8) (w : World) (h : Holds B b l w) (hlen : l.length + 1 ≤ 100000000) (hBw : B ≤ w.heap.size) :
    Calls Tryd.prog 79 #[.pointer (some ⟨b, 0, none⟩), .int .u8 c.toNat] w fun e w' => e = .returned .nilIface ∧ Holds B b (l ++ [c]) w' ∧ Wrote B b w w' := by
  refine (Any.Builder_WriteByte_k L167 X167 B b (Lib.byteCells l) c.toNat w h (by simp [Lib.byteCells]; omega) hBw).mono ?_
  rintro e w' ⟨rfl, h1, h2, h3⟩
  refine ⟨rfl, .inr ?_, h2, h3⟩
  have e : Lib.byteCells (l ++ [c]) = Lib.byteCells l ++ [.int .u8 c.toNat] := by
    simp [Lib.byteCells]
  rw [e]
  exact h1

theorem builderLen_any (B b : Nat) (l : List UInt8) (w : World) (h : Holds B b l w) :
    Calls Tryd.prog 106 #[.pointer (some ⟨b, 0, none⟩)] w fun e w' => e = .returned (.int .i64 l.length) ∧ w = w' :=
  (Tryd.Builder_Len_f B b _ w h).mono fun _ _ ⟨he, hw⟩ => ⟨by rw [he, Lib.byteCells_length], hw.symm⟩
theorem builderString_any (B b : Nat) (l : List UInt8) (w : World) (h : Holds B b l w) (hBw : B ≤ w.heap.size) :
    Calls Tryd.prog 80 #[.pointer (some ⟨b, 0, none⟩)] w fun e w' => e = .returned (.string ⟨l.toArray⟩) ∧ Wrote B b w w' :=
  (Tryd.Builder_String_any_k B b l w h hBw).mono fun _ _ ⟨he, _, h2, h3⟩ => ⟨he, h2, h3⟩
theorem Holds.new (w : World) : Holds w.heap.size w.heap.size [] (w.alloc (.cells #[.pointer none, .slice none 0 0] 114)) := Lib.IsBuilderF.of (Lib.fresh_isBuilder _ _ w)
theorem Holds.later {B b B' : Nat} {l : List UInt8} {w w' : World} (h : Holds B b l w) (hb : Below B' w w') (hB : w.heap.size ≤ B') : Holds B b l w' := by
  have key : ∀ p, Lib.BuilderAtF 114 5 B b p (Lib.byteCells l) w → Lib.BuilderAtF 114 5 B b p (Lib.byteCells l) w' := by
    rintro p ⟨h1, v, h2, h3, h4⟩
    exact ⟨h1, v, (hb.block b (by have := (Array.getElem?_eq_some_iff.1 h2).1; omega)).trans h2, h3.kept (grown_of_below hb hB) (by cases hv : v.ownBlock <;> simp), h4⟩
  rcases h with h | h
  · exact .inl (key _ h)
  · exact .inr (key _ h)
theorem Holds.alloc {B b : Nat} {l : List UInt8} {w : World} (h : Holds B b l w) (o : Obj) : Holds B b l (w.alloc o) := h.later (B' := w.heap.size) ((Below.refl _ _).alloc (Nat.le_refl _) o) (Nat.le_refl _)
theorem Holds.drew {B b : Nat} {l : List UInt8} {w : World} (h : Holds B b l w) : Holds B b l w.drew := h.later (B' := w.heap.size) (Below.refl _ _).drew (Nat.le_refl _)

namespace Lx
def right (t : Tok) : Bool := (shape t.text).2 == 0 && (shape t.text).1 == t.kind
def needs (a b : Tok) : Bool := decide (runLength (a.text ++ b.text) ≠ a.text.length)
end Lx
abbrev tokVal (t : Lx.Tok) : Value := .agg #[.int .i64 t.kind, .string ⟨t.text.toArray⟩, .int .i64 t.line, .int .i64 t.col]

set_option maxRecDepth 100000 in
set_option maxHeartbeats 1000000 in
theorem isRight_any (t : Lx.Tok) (w : World) (hs : t.text.length ≤ 1000000) (hE : Env w) :
    Calls Tryd.prog 69 #[tokVal t] w fun e w' => e = .returned (.bool (Lx.right t)) ∧ Below w.heap.size w w' := by
  have CS := Shape_any ⟨t.text.toArray⟩ (w.alloc (.cells #[.int .i64 t.kind, .string ⟨t.text.toArray⟩, .int .i64 t.line, .int .i64 t.col] 55)) (by simpa [ByteArray.size] using hs) (hE.alloc _)
  rw [show (⟨t.text.toArray⟩ : ByteArray).data.toList = t.text from by simp] at CS
  have hr : Lx.right t = ((Lx.shape t.text).2 == 0 && (Lx.shape t.text).1 == t.kind) := rfl
  have HR := Lib.hid hr
  have HCS := Lib.hid CS
  clear hr CS
  generalize Lx.shape t.text = sh at *
  obtain ⟨k, e⟩ := sh
  by_cases h0 : (e == 0) = true
  all_goals
    go_enter Tryd.func69, Tryd.ntmps69
    go_wp2_with fail
    refine HCS.out.mono ?_
    rintro e w1 ⟨rfl, hb⟩
    rw [World.size_alloc] at hb
    have hp := (Has.new w 55 #[.int .i64 t.kind, .string ⟨t.text.toArray⟩, .int .i64 t.line, .int .i64 t.col]).below hb (by omega)
    have c0 := hp.cell 0
    have hB : Below w.heap.size w w1 := ((Below.refl _ _).alloc (Nat.le_refl _) _).trans (hb.mono (by omega))
    go_wp2
    go_ret
    exact ⟨ret_bool (by rw [HR.out]; simp_all), hB⟩

set_option maxRecDepth 100000 in
set_option maxHeartbeats 1000000 in
theorem needs_any (a b : Lx.Tok) (w : World) (ha : a.text.length ≤ 400000) (hb : b.text.length ≤ 400000) (hE : Env w) (h0 : 0 < a.text.length) :
    Calls Tryd.prog 68 #[tokVal a, tokVal b] w fun e w' => e = .returned (.bool (Lx.needs a b)) ∧ Below w.heap.size w w' := by
  have cR := fun w' (hE' : Env w') => (runLength_any (⟨a.text.toArray⟩ ++ ⟨b.text.toArray⟩) w' (by simp [ByteArray.size]; omega) hE' (by simp [ByteArray.size]; omega)).mono (R' := fun e x => e = .returned (.int .i64 (Lx.runLength (⟨a.text.toArray⟩ ++ ⟨b.text.toArray⟩ : ByteArray).data.toList)) ∧ x = w') fun _ _ ⟨he, hw⟩ => ⟨he, hw.symm⟩
  rw [show ((⟨a.text.toArray⟩ ++ ⟨b.text.toArray⟩ : ByteArray)).data.toList = a.text ++ b.text from by simp] at cR
  have CR := Lib.hid cR
  have hE2 := Lib.hid ((hE.alloc (.cells #[.int .i64 a.kind, .string ⟨a.text.toArray⟩, .int .i64 a.line, .int .i64 a.col] 55)).alloc (.cells #[.int .i64 b.kind, .string ⟨b.text.toArray⟩, .int .i64 b.line, .int .i64 b.col] 55))
  clear cR
  go_enter Tryd.func68, Tryd.ntmps68
  go_wp2
  go_quiet ((go_at_call 107; exact Calls.quiet_of_same (CR.out _ (hE2.out.drewN _))))
  go_wp2
  go_ret
  refine ⟨ret_bool ?_, ((((Below.refl _ _).alloc (Nat.le_refl _) _).alloc (by simp) _).trans ⟨rfl, rfl, rfl, Nat.le_refl _, fun _ _ => rfl⟩)⟩
  unfold Lx.needs
  rw [Bool.eq_iff_iff]
  simp
  omega
end Go.Proofs.YtadicempblgmhaaDoor
