/-
  The contracts of strings.Builder's methods at this program.
-/
import Derived.Test.YtadicempblgmhaaGreatDoorText
namespace Go.Proofs.YtadicempblgmhaaGreatDoor
open Go.RowKit Go.Shelf Go.Proofs

def L166_ren : Go.Shelf.Ren := ⟨fun | 166 => 41 | 240 => 64 | 276 => 89 | n => n, fun | 0 => 0 | 3 => 3 | 4 => 4 | 5 => 5 | 9 => 9 | 20 => 20 | 37 => 83 | 70 => 82 | 72 => 85 | 75 => 87 | 80 => 91 | 164 => 130 | n => n, fun | n => n⟩
theorem L166 : Go.Proofs.Lays.n166 Tryz.prog L166_ren := {
  mixed := by kernel_rfl
  f166 := Tryz.func41.trans (congrArg some (by kernel_rfl))
  f240 := Tryz.func64.trans (congrArg some (by kernel_rfl))
  f276 := Tryz.func89.trans (congrArg some (by kernel_rfl))
  t0 := Tryz.underlying0
  a0 := Tryz.isAgg0
  z0 := Tryz.sizeOf0
  v0 := Tryz.zeroValue0
  t3 := Tryz.underlying3
  a3 := Tryz.isAgg3
  z3 := Tryz.sizeOf3
  v3 := Tryz.zeroValue3
  t4 := Tryz.underlying4
  a4 := Tryz.isAgg4
  z4 := Tryz.sizeOf4
  v4 := Tryz.zeroValue4
  t9 := Tryz.underlying9
  a9 := Tryz.isAgg9
  z9 := Tryz.sizeOf9
  v9 := Tryz.zeroValue9
  t20 := Tryz.underlying20
  a20 := Tryz.isAgg20
  z20 := Tryz.sizeOf20
  v20 := Tryz.zeroValue20
  t37 := Tryz.underlying83
  a37 := Tryz.isAgg83
  z37 := Tryz.sizeOf83
  v37 := Tryz.zeroValue83
  t70 := Tryz.underlying82
  a70 := Tryz.isAgg82
  z70 := Tryz.sizeOf82
  v70 := Tryz.zeroValue82
  t72 := Tryz.underlying85
  a72 := Tryz.isAgg85
  z72 := Tryz.sizeOf85
  v72 := Tryz.zeroValue85
  t75 := Tryz.underlying87
  a75 := Tryz.isAgg87
  z75 := Tryz.sizeOf87
  v75 := Tryz.zeroValue87
  t164 := Tryz.underlying130
  a164 := Tryz.isAgg130
  z164 := Tryz.sizeOf130
  v164 := Tryz.zeroValue130 }
theorem X166 : Builder.Extra Tryz.prog L166_ren := {
  sizeBuilder := by kernel_rfl
  liesBuilder := by kernel_rfl
  t5 := Tryz.underlying5
  a5 := Tryz.isAgg5
  z5 := Tryz.sizeOf5
  v5 := Tryz.zeroValue5
  infoByte := by kernel_rfl
  cellsByte := by kernel_rfl
  sizeByte := by kernel_rfl
  neB5 := by decide }
def L167_ren : Go.Shelf.Ren := ⟨fun | 167 => 42 | 240 => 64 | 276 => 89 | n => n, fun | 0 => 0 | 4 => 4 | 5 => 5 | 9 => 9 | 20 => 20 | 37 => 83 | 70 => 82 | 72 => 85 | 75 => 87 | 80 => 91 | 164 => 130 | n => n, fun | n => n⟩
theorem L167 : Go.Proofs.Lays.n167 Tryz.prog L167_ren := {
  mixed := by kernel_rfl
  f167 := Tryz.func42.trans (congrArg some (by kernel_rfl))
  f240 := Tryz.func64.trans (congrArg some (by kernel_rfl))
  f276 := Tryz.func89.trans (congrArg some (by kernel_rfl))
  t0 := Tryz.underlying0
  a0 := Tryz.isAgg0
  z0 := Tryz.sizeOf0
  v0 := Tryz.zeroValue0
  t4 := Tryz.underlying4
  a4 := Tryz.isAgg4
  z4 := Tryz.sizeOf4
  v4 := Tryz.zeroValue4
  t5 := Tryz.underlying5
  a5 := Tryz.isAgg5
  z5 := Tryz.sizeOf5
  v5 := Tryz.zeroValue5
  t9 := Tryz.underlying9
  a9 := Tryz.isAgg9
  z9 := Tryz.sizeOf9
  v9 := Tryz.zeroValue9
  t20 := Tryz.underlying20
  a20 := Tryz.isAgg20
  z20 := Tryz.sizeOf20
  v20 := Tryz.zeroValue20
  t37 := Tryz.underlying83
  a37 := Tryz.isAgg83
  z37 := Tryz.sizeOf83
  v37 := Tryz.zeroValue83
  t70 := Tryz.underlying82
  a70 := Tryz.isAgg82
  z70 := Tryz.sizeOf82
  v70 := Tryz.zeroValue82
  t72 := Tryz.underlying85
  a72 := Tryz.isAgg85
  z72 := Tryz.sizeOf85
  v72 := Tryz.zeroValue85
  t75 := Tryz.underlying87
  a75 := Tryz.isAgg87
  z75 := Tryz.sizeOf87
  v75 := Tryz.zeroValue87
  t164 := Tryz.underlying130
  a164 := Tryz.isAgg130
  z164 := Tryz.sizeOf130
  v164 := Tryz.zeroValue130 }
theorem X167 : Builder.Extra Tryz.prog L167_ren := {
  sizeBuilder := by kernel_rfl
  liesBuilder := by kernel_rfl
  t5 := Tryz.underlying5
  a5 := Tryz.isAgg5
  z5 := Tryz.sizeOf5
  v5 := Tryz.zeroValue5
  infoByte := by kernel_rfl
  cellsByte := by kernel_rfl
  sizeByte := by kernel_rfl
  neB5 := by decide }

/-- A builder that the call has made holds these bytes. -/
abbrev Holds (B b : Nat) (l : List UInt8) (w : World) : Prop := Lib.IsBuilderF 85 5 B b (Lib.byteCells l) w
/-- What a builder's write leaves alone. -/
structure Wrote (B b : Nat) (w w' : World) : Prop where
  below : Below B w w'
  rest : Lib.OthersKept 5 (some b) w w'
theorem Wrote.has {B b g : Nat} {w w' : World} {t : TypeId} {cs : Array Value} (h : Wrote B b w w') (hg : Has w g t cs) (hne : g ≠ b) (ht : t ≠ 5) : Has w' g t cs :=
  h.rest g _ hg (by simpa using hne) (fun c fz e => by cases e; exact ht rfl)

theorem writeString_any (B b : Nat) (l : List UInt8) (s : ByteArray) (w : World) (h : Holds B b l w) (hlen : l.length + s.size ≤ 100000000) (hBw : B ≤ w.heap.size) :
    Calls Tryz.prog 41 #[.pointer (some ⟨b, 0, none⟩), .string s] w fun e w' => e = .returned (.tuple #[.int .i64 s.size, .nilIface]) ∧ Holds B b (l ++ s.data.toList) w' ∧ Wrote B b w w' := by
  refine (Any.Builder_WriteString_k L166 X166 B b (Lib.byteCells l) s w h (by simp [Lib.byteCells]; omega) hBw).mono ?_
  rintro e w' ⟨rfl, h1, h2, h3⟩
  refine ⟨rfl, .inr ?_, h2, h3⟩
  have e : Lib.byteCells (l ++ s.data.toList) = Lib.byteCells l ++ Lib.strCells s := by
    simp [Lib.byteCells, Lib.strCells_eq]
  rw [e]
  exact h1

theorem writeByte_any (B b : Nat) (l : List UInt8) (c : UInt8) (w : World) (h : Holds B b l w) (hlen : l.length + 1 ≤ 100000000) (hBw : B ≤ w.heap.size) :
    Calls Tryz.prog 42 #[.pointer (some ⟨b, 0, none⟩), .int .u8 c.toNat] w fun e w' => e = .returned .nilIface ∧ Holds B b (l ++ [c]) w' ∧ Wrote B b w w' := by
  refine (Any.Builder_WriteByte_k L167 X167 B b (Lib.byteCells l) c.toNat w h (by simp [Lib.byteCells]; omega) hBw).mono ?_
  rintro e w' ⟨rfl, h1, h2, h3⟩
  refine ⟨rfl, .inr ?_, h2, h3⟩
  have e : Lib.byteCells (l ++ [c]) = Lib.byteCells l ++ [.int .u8 c.toNat] := by
    simp [Lib.byteCells]
  rw [e]
  exact h1

theorem builderLen_any (B b : Nat) (l : List UInt8) (w : World) (h : Holds B b l w) :
    Calls Tryz.prog 55 #[.pointer (some ⟨b, 0, none⟩)] w fun e w' => e = .returned (.int .i64 l.length) ∧ w = w' :=
  (Tryz.Builder_Len_f B b _ w h).mono fun _ _ ⟨he, hw⟩ => ⟨by rw [he, Lib.byteCells_length], hw.symm⟩
theorem builderString_any (B b : Nat) (l : List UInt8) (w : World) (h : Holds B b l w) (hBw : B ≤ w.heap.size) :
    Calls Tryz.prog 43 #[.pointer (some ⟨b, 0, none⟩)] w fun e w' => e = .returned (.string ⟨l.toArray⟩) ∧ Wrote B b w w' :=
  (Tryz.Builder_String_any_k B b l w h hBw).mono fun _ _ ⟨he, _, h2, h3⟩ => ⟨he, h2, h3⟩
theorem Holds.new (w : World) : Holds w.heap.size w.heap.size [] (w.alloc (.cells #[.pointer none, .slice none 0 0] 85)) := Lib.IsBuilderF.of (Lib.fresh_isBuilder _ _ w)
theorem Holds.later {B b B' : Nat} {l : List UInt8} {w w' : World} (h : Holds B b l w) (hb : Below B' w w') (hB : w.heap.size ≤ B') : Holds B b l w' := by
  have key : ∀ p, Lib.BuilderAtF 85 5 B b p (Lib.byteCells l) w → Lib.BuilderAtF 85 5 B b p (Lib.byteCells l) w' := by
    rintro p ⟨h1, v, h2, h3, h4⟩
    exact ⟨h1, v, (hb.block b (by have := (Array.getElem?_eq_some_iff.1 h2).1; omega)).trans h2, h3.kept (grown_of_below hb hB) (by cases hv : v.ownBlock <;> simp), h4⟩
  rcases h with h | h
  · exact .inl (key _ h)
  · exact .inr (key _ h)
theorem Holds.alloc {B b : Nat} {l : List UInt8} {w : World} (h : Holds B b l w) (o : Obj) : Holds B b l (w.alloc o) := h.later (B' := w.heap.size) ((Below.refl _ _).alloc (Nat.le_refl _) o) (Nat.le_refl _)
theorem Holds.drew {B b : Nat} {l : List UInt8} {w : World} (h : Holds B b l w) : Holds B b l w.drew := h.later (B' := w.heap.size) (Below.refl _ _).drew (Nat.le_refl _)

namespace Lx
def right (t : Tok) : Bool := (shape t.text).2 == 0 && (shape t.text).1 == t.kind
def needs (a b : Tok) : Bool := decide (runLength (a.text ++ b.text) ≠ a.text.length)
end Lx
abbrev tokVal (t : Lx.Tok) : Value := .agg #[.int .i64 t.kind, .string ⟨t.text.toArray⟩, .int .i64 t.line, .int .i64 t.col]

set_option maxRecDepth 100000 in
set_option maxHeartbeats 1000000 in
theorem isRight_any (t : Lx.Tok) (w : World) (hs : t.text.length ≤ 1000000) (hE : Env w) :
    Calls Tryz.prog 54 #[tokVal t] w fun e w' => e = .returned (.bool (Lx.right t)) ∧ Below w.heap.size w w' := by
  have CS := Shape_any ⟨t.text.toArray⟩ (w.alloc (.cells #[.int .i64 t.kind, .string ⟨t.text.toArray⟩, .int .i64 t.line, .int .i64 t.col] 43)) (by simpa [ByteArray.size] using hs) (hE.alloc _)
  rw [show (⟨t.text.toArray⟩ : ByteArray).data.toList = t.text from by simp] at CS
  have hr : Lx.right t = ((Lx.shape t.text).2 == 0 && (Lx.shape t.text).1 == t.kind) := rfl
  have HR := Lib.hid hr
  have HCS := Lib.hid CS
  clear hr CS
  generalize Lx.shape t.text = sh at *
  obtain ⟨k, e⟩ := sh
  by_cases h0 : (e == 0) = true
  all_goals
    go_enter Tryz.func54, Tryz.ntmps54
    go_wp2_with fail
    refine HCS.out.mono ?_
    rintro e w1 ⟨rfl, hb⟩
    rw [World.size_alloc] at hb
    have hp := (Has.new w 43 #[.int .i64 t.kind, .string ⟨t.text.toArray⟩, .int .i64 t.line, .int .i64 t.col]).below hb (by omega)
    have c0 := hp.cell 0
    have hB : Below w.heap.size w w1 := ((Below.refl _ _).alloc (Nat.le_refl _) _).trans (hb.mono (by omega))
    go_wp2
    go_ret
    exact ⟨ret_bool (by rw [HR.out]; simp_all), hB⟩

set_option maxRecDepth 100000 in
set_option maxHeartbeats 1000000 in
theorem needs_any (a b : Lx.Tok) (w : World) (ha : a.text.length ≤ 400000) (hb : b.text.length ≤ 400000) (hE : Env w) (h0 : 0 < a.text.length) :
    Calls Tryz.prog 29 #[tokVal a, tokVal b] w fun e w' => e = .returned (.bool (Lx.needs a b)) ∧ Below w.heap.size w w' := by
  have cR := fun w' (hE' : Env w') => (runLength_any (⟨a.text.toArray⟩ ++ ⟨b.text.toArray⟩) w' (by simp [ByteArray.size]; omega) hE' (by simp [ByteArray.size]; omega)).mono (R' := fun e x => e = .returned (.int .i64 (Lx.runLength (⟨a.text.toArray⟩ ++ ⟨b.text.toArray⟩ : ByteArray).data.toList)) ∧ x = w') fun _ _ ⟨he, hw⟩ => ⟨he, hw.symm⟩
  rw [show ((⟨a.text.toArray⟩ ++ ⟨b.text.toArray⟩ : ByteArray)).data.toList = a.text ++ b.text from by simp] at cR
  have CR := Lib.hid cR
  have hE2 := Lib.hid ((hE.alloc (.cells #[.int .i64 a.kind, .string ⟨a.text.toArray⟩, .int .i64 a.line, .int .i64 a.col] 43)).alloc (.cells #[.int .i64 b.kind, .string ⟨b.text.toArray⟩, .int .i64 b.line, .int .i64 b.col] 43))
  clear cR
  go_enter Tryz.func29, Tryz.ntmps29
  go_wp2
  go_quiet ((go_at_call 56; exact Calls.quiet_of_same (CR.out _ (hE2.out.drewN _))))
  go_wp2
  go_ret
  refine ⟨ret_bool ?_, ((((Below.refl _ _).alloc (Nat.le_refl _) _).alloc (by simp) _).trans ⟨rfl, rfl, rfl, Nat.le_refl _, fun _ _ => rfl⟩)⟩
  unfold Lx.needs
  rw [Bool.eq_iff_iff]
  simp
  omega
end Go.Proofs.YtadicempblgmhaaGreatDoor
