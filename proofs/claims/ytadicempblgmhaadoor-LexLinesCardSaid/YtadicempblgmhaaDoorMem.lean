/-
  Words for memory: a block known whole; what has been read, as it lies behind a pointer; what a step of reading leaves alone.
-/
import Derived.Test.YtadicempblgmhaaDoorRuns
import Derived.Deep.AppendLies
import Derived.Deep.RegionLaw
import Derived.RangeFuncNested
import Derived.RangeFuncBound
import Derived.RangeFuncCalls
import Derived.RangeFuncLeaves
namespace Go.Proofs.YtadicempblgmhaaDoor
open Go.RowKit

/-- Block g is just the cells cs, of element type t. -/
def Has (w : World) (g : Nat) (t : TypeId) (cs : Array Value) : Prop := w.heap[g]? = some (.cells cs t (0, 0))

theorem Has.lt {w : World} {g : Nat} {t : TypeId} {cs : Array Value} (h : Has w g t cs) : g < w.heap.size := (Array.getElem?_eq_some_iff.1 h).1
theorem Has.cell {w : World} {g : Nat} {t : TypeId} {cs : Array Value} (h : Has w g t cs) (i : Nat) : w.cell? ⟨g, i, none⟩ = cs[i]? := cell_of_row w g i cs t (0, 0) h
theorem Has.free {w : World} {g : Nat} {t : TypeId} {cs : Array Value} (h : Has w g t cs) (i : Nat) : w.frozen? ⟨g, i, none⟩ = false := by
  unfold Has at h
  simp [World.frozen?, h]
theorem Has.new (w : World) (t : TypeId) (cs : Array Value) : Has (w.alloc (.cells cs t)) w.heap.size t cs := heap_alloc_new w _
theorem Has.alloc {w : World} {g : Nat} {t : TypeId} {cs : Array Value} (h : Has w g t cs) (o : Obj) : Has (w.alloc o) g t cs := (Below.heap_alloc w o g h.lt).trans h
theorem Has.set {w : World} {g : Nat} {t : TypeId} {cs : Array Value} (h : Has w g t cs) (i : Nat) (u : Value) : Has (w.setCell ⟨g, i, none⟩ u) g t (cs.setIfInBounds i u) := by
  unfold Has at h ⊢
  simp [World.setCell, Array.getElem?_modify, h]
theorem Has.other {w : World} {g : Nat} {t : TypeId} {cs : Array Value} (h : Has w g t cs) {p : Addr} (hp : g ≠ p.block) (u : Value) : Has (w.setCell p u) g t cs := (Below.heap_setCell w p u g hp).trans h
theorem Has.below {w w' : World} {B g : Nat} {t : TypeId} {cs : Array Value} (h : Has w g t cs) (hb : Below B w w') (hg : g < B) : Has w' g t cs := (hb.block g hg).trans h
theorem Has.grown {w w' : World} {g : Nat} {t : TypeId} {cs : Array Value} {row : Option Nat} (h : Has w g t cs) (hb : w.grownBy w' row) (hg : some g ≠ row) : Has w' g t cs := (hb.block g h.lt hg).trans h

/-- A row of the call's own is no block of another element type. -/
theorem own_apart {w : World} {B e size n g : Nat} {v : Value} {xs : List Value} {t : TypeId} {cs : Array Value} (h : w.ownsRow B e size v n xs) (hg : Has w g t cs) (hne : e ≠ t) : some g ≠ v.ownBlock := by
  rcases h.2 with ⟨rfl, _⟩ | ⟨g', cap, cur, rfl, _, hh, _⟩
  · intro e; cases e
  · intro he
    cases he
    unfold Has at hg
    rw [hg] at hh
    cases hh
    exact hne rfl

/-- What a step of reading leaves alone: what lies below B; whatever is neither block b nor a row of tokens. -/
structure Stays (B b : Nat) (w w' : World) : Prop where
  below : Below B w w'
  rest : ∀ k o, w.heap[k]? = some o → k ≠ b → (∀ cs rng, o ≠ .cells cs 55 rng) → w'.heap[k]? = some o

theorem Stays.refl (B b : Nat) (w : World) : Stays B b w w := ⟨Below.refl _ _, fun _ _ h _ _ => h⟩
theorem Stays.trans {B b : Nat} {x y z : World} (h : Stays B b x y) (k : Stays B b y z) : Stays B b x z :=
  ⟨h.below.trans k.below, fun i o hi hb ho => k.rest i o (h.rest i o hi hb ho) hb ho⟩
theorem Stays.alloc {B b : Nat} {w w' : World} (h : Stays B b w w') (hB : B ≤ w'.heap.size) (o : Obj) : Stays B b w (w'.alloc o) :=
  h.trans ⟨(Below.refl _ _).alloc hB o, fun i _ hi _ _ => (Below.heap_alloc w' o i (Array.getElem?_eq_some_iff.1 hi).1).trans hi⟩
theorem Stays.set {B b : Nat} {w w' : World} (h : Stays B b w w') (hB : B ≤ b) (i : Nat) (u : Value) : Stays B b w (w'.setCell ⟨b, i, none⟩ u) :=
  h.trans ⟨(Below.refl _ _).setCell hB u, fun k _ hk hb _ => (Below.heap_setCell w' ⟨b, i, none⟩ u k hb).trans hk⟩
theorem Stays.drew {B b : Nat} {w w' : World} (h : Stays B b w w') : Stays B b w w'.drew := ⟨h.below.drew, h.rest⟩
/-- A store into a block that was laid since. -/
theorem Stays.fresh {B b : Nat} {w w' : World} (h : Stays B b w w') {p : Addr} (hp : w.heap.size ≤ p.block) (hB : B ≤ w.heap.size) (u : Value) : Stays B b w (w'.setCell p u) :=
  ⟨h.below.setCell (by omega) u, fun k o hk hb ho => (Below.heap_setCell w' p u k (by have := (Array.getElem?_eq_some_iff.1 hk).1; omega)).trans (h.rest k o hk hb ho)⟩
/-- An append onto a row of tokens of the call's own. -/
theorem Stays.grown {B b base size n : Nat} {w w1 w' : World} {v : Value} {xs : List Value} (h : Stays B b w w1) (hown : w1.ownsRow base 55 size v n xs) (hg : w1.grownBy w' v.ownBlock) (hB : B ≤ base) (hs : B ≤ w1.heap.size) : Stays B b w w' :=
  h.trans ⟨(Below.refl _ _).grown hg hs (fun k hk => by have := (hown.lt k hk).1; omega), fun k o hk _ ho => (hg.block k (Array.getElem?_eq_some_iff.1 hk).1 (fun e => by
    rcases hown.2 with ⟨rfl, _⟩ | ⟨g, cap, cur, rfl, _, hh, _⟩
    · cases e
    · cases e
      rw [hk] at hh
      cases hh
      exact ho _ _ rfl)).trans hk⟩
theorem Stays.of_below {B b : Nat} {w w' : World} (h : Below w.heap.size w w') (hB : B ≤ w.heap.size) : Stays B b w w' :=
  ⟨h.mono hB, fun k _ hk _ _ => (h.block k (Array.getElem?_eq_some_iff.1 hk).1).trans hk⟩

def tokCells (t : Lx.Tok) : List Value := [.int .i64 t.kind, .string ⟨t.text.toArray⟩, .int .i64 t.line, .int .i64 t.col]
def toksCells : List Lx.Tok → List Value
  | [] => []
  | t :: r => tokCells t ++ toksCells r
theorem toksCells_append (a b : List Lx.Tok) : toksCells (a ++ b) = toksCells a ++ toksCells b := by
  induction a with
  | nil => rfl
  | cons t r ih => simp [toksCells, ih]
theorem toksCells_length (a : List Lx.Tok) : (toksCells a).length = a.length * 4 := by
  induction a with
  | nil => rfl
  | cons t r ih => simp [toksCells, ih, tokCells]; omega

/-- What has been read lies in block b, its rows among the blocks from B on. -/
def Reading (w : World) (B b : Nat) (r : Lx.Red) : Prop :=
  ∃ vt vn, Has w b 98 #[vt, vn, .int .i64 r.line, .int .i64 r.col, .int .i64 r.err] ∧
    w.ownsRow B 55 4 vt r.toks.length (toksCells r.toks) ∧ w.ownsRow B 55 4 vn r.notes.length (toksCells r.notes) ∧ (vt.ownBlock = none ∨ vt.ownBlock ≠ vn.ownBlock)

theorem grown_of_below {w w' : World} {B : Nat} (h : Below B w w') (hB : w.heap.size ≤ B) : w.grownBy w' none :=
  ⟨h.os, h.tape, h.output, h.size, fun k hk _ => h.block k (by omega)⟩
theorem own_below {w w' : World} {B base e size n : Nat} {v : Value} {xs : List Value} (h : w.ownsRow base e size v n xs) (hb : Below B w w') (hB : w.heap.size ≤ B) : w'.ownsRow base e size v n xs :=
  h.kept (grown_of_below hb hB) (by cases hv : v.ownBlock <;> simp)
theorem grown_set (w : World) (b i : Nat) (u : Value) : w.grownBy (w.setCell ⟨b, i, none⟩ u) (some b) :=
  ⟨rfl, rfl, rfl, by simp [World.setCell], fun k _ hk => Below.heap_setCell w ⟨b, i, none⟩ u k (fun e => hk (by rw [e]))⟩

/-- Behind an append onto the one row, stored back into block b: the one row has grown, the other is as it was. -/
theorem appended {W w1 : World} {B b n n' m i g cap H : Nat} {cs : Array Value} {vx vy : Value} {xs xs' ys : List Value} (hb : Has W b 98 cs) (hx : W.ownsRow B 55 4 vx n xs) (hy : W.ownsRow B 55 4 vy m ys)
    (hne : vy.ownBlock = none ∨ vy.ownBlock ≠ vx.ownBlock) (hown : w1.ownsRow B 55 4 (.slice (some ⟨g, 0, none⟩) n' cap) n' xs') (hg : W.grownBy w1 vx.ownBlock) (hat : vx.ownBlock = some g ∨ g = H) (hH : W.heap.size = H) :
    Has (w1.setCell ⟨b, i, none⟩ (.slice (some ⟨g, 0, none⟩) n' cap)) b 98 (cs.setIfInBounds i (.slice (some ⟨g, 0, none⟩) n' cap)) ∧
    (w1.setCell ⟨b, i, none⟩ (.slice (some ⟨g, 0, none⟩) n' cap)).ownsRow B 55 4 (.slice (some ⟨g, 0, none⟩) n' cap) n' xs' ∧
    (w1.setCell ⟨b, i, none⟩ (.slice (some ⟨g, 0, none⟩) n' cap)).ownsRow B 55 4 vy m ys ∧ (vy.ownBlock = none ∨ vy.ownBlock ≠ some g) := by
  have hb1 := hb.grown hg (own_apart hx hb (by decide))
  have hy1 := hy.kept hg hne
  refine ⟨hb1.set _ _, hown.kept (grown_set w1 b i _) (.inr (own_apart hown hb1 (by decide)).symm), hy1.kept (grown_set w1 b i _) (.inr (own_apart hy1 hb1 (by decide)).symm), ?_⟩
  rcases hne with h | h
  · exact .inl h
  · rcases hat with e | e
    · exact .inr (by rw [← e]; exact h)
    · right
      intro hh
      have := (hy.lt g hh).2
      omega

theorem tokInfo : (Tryd.prog.info? 55).map (fun i => (i.zero, i.size, i.bytes)) = some (some (.agg #[.int .i64 0, .string ⟨#[]⟩, .int .i64 0, .int .i64 0]), 4, 40) := by kernel_rfl
end Go.Proofs.YtadicempblgmhaaDoor
