/-
  Our own law for a range over a func whose iterator makes memory of its own (a map, a row, cells of a type that stay) and tells the body what it hands over.
-/
import Derived.Test.YtojfimbanaijdaaHSorted
namespace Go.Proofs.Ytojfimbanaijdaa
open Go.RowKit Go.Shelf

/-- What lies at B or above does not matter, if it is a row of type T, or no cells. -/
def AboveT {β : Type} (B : Nat) (T : TypeId) (I : β → World → Prop) : Prop :=
  ∀ s W W' row, I s W → W.grownBy W' row → (∀ r, row = some r → B ≤ r ∧ ∀ cs t fr, W.heap[r]? = some (.cells cs t fr) → t = T) → I s W'
theorem AboveT.put {β : Type} {B : Nat} {T : TypeId} {I : β → World → Prop} (h : AboveT B T I) {s : β} {W : World} {l : Nat} {o : Obj} (o' : Obj) (hs : I s W) (hl : B ≤ l) (ho : W.heap[l]? = some o) (hc : o.isCells = false) : I s (W.putObj l o') :=
  h s W _ (some l) hs (grownBy_putObj' W l o') (fun r e => by cases e; exact ⟨hl, fun cs t fr e => by rw [ho] at e; cases e; cases hc⟩)
theorem AboveT.alloc {β : Type} {B : Nat} {T : TypeId} {I : β → World → Prop} (h : AboveT B T I) {s : β} {W : World} (o : Obj) (hs : I s W) : I s (W.alloc o) :=
  h s W _ none hs (World.grownBy_alloc W o none) (fun r e => by cases e)
/-- The iterator's word. -/
def SeqOk {α : Type} (F : Fence) (n : Nat) (P : Program) (g : Nat) (lb : Array Value) (encs : α → Array Value) (Ok : α → World → Prop) (Kp : World → World → Prop) (S Sp : List α → Prop) (T : TypeId) (w : World) : Prop :=
  ∀ (l : Nat) (J Jx : List α → World → Prop) (W : World), Below w.heap.size w W → AboveT W.heap.size T J → AboveT W.heap.size T Jx →
    (∀ pre x W1, J pre W1 → Ok x W1 → YieldAt F (n - 1) P l (encs x) W1 fun e W' =>
      (e = .returned (.bool true) ∧ J (pre ++ [x]) W' ∧ Kp W1 W') ∨ (e = .returned (.bool false) ∧ Jx (pre ++ [x]) W')) →
    J [] W →
    CallsIn F n P g (#[.func (.yield l) #[] #[]] ++ lb) W fun e W' => (∃ v, e = .returned v) ∧ ((∃ xs, S xs ∧ J xs W') ∨ (∃ pre, Sp pre ∧ Jx pre W'))

theorem range_ok {α : Type} {F : Fence} {n : Nat} {P : Program} {g : Operand} {ps : Array Tmp} {assign body : Code} {Q : Exit → Act → World → Prop} {a : Act} {w : World}
    (hro : F.round = none) (h1 : 1 ≤ n) {gf : Nat} {lb : Array Value} (hg : a.eval g = .func (.func gf) #[] lb) (hF : F.fn gf) (eg : ∀ args w, (callFunc gf args).run P w = .ok (.enter gf args) w)
    {encs : α → Array Value} {Ok : α → World → Prop} {Kp : World → World → Prop} {S Sp : List α → Prop} {T : TypeId} (hseq : SeqOk F (n - 1) P gf lb encs Ok Kp S Sp T w)
    (hKt : ∀ {A B C : World}, Kp A B → Kp B C → Kp A C) (hKb : ∀ (W : World) (l : Nat) (o o' : Obj), w.heap.size ≤ l → W.heap[l]? = some o → o.isCells = false → o.isWalk = false → Kp W (W.putObj l o')) (hps : ∀ x, (encs x).size = ps.size)
    (hOk : ∀ (x : α) (W : World) (l : Nat) (o o' : Obj), Ok x W → w.heap.size ≤ l → W.heap[l]? = some o → o.isCells = false → o.isWalk = false → Ok x (W.putObj l o'))
    (I : List α → World → Prop) (Ix : Code → List α → World → Prop) (hI : AboveT w.heap.size T I) (hIx : ∀ c, AboveT w.heap.size T (Ix c)) (h0 : I [] w) (a₁ : α → Act)
    (hassign : ∀ (l : Nat) (x : α) (W : World) (K : Act → World → Prop), K (a₁ x) W →
      assign.wpIn (F.inRound l) (n - 1 - 1) P (Exit.then K (fun _ _ _ => False)) { tmps := (ps.zip (encs x)).foldl (fun t (p, v) => t.setIfInBounds p v) a.tmps, defers := [] } W)
    (hbody : ∀ (l : Nat) (pre : List α) (x : α) (W : World), I pre W → Ok x W → body.wpIn (F.inRound l) (n - 1 - 1) P (ownPostG w.heap.size Kp I Ix (pre ++ [x]) W) (a₁ x) W)
    (hdone : ∀ (D : Nat) (xs : List α) (W : World), w.heap.size ≤ D → S xs → I xs W → W.heap[D]? = some (.deferred (some [])) → Q .normal { a with defers := { target := .collected D, args := #[] } :: a.defers } W)
    (hstop : ∀ (D : Nat) (c : Code) (pre : List α) (W : World), w.heap.size ≤ D → Sp pre → Ix c pre W → W.heap[D]? = some (.deferred (some [])) → c.wpIn F n P Q { a with defers := { target := .collected D, args := #[] } :: a.defers } W) :
    (Code.rangeFunc g ps assign body).wpIn F n P Q a w := by
  refine wpIn_rangeFunc fun fn hfn => ?_
  rw [hro]
  let D := w.heap.size
  let L := D + 1
  let rec' : LoopState → Option Code → Loop := fun st pe => { state := st, pending := pe, fn, tmps := a.tmps, params := ps, assign, body, defers := D }
  let wD := w.alloc (.deferred (some []))
  let W0 := wD.alloc (.loop (rec' .ready none))
  have sD : wD.heap.size = L := World.size_alloc _ _
  have s0 : W0.heap.size = L + 1 := (World.size_alloc _ _).trans (by rw [sD])
  have kD : W0.heap[D]? = some (.deferred (some [])) := (Below.heap_alloc wD _ D (by rw [sD]; exact Nat.lt_succ_self _)).trans (World.alloc_heap_new w _)
  have kL : W0.heap[L]? = some (.loop (rec' .ready none)) := by have := World.alloc_heap_new wD (.loop (rec' .ready none)); rw [sD] at this; exact this
  refine ⟨L, [{ target := .collected D, args := #[] }], W0, { target := .fn (.func gf) lb, args := #[.func (.yield L) #[] #[]] }, W0, gf, #[.func (.yield L) #[] #[]] ++ lb, W0, run_enterLoop_outer fn a.tmps ps assign body, ?_, fun f' hf' => ?_, ?_, fun _ => h1, ?_⟩
  · simp only [resolve, hg]
    simp [go_sem]
  · simp [Target.leads] at hf'
    subst hf'
    exact hF
  · simp [invoke, go_sem, eg]
  have below : ∀ {A B : World} {row : Option Nat} {k : Nat} {o : Obj}, A.heap[k]? = some o → k < W0.heap.size → A.grownBy B row → (∀ r, row = some r → W0.heap.size ≤ r) → B.heap[k]? = some o := fun hk hlt hgr hr =>
    (hgr.block _ (Array.getElem?_eq_some_iff.1 hk).1 (fun e => by have := hr _ e.symm; omega)).trans hk
  have le0 : w.heap.size ≤ W0.heap.size := by rw [s0]; show D ≤ D + 1 + 1; omega
  refine (hseq L (fun pre W => I pre W ∧ W.heap[L]? = some (.loop (rec' .ready none)) ∧ W.heap[D]? = some (.deferred (some [])))
    (fun pre W => ∃ c, Ix c pre W ∧ W.heap[L]? = some (.loop (rec' .done (some c))) ∧ W.heap[D]? = some (.deferred (some []))) W0
    (((Below.refl _ w).alloc (Nat.le_refl _) _).alloc (by show w.heap.size ≤ wD.heap.size; rw [sD]; exact Nat.le_succ _) _) ?jj ?jx ?one ⟨hI.alloc _ (hI.alloc _ h0), kL, kD⟩).mono ?behind
  case jj => exact fun s A B row hs hgr hr => ⟨hI s A B row hs.1 hgr (fun r e => ⟨Nat.le_trans le0 (hr r e).1, (hr r e).2⟩), below hs.2.1 (by omega) hgr (fun r e => (hr r e).1), below hs.2.2 (by omega) hgr (fun r e => (hr r e).1)⟩
  case jx => exact fun s A B row ⟨c, h1, h2, h3⟩ hgr hr => ⟨c, hIx c s A B row h1 hgr (fun r e => ⟨Nat.le_trans le0 (hr r e).1, (hr r e).2⟩), below h2 (by omega) hgr (fun r e => (hr r e).1), below h3 (by omega) hgr (fun r e => (hr r e).1)⟩
  case one =>
    rintro pre x W ⟨hi, hl, hd⟩ hok
    refine ⟨fn, _, assign, body, run_yield (P := P) (args := encs x) hl (hps x), roundIn_of_wpIn hfn (hassign L x W _ ⟨_, run_beginRound (P := P) hl rfl, ?_⟩)⟩
    have lt1 := (Array.getElem?_eq_some_iff.1 hl).1
    have l2 := World.putObj_heap_same (w := W) (o := .loop { rec' .ready none with state := .busy }) lt1
    have d2 : (W.putObj L (.loop { rec' .ready none with state := .busy })).heap[D]? = _ := (World.putObj_heap_other (by show D ≠ D + 1; omega)).trans hd
    have kp2 := hKb W L _ (.loop { rec' .ready none with state := .busy }) (Nat.le_succ _) hl rfl rfl
    refine wpIn_mono (hbody L pre x _ (hI.put _ hi (Nat.le_succ _) hl rfl) (hOk x W L _ _ hok (Nat.le_succ _) hl rfl rfl)) ?_
    have fin : ∀ (jump : Option Code) (W3 : World), KeepsFrom w.heap.size (W.putObj L (.loop { rec' .ready none with state := .busy })) W3 →
        ∃ W4, (Instr.endRound L jump).run P W3 = .ok (.bool jump.isNone) W4 ∧ W4 = W3.putObj L (.loop (rec' (if jump.isNone then .ready else .done) jump)) ∧ W3.heap[L]? = some (.loop { rec' .ready none with state := .busy }) ∧
        W4.heap[L]? = some (.loop (rec' (if jump.isNone then .ready else .done) jump)) ∧ W4.heap[D]? = some (.deferred (some [])) := fun jump W3 hk3 => by
      have l3 := hk3.same _ _ (Nat.le_succ _) l2 rfl
      have d3 := hk3.same _ _ (Nat.le_refl _) d2 rfl
      exact ⟨_, run_endRound (P := P) jump l3, rfl, l3, World.putObj_heap_same (Array.getElem?_eq_some_iff.1 l3).1, (World.putObj_heap_other (by show D ≠ D + 1; omega)).trans d3⟩
    rintro e a3 W3 hp
    cases e with
    | normal =>
      obtain ⟨hk3, hkp3, hi3⟩ := hp
      obtain ⟨W4, hr, rfl, l3, l4, d4⟩ := fin none W3 hk3
      exact ⟨_, _, hr, .inl ⟨rfl, ⟨hI.put _ hi3 (Nat.le_succ _) l3 rfl, l4, d4⟩, hKt kp2 (hKt hkp3 (hKb _ _ _ _ (Nat.le_succ _) l3 rfl rfl))⟩⟩
    | ret =>
      obtain ⟨hk3, hi3⟩ := hp
      obtain ⟨W4, hr, rfl, l3, l4, d4⟩ := fin (some .ret) W3 hk3
      exact ⟨_, _, hr, .inr ⟨rfl, .ret, (hIx _).put _ hi3 (Nat.le_succ _) l3 rfl, l4, d4⟩⟩
    | exit id =>
      obtain ⟨hk3, hi3⟩ := hp
      obtain ⟨W4, hr, rfl, l3, l4, d4⟩ := fin (some (.exit id)) W3 hk3
      exact ⟨_, _, hr, .inr ⟨rfl, .exit id, (hIx _).put _ hi3 (Nat.le_succ _) l3 rfl, l4, d4⟩⟩
    | goto t =>
      obtain ⟨hk3, hi3⟩ := hp
      obtain ⟨W4, hr, rfl, l3, l4, d4⟩ := fin (some (.goto t)) W3 hk3
      exact ⟨_, _, hr, .inr ⟨rfl, .goto t, (hIx _).put _ hi3 (Nat.le_succ _) l3 rfl, l4, d4⟩⟩
    | panic ch => exact hp.elim
    | outgrown => exact hp.elim
  case behind =>
    rintro e W2 ⟨⟨v, rfl⟩, (⟨xs, hS, hi, hl, hd⟩ | ⟨pre, hSp, c, hi, hl, hd⟩)⟩
    · exact ⟨none, _, run_endLoop (P := P) hl (by simp [rec']), hdone D xs _ (Nat.le_refl _) hS (hI.put _ hi (Nat.le_succ _) hl rfl) ((World.putObj_heap_other (by show D ≠ D + 1; omega)).trans hd)⟩
    · exact ⟨some c, _, run_endLoop (P := P) hl (by simp [rec']), hstop D c pre _ (Nat.le_refl _) hSp ((hIx c).put _ hi (Nat.le_succ _) hl rfl) ((World.putObj_heap_other (by show D ≠ D + 1; omega)).trans hd)⟩
end Go.Proofs.Ytojfimbanaijdaa
