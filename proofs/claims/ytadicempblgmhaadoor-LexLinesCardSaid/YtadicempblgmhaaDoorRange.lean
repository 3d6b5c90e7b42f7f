/-
  A range over a function whose iterator keeps variables of its own: what the caller says abides every change above where its heap ended.
-/
import Derived.Test.YtadicempblgmhaaDoorLines
namespace Go.Proofs.YtadicempblgmhaaDoor
open Go.RowKit Go.Shelf

/-- What lies at B or above does not matter. -/
def Above {β : Type} (B : Nat) (I : β → World → Prop) : Prop :=
  ∀ s W W' row, I s W → W.grownBy W' row → (∀ r, row = some r → B ≤ r) → I s W'

theorem Above.put {β : Type} {B : Nat} {I : β → World → Prop} (h : Above B I) {s : β} {W : World} {l : Nat} (o : Obj) (hs : I s W) (hl : B ≤ l) : I s (W.putObj l o) :=
  h s W _ (some l) hs (grownBy_putObj' W l o) (fun r e => by cases e; exact hl)
theorem Above.alloc {β : Type} {B : Nat} {I : β → World → Prop} (h : Above B I) {s : β} {W : World} (o : Obj) (hs : I s W) : I s (W.alloc o) :=
  h s W _ none hs (World.grownBy_alloc W o none) (fun r e => by cases e)
theorem Above.set {β : Type} {B : Nat} {I : β → World → Prop} (h : Above B I) {s : β} {W : World} (b i : Nat) (u : Value) (hs : I s W) (hb : B ≤ b) : I s (W.setCell ⟨b, i, none⟩ u) :=
  h s W _ (some b) hs (grown_set W b i u) (fun r e => by cases e; exact hb)

/-- The iterator's word. -/
def SeqAbove {α : Type} (F : Fence) (n : Nat) (P : Program) (g : Nat) (lb : Array Value) (encs : α → Array Value) (Kp : World → World → Prop) (S Sp : List α → Prop) (N : Nat) (w : World) : Prop :=
  ∀ (l : Nat) (J Jx : List α → World → Prop) (W : World), Below w.heap.size w W → Above W.heap.size J → Above W.heap.size Jx →
    (∀ pre x W1, J pre W1 → pre.length < N → YieldAt F (n - 1) P l (encs x) W1 fun e W' =>
      (e = .returned (.bool true) ∧ J (pre ++ [x]) W' ∧ Kp W1 W') ∨ (e = .returned (.bool false) ∧ Jx (pre ++ [x]) W')) →
    J [] W →
    CallsIn F n P g (#[.func (.yield l) #[] #[]] ++ lb) W fun e W' => (∃ v, e = .returned v) ∧ ((∃ xs, S xs ∧ J xs W') ∨ (∃ pre, Sp pre ∧ Jx pre W'))

theorem has_put {W : World} {l g : Nat} {o : Obj} {t : TypeId} {cs : Array Value} (o' : Obj) (h : Has W g t cs) (hl : W.heap[l]? = some o) (ho : o.isCells = false) : Has (W.putObj l o') g t cs := by
  refine (World.putObj_heap_other (fun e => ?_)).trans h
  subst e
  unfold Has at h
  rw [hl] at h
  cases h
  cases ho

/-- **THE LAW**: the assignments and the body of a round are walked in one; what is told of a world abides what lies above. -/
theorem range_above {α : Type} {F : Fence} {n : Nat} {P : Program} {g : Operand} {ps : Array Tmp} {assign body : Code} {Q : Exit → Act → World → Prop} {a : Act} {w : World}
    (hro : F.round = none) (h1 : 1 ≤ n) {gf : Nat} {lb : Array Value} (hg : a.eval g = .func (.func gf) #[] lb) (hF : F.fn gf) (eg : ∀ args w, (callFunc gf args).run P w = .ok (.enter gf args) w)
    {encs : α → Array Value} {Kp : World → World → Prop} {S Sp : List α → Prop} {N : Nat} (hseq : SeqAbove F (n - 1) P gf lb encs Kp S Sp N w)
    (hKt : ∀ {A B C : World}, Kp A B → Kp B C → Kp A C) (hKb : ∀ (W : World) (l : Nat) (o o' : Obj), W.heap[l]? = some o → o.isCells = false → Kp W (W.putObj l o')) (hps : ∀ x, (encs x).size = ps.size)
    (I : List α → World → Prop) (Ix : Code → List α → World → Prop) (hI : Above w.heap.size I) (hIx : ∀ c, Above w.heap.size (Ix c)) (h0 : I [] w)
    (hround : ∀ (l : Nat) (pre : List α) (x : α) (W : World), w.heap.size ≤ l → (∃ o : Obj, W.heap[l]? = some o ∧ o.isCells = false) → I pre W → pre.length < N →
      assign.wpIn (F.inRound l) (n - 1 - 1) P (Exit.then (fun a₁ W₁ => KeepsOthers W W₁ ∧ Kp W W₁ ∧ ∀ o' : Obj, body.wpIn (F.inRound l) (n - 1 - 1) P (ownPostK Kp I Ix (pre ++ [x]) (W₁.putObj l o')) a₁ (W₁.putObj l o')) (fun _ _ _ => False))
        { tmps := (ps.zip (encs x)).foldl (fun t (p, v) => t.setIfInBounds p v) a.tmps, defers := [] } W)
    (hdone : ∀ (D : Nat) (xs : List α) (W : World), w.heap.size ≤ D → S xs → I xs W → W.heap[D]? = some (.deferred (some [])) → Q .normal { a with defers := { target := .collected D, args := #[] } :: a.defers } W)
    (hstop : ∀ (D : Nat) (c : Code) (pre : List α) (W : World), w.heap.size ≤ D → Sp pre → Ix c pre W → W.heap[D]? = some (.deferred (some [])) → c.wpIn F n P Q { a with defers := { target := .collected D, args := #[] } :: a.defers } W) :
    (Code.rangeFunc g ps assign body).wpIn F n P Q a w := by
  refine wpIn_rangeFunc fun fn hfn => ?_
  rw [hro]
  let D := w.heap.size
  let L := D + 1
  let rec' : LoopState → Option Code → Loop := fun st pe => { state := st, pending := pe, fn, tmps := a.tmps, params := ps, assign, body, defers := D }
  let wD := w.alloc (.deferred (some []))
  let W0 := wD.alloc (.loop (rec' .ready none))
  have sD : wD.heap.size = L := World.size_alloc _ _
  have s0 : W0.heap.size = L + 1 := (World.size_alloc _ _).trans (by rw [sD])
  have kD : W0.heap[D]? = some (.deferred (some [])) := (Below.heap_alloc wD _ D (by rw [sD]; exact Nat.lt_succ_self _)).trans (World.alloc_heap_new w _)
  have kL : W0.heap[L]? = some (.loop (rec' .ready none)) := by have := World.alloc_heap_new wD (.loop (rec' .ready none)); rw [sD] at this; exact this
  refine ⟨L, [{ target := .collected D, args := #[] }], W0, { target := .fn (.func gf) lb, args := #[.func (.yield L) #[] #[]] }, W0, gf, #[.func (.yield L) #[] #[]] ++ lb, W0, run_enterLoop_outer fn a.tmps ps assign body, ?_, fun f' hf' => ?_, ?_, fun _ => h1, ?_⟩
  · simp only [resolve, hg]
    simp [go_sem]
  · simp [Target.leads] at hf'
    subst hf'
    exact hF
  · simp [invoke, go_sem, eg]
  -- the two blocks of the statement's own lie below the heap's end at the iterator's call
  have below : ∀ {A B : World} {row : Option Nat} {k : Nat} {o : Obj}, A.heap[k]? = some o → k < W0.heap.size → A.grownBy B row → (∀ r, row = some r → W0.heap.size ≤ r) → B.heap[k]? = some o := fun hk hlt hgr hr =>
    (hgr.block _ (Array.getElem?_eq_some_iff.1 hk).1 (fun e => by have := hr _ e.symm; omega)).trans hk
  have up : ∀ {row : Option Nat}, (∀ r, row = some r → W0.heap.size ≤ r) → ∀ r, row = some r → w.heap.size ≤ r := fun hr r e => by have := hr r e; show D ≤ r; omega
  refine (hseq L (fun pre W => I pre W ∧ W.heap[L]? = some (.loop (rec' .ready none)) ∧ W.heap[D]? = some (.deferred (some [])))
    (fun pre W => ∃ c, Ix c pre W ∧ W.heap[L]? = some (.loop (rec' .done (some c))) ∧ W.heap[D]? = some (.deferred (some []))) W0
    (((Below.refl _ w).alloc (Nat.le_refl _) _).alloc (by show w.heap.size ≤ wD.heap.size; rw [sD]; exact Nat.le_succ _) _) ?jj ?jx ?one ⟨hI.alloc _ (hI.alloc _ h0), kL, kD⟩).mono ?behind
  case jj => exact fun s A B row hs hgr hr => ⟨hI s A B row hs.1 hgr (up hr), below hs.2.1 (by omega) hgr hr, below hs.2.2 (by omega) hgr hr⟩
  case jx => exact fun s A B row ⟨c, h1, h2, h3⟩ hgr hr => ⟨c, hIx c s A B row h1 hgr (up hr), below h2 (by omega) hgr hr, below h3 (by omega) hgr hr⟩
  case one =>
    rintro pre x W ⟨hi, hl, hd⟩ hlen
    refine ⟨fn, _, assign, body, run_yield (P := P) (args := encs x) hl (hps x), roundIn_of_wpIn hfn ?_⟩
    refine wpIn_mono (hround L pre x W (Nat.le_succ _) ⟨_, hl, rfl⟩ hi hlen) ?_
    rintro e a₁ W₁ hp
    cases e with
    | normal =>
      obtain ⟨hk, hkp, hb⟩ := hp
      have l1 := hk.same _ _ hl rfl
      have d1 := hk.same _ _ hd rfl
      have lt1 := (Array.getElem?_eq_some_iff.1 l1).1
      refine ⟨_, run_beginRound (P := P) l1 rfl, wpIn_mono (hb _) ?_⟩
      have l2 := World.putObj_heap_same (w := W₁) (o := .loop { rec' .ready none with state := .busy }) lt1
      have d2 : (W₁.putObj L (.loop { rec' .ready none with state := .busy })).heap[D]? = _ := (World.putObj_heap_other (by show D ≠ D + 1; omega)).trans d1
      have kp2 := hKb W₁ L _ (.loop { rec' .ready none with state := .busy }) l1 rfl
      have fin : ∀ (jump : Option Code) (W3 : World), KeepsOthers (W₁.putObj L (.loop { rec' .ready none with state := .busy })) W3 →
          ∃ W4, (Instr.endRound L jump).run P W3 = .ok (.bool jump.isNone) W4 ∧ W4 = W3.putObj L (.loop (rec' (if jump.isNone then .ready else .done) jump)) ∧ W3.heap[L]? = some (.loop { rec' .ready none with state := .busy }) ∧
          W4.heap[L]? = some (.loop (rec' (if jump.isNone then .ready else .done) jump)) ∧ W4.heap[D]? = some (.deferred (some [])) := fun jump W3 hk3 => by
        have l3 := hk3.same _ _ l2 rfl
        have d3 := hk3.same _ _ d2 rfl
        exact ⟨_, run_endRound (P := P) jump l3, rfl, l3, World.putObj_heap_same (Array.getElem?_eq_some_iff.1 l3).1, (World.putObj_heap_other (by show D ≠ D + 1; omega)).trans d3⟩
      rintro e a3 W3 hp
      cases e with
      | normal =>
        obtain ⟨hk3, hkp3, hi3⟩ := hp
        obtain ⟨W4, hr, rfl, l3, l4, d4⟩ := fin none W3 hk3
        exact ⟨_, _, hr, .inl ⟨rfl, ⟨hI.put _ hi3 (Nat.le_succ _), l4, d4⟩, hKt hkp (hKt kp2 (hKt hkp3 (hKb _ _ _ _ l3 rfl)))⟩⟩
      | ret =>
        obtain ⟨hk3, hi3⟩ := hp
        obtain ⟨W4, hr, rfl, l3, l4, d4⟩ := fin (some .ret) W3 hk3
        exact ⟨_, _, hr, .inr ⟨rfl, .ret, (hIx _).put _ hi3 (Nat.le_succ _), l4, d4⟩⟩
      | exit id =>
        obtain ⟨hk3, hi3⟩ := hp
        obtain ⟨W4, hr, rfl, l3, l4, d4⟩ := fin (some (.exit id)) W3 hk3
        exact ⟨_, _, hr, .inr ⟨rfl, .exit id, (hIx _).put _ hi3 (Nat.le_succ _), l4, d4⟩⟩
      | goto t =>
        obtain ⟨hk3, hi3⟩ := hp
        obtain ⟨W4, hr, rfl, l3, l4, d4⟩ := fin (some (.goto t)) W3 hk3
        exact ⟨_, _, hr, .inr ⟨rfl, .goto t, (hIx _).put _ hi3 (Nat.le_succ _), l4, d4⟩⟩
      | panic ch => exact hp.elim
      | outgrown => exact hp.elim
    | exit id => exact hp.elim
    | goto t => exact hp.elim
    | ret => exact hp.elim
    | panic ch => exact hp.elim
    | outgrown => exact hp.elim
  case behind =>
    rintro e W2 ⟨⟨v, rfl⟩, (⟨xs, hS, hi, hl, hd⟩ | ⟨pre, hSp, c, hi, hl, hd⟩)⟩
    · exact ⟨none, _, run_endLoop (P := P) hl (by simp [rec']), hdone D xs _ (Nat.le_refl _) hS (hI.put _ hi (Nat.le_succ _)) ((World.putObj_heap_other (by show D ≠ D + 1; omega)).trans hd)⟩
    · exact ⟨some c, _, run_endLoop (P := P) hl (by simp [rec']), hstop D c pre _ (Nat.le_refl _) hSp ((hIx c).put _ hi (Nat.le_succ _)) ((World.putObj_heap_other (by show D ≠ D + 1; omega)).trans hd)⟩
end Go.Proofs.YtadicempblgmhaaDoor
