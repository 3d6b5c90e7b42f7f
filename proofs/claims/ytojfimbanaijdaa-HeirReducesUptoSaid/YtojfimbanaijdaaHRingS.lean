/-
  Our own law for a range over an iterator with memory of its own, where a round makes its variable's cell and the body is told of its loop's record. A scope through which the run goes straight on, within a fence. What Ring returns, in package heir, of a system with a ring.
-/
import Derived.Test.YtojfimbanaijdaaHRange
import Derived.RangeFuncNested
import Derived.Test.YtojfimbanaijdaaHBase
import Derived.Scope
import Derived.Test.YtojfimbanaijdaaHWays
import Derived.WalkMore
import Derived.Test.YtojfimbanaijdaaHCheckF
namespace Go.Proofs.Ytojfimbanaijdaa
open Go.RowKit Go.Shelf

theorem range_okH {α : Type} {F : Fence} {n : Nat} {P : Program} {g : Operand} {ps : Array Tmp} {assign body : Code} {Q : Exit → Act → World → Prop} {a : Act} {w : World}
    (hro : F.round = none) (h1 : 1 ≤ n) {gf : Nat} {lb : Array Value} (hg : a.eval g = .func (.func gf) #[] lb) (hF : F.fn gf) (eg : ∀ args w, (callFunc gf args).run P w = .ok (.enter gf args) w)
    {encs : α → Array Value} {Ok : α → World → Prop} {Kp : World → World → Prop} {S Sp : List α → Prop} {T : TypeId} (hseq : SeqOk F (n - 1) P gf lb encs Ok Kp S Sp T w)
    (hKt : ∀ {A B C : World}, Kp A B → Kp B C → Kp A C) (hKb : ∀ (W : World) (l : Nat) (o o' : Obj), w.heap.size ≤ l → W.heap[l]? = some o → o.isCells = false → o.isWalk = false → Kp W (W.putObj l o')) (hps : ∀ x, (encs x).size = ps.size)
    (I : List α → World → Prop) (Ix : Code → List α → World → Prop) (hI : AboveT w.heap.size T I) (hIx : ∀ c, AboveT w.heap.size T (Ix c)) (h0 : I [] w)
    (Ax : List α → α → Act → World → Prop) (hAx : ∀ (pre : List α) (x : α) (a' : Act) (W : World) (l : Nat) (o o' : Obj), Ax pre x a' W → w.heap.size ≤ l → W.heap[l]? = some o → o.isCells = false → o.isWalk = false → Ax pre x a' (W.putObj l o'))
    (hassign : ∀ (l : Nat) (pre : List α) (x : α) (W : World) (K : Act → World → Prop), I pre W → Ok x W → (∀ a' W', KeepsFrom w.heap.size W W' → Kp W W' → Ax pre x a' W' → K a' W') →
      assign.wpIn (F.inRound l) (n - 1 - 1) P (Exit.then K (fun _ _ _ => False)) { tmps := (ps.zip (encs x)).foldl (fun t (p, v) => t.setIfInBounds p v) a.tmps, defers := [] } W)
    (hbody : ∀ (l : Nat) (pre : List α) (x : α) (a' : Act) (W : World), w.heap.size ≤ l → (∃ r, W.heap[l]? = some (.loop r)) → Ax pre x a' W → body.wpIn (F.inRound l) (n - 1 - 1) P (ownPostG w.heap.size Kp I Ix (pre ++ [x]) W) a' W)
    (hdone : ∀ (D : Nat) (xs : List α) (W : World), w.heap.size ≤ D → S xs → I xs W → W.heap[D]? = some (.deferred (some [])) → Q .normal { a with defers := { target := .collected D, args := #[] } :: a.defers } W)
    (hstop : ∀ (D : Nat) (c : Code) (pre : List α) (W : World), w.heap.size ≤ D → Sp pre → Ix c pre W → W.heap[D]? = some (.deferred (some [])) → c.wpIn F n P Q { a with defers := { target := .collected D, args := #[] } :: a.defers } W) :
    (Code.rangeFunc g ps assign body).wpIn F n P Q a w := by
  refine wpIn_rangeFunc fun fn hfn => ?_
  rw [hro]
  let D := w.heap.size
  let L := D + 1
  let rec' : LoopState → Option Code → Loop := fun st pe => { state := st, pending := pe, fn, tmps := a.tmps, params := ps, assign, body, defers := D }
  let wD := w.alloc (.deferred (some []))
  let W0 := wD.alloc (.loop (rec' .ready none))
  have sD : wD.heap.size = L := World.size_alloc _ _
  have s0 : W0.heap.size = L + 1 := (World.size_alloc _ _).trans (by rw [sD])
  have kD : W0.heap[D]? = some (.deferred (some [])) := (Below.heap_alloc wD _ D (by rw [sD]; exact Nat.lt_succ_self _)).trans (World.alloc_heap_new w _)
  have kL : W0.heap[L]? = some (.loop (rec' .ready none)) := by have := World.alloc_heap_new wD (.loop (rec' .ready none)); rw [sD] at this; exact this
  refine ⟨L, [{ target := .collected D, args := #[] }], W0, { target := .fn (.func gf) lb, args := #[.func (.yield L) #[] #[]] }, W0, gf, #[.func (.yield L) #[] #[]] ++ lb, W0, run_enterLoop_outer fn a.tmps ps assign body, ?_, fun f' hf' => ?_, ?_, fun _ => h1, ?_⟩
  · simp only [resolve, hg]
    simp [go_sem]
  · simp [Target.leads] at hf'
    subst hf'
    exact hF
  · simp [invoke, go_sem, eg]
  have below : ∀ {A B : World} {row : Option Nat} {k : Nat} {o : Obj}, A.heap[k]? = some o → k < W0.heap.size → A.grownBy B row → (∀ r, row = some r → W0.heap.size ≤ r) → B.heap[k]? = some o := fun hk hlt hgr hr =>
    (hgr.block _ (Array.getElem?_eq_some_iff.1 hk).1 (fun e => by have := hr _ e.symm; omega)).trans hk
  have le0 : w.heap.size ≤ W0.heap.size := by rw [s0]; show D ≤ D + 1 + 1; omega
  refine (hseq L (fun pre W => I pre W ∧ W.heap[L]? = some (.loop (rec' .ready none)) ∧ W.heap[D]? = some (.deferred (some [])))
    (fun pre W => ∃ c, Ix c pre W ∧ W.heap[L]? = some (.loop (rec' .done (some c))) ∧ W.heap[D]? = some (.deferred (some []))) W0
    (((Below.refl _ w).alloc (Nat.le_refl _) _).alloc (by show w.heap.size ≤ wD.heap.size; rw [sD]; exact Nat.le_succ _) _) ?jj ?jx ?one ⟨hI.alloc _ (hI.alloc _ h0), kL, kD⟩).mono ?behind
  case jj => exact fun s A B row hs hgr hr => ⟨hI s A B row hs.1 hgr (fun r e => ⟨Nat.le_trans le0 (hr r e).1, (hr r e).2⟩), below hs.2.1 (by omega) hgr (fun r e => (hr r e).1), below hs.2.2 (by omega) hgr (fun r e => (hr r e).1)⟩
  case jx => exact fun s A B row ⟨c, h1, h2, h3⟩ hgr hr => ⟨c, hIx c s A B row h1 hgr (fun r e => ⟨Nat.le_trans le0 (hr r e).1, (hr r e).2⟩), below h2 (by omega) hgr (fun r e => (hr r e).1), below h3 (by omega) hgr (fun r e => (hr r e).1)⟩
  case one =>
    rintro pre x W ⟨hi, hl, hd⟩ hok
    refine ⟨fn, _, assign, body, run_yield (P := P) (args := encs x) hl (hps x), roundIn_of_wpIn hfn (hassign L pre x W _ hi hok ?_)⟩
    intro a' W1 hk1 hkp1 hax
    have l1 := hk1.same _ _ (Nat.le_succ _) hl rfl
    have d1 := hk1.same _ _ (Nat.le_refl _) hd rfl
    refine ⟨_, run_beginRound (P := P) l1 rfl, ?_⟩
    have lt1 := (Array.getElem?_eq_some_iff.1 l1).1
    have l2 := World.putObj_heap_same (w := W1) (o := .loop { rec' .ready none with state := .busy }) lt1
    have d2 : (W1.putObj L (.loop { rec' .ready none with state := .busy })).heap[D]? = _ := (World.putObj_heap_other (by show D ≠ D + 1; omega)).trans d1
    have kp2 := hKb W1 L _ (.loop { rec' .ready none with state := .busy }) (Nat.le_succ _) l1 rfl rfl
    refine wpIn_mono (hbody L pre x a' _ (Nat.le_succ _) ⟨_, l2⟩ (hAx pre x a' W1 L _ _ hax (Nat.le_succ _) l1 rfl rfl)) ?_
    have fin : ∀ (jump : Option Code) (W3 : World), KeepsFrom w.heap.size (W1.putObj L (.loop { rec' .ready none with state := .busy })) W3 →
        ∃ W4, (Instr.endRound L jump).run P W3 = .ok (.bool jump.isNone) W4 ∧ W4 = W3.putObj L (.loop (rec' (if jump.isNone then .ready else .done) jump)) ∧ W3.heap[L]? = some (.loop { rec' .ready none with state := .busy }) ∧
        W4.heap[L]? = some (.loop (rec' (if jump.isNone then .ready else .done) jump)) ∧ W4.heap[D]? = some (.deferred (some [])) := fun jump W3 hk3 => by
      have l3 := hk3.same _ _ (Nat.le_succ _) l2 rfl
      have d3 := hk3.same _ _ (Nat.le_refl _) d2 rfl
      exact ⟨_, run_endRound (P := P) jump l3, rfl, l3, World.putObj_heap_same (Array.getElem?_eq_some_iff.1 l3).1, (World.putObj_heap_other (by show D ≠ D + 1; omega)).trans d3⟩
    rintro e a3 W3 hp
    cases e with
    | normal =>
      obtain ⟨hk3, hkp3, hi3⟩ := hp
      obtain ⟨W4, hr, rfl, l3, l4, d4⟩ := fin none W3 hk3
      exact ⟨_, _, hr, .inl ⟨rfl, ⟨hI.put _ hi3 (Nat.le_succ _) l3 rfl, l4, d4⟩, hKt hkp1 (hKt kp2 (hKt hkp3 (hKb _ _ _ _ (Nat.le_succ _) l3 rfl rfl)))⟩⟩
    | ret =>
      obtain ⟨hk3, hi3⟩ := hp
      obtain ⟨W4, hr, rfl, l3, l4, d4⟩ := fin (some .ret) W3 hk3
      exact ⟨_, _, hr, .inr ⟨rfl, .ret, (hIx _).put _ hi3 (Nat.le_succ _) l3 rfl, l4, d4⟩⟩
    | exit id =>
      obtain ⟨hk3, hi3⟩ := hp
      obtain ⟨W4, hr, rfl, l3, l4, d4⟩ := fin (some (.exit id)) W3 hk3
      exact ⟨_, _, hr, .inr ⟨rfl, .exit id, (hIx _).put _ hi3 (Nat.le_succ _) l3 rfl, l4, d4⟩⟩
    | goto t =>
      obtain ⟨hk3, hi3⟩ := hp
      obtain ⟨W4, hr, rfl, l3, l4, d4⟩ := fin (some (.goto t)) W3 hk3
      exact ⟨_, _, hr, .inr ⟨rfl, .goto t, (hIx _).put _ hi3 (Nat.le_succ _) l3 rfl, l4, d4⟩⟩
    | panic ch => exact hp.elim
    | outgrown => exact hp.elim
  case behind =>
    rintro e W2 ⟨⟨v, rfl⟩, (⟨xs, hS, hi, hl, hd⟩ | ⟨pre, hSp, c, hi, hl, hd⟩)⟩
    · exact ⟨none, _, run_endLoop (P := P) hl (by simp [rec']), hdone D xs _ (Nat.le_refl _) hS (hI.put _ hi (Nat.le_succ _) hl rfl) ((World.putObj_heap_other (by show D ≠ D + 1; omega)).trans hd)⟩
    · exact ⟨some c, _, run_endLoop (P := P) hl (by simp [rec']), hstop D c pre _ (Nat.le_refl _) hSp ((hIx c).put _ hi (Nat.le_succ _) hl rfl) ((World.putObj_heap_other (by show D ≠ D + 1; omega)).trans hd)⟩
end Go.Proofs.Ytojfimbanaijdaa
namespace Go.Proofs.Ytojfimbanaijdaa
open Go.RowKit Go.Shelf
section
variable {F : Fence} {n : Nat} {P : Program} {b : Frame} {a : Act} {k : List Item} {cs : List Frame} {w : World} {Q : Exit → Act → World → Prop}
theorem stepR_scope {c : Code} : step P (lone (b.atR a (.code (.scope c) :: k)) cs w) = .next (lone (b.atR a (.code c :: .inScope c :: k)) cs w) :=
  step_lone_go (by simp [stepG, stepG.exec, Frame.atR])
theorem stepR_inScope {c : Code} : step P (lone (b.atR a (.inScope c :: k)) cs w) = .next (lone (b.atR a k) cs w) :=
  step_lone_go (by simp [stepG, stepG.exec, Frame.atR])
theorem wpIn_scope {c : Code} (h : c.wpIn F n P (Exit.noGoto Q) a w) : (Code.scope c).wpIn F n P Q a w := by
  intro b k cs hro hb hr
  have h0 : (lone (b.atR a (.code (.scope c) :: k)) cs w).fenced P F := fenced_calm hb hr rfl
  obtain ⟨e, a₁, w₁, hq, harr⟩ := h b (.inScope c :: k) cs hro hb hr
  cases e with
  | normal => exact ⟨.normal, a₁, w₁, hq, .head h0 stepR_scope (StepsIn.trans harr (.one (fenced_calm hb hr rfl) stepR_inScope))⟩
  | exit id' =>
    have hx : exitTo id' (.inScope c :: k) = exitTo id' k := by simp [exitTo]
    exact ⟨.exit id', a₁, w₁, hq, fun k' hk => .head h0 stepR_scope (harr.1 k' (by rw [hx]; exact hk)),
      fun hr' hk => let ⟨k₁, h1, h2⟩ := harr.2 hr' (by rw [hx]; exact hk); ⟨k₁, h1, .head h0 stepR_scope h2⟩⟩
  | goto l => exact hq.elim
  | ret => exact ⟨_, a₁, w₁, hq, .of_steps (.one h0 stepR_scope) harr⟩
  | panic ch => exact ⟨_, a₁, w₁, hq, .of_steps (.one h0 stepR_scope) harr⟩
  | outgrown => exact ⟨_, a₁, w₁, hq, .of_steps (.one h0 stepR_scope) harr⟩
end
end Go.Proofs.Ytojfimbanaijdaa
namespace Go.Proofs.Ytojfimbanaijdaa
open Go.RowKit Go.Shelf
attribute [local go_sem] Oper.semAt_some
attribute [local irreducible] wpStill

/-- The best step so far lies in its cell. -/
def BestAt (L : List (Hr.Nm × Hr.Nm)) (W : World) (bb : Nat) (b : Option (Hr.Nm × List Hr.Nm)) : Prop :=
  ∃ bv, Has W bb 98 #[bv] ∧ match b with
    | none => bv = .pointer none
    | some x => ∃ sb, bv = ptr sb ∧ StepAt W sb x.1 x.2 ∧ x.2.length ≤ L.length + 1
theorem BestAt.grown {L : List (Hr.Nm × Hr.Nm)} {W W' : World} {bb : Nat} {b : Option (Hr.Nm × List Hr.Nm)} {row : Option Nat} (h : BestAt L W bb b) (hg : W.grownBy W' row) (hr : ∀ r, row = some r → r ≠ bb ∧ ∀ cs, ¬ Has W r 103 cs) : BestAt L W' bb b := by
  obtain ⟨bv, h1, h2⟩ := h
  refine ⟨bv, h1.grown hg (fun e => (hr bb e.symm).1 rfl), ?_⟩
  cases b with
  | none => exact h2
  | some x =>
    obtain ⟨sb, h3, h4, h5⟩ := h2
    exact ⟨sb, h3, h4.grown hg (fun r e => (hr r e).2), h5⟩
theorem BestAt.below {L : List (Hr.Nm × Hr.Nm)} {W W' : World} {bb : Nat} {b : Option (Hr.Nm × List Hr.Nm)} (h : BestAt L W bb b) (hb : Below W.heap.size W W') : BestAt L W' bb b :=
  h.grown (grown_of_below hb (Nat.le_refl _)) (fun r e => by cases e)
theorem BestAt.put {L : List (Hr.Nm × Hr.Nm)} {W : World} {bb l : Nat} {o : Obj} {b : Option (Hr.Nm × List Hr.Nm)} (h : BestAt L W bb b) (o' : Obj) (ho : W.heap[l]? = some o) (hc : o.isCells = false) : BestAt L (W.putObj l o') bb b := by
  refine h.grown (grownBy_putObj' W l o') (fun r e => ?_)
  cases e
  obtain ⟨bv, h1, -⟩ := h
  refine ⟨fun e => ?_, fun cs hcs => ?_⟩
  · subst e
    unfold Has at h1
    rw [ho] at h1
    cases h1
    cases hc
  · unfold Has at hcs
    rw [ho] at hcs
    cases hcs
    cases hc
theorem BestAt.lt {L : List (Hr.Nm × Hr.Nm)} {W : World} {bb : Nat} {b : Option (Hr.Nm × List Hr.Nm)} (h : BestAt L W bb b) : bb < W.heap.size := by
  obtain ⟨bv, h1, -⟩ := h
  exact h1.lt
def RingAt (L : List (Hr.Nm × Hr.Nm)) (w7 : World) (bb : Nat) (l : List Hr.Nm) (k : Nat) (Ds : List Nat) (wr : World) : Prop :=
  Ds.Nodup ∧ (∀ D ∈ Ds, w7.heap.size ≤ D) ∧ (∀ D ∈ Ds, wr.heap[D]? = some (.deferred (some []))) ∧ w7.grownBy wr (some bb) ∧
    BestAt L wr bb ((l.take k).foldl (fun b c => Hr.ringFrom L c b (Hr.steps L c)) none)
def RingI (v x1 : Value) (w7 : World) (bb g2 wb : Nat) (A : Option Addr) (cp m : Nat) (hA : Option Addr) (hc : Nat) (L : List (Hr.Nm × Hr.Nm)) (l : List Hr.Nm) (act : Act) (wr : World) : Prop :=
  ∃ (k : Nat) (u8 u28 u29 u30 u31 u32 u33 u59 : Value) (Ds : List Nat), k ≤ l.length ∧ RingAt L w7 bb l k Ds wr ∧
    act = { tmps := #[v, undef, .slice none 0 0, .bool false, .pointer (some ⟨g2, 0, none⟩), .slice hA l.length hc, .pointer (some ⟨bb, 0, none⟩), undef, u8, undef, undef, v, x1, .agg #[.slice A L.length cp, .map (some m)], .pointer (some ⟨g2, 1, none⟩), .map (some m), .func (.func 82) #[] #[.pointer (some ⟨g2 + 1, 0, none⟩)], .slice hA l.length hc, .agg #[.slice A L.length cp, .map (some m)], .slice hA l.length hc, .pointer (some ⟨wb, 0, none⟩), .pointer (some ⟨wb, 0, none⟩), .pointer (some ⟨wb, 4, none⟩), .bool true, .bool false, .slice hA l.length hc, .int .i64 l.length, .int .i64 k, u28, u29, u30, u31, u32, u33, undef, undef, undef, undef, undef, undef, undef, undef, undef, undef, undef, undef, undef, undef, undef, undef, undef, undef, undef, undef, undef, undef, undef, undef, undef, u59, undef, undef], defers := Ds.map mark }
def RingMu (n : Nat) (a : Act) (_ : World) : Nat := n - (intOf (a.tmps.getD 27 undef)).toNat

theorem GF.set {bg bc cp m k r : Nat} {A : Option Addr} {L : List (Hr.Nm × Hr.Nm)} {c : Hr.Nm} {W W' : World} (h : GF bg bc A cp m k L c W) (hg : W.grownBy W' (some r)) (h1 : bg ≠ r) (h2 : bc ≠ r) (h3 : m ≠ r) (hA : 0 < L.length → ∀ a, A = some a → a.block ≠ r) : GF bg bc A cp m k L c W' := by
  refine ⟨h.hg.grown hg (by simpa using h1), h.hc.grown hg (by simpa using h2), ?_, h.hm.kept hg (by simpa using h3), h.hn⟩
  obtain ⟨hf, A', c', hv, hc, hh⟩ := h.hl
  cases hv
  refine ⟨hf, A, cp, rfl, hc, fun h0 => ?_⟩
  obtain ⟨b, o, hb, hcs⟩ := hh h0
  have hne : b ≠ r := hA h0 _ hb
  refine ⟨b, o, hb, fun i hi => ?_⟩
  have key : ∀ j v, W.cell? ⟨b, j, none⟩ = some v → W'.cell? ⟨b, j, none⟩ = some v := fun j v hv =>
    (World.cell?_of_block (hg.block b (World.block_lt_of_cell? W _ hv) (by simpa using hne))).trans hv
  exact ⟨key _ _ (hcs i hi).1, key _ _ (hcs i hi).2⟩
theorem Hr.ringFrom_none (L : List (Hr.Nm × Hr.Nm)) (c : Hr.Nm) (x : Hr.Nm × List Hr.Nm) (r : List (Hr.Nm × List Hr.Nm)) : Hr.ringFrom L c none (x :: r) = Hr.ringFrom L c (if (Hr.parents L x.1).contains c then some x else none) r := by
  conv => lhs; unfold Hr.ringFrom
theorem Hr.ringFrom_more (L : List (Hr.Nm × Hr.Nm)) (c : Hr.Nm) (y x : Hr.Nm × List Hr.Nm) (r : List (Hr.Nm × List Hr.Nm)) (h : ¬ y.2.length ≤ x.2.length) : Hr.ringFrom L c (some y) (x :: r) = Hr.ringFrom L c (if (Hr.parents L x.1).contains c then some x else some y) r := by
  conv => lhs; unfold Hr.ringFrom
  dsimp only
  rw [if_neg h]
theorem Hr.ringFrom_stop (L : List (Hr.Nm × Hr.Nm)) (c : Hr.Nm) (y x : Hr.Nm × List Hr.Nm) (r : List (Hr.Nm × List Hr.Nm)) (h : y.2.length ≤ x.2.length) : Hr.ringFrom L c (some y) (x :: r) = some y := by
  conv => lhs; unfold Hr.ringFrom
  dsimp only
  rw [if_pos h]
theorem BestAt.notStep {L : List (Hr.Nm × Hr.Nm)} {W : World} {bb : Nat} {b : Option (Hr.Nm × List Hr.Nm)} (h : BestAt L W bb b) : ∀ cs, ¬ Has W bb 103 cs := fun cs hc => by
  obtain ⟨bv, h1, -⟩ := h
  unfold Has at h1 hc
  rw [h1] at hc
  cases hc

set_option maxRecDepth 100000 in
set_option maxHeartbeats 4000000 in
theorem Ring_some (v : Value) (S : List Hr.Cls) (w : World) (h : SysAt w v S) (hS : S.length ≤ 1000000) (hL : (Hr.links S).length ≤ 400000) (hyes : (Hr.visited (Hr.links S) (Hr.sources (Hr.links S))).ring = true) :
    Calls Try.prog 17 #[v] w fun e w' => ∃ rg o, Hr.ring (Hr.links S) = some rg ∧ e = .returned (.tuple #[o, .bool true]) ∧ w'.ownsRow w.heap.size 9 1 o rg.length (nmRow rg) ∧ Below w.heap.size w w' := by
  have hfine := links_fine h
  have HLK := Lib.hid (linksOf_any v S w h hS (by omega))
  have HYES := Lib.hid hyes
  have HFI := Lib.hid hfine
  have hsl := sources_le (Hr.links S)
  clear h hyes hfine
  generalize Hr.links S = L at *
  refine (callsIn_wide (n := 5)).1 ?_
  refine callsIn_of_wp_marks Try.func17 rfl trivial ?_ rfl
  simp only [Try.ntmps17, List.size_toArray, List.length_cons, List.length_nil, Nat.reduceAdd, Nat.reduceSub, Array.replicate_succ, Array.replicate_zero, List.push_toArray, List.append_toArray, List.nil_append, List.cons_append]
  gi_wp2
  refine wpIn_scope ?_
  gi_wp2_with (first
    | (refine ⟨trivial, ?_⟩; gi_at_call 47; refine (callsIn_wide.2 HLK.out).mono ?_
       rintro e w1 ⟨x1, rfl, ho1, hb1⟩
       have HG := Lib.hid (graphOf_any x1 L w1 (LinksAt.of_own HFI.out ho1) (by omega))
       have HB1 := Lib.hid hb1
       clear ho1 hb1)
    | (refine ⟨trivial, ?_⟩; gi_at_call 46; refine (callsIn_wide.2 HG.out).mono ?_
       rintro e w2 ⟨x2, rfl, hg2, hb2⟩
       obtain ⟨A, cp, m, k0, rfl, hl2, hm2, hmi2⟩ := hg2
       have HB2 := Lib.hid (stepN HB1.out hb2)
       have HL2 := Lib.hid hl2
       have HM2 := Lib.hid hmi2
       clear hl2 hmi2 hb2)
    | (refine ⟨trivial, ?_⟩; gi_at_call 49; refine (callsIn_wide.2 (keys_any (some m) _)).mono ?_
       rintro e w3 ⟨rfl, rfl⟩
       have hb3 : Below w2.heap.size w2 (w2.alloc (.cells #[.slice A L.length cp, .map (some m)] 73)) := (Below.refl _ _).alloc (Nat.le_refl _) _
       have HSO := sources_any m k0 L _ (HM2.out.below hb3 HM2.out.lt) (by omega)
       rw [World.size_alloc] at HSO
       have HSO := Lib.hid HSO
       clear hb3)
    | (refine ⟨trivial, ?_⟩; gi_at_call 48; refine (callsIn_wide.2 HSO.out).mono ?_
       rintro e w5 ⟨hv, rfl, ho5, hb5⟩
       obtain ⟨hA, hc, rfl⟩ := own_len ho5
       have hb4 : Below w2.heap.size w2 w5 := (((Below.refl w2.heap.size w2).alloc (Nat.le_refl _) (.cells #[.slice A L.length cp, .map (some m)] 73)).alloc (by simp) (.cells #[.map (some m)] 58)).trans (hb5.mono (by simp; omega))
       have hg5 : Has w5 w2.heap.size 73 #[.slice A L.length cp, .map (some m)] := ((Has.new w2 _ _).alloc _).below hb5 (by simp; omega)
       have gc0 := hg5.cell 0
       have gc1 := hg5.cell 1
       have glt5 := hg5.lt
       simp only [List.getElem?_toArray, List.getElem?_cons_zero, List.getElem?_cons_succ] at gc0 gc1
       have HVI := Lib.hid (visited_any A cp m k0 L _ (Hr.sources L) w5 (HL2.out.below hb4 (Nat.le_refl _)) (HM2.out.below hb4 HM2.out.lt) (NmsAt.of_own ho5) (sources_fine HFI.out) (by omega))
       have HB5 := Lib.hid (stepN HB2.out hb4)
       have HG5 := Lib.hid hg5
       have HL5 := Lib.hid (HL2.out.below hb4 (Nat.le_refl _))
       have HM5 := Lib.hid (HM2.out.below hb4 HM2.out.lt)
       have HN5 := Lib.hid (NmsAt.of_own ho5)
       clear ho5 hb5 hb4 hg5)
    | (refine ⟨trivial, ?_⟩; gi_at_call 50; refine (callsIn_wide.2 HVI.out).mono ?_
       rintro e w6 ⟨wb, mc, B, o, M, rfl, hw6, -, hb6⟩
       have z4 := hw6.hw.cell 4
       have wlt := hw6.hw.lt
       simp only [List.getElem?_toArray, List.getElem?_cons_zero, List.getElem?_cons_succ] at z4
       have hrg : (Hr.visited L (Hr.sources L)).ring = true := HYES.out
       have hrg2 : (List.foldl (Hr.visit L (L.length + 1)) ⟨fun _ => none, [], false⟩ (Hr.sources L)).ring = true := hrg
       rw [hrg] at z4
       have HB6 := Lib.hid (stepN HB5.out hb6)
       have HG6 := Lib.hid (HG5.out.below hb6 HG5.out.lt)
       have HL6 := Lib.hid (HL5.out.below hb6 (Nat.le_refl _))
       have HM6 := Lib.hid (HM5.out.below hb6 HM5.out.lt)
       have HN6 := Lib.hid (HN5.out.below hb6 (Nat.le_refl _))
       clear hw6 hb6))
  refine wpIn_label ?_
  gi_wp2
  have hb7 : Below w6.heap.size w6 (w6.alloc (.cells #[.pointer none] 98)) := (Below.refl _ _).alloc (Nat.le_refl _) _
  have HB7 := Lib.hid (stepN HB6.out hb7)
  have HG7 := Lib.hid (HG6.out.below hb7 HG6.out.lt)
  have HL7 := Lib.hid (HL6.out.below hb7 (Nat.le_refl _))
  have HM7 := Lib.hid (HM6.out.below hb7 HM6.out.lt)
  have HN7 := Lib.hid (HN6.out.below hb7 (Nat.le_refl _))
  have HBE : Hid (BestAt L (w6.alloc (.cells #[.pointer none] 98)) w6.heap.size none) := ⟨_, Has.new _ _ _, rfl⟩
  have hgb := HG6.out.lt
  have hmb := HM6.out.lt
  have hbs6 := HB6.out.size
  have HSF := Lib.hid (sources_fine HFI.out)
  have hbest := Hr.ring_best L HYES.out
  have hring : Hr.ring L = ((Hr.sources L).foldl (fun b c => Hr.ringFrom L c b (Hr.steps L c)) none).map Hr.wayOf := by
    unfold Hr.ring
    rw [if_pos HYES.out]
  have HBEST := Lib.hid hbest
  have HRING := Lib.hid hring
  have hmix : Try.prog.follows .mixedOrders = true := by kernel_rfl
  clear hbest hring HLK HYES HG HB1 HB2 HL2 HM2 HSO HVI HB5 HG5 HL5 HM5 HN5 HB6 HG6 HL6 HM6 HN6 hb7 gc0 gc1 glt5 z4 wlt hrg2
  generalize Hr.sources L = ls at *
  generalize hwB : w.heap.size = B0 at *
  generalize w2.heap.size = g2 at *
  generalize hw7 : w6.alloc (.cells #[.pointer none] 98) = w7 at *
  have hs7 : w7.heap.size = w6.heap.size + 1 := by rw [← hw7]; simp
  generalize w6.heap.size = bb at *
  clear hw7
  refine wpIn_loop (RingI v x1 w7 bb g2 wb A cp m hA hc L ls) (RingMu ls.length) ?start ?round
  case start =>
    exact ⟨0, undef, undef, undef, undef, undef, undef, undef, undef, [], Nat.zero_le _, ⟨List.nodup_nil, fun D h => by simp at h, fun D h => by simp at h, ⟨rfl, rfl, rfl, Nat.le_refl _, fun _ _ _ => rfl⟩, HBE.out⟩, rfl⟩
  case round =>
    rintro act wr ⟨k, u8, u28, u29, u30, u31, u32, u33, u59, Ds, hk, ⟨hDn, hDB, hDs, hgr, hbe⟩, rfl⟩
    have hsr := hgr.size
    obtain ⟨bv7, hbv7, hbvn⟩ := HBE.out
    have hbvn : bv7 = .pointer none := hbvn
    subst hbvn
    have hBr : Below B0 w wr := HB7.out.grown hgr (by omega) (fun b e => by cases e; omega)
    have hggr := HG7.out.grown hgr (by simp; omega)
    have g0 := hggr.cell 0
    have g1 := hggr.cell 1
    have glt := hggr.lt
    simp only [List.getElem?_toArray, List.getElem?_cons_zero, List.getElem?_cons_succ] at g0 g1
    by_cases hlt : k < ls.length
    · obtain ⟨A', c', hv', hat⟩ := HN7.out
      cases hv'
      obtain ⟨b, ob, hAe, hat2⟩ := hat (by omega)
      subst hAe
      have hbne : b ≠ bb := fun e => by
        have h1 := hat2 k hlt
        rw [e, hbv7.cell] at h1
        generalize ob + k = q at h1
        rcases q with _ | q <;> simp at h1
      have c0 : wr.cell? ⟨b, ob + k, none⟩ = some (nm ls[k]) := (World.cell?_of_block (hgr.block b (World.block_lt_of_cell? _ _ (hat2 k hlt)) (by simp; omega))).trans (hat2 k hlt)
      have hblt := World.block_lt_of_cell? _ _ c0
      have hltI : (k : Int) < ls.length := by omega
      have hxn := HSF.out ls[k] (List.getElem_mem hlt)
      have hst : (ls.take (k + 1)).foldl (fun b c => Hr.ringFrom L c b (Hr.steps L c)) none = Hr.ringFrom L ls[k] ((ls.take k).foldl (fun b c => Hr.ringFrom L c b (Hr.steps L c)) none) (Hr.steps L ls[k]) := by
        rw [List.take_succ_eq_append_getElem hlt, List.foldl_append]; rfl
      have hw1 : IntKind.i64.wrap ((k : Int) + 1) = (k : Int) + 1 := IntWalk.i64_in _ (by omega)
      have HST := Lib.hid hst
      have HBB := Lib.hid hbe
      have HDS := Lib.hid hDs
      have HGR := Lib.hid hgr
      have HGG := Lib.hid hggr
      clear hst hbe hDs hgr hat hat2 hggr
      generalize ls[k] = c at *
      generalize (ls.take k).foldl (fun b c => Hr.ringFrom L c b (Hr.steps L c)) none = b0 at *
      gi_wp2_with (first
        | (refine ⟨trivial, ?_⟩; gi_at_call 51; refine (callsIn_wide.2 (steps_any _ _ A L.length cp (some m) c _ rfl rfl)).mono ?_; rintro e w' ⟨rfl, rfl⟩))
      obtain ⟨wx, hwx⟩ : ∃ wx, wx = (((wr.alloc (.cells #[nm c] 9)).alloc (.cells #[.slice A L.length cp, .map (some m)] 73)).alloc (.cells #[nm c] 9)) := ⟨_, rfl⟩
      first | rw [← hwx] | (show Code.wpIn _ _ _ _ _ _ (((wr.alloc (.cells #[nm c] 9)).alloc (.cells #[.slice A L.length cp, .map (some m)] 73)).alloc (.cells #[nm c] 9)); rw [← hwx])
      have hbx : Below wr.heap.size wr wx := by rw [hwx]; exact (((Below.refl _ _).alloc (Nat.le_refl _) _).alloc (by simp) _).alloc (by simp; omega) _
      have hszx : wx.heap.size = wr.heap.size + 3 := by rw [hwx]; simp
      have hx0 : Has wx wr.heap.size 9 #[nm c] := by rw [hwx]; exact ((Has.new _ _ _).alloc _).alloc _
      have hx1 : Has wx (wr.heap.size + 1) 73 #[.slice A L.length cp, .map (some m)] := by
        rw [hwx]
        have h := Has.new (wr.alloc (.cells #[nm c] 9)) 73 #[.slice A L.length cp, .map (some m)]
        rw [World.size_alloc] at h
        exact h.alloc _
      have hx2 : Has wx (wr.heap.size + 1 + 1) 9 #[nm c] := by
        rw [hwx]
        have h := Has.new ((wr.alloc (.cells #[nm c] 9)).alloc (.cells #[.slice A L.length cp, .map (some m)] 73)) 9 #[nm c]
        rw [World.size_alloc, World.size_alloc] at h
        exact h
      have hgrx : w7.grownBy wx (some bb) := grown_two HGR.out ⟨hbx.os, hbx.tape, hbx.output, hbx.size, fun i hi _ => hbx.block i hi⟩
      -- links and the graph's map lie where they lay
      have hlk7 := HL7.out
      have hlx : LinksAt wx (.slice A L.length cp) L := by
        obtain ⟨hf, A', c', hv, hc', hh⟩ := hlk7
        cases hv
        refine ⟨hf, A, cp, rfl, hc', fun h0 => ?_⟩
        obtain ⟨lb, lo, hlb, hcs⟩ := hh h0
        have hlne : lb ≠ bb := fun e => by
          have h1 := (hcs 0 h0).1
          rw [e, hbv7.cell] at h1
          generalize lo + 0 * 2 = q at h1
          rcases q with _ | q <;> simp at h1
        have far : ∀ j u, w7.cell? ⟨lb, j, none⟩ = some u → wx.cell? ⟨lb, j, none⟩ = some u := fun j u hu =>
          (World.cell?_of_block (hgrx.block lb (World.block_lt_of_cell? _ _ hu) (by simp; omega))).trans hu
        exact ⟨lb, lo, hlb, fun i hi => ⟨far _ _ (hcs i hi).1, far _ _ (hcs i hi).2⟩⟩
      have hlA : 0 < L.length → ∀ a, A = some a → a.block < wx.heap.size ∧ a.block ≠ bb := fun h0 a ha => by
        obtain ⟨hf, A', c', hv, hc', hh⟩ := hlk7
        cases hv
        obtain ⟨lb, lo, hlb, hcs⟩ := hh h0
        rw [ha] at hlb
        cases hlb
        refine ⟨Nat.lt_of_lt_of_le (World.block_lt_of_cell? _ _ (hcs 0 h0).1) hgrx.size, fun e => ?_⟩
        have h1 := (hcs 0 h0).1
        have e : lb = bb := e
        rw [e, hbv7.cell] at h1
        generalize lo + 0 * 2 = q at h1
        rcases q with _ | q <;> simp at h1
      have hmx : MI wx m k0 (fun s => (Hr.firstLink L s).map Int.ofNat) := HM7.out.kept hgrx (by simp; omega)
      have hGF : GF (wr.heap.size + 1) (wr.heap.size + 1 + 1) A cp m k0 L c wx := ⟨hx1, hx2, hlx, hmx, hxn⟩
      have hbex := HBB.out.below hbx
      have hDx : ∀ D ∈ Ds, wx.heap[D]? = some (.deferred (some [])) := fun D hD => (hbx.block D (Array.getElem?_eq_some_iff.1 (HDS.out D hD)).1).trans (HDS.out D hD)
      have HX0 := Lib.hid hx0
      have HGX := Lib.hid (HGG.out.below hbx HGG.out.lt)
      have HLX := Lib.hid hlA
      clear hwx hx1 hx2 hx0 g0 g1 c0 hblt HBB HGG hlx hmx hlk7
      generalize wr.heap.size = X at *
      refine range_okH rfl (by decide) (gf := 84) (lb := #[.pointer (some ⟨X + 1 + 1, 0, none⟩), .pointer (some ⟨X + 1, 0, none⟩)]) rfl trivial (enters_of Try.func84 (by kernel_rfl) rfl)
        (steps_ok 4 (by decide) (X + 1) (X + 1 + 1) A cp m k0 L c wx hGF (by omega)) (fun h g => h.trans g) ?hKb (fun _ => rfl)
        (fun pre Wx => wx.grownBy Wx (some bb) ∧ ∃ b', BestAt L Wx bb b' ∧ ∀ rest, Hr.ringFrom L c b0 (pre.map (·.2) ++ rest) = Hr.ringFrom L c b' rest)
        (fun cc pre Wx => cc = .exit 1 ∧ wx.grownBy Wx (some bb) ∧ ∃ b', BestAt L Wx bb b' ∧ ∀ rest, Hr.ringFrom L c b0 (pre.map (·.2) ++ rest) = b')
        ?hI ?hIx ⟨⟨rfl, rfl, rfl, Nat.le_refl _, fun _ _ _ => rfl⟩, b0, hbex, fun rest => rfl⟩
        (fun pre x a' W => ∃ Y, a' = { tmps := #[v, undef, .slice none 0 0, .bool false, .pointer (some ⟨g2, 0, none⟩), .slice (some ⟨b, ob, none⟩) ls.length hc, .pointer (some ⟨bb, 0, none⟩), undef, .pointer (some ⟨X, 0, none⟩), .pointer (some ⟨Y, 0, none⟩), undef, v, x1, .agg #[.slice A L.length cp, .map (some m)], .pointer (some ⟨g2, 1, none⟩), .map (some m), .func (.func 82) #[] #[.pointer (some ⟨g2 + 1, 0, none⟩)], .slice (some ⟨b, ob, none⟩) ls.length hc, .agg #[.slice A L.length cp, .map (some m)], .slice (some ⟨b, ob, none⟩) ls.length hc, .pointer (some ⟨wb, 0, none⟩), .pointer (some ⟨wb, 0, none⟩), .pointer (some ⟨wb, 4, none⟩), .bool true, .bool false, .slice (some ⟨b, ob, none⟩) ls.length hc, .int .i64 ls.length, .int .i64 k, .bool true, .pointer (some ⟨b, ob + k, none⟩), nm c, .agg #[.slice A L.length cp, .map (some m)], nm c, .func (.func 84) #[] #[.pointer (some ⟨X + 1 + 1, 0, none⟩), .pointer (some ⟨X + 1, 0, none⟩)], ptr x.1, undef, undef, undef, undef, undef, undef, undef, undef, undef, undef, undef, undef, undef, undef, undef, undef, undef, undef, undef, undef, undef, undef, undef, undef, u59, undef, undef], defers := [] } ∧ wx.heap.size ≤ Y ∧ Has W Y 98 #[ptr x.1] ∧ OkSt L x W ∧ wx.grownBy W (some bb) ∧ ∃ b', BestAt L W bb b' ∧ ∀ rest, Hr.ringFrom L c b0 (pre.map (·.2) ++ rest) = Hr.ringFrom L c b' rest)
        ?hAx ?assign ?body ?done ?stop
      case hKb => exact fun Wa l ob ob' hl hlo hoc how => KpS.put ob' hl (by omega) (by omega) (by have := hGF.hm.lt; have := HM7.out.lt; omega) hlo hoc how
      case hI =>
        rintro pre Wa Wb row ⟨i1, b', i2, i3⟩ hg hr
        have hs := i1.size
        have hlt := hbex.lt
        exact ⟨⟨hg.os.trans i1.os, hg.tape.trans i1.tape, hg.output.trans i1.output, Nat.le_trans i1.size hg.size, fun j hj hne => (hg.block j (by omega) (fun e => by have := (hr _ e.symm).1; omega)).trans (i1.block j hj hne)⟩, b', i2.grown hg (fun r e => ⟨fun e2 => by have := (hr r e).1; omega, fun cs h => absurd ((hr r e).2 _ _ _ h) (by decide)⟩), i3⟩
      case hIx =>
        rintro cc pre Wa Wb row ⟨i0, i1, b', i2, i3⟩ hg hr
        have hs := i1.size
        have hlt := hbex.lt
        exact ⟨i0, ⟨hg.os.trans i1.os, hg.tape.trans i1.tape, hg.output.trans i1.output, Nat.le_trans i1.size hg.size, fun j hj hne => (hg.block j (by omega) (fun e => by have := (hr _ e.symm).1; omega)).trans (i1.block j hj hne)⟩, b', i2.grown hg (fun r e => ⟨fun e2 => by have := (hr r e).1; omega, fun cs h => absurd ((hr r e).2 _ _ _ h) (by decide)⟩), i3⟩
      case hAx =>
        rintro pre x a' Wa l ob ob' ⟨Y, h1, h2, h3, h4, h5, b', h6, h7⟩ hl hlo hoc how
        refine ⟨Y, h1, h2, has_put ob' h3 hlo hoc, ⟨h4.1.put ob' hlo hoc, h4.2⟩, ?_, b', h6.put ob' hlo hoc, h7⟩
        have hg := grownBy_putObj' Wa l ob'
        exact ⟨hg.os.trans h5.os, hg.tape.trans h5.tape, hg.output.trans h5.output, Nat.le_trans h5.size hg.size, fun j hj hne => (hg.block j (by have := h5.size; omega) (by simp; omega)).trans (h5.block j hj hne)⟩
      case assign =>
        rintro l pre x Wx K ⟨i1, b', i2, i3⟩ hok hK
        have hbA : Below Wx.heap.size Wx (Wx.alloc (.cells #[ptr x.1] 98)) := (Below.refl _ _).alloc (Nat.le_refl _) _
        have HK := Lib.hid (hK _ (Wx.alloc (.cells #[ptr x.1] 98)) (KeepsFrom.below hbA) (KpS.below hbA) ⟨Wx.heap.size, rfl, i1.size, Has.new _ _ _, ⟨hok.1.below hbA, hok.2⟩, grown_two i1 ⟨hbA.os, hbA.tape, hbA.output, hbA.size, fun j hj _ => hbA.block j hj⟩, b', i2.below hbA, i3⟩)
        clear hK hok i1 i2 i3
        gi_wp2
        exact HK.out
      case body =>
        rintro l pre ⟨xb, xn, xr⟩ a' W hle ⟨r, hlr⟩ ⟨Y, rfl, hY, hYc, ⟨hok, hxl⟩, hgrW, b', hbest, hrest⟩
        dsimp only at hok hxl hYc
        obtain ⟨hxn2, xf, hxc, -⟩ := hok.cells
        have x0 := hxc.cell 0
        have x2 := hxc.cell 2
        have xlt := hxc.lt
        have y0 := hYc.cell 0
        have ylt := hYc.lt
        have hgW := HGX.out.grown hgrW (by simp; omega)
        have g0 := hgW.cell 0
        have g1 := hgW.cell 1
        have glt := hgW.lt
        simp only [List.getElem?_toArray, List.getElem?_cons_zero, List.getElem?_cons_succ] at x0 x2 y0 g0 g1
        have hsW := hgrW.size
        have hbbx := hbex.lt
        have hmlx := HM7.out.lt
        have f8 : Below W.heap.size W (((W.alloc (.cells #[.slice A L.length cp, .map (some m)] 73)).alloc (.cells #[nm xn] 9)).drew.drew) := ((((Below.refl _ _).alloc (Nat.le_refl _) _).alloc (by simp) _).drew).drew
        have f1 : GF W.heap.size (W.heap.size + 1) A cp m k0 L xn (((W.alloc (.cells #[.slice A L.length cp, .map (some m)] 73)).alloc (.cells #[nm xn] 9)).drew.drew) := by
          have h1 : Has (((W.alloc (.cells #[.slice A L.length cp, .map (some m)] 73)).alloc (.cells #[nm xn] 9)).drew.drew) W.heap.size 73 #[.slice A L.length cp, .map (some m)] := (Has.new W _ _).alloc _
          have h2 : Has (((W.alloc (.cells #[.slice A L.length cp, .map (some m)] 73)).alloc (.cells #[nm xn] 9)).drew.drew) (W.heap.size + 1) 9 #[nm xn] := by
            have h := Has.new (W.alloc (.cells #[.slice A L.length cp, .map (some m)] 73)) 9 #[nm xn]
            rw [World.size_alloc] at h
            exact h
          have h3 := hGF.set hgrW (by omega) (by omega) (by omega) (fun h0 a ha => (HLX.out h0 a ha).2)
          exact ⟨h1, h2, (h3.below f8).hl, (h3.below f8).hm, hxn2⟩
        have F1 := Lib.hid f1
        have F2 : Hid ((((W.alloc (.cells #[.slice A L.length cp, .map (some m)] 73)).alloc (.cells #[nm xn] 9)).drew.drew).heap[l]? = some (.loop r)) := (f8.block l (Array.getElem?_eq_some_iff.1 hlr).1).trans hlr
        have F4 := Lib.hid (hok.below f8)
        have F5 := Lib.hid (hYc.below f8 hYc.lt)
        have F6 := Lib.hid ((HX0.out.grown hgrW (by simp; omega)).below f8 (HX0.out.grown hgrW (by simp; omega)).lt)
        have F7 := Lib.hid (grown_two hgrW ⟨f8.os, f8.tape, f8.output, f8.size, fun j hj _ => f8.block j hj⟩)
        have F8 := Lib.hid f8
        have hs12 : (((W.alloc (.cells #[.slice A L.length cp, .map (some m)] 73)).alloc (.cells #[nm xn] 9)).drew.drew).heap.size = W.heap.size + 2 := by
          show ((W.alloc (.cells #[.slice A L.length cp, .map (some m)] 73)).alloc (.cells #[nm xn] 9)).heap.size = _
          simp
        cases b' with
        | none =>
          obtain ⟨bv, hbc, hbm⟩ := id hbest
          obtain rfl : bv = .pointer none := hbm
          have b0c := hbc.cell 0
          have blt2 := hbc.lt
          simp only [List.getElem?_toArray, List.getElem?_cons_zero] at b0c
          have F3 := Lib.hid (hbest.below f8)
          have HREST := Lib.hid hrest
          clear hbest hrest hok hgrW hYc hxc hgW hbc f1 f8
          gi_wp2
          refine regionIn_still (by kernel_rfl) (by kernel_rfl) (by kernel_rfl) ?_
          still_step
          still_step
          still_step
          iterate 9 (refine still_skip (by simp [Region.wanted, yielded, Act.put]) ?_)
          simp only [Act.put, List.setIfInBounds_toArray, List.set_cons_succ, List.set_cons_zero]
          still_step
          refine wpStill_nil ?_
          gi_wp2
          gi_region_with_o (refine ⟨trivial, ?_⟩; gi_at_call 52; refine (CallsIn.inRound l (callsIn_wide.2 (parents_any _ _ A L.length cp (some m) xn _ rfl rfl))).mono ?_; rintro e w' ⟨rfl, rfl⟩)
          all_goals
            gi_wp2
            generalize ((W.alloc (.cells #[.slice A L.length cp, .map (some m)] 73)).alloc (.cells #[nm xn] 9)).drew.drew = W12 at *
            generalize hZ : W.heap.size = Z at *
            refine wpIn_rangeFunc_ownN (l₀ := l) (r₀ := r) rfl F2.out (by decide) (gf := 85) (lb := #[.pointer (some ⟨Z, 0, none⟩), .pointer (some ⟨Z + 1, 0, none⟩)]) rfl trivial (enters_of Try.func85 (by kernel_rfl) rfl)
              ((parents_stops 2 (by decide) Z (Z + 1) A cp m k0 L xn W12 F1.out (by omega)).inRound l) (fun h g k => g (h k)) ?ikb (Below.refl _ _) (fun _ => rfl)
              (fun pre2 V => W12.grownBy V (some bb) ∧ BestAt L V bb (if (pre2.map (·.1)).contains c then some (xn, xr) else none))
              (fun _ _ _ => False) ?iI (fun _ _ _ _ _ h _ _ => h) ⟨⟨rfl, rfl, rfl, Nat.le_refl _, fun _ _ _ => rfl⟩, F3.out⟩
              (fun y2 a'' V => a'' = { tmps := #[v, undef, .slice none 0 0, .bool false, .pointer (some ⟨g2, 0, none⟩), .slice (some ⟨b, ob, none⟩) ls.length hc, .pointer (some ⟨bb, 0, none⟩), undef, .pointer (some ⟨X, 0, none⟩), .pointer (some ⟨Y, 0, none⟩), nm y2.1, v, x1, .agg #[.slice A L.length cp, .map (some m)], .pointer (some ⟨g2, 1, none⟩), .map (some m), .func (.func 82) #[] #[.pointer (some ⟨g2 + 1, 0, none⟩)], .slice (some ⟨b, ob, none⟩) ls.length hc, .agg #[.slice A L.length cp, .map (some m)], .slice (some ⟨b, ob, none⟩) ls.length hc, .pointer (some ⟨wb, 0, none⟩), .pointer (some ⟨wb, 0, none⟩), .pointer (some ⟨wb, 4, none⟩), .bool true, .bool false, .slice (some ⟨b, ob, none⟩) ls.length hc, .int .i64 ls.length, .int .i64 k, .bool true, .pointer (some ⟨b, ob + k, none⟩), nm c, .agg #[.slice A L.length cp, .map (some m)], nm c, .func (.func 84) #[] #[.pointer (some ⟨X + 1 + 1, 0, none⟩), .pointer (some ⟨X + 1, 0, none⟩)], ptr xb, .pointer none, .bool false, .bool false, undef, undef, undef, undef, undef, undef, undef, undef, undef, .bool false, .agg #[.slice A L.length cp, .map (some m)], ptr xb, .pointer (some ⟨xb, 0, none⟩), .pointer (some ⟨xb, 0, none⟩), nm xn, .func (.func 85) #[] #[.pointer (some ⟨Z, 0, none⟩), .pointer (some ⟨Z + 1, 0, none⟩)], nm y2.1, undef, undef, undef, undef, u59, undef, undef], defers := [] }) (fun _ _ _ _ _ _ h _ _ => h) ?iassign ?ibody ?idone (fun _ _ _ _ h => h.elim)
            case ikb =>
              intro Wa l2 ob2 ob' hl2 hlo hoc _ hg
              refine hg.grown (fun p v h => cell_kept h (grownBy_putObj' Wa l2 ob') (fun r e => by cases e; exact ⟨ob2, hlo, hoc⟩)) (fun j hj => World.putObj_heap_other ?_)
              rcases hj with rfl | rfl | rfl <;> omega
            case iI =>
              rintro pre2 Va Vb row ⟨i1, i2⟩ hg hr
              have hs := i1.size
              exact ⟨⟨hg.os.trans i1.os, hg.tape.trans i1.tape, hg.output.trans i1.output, Nat.le_trans i1.size hg.size, fun j hj hne => (hg.block j (by omega) (fun e => by have := (hr _ e.symm).1; omega)).trans (i1.block j hj hne)⟩, i2.grown hg (fun r2 e => ⟨fun e2 => by have := (hr r2 e).1; omega, fun cs h => by
                obtain ⟨_, o3, ho3, hc3⟩ := hr r2 e
                unfold Has at h
                rw [ho3] at h
                cases h
                cases hc3⟩)⟩
            case iassign =>
              intro l2 pre2 y2 V K hI hK
              gi_wp2
              exact hK _ V (KeepsFrom.refl _ _) (fun h => h) hI rfl
            case ibody =>
              rintro l2 pre2 y2 a'' V hle2 - ⟨i1, i2⟩ rfl hlN
              have hXc := F6.out.grown i1 (by simp; omega)
              have hYc2 := F5.out.grown i1 (by simp; omega)
              have v0 := hXc.cell 0
              have vlt := hXc.lt
              have z0 := hYc2.cell 0
              have zlt := hYc2.lt
              obtain ⟨bv2, hbv2, -⟩ := id i2
              have q0 := hbv2.cell 0
              have qf := hbv2.free 0
              have qlt := hbv2.lt
              simp only [List.getElem?_toArray, List.getElem?_cons_zero] at v0 z0 q0
              have hst2 := F4.out.grown (grown_two i1 (grown_set V bb 0 (ptr xb))) (fun r2 e cs h => by cases e; exact F3.out.notStep cs h)
              have hset : KeepsFrom W12.heap.size V (V.setCell ⟨bb, 0, none⟩ (ptr xb)) := (KeepsOthers.setCell _ _ _).from _
              have hgs := grown_set V bb 0 (ptr xb)
              have hgf : GF Z (Z + 1) A cp m k0 L xn V → GF Z (Z + 1) A cp m k0 L xn (V.setCell ⟨bb, 0, none⟩ (ptr xb)) := fun hG => hG.set hgs (by omega) (by omega) (by omega) (fun h0 a ha => (HLX.out h0 a ha).2)
              have hbs2 := hbv2.set 0 (ptr xb)
              have HS2 := Lib.hid hst2
              have HSE := Lib.hid hset
              have HGF := Lib.hid hgf
              have HBS := Lib.hid hbs2
              have I1 := Lib.hid i1
              have I2 := Lib.hid i2
              clear hst2 hset hgf hbs2 i1 i2 hXc hYc2 hbv2 hgs
              by_cases hyc : y2.1 = c
              · have hcon : (List.map (fun z : Up L => z.1) (pre2 ++ [y2])).contains c = true := by
                  rw [List.contains_iff_mem, List.map_append]
                  exact List.mem_append.2 (.inr (by simp [hyc]))
                have HCON := Lib.hid hcon
                have hyc2 : nm y2.1 = nm c := by rw [hyc]
                have hye : (y2.1 == c) = true := by simpa using hyc
                rw [hyc]
                clear hcon hyc hye
                gi_wp2
                refine ⟨HSE.out, HGF.out, grown_two I1.out (grown_set V bb 0 (ptr xb)), ?_⟩
                rw [HCON.out]
                exact ⟨ptr xb, HBS.out, xb, rfl, HS2.out, hxl⟩
              · have hye : (y2.1 == c) = false := by simpa using hyc
                have hcon : (List.map (fun z : Up L => z.1) (pre2 ++ [y2])).contains c = (List.map (fun z : Up L => z.1) pre2).contains c := by
                  rw [Bool.eq_iff_iff, List.contains_iff_mem, List.contains_iff_mem, List.map_append, List.mem_append]
                  constructor
                  · rintro (h | h)
                    · exact h
                    · exact absurd (List.mem_singleton.1 h).symm hyc
                  · exact .inl
                have HCON := Lib.hid hcon
                clear hcon
                gi_wp2
                refine ⟨KeepsFrom.refl _ _, fun h => h, I1.out, ?_⟩
                rw [HCON.out]
                exact I2.out
            case idone =>
              rintro xs V hS ⟨i1, i2⟩
              subst hZ
              have hbl := F3.out.lt
              refine ⟨(KeepsFrom.below F8.out).trans (KeepsFrom.of_grownBy i1 (fun j e => by cases e; omega)), (KpS.below F8.out).trans ⟨i1.size, fun j o3 hj ho3 _ => (i1.block j (Array.getElem?_eq_some_iff.1 ho3).1 (by simp; omega)).trans ho3, fun b3 cs hb3 => hb3.grown i1 (fun e => by cases e; exact F3.out.notStep cs hb3), fun hG => hG.set i1 (by omega) (by omega) (by omega) (fun h0 a ha => (HLX.out h0 a ha).2)⟩, grown_two F7.out i1, _, i2, fun rest => ?_⟩
              rw [hS, List.map_append, List.append_assoc, HREST.out]
              exact Hr.ringFrom_none L c (xn, xr) rest
        | some y =>
          obtain ⟨bv, hbc, sb, hbm, hsy, hyl⟩ := id hbest
          obtain rfl : bv = ptr sb := hbm
          have b0c := hbc.cell 0
          have blt2 := hbc.lt
          obtain ⟨-, yf, hyc0, -⟩ := hsy.cells
          have s2 := hyc0.cell 2
          have slt := hyc0.lt
          simp only [List.getElem?_toArray, List.getElem?_cons_zero, List.getElem?_cons_succ] at b0c s2
          have F3 := Lib.hid (hbest.below f8)
          have HREST := Lib.hid hrest
          have hdr : Below W.heap.size W W.drew := (Below.refl _ _).drew
          have HBD := Lib.hid (hbest.below hdr)
          have HGWD := Lib.hid (grown_two hgrW ⟨hdr.os, hdr.tape, hdr.output, hdr.size, fun j hj _ => hdr.block j hj⟩)
          have HKD : Hid (KeepsFrom wx.heap.size W W.drew) := KeepsFrom.below hdr
          clear hbest hrest hok hgrW hYc hxc hgW hbc f1 f8 hsy hyc0 hdr
          by_cases hle2 : y.2.length ≤ xr.length
          · have hleI : (y.2.length : Int) ≤ xr.length := by omega
            gi_wp2
            refine regionIn_still (by kernel_rfl) (by kernel_rfl) (by kernel_rfl) ?_
            repeat still_step
            refine wpStill_nil ?_
            gi_wp2
            refine ⟨HKD.out, rfl, HGWD.out, some y, HBD.out, fun rest => ?_⟩
            rw [List.map_append, List.append_assoc, HREST.out]
            exact Hr.ringFrom_stop L c y (xn, xr) rest hle2
          · have hleI : ¬ (y.2.length : Int) ≤ xr.length := by omega
            gi_wp2
            refine regionIn_still (by kernel_rfl) (by kernel_rfl) (by kernel_rfl) ?_
            repeat still_step
            refine wpStill_nil ?_
            gi_wp2
            gi_region_with_o (refine ⟨trivial, ?_⟩; gi_at_call 52; refine (CallsIn.inRound l (callsIn_wide.2 (parents_any _ _ A L.length cp (some m) xn _ rfl rfl))).mono ?_; rintro e w' ⟨rfl, rfl⟩)
            all_goals
              gi_wp2
              generalize ((W.alloc (.cells #[.slice A L.length cp, .map (some m)] 73)).alloc (.cells #[nm xn] 9)).drew.drew = W12 at *
              generalize hZ : W.heap.size = Z at *
              refine wpIn_rangeFunc_ownN (l₀ := l) (r₀ := r) rfl F2.out (by decide) (gf := 85) (lb := #[.pointer (some ⟨Z, 0, none⟩), .pointer (some ⟨Z + 1, 0, none⟩)]) rfl trivial (enters_of Try.func85 (by kernel_rfl) rfl)
                ((parents_stops 2 (by decide) Z (Z + 1) A cp m k0 L xn W12 F1.out (by omega)).inRound l) (fun h g k => g (h k)) ?ikb (Below.refl _ _) (fun _ => rfl)
                (fun pre2 V => W12.grownBy V (some bb) ∧ BestAt L V bb (if (pre2.map (·.1)).contains c then some (xn, xr) else some y))
                (fun _ _ _ => False) ?iI (fun _ _ _ _ _ h _ _ => h) ⟨⟨rfl, rfl, rfl, Nat.le_refl _, fun _ _ _ => rfl⟩, F3.out⟩
                (fun y2 a'' V => a'' = { tmps := #[v, undef, .slice none 0 0, .bool false, .pointer (some ⟨g2, 0, none⟩), .slice (some ⟨b, ob, none⟩) ls.length hc, .pointer (some ⟨bb, 0, none⟩), undef, .pointer (some ⟨X, 0, none⟩), .pointer (some ⟨Y, 0, none⟩), nm y2.1, v, x1, .agg #[.slice A L.length cp, .map (some m)], .pointer (some ⟨g2, 1, none⟩), .map (some m), .func (.func 82) #[] #[.pointer (some ⟨g2 + 1, 0, none⟩)], .slice (some ⟨b, ob, none⟩) ls.length hc, .agg #[.slice A L.length cp, .map (some m)], .slice (some ⟨b, ob, none⟩) ls.length hc, .pointer (some ⟨wb, 0, none⟩), .pointer (some ⟨wb, 0, none⟩), .pointer (some ⟨wb, 4, none⟩), .bool true, .bool false, .slice (some ⟨b, ob, none⟩) ls.length hc, .int .i64 ls.length, .int .i64 k, .bool true, .pointer (some ⟨b, ob + k, none⟩), nm c, .agg #[.slice A L.length cp, .map (some m)], nm c, .func (.func 84) #[] #[.pointer (some ⟨X + 1 + 1, 0, none⟩), .pointer (some ⟨X + 1, 0, none⟩)], ptr xb, ptr sb, .bool true, .bool true, ptr xb, .pointer (some ⟨xb, 0, none⟩), .pointer (some ⟨xb, 2, none⟩), .int .i64 xr.length, ptr sb, .pointer (some ⟨sb, 0, none⟩), .pointer (some ⟨sb, 2, none⟩), .int .i64 y.2.length, .bool false, .bool false, .agg #[.slice A L.length cp, .map (some m)], ptr xb, .pointer (some ⟨xb, 0, none⟩), .pointer (some ⟨xb, 0, none⟩), nm xn, .func (.func 85) #[] #[.pointer (some ⟨Z, 0, none⟩), .pointer (some ⟨Z + 1, 0, none⟩)], nm y2.1, undef, undef, undef, undef, u59, undef, undef], defers := [] }) (fun _ _ _ _ _ _ h _ _ => h) ?iassign ?ibody ?idone (fun _ _ _ _ h => h.elim)
              case ikb =>
                intro Wa l2 ob2 ob' hl2 hlo hoc _ hg
                refine hg.grown (fun p v h => cell_kept h (grownBy_putObj' Wa l2 ob') (fun r e => by cases e; exact ⟨ob2, hlo, hoc⟩)) (fun j hj => World.putObj_heap_other ?_)
                rcases hj with rfl | rfl | rfl <;> omega
              case iI =>
                rintro pre2 Va Vb row ⟨i1, i2⟩ hg hr
                have hs := i1.size
                exact ⟨⟨hg.os.trans i1.os, hg.tape.trans i1.tape, hg.output.trans i1.output, Nat.le_trans i1.size hg.size, fun j hj hne => (hg.block j (by omega) (fun e => by have := (hr _ e.symm).1; omega)).trans (i1.block j hj hne)⟩, i2.grown hg (fun r2 e => ⟨fun e2 => by have := (hr r2 e).1; omega, fun cs h => by
                  obtain ⟨_, o3, ho3, hc3⟩ := hr r2 e
                  unfold Has at h
                  rw [ho3] at h
                  cases h
                  cases hc3⟩)⟩
              case iassign =>
                intro l2 pre2 y2 V K hI hK
                gi_wp2
                exact hK _ V (KeepsFrom.refl _ _) (fun h => h) hI rfl
              case ibody =>
                rintro l2 pre2 y2 a'' V hle2 - ⟨i1, i2⟩ rfl hlN
                have hXc := F6.out.grown i1 (by simp; omega)
                have hYc2 := F5.out.grown i1 (by simp; omega)
                have v0 := hXc.cell 0
                have vlt := hXc.lt
                have z0 := hYc2.cell 0
                have zlt := hYc2.lt
                obtain ⟨bv2, hbv2, -⟩ := id i2
                have q0 := hbv2.cell 0
                have qf := hbv2.free 0
                have qlt := hbv2.lt
                simp only [List.getElem?_toArray, List.getElem?_cons_zero] at v0 z0 q0
                have hst2 := F4.out.grown (grown_two i1 (grown_set V bb 0 (ptr xb))) (fun r2 e cs h => by cases e; exact F3.out.notStep cs h)
                have hset : KeepsFrom W12.heap.size V (V.setCell ⟨bb, 0, none⟩ (ptr xb)) := (KeepsOthers.setCell _ _ _).from _
                have hgs := grown_set V bb 0 (ptr xb)
                have hgf : GF Z (Z + 1) A cp m k0 L xn V → GF Z (Z + 1) A cp m k0 L xn (V.setCell ⟨bb, 0, none⟩ (ptr xb)) := fun hG => hG.set hgs (by omega) (by omega) (by omega) (fun h0 a ha => (HLX.out h0 a ha).2)
                have hbs2 := hbv2.set 0 (ptr xb)
                have HS2 := Lib.hid hst2
                have HSE := Lib.hid hset
                have HGF := Lib.hid hgf
                have HBS := Lib.hid hbs2
                have I1 := Lib.hid i1
                have I2 := Lib.hid i2
                clear hst2 hset hgf hbs2 i1 i2 hXc hYc2 hbv2 hgs
                by_cases hyc : y2.1 = c
                · have hcon : (List.map (fun z : Up L => z.1) (pre2 ++ [y2])).contains c = true := by
                    rw [List.contains_iff_mem, List.map_append]
                    exact List.mem_append.2 (.inr (by simp [hyc]))
                  have HCON := Lib.hid hcon
                  have hyc2 : nm y2.1 = nm c := by rw [hyc]
                  have hye : (y2.1 == c) = true := by simpa using hyc
                  rw [hyc]
                  clear hcon hyc hye
                  gi_wp2
                  refine ⟨HSE.out, HGF.out, grown_two I1.out (grown_set V bb 0 (ptr xb)), ?_⟩
                  rw [HCON.out]
                  exact ⟨ptr xb, HBS.out, xb, rfl, HS2.out, hxl⟩
                · have hye : (y2.1 == c) = false := by simpa using hyc
                  have hcon : (List.map (fun z : Up L => z.1) (pre2 ++ [y2])).contains c = (List.map (fun z : Up L => z.1) pre2).contains c := by
                    rw [Bool.eq_iff_iff, List.contains_iff_mem, List.contains_iff_mem, List.map_append, List.mem_append]
                    constructor
                    · rintro (h | h)
                      · exact h
                      · exact absurd (List.mem_singleton.1 h).symm hyc
                    · exact .inl
                  have HCON := Lib.hid hcon
                  clear hcon
                  gi_wp2
                  refine ⟨KeepsFrom.refl _ _, fun h => h, I1.out, ?_⟩
                  rw [HCON.out]
                  exact I2.out
              case idone =>
                rintro xs V hS ⟨i1, i2⟩
                subst hZ
                have hbl := F3.out.lt
                refine ⟨(KeepsFrom.below F8.out).trans (KeepsFrom.of_grownBy i1 (fun j e => by cases e; omega)), (KpS.below F8.out).trans ⟨i1.size, fun j o3 hj ho3 _ => (i1.block j (Array.getElem?_eq_some_iff.1 ho3).1 (by simp; omega)).trans ho3, fun b3 cs hb3 => hb3.grown i1 (fun e => by cases e; exact F3.out.notStep cs hb3), fun hG => hG.set i1 (by omega) (by omega) (by omega) (fun h0 a ha => (HLX.out h0 a ha).2)⟩, grown_two F7.out i1, _, i2, fun rest => ?_⟩
                rw [hS, List.map_append, List.append_assoc, HREST.out]
                exact Hr.ringFrom_more L c y (xn, xr) rest hle2
      case done =>
        rintro D ys Wf hD hS ⟨i1, b', i2, i3⟩ hK
        have hfin : Hr.ringFrom L c b0 (Hr.steps L c) = b' := by
          have h := i3 []
          rw [List.append_nil, hS] at h
          exact h
        have HFI2 := Lib.hid hfin
        have I1 := Lib.hid i1
        have I2 := Lib.hid i2
        clear hfin hS i1 i2 i3
        gi_wp2
        refine ⟨⟨k + 1, _, _, _, _, _, _, _, _, D :: Ds, by omega, ⟨List.nodup_cons.2 ⟨fun h => ?_, hDn⟩, fun E hE => ?_, fun E hE => ?_, grown_two hgrx I1.out, ?_⟩, rfl⟩, by simp [RingMu, intOf]; omega⟩
        · have := (Array.getElem?_eq_some_iff.1 (hDx D h)).1; omega
        · rcases List.mem_cons.1 hE with rfl | h
          · have := hgrx.size; omega
          · exact hDB E h
        · rcases List.mem_cons.1 hE with rfl | h
          · exact hK
          · refine (I1.out.block E (Array.getElem?_eq_some_iff.1 (hDx E h)).1 (fun e => ?_)).trans (hDx E h)
            have := hDB E h
            have e2 : E = bb := by simpa using e
            omega
        · rw [HST.out, HFI2.out]
          exact I2.out
      case stop =>
        rintro D cc pre Wf hD hSp ⟨rfl, i1, b', i2, i3⟩ hK
        have hfin : Hr.ringFrom L c b0 (Hr.steps L c) = b' := by
          obtain ⟨rest, hr⟩ := hSp
          have h := i3 rest
          rw [hr] at h
          exact h
        have HFI2 := Lib.hid hfin
        have I1 := Lib.hid i1
        have I2 := Lib.hid i2
        clear hfin hSp i1 i2 i3
        gi_wp2
        refine ⟨⟨k + 1, _, _, _, _, _, _, _, _, D :: Ds, by omega, ⟨List.nodup_cons.2 ⟨fun h => ?_, hDn⟩, fun E hE => ?_, fun E hE => ?_, grown_two hgrx I1.out, ?_⟩, rfl⟩, by simp [RingMu, intOf]; omega⟩
        · have := (Array.getElem?_eq_some_iff.1 (hDx D h)).1; omega
        · rcases List.mem_cons.1 hE with rfl | h
          · have := hgrx.size; omega
          · exact hDB E h
        · rcases List.mem_cons.1 hE with rfl | h
          · exact hK
          · refine (I1.out.block E (Array.getElem?_eq_some_iff.1 (hDx E h)).1 (fun e => ?_)).trans (hDx E h)
            have := hDB E h
            have e2 : E = bb := by simpa using e
            omega
        · rw [HST.out, HFI2.out]
          exact I2.out
    · obtain rfl : k = ls.length := by omega
      rw [List.take_length] at hbe
      have hring := HRING.out
      have hbs := HBEST.out
      generalize ls.foldl (fun b c => Hr.ringFrom L c b (Hr.steps L c)) none = bo at *
      cases bo with
      | none => cases hbs
      | some x =>
        obtain ⟨bv, hb1, sb, rfl, hst, hxl⟩ := hbe
        have HW := Lib.hid (way_any sb x.1 x.2 wr hst (by omega))
        have b0 := hb1.cell 0
        have blt := hb1.lt
        simp only [List.getElem?_toArray, List.getElem?_cons_zero] at b0
        have HDS := Lib.hid hDs
        have HRI := Lib.hid hring
        clear hst hb1 hDs hring hbs hggr hgr
        gi_wp2_with (first
          | (refine ⟨trivial, ?_⟩; gi_at_call 53; refine (callsIn_wide.2 HW.out).mono ?_
             rintro e w8 ⟨o8, rfl, ho8, hb8⟩
             have HO8 := Lib.hid ho8
             have HB8 := Lib.hid hb8
             clear ho8 hb8))
        have hD8 : ∀ D ∈ Ds, w8.heap[D]? = some (.deferred (some [])) := fun D hD => (HB8.out.block D (Array.getElem?_eq_some_iff.1 (HDS.out D hD)).1).trans (HDS.out D hD)
        have hB8 : Below B0 w w8 := hBr.trans (HB8.out.mono (by have := hBr.size; omega))
        obtain ⟨s1, s2, s3, s4, s5⟩ := shut_grown Ds w8
        refine leaves_marks Ds _ hDn hD8 ?_
        have hBs := hBr.size
        refine ⟨.tuple #[o8, .bool true], ?_, Hr.wayOf x, o8, HRI.out, rfl, ?_, ?_⟩
        · simp [results, Try.results17, go_sem]
        · have ho := own_base HO8.out (by omega : w.heap.size ≤ wr.heap.size)
          refine ⟨ho.1, ?_⟩
          rcases ho.2 with h | ⟨g, cap, cur, hv, hb, hh, r⟩
          · exact .inl h
          · refine .inr ⟨g, cap, cur, hv, hb, (s5 g (fun hm => ?_)).trans hh, r⟩
            have := hD8 g hm
            rw [hh] at this
            cases this
        · rw [hwB]
          exact ⟨s2.trans hB8.os, s3.trans hB8.tape, s4.trans hB8.output, by rw [s1]; exact hB8.size, fun j hj => (s5 j (fun hm => by have := hDB j hm; omega)).trans (hB8.block j hj)⟩
end Go.Proofs.Ytojfimbanaijdaa
