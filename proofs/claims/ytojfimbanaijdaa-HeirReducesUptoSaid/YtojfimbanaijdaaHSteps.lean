/-
  What steps returns, in package heir, and what its iterator yields: classes by their distance, each with its way.
-/
import Derived.Test.YtojfimbanaijdaaHSearchP
namespace Go.Proofs.Ytojfimbanaijdaa
open Go.RowKit Go.Shelf
attribute [local go_sem] Oper.semAt_some

section
variable {F : Fence} {nF : Nat} {P : Program} {k e t : TypeId} {w w' : World} {b n : Nat}
variable {ops : Array Oper} {rest : List Oper} {o : Oper} {a : Act} {Q : Exit → Act → World → Prop}
theorem wpBIn_at (hg : o.guard = none) (m x : Operand) (hop : o.op = Op.lookup t m x false) (hk : P.underlying k = some .string) (ht : P.underlying t = some (.map k e)) (he : P.underlying e = some .bool) (hz : (zeroValue e).run P w = .ok (.bool false) w)
    (hm : a.eval m = .map (some b)) {f} (h : MapB P k e w b n f) (N : Hr.Nm) (hx : a.eval x = nm N) (hs : N.length ≤ 140737488355328) (i : Bool) (hf : (f N).getD false = i)
    (hK : wpListIn F nF P ops Q rest (a.put o.dst (.bool i)) w) : wpListIn F nF P ops Q (o :: rest) a w := by
  obtain ⟨D, h1, _, h3⟩ := h
  refine wpListIn_plain hg fun K' hK' => ?_
  obtain ⟨v, ps, hrun, hv⟩ := h1.lookup (Maps.string_keyed hk) ht hz (plainElem_bool he false) (WideMaps.keyOf_string_mk hk (size_fine hs))
  rw [show (⟨N.toArray⟩ : ByteArray).data.toList = N from by simp, (h3 N).2, hf] at hv
  obtain rfl : v = .bool i := by
    unfold plainElem at hv
    rw [he] at hv
    cases v <;> simp at hv
    rw [hv.1]
  unfold Oper.wpIn
  refine ⟨by simp [Oper.about, hop], ?_⟩
  rw [Oper.semAt_plain F _ _ (by rw [hop]; intro c hc'; cases hc')]
  simp [execOp, hop, hm, hx, hrun, Result.andThen]
  exact hK' _ _ hK
theorem wpBIn_put (hg : o.guard = none) (m x v : Operand) (hop : o.op = Op.mapUpdate t m x v) (hk : P.underlying k = some .string) (ht : P.underlying t = some (.map k e)) (he : P.underlying e = some .bool)
    (hm : a.eval m = .map (some b)) {f} (h : MapB P k e w b n f) (hn : n < maxLen) (N : Hr.Nm) (hx : a.eval x = nm N) (hs : N.length ≤ 140737488355328) (c : Bool) (hv : a.eval v = .bool c)
    (hK : ∀ w', MapB P k e w' b (n + 1) (upd f N c) → w.grownBy w' (some b) → wpListIn F nF P ops Q rest (a.put o.dst undef) w') : wpListIn F nF P ops Q (o :: rest) a w := by
  obtain ⟨D, h1, h2, h3⟩ := h
  refine wpListIn_mapUpdate_own w hg m x v t hop k e (Maps.string_keyed hk) ht (plainElem P e) b n D hm h1 hn _ _ _ hx hv (WideMaps.keyOf_string_mk hk (size_fine hs)) _ [] (plainElem_bool he c) (fun w' h1' hg' => ?_)
  have h4 := MapB.put h2 h3 N c
  rw [show (⟨N.toArray⟩ : ByteArray).data.toList = N from by simp] at h1'
  exact hK w' ⟨_, h1', put_isMap h2, h4⟩ hg'
end

/-- A step that the iterator hands over: its block, its class, the way back. -/
abbrev St := Nat × Hr.Nm × List Hr.Nm
abbrev encSt (x : St) : Array Value := #[ptr x.1]
abbrev OkSt (L : List (Hr.Nm × Hr.Nm)) (x : St) (W : World) : Prop := StepAt W x.1 x.2.1 x.2.2 ∧ x.2.2.length ≤ L.length + 1
/-- What a round must let be. -/
def KpS (B bg bc : Nat) (A : Option Addr) (cp m k : Nat) (L : List (Hr.Nm × Hr.Nm)) (c : Hr.Nm) (W W' : World) : Prop :=
  W.heap.size ≤ W'.heap.size ∧ (∀ (j : Nat) (o : Obj), B ≤ j → W.heap[j]? = some o → (o.isCells = true ∨ o.isWalk = true) → W'.heap[j]? = some o) ∧ (∀ b cs, Has W b 103 cs → Has W' b 103 cs) ∧ (GF bg bc A cp m k L c W → GF bg bc A cp m k L c W')

theorem steps_any (x y : Value) (A : Option Addr) (n cp : Nat) (m : Option Nat) (c : Hr.Nm) (w : World) (hx : x = .agg #[.slice A n cp, .map m]) (hy : y = nm c) :
    Calls Try.prog 51 #[x, y] w fun e w' => e = .returned (.func (.func 84) #[] #[.pointer (some ⟨w.heap.size + 1, 0, none⟩), .pointer (some ⟨w.heap.size, 0, none⟩)]) ∧ w' = (w.alloc (.cells #[.slice A n cp, .map m] 73)).alloc (.cells #[nm c] 9) := by
  subst hx hy
  go_enter Try.func51, Try.ntmps51
  go_wp2_with fail
  go_ret
  exact ⟨rfl, rfl⟩

/-- A queue of steps. -/
structure QS (W : World) (Bq : Nat) (v : Value) (qs : List St) : Prop where
  hq : QAt W Bq v (qs.map (·.1))
  hs : ∀ x ∈ qs, StepAt W x.1 x.2.1 x.2.2

theorem GF.row {bg bc cp m k G : Nat} {A : Option Addr} {L : List (Hr.Nm × Hr.Nm)} {c : Hr.Nm} {W W' : World} {row : Option Nat} (h : GF bg bc A cp m k L c W) (hg : W.grownBy W' row) (hr : ∀ r, row = some r → G ≤ r) (h1 : bg < G) (h2 : bc < G) (h3 : m < G) (hA : 0 < L.length → ∀ a, A = some a → a.block < G) : GF bg bc A cp m k L c W' := by
  refine ⟨h.hg.grown hg (fun e => by have := hr _ e.symm; omega), h.hc.grown hg (fun e => by have := hr _ e.symm; omega), ?_, h.hm.kept hg (fun e => by have := hr _ e.symm; omega), h.hn⟩
  obtain ⟨hf, A', c', hv, hc, hh⟩ := h.hl
  cases hv
  refine ⟨hf, A, cp, rfl, hc, fun h0 => ?_⟩
  obtain ⟨b, o, hb, hcs⟩ := hh h0
  have hlt : b < G := hA h0 _ hb
  refine ⟨b, o, hb, fun i hi => ?_⟩
  have key : ∀ j v, W.cell? ⟨b, j, none⟩ = some v → W'.cell? ⟨b, j, none⟩ = some v := fun j v hv =>
    (World.cell?_of_block (hg.block b (World.block_lt_of_cell? W _ hv) (fun e => by have := hr _ e.symm; omega))).trans hv
  exact ⟨key _ _ (hcs i hi).1, key _ _ (hcs i hi).2⟩

theorem QAt.same {W W' : World} {B0 B : Nat} {v : Value} {ps : List Nat} (h : QAt W B v ps) (hs : ∀ (j : Nat) (o : Obj), B0 ≤ j → W.heap[j]? = some o → (o.isCells = true ∨ o.isWalk = true) → W'.heap[j]? = some o) (hB : B0 ≤ B) : QAt W' B v ps := by
  obtain ⟨g, off, cap, cur, rfl, h1, h2, h3⟩ := h
  exact ⟨g, off, cap, cur, rfl, h1, hs g _ (by omega) h2 (.inl rfl), h3⟩
theorem QAt.below {W W' : World} {B : Nat} {v : Value} {ps : List Nat} (h : QAt W B v ps) (hb : Below W.heap.size W W') : QAt W' B v ps := by
  obtain ⟨g, off, cap, cur, rfl, h1, h2, h3⟩ := h
  exact ⟨g, off, cap, cur, rfl, h1, h2.below hb h2.lt, h3⟩
theorem MB.same {W W' : World} {B0 b n : Nat} {f : Hr.Nm → Option Bool} (h : MB W b n f) (hs : ∀ (j : Nat) (o : Obj), B0 ≤ j → W.heap[j]? = some o → (o.isCells = true ∨ o.isWalk = true) → W'.heap[j]? = some o) (hB : B0 ≤ b) : MB W' b n f := by
  obtain ⟨D, ⟨es, clock, h1, h2, h3, h4⟩, h5, h6⟩ := h
  exact ⟨D, ⟨es, clock, hs b _ hB h1 (.inr rfl), h2, h3, h4⟩, h5, h6⟩

/-- The search between two rounds: n rounds are enough from here. -/
structure SInv (G bg bc : Nat) (A : Option Addr) (cp m k : Nat) (L : List (Hr.Nm × Hr.Nm)) (c : Hr.Nm) (J : List St → World → Prop) (n : Nat) (qv : Value) (wr : World) (seen : List Hr.Nm) (qs pre : List St) (cnt : Nat) : Prop where
  hq : QS wr (G + 1) qv qs
  hm : MB wr G cnt (Hr.seenF seen)
  hc : cnt + n ≤ L.length + 2
  hp : Hr.pot L seen qs.length < n
  hl : ∀ x ∈ qs, x.2.2.length + n ≤ L.length + 2
  hs : pre.map (·.2) ++ Hr.search L n seen (qs.map (·.2)) = Hr.steps L c
  hJ : J pre wr
  hG : GF bg bc A cp m k L c wr
def RSt (G bg bc : Nat) (A : Option Addr) (cp m k : Nat) (L : List (Hr.Nm × Hr.Nm)) (c : Hr.Nm) (J : List St → World → Prop) (n : Nat) (qv : Value) (wr : World) : Prop :=
  ∃ seen qs pre cnt, SInv G bg bc A cp m k L c J n qv wr seen qs pre cnt

theorem StepAt.grown {W W' : World} {row : Option Nat} (hg : W.grownBy W' row) (hr : ∀ b, row = some b → ∀ cs, ¬ Has W b 103 cs) {b : Nat} {s : Hr.Nm} {r : List Hr.Nm} (h : StepAt W b s r) : StepAt W' b s r :=
  StepAt.keep (fun b cs h => h.grown hg (fun e => hr b e.symm cs h)) r b s h

set_option maxRecDepth 100000 in
set_option maxHeartbeats 2000000 in
theorem steps_ok (n : Nat) (hn : 1 ≤ n) (bg bc : Nat) (A : Option Addr) (cp m k : Nat) (L : List (Hr.Nm × Hr.Nm)) (c : Hr.Nm) (w : World) (hG : GF bg bc A cp m k L c w) (hL : L.length ≤ 900000) :
    SeqOk Fence.wide n Try.prog 84 #[.pointer (some ⟨bc, 0, none⟩), .pointer (some ⟨bg, 0, none⟩)] encSt (OkSt L) (KpS w.heap.size bg bc A cp m k L c) (fun xs => xs.map (·.2) = Hr.steps L c) (fun pre => pre.map (·.2) <+: Hr.steps L c) 98 w := fun l J Jx W hW hJA hJxA hY h0 => by
  have hG0 := hG.below hW
  have hsW := hW.size
  have e0 := hG0.hg.cell 0
  have e1 := hG0.hg.cell 1
  have e2 := hG0.hc.cell 0
  simp only [List.getElem?_toArray, List.getElem?_cons_zero, List.getElem?_cons_succ] at e0 e1 e2
  have glt := Nat.lt_of_lt_of_le hG.hg.lt hsW
  have clt := Nat.lt_of_lt_of_le hG.hc.lt hsW
  have mlt := Nat.lt_of_lt_of_le hG.hm.lt hsW
  have hAlt : 0 < L.length → ∀ a, A = some a → a.block < W.heap.size := fun h0 a ha => by
    obtain ⟨_, A', c', hv, _, hh⟩ := hG.hl
    cases hv
    obtain ⟨b, o, hb, hcs⟩ := hh h0
    have := World.block_lt_of_cell? _ _ (hcs 0 h0).1
    rw [ha] at hb
    cases hb
    exact Nat.lt_of_lt_of_le this hsW
  refine callsIn_of_wp Try.func84 rfl trivial ?_ rfl
  simp only [Try.ntmps84, List.size_toArray, List.length_cons, List.length_nil, Nat.reduceAdd, Nat.reduceSub, Array.replicate_succ, Array.replicate_zero, List.push_toArray, List.append_toArray, List.nil_append, List.cons_append]
  have hmm := @run_makeMap Try.prog
  gi_wp2_with fail
  have JA := Lib.hid hJA
  have JXA := Lib.hid hJxA
  have hE : RSt W.heap.size bg bc A cp m k L c J (L.length + 2) (.slice (some ⟨W.heap.size + 1 + 1, 0, none⟩) 1 1) (((W.alloc (.map #[] 0)).alloc (.cells #[nm c, .pointer none, .int .i64 0] 103)).alloc (.cells #[.pointer (some ⟨W.heap.size + 1, 0, none⟩)] 98)) := by
    refine ⟨[], [(W.heap.size + 1, c, [])], [], 0, ⟨⟨?_, ?_⟩, ?_, by omega, Hr.pot_le L, ?_, rfl, ?_, ((hG0.alloc _).alloc _).alloc _⟩⟩
    · have h := Has.new ((W.alloc (.map #[] 0)).alloc (.cells #[nm c, .pointer none, .int .i64 0] 103)) 98 #[.pointer (some ⟨W.heap.size + 1, 0, none⟩)]
      rw [World.size_alloc, World.size_alloc] at h
      exact ⟨_, 0, 1, _, rfl, by omega, h, by simp, by simp, fun i hi => by
        have : i = 0 := by simpa using hi
        subst this
        rfl⟩
    · intro x hx
      rw [List.mem_singleton.1 hx]
      have h := (Has.new (W.alloc (.map #[] 0)) 103 #[nm c, .pointer none, .int .i64 0]).alloc (.cells #[.pointer (some ⟨W.heap.size + 1, 0, none⟩)] 98)
      rw [World.size_alloc] at h
      exact ⟨hG0.hn, h⟩
    · exact (((MapB.made W).of_eq (fun s => by simp [Hr.seenF])).alloc _).alloc _
    · intro x hx
      rw [List.mem_singleton.1 hx]
      simp
    · exact hJA.alloc _ (hJA.alloc _ (hJA.alloc _ h0))
  have HE := Lib.hid hE
  clear hE hG0 e0 e1 e2 hJA hJxA h0
  generalize ((W.alloc (.map #[] 0)).alloc (.cells #[nm c, .pointer none, .int .i64 0] 103)).alloc (.cells #[.pointer (some ⟨W.heap.size + 1, 0, none⟩)] 98) = wE at *
  generalize hgw : W.heap.size = G at *
  gi_loopw [5] (fun qv wr => ∃ n, RSt G bg bc A cp m k L c J n qv wr) (fun qv wr => Classical.epsilon (fun n => RSt G bg bc A cp m k L c J n qv wr ∧ ∀ i, RSt G bg bc A cp m k L c J i qv wr → n ≤ i))
  case atStart => exact ⟨_, HE.out⟩
  case round =>
    obtain ⟨f, hR, hEP⟩ := Hr.least_pick hrel
    have HEP := Lib.hid hEP
    clear hrel hEP
    obtain ⟨seen, qs, pre, cnt, hI⟩ := hR
    cases qs with
    | nil =>
      obtain ⟨vA, vc, hv, hvc⟩ := hI.hq.hq.form
      subst hv
      have hfin := hI.hs
      rw [List.map_nil, Hr.search_nil, List.append_nil] at hfin
      have HFIN := Lib.hid hfin
      have HJ := Lib.hid hI.hJ
      clear hI hfin
      gi_wp2
      go_end0
      exact ⟨⟨_, rfl⟩, .inl ⟨pre, HFIN.out, HJ.out⟩⟩
    | cons x q =>
      obtain ⟨xb, xn, xr⟩ := x
      have hQ := hI.hq.hq
      rw [List.map_cons] at hQ
      dsimp only at hQ
      obtain ⟨g, off, cap, cur, hv, -⟩ := id hQ
      rw [List.length_cons, List.length_map] at hv
      subst hv
      have hQ' : QAt wr (G + 1) (.slice (some ⟨g, off, none⟩) ((q.map (·.1)).length + 1) cap) (xb :: q.map (·.1)) := by rw [List.length_map]; exact hQ
      have hT := hQ'.tail
      rw [List.length_map] at hT
      obtain ⟨q0, -, qlt, -, hqc⟩ := hQ'.head
      rw [List.length_map] at hqc
      obtain ⟨f', rfl⟩ : ∃ f', f = f' + 1 := ⟨f - 1, by have := hI.hp; omega⟩
      have hsx := hI.hq.hs _ List.mem_cons_self
      obtain ⟨hxn, xf, hxc, -⟩ := hsx.cells
      dsimp only at hxn hxc hsx
      have s0 := hxc.cell 0
      have s2 := hxc.cell 2
      have slt := hxc.lt
      simp only [List.getElem?_toArray, List.getElem?_cons_zero, List.getElem?_cons_succ] at s0 s2
      have hml := hI.hm.lt
      have hpos : (0 : Int) < (q.length : Int) + 1 := by omega
      have t1 : (1 : Int) ≤ (q.length : Int) + 1 := by omega
      have t2 : ((q.length : Int) + 1 - 1).toNat = q.length := by omega
      by_cases hin : xn ∈ seen
      · have hval : (Hr.seenF seen xn).getD false = true := by unfold Hr.seenF; rw [if_pos hin]; rfl
        have hnew : ∀ qv, QAt wr (G + 1) qv (q.map (·.1)) → RSt G bg bc A cp m k L c J f' qv wr := fun qv h =>
          ⟨seen, q, pre, cnt, ⟨h, fun y hy => hI.hq.hs y (List.mem_cons_of_mem _ hy)⟩, hI.hm, by have := hI.hc; omega, Hr.pot_old L seen q.length f' hI.hp, fun y hy => by have := hI.hl y (List.mem_cons_of_mem _ hy); omega, by rw [← hI.hs, List.map_cons, Hr.search_old L f' seen _ _ hin], hI.hJ, hI.hG⟩
        have HN := Lib.hid hnew
        have HM := Lib.hid hI.hm
        have HT := Lib.hid hT
        clear hnew hI hQ hQ' hT hsx hxc
        by_cases hc1 : cap = 1
        · subst hc1
          have hq0 : q.length = 0 := by omega
          gi_wp2_with (gi_at_lookup; refine wpBIn_at rfl _ _ rfl Try.underlying9 tMapB Try.underlying4 (zBool _) rfl HM.out xn rfl hxn _ hval ?_)
          have h := HN.out _ HT.out
          rw [if_pos rfl, hq0] at h
          exact ⟨⟨f', h⟩, Nat.lt_of_lt_of_eq (Hr.least_lt h (Nat.lt_succ_self _)) HEP.out.symm⟩
        · gi_wp2_with (gi_at_lookup; refine wpBIn_at rfl _ _ rfl Try.underlying9 tMapB Try.underlying4 (zBool _) rfl HM.out xn rfl hxn _ hval ?_)
          have h := HN.out _ HT.out
          rw [if_neg hc1] at h
          exact ⟨⟨f', h⟩, Nat.lt_of_lt_of_eq (Hr.least_lt h (Nat.lt_succ_self _)) HEP.out.symm⟩
      · have hval : (Hr.seenF seen xn).getD false = false := by unfold Hr.seenF; rw [if_neg hin]; rfl
        have hsc := Hr.seenF_cons seen xn
        have hcnt : cnt < maxLen := by have := hI.hc; unfold maxLen; omega
        have hsrch := hI.hs
        rw [List.map_cons, Hr.search_new L f' seen _ _ hin] at hsrch
        have hsrch2 : (pre ++ [((xb, xn, xr) : St)]).map (·.2) ++ Hr.search L f' (xn :: seen) (q.map (·.2) ++ (Hr.isort (Hr.parents L xn)).map fun p => (p, xn :: xr)) = Hr.steps L c := by
          rw [List.map_append, List.append_assoc]
          exact hsrch
        have hpot := Hr.pot_new L seen xn q.length f' hin hI.hp
        have hlx := hI.hl _ List.mem_cons_self
        have hlq : ∀ y ∈ q, y.2.2.length + (f' + 1) ≤ L.length + 2 := fun y hy => hI.hl y (List.mem_cons_of_mem _ hy)
        have hstq : ∀ y ∈ q, StepAt wr y.1 y.2.1 y.2.2 := fun y hy => hI.hq.hs y (List.mem_cons_of_mem _ hy)
        have hc2 := hI.hc
        have HQ := Lib.hid hQ'
        have HM := Lib.hid hI.hm
        have HJ := Lib.hid hI.hJ
        have HG := Lib.hid hI.hG
        have HSX := Lib.hid hsx
        have HSQ := Lib.hid hstq
        have HSR := Lib.hid hsrch2
        have HPOT := Lib.hid hpot
        have HLQ := Lib.hid hlq
        have HSC := Lib.hid hsc
        clear hI hQ hQ' hT hsx hxc hstq hsrch hsrch2 hpot hlq hsc
        gi_wp2_with (first
          | (gi_at_lookup; refine wpBIn_at rfl _ _ rfl Try.underlying9 tMapB Try.underlying4 (zBool _) rfl HM.out xn rfl hxn _ hval ?_)
          | (gi_at_mapUpdate; refine wpBIn_put rfl _ _ _ rfl Try.underlying9 tMapB Try.underlying4 rfl HM.out hcnt xn rfl hxn true rfl (fun w2 hm2 hg2 => ?_)
             have hmap : ∀ (r : Nat), some G = some r → G ≤ r ∧ ∀ cs t fr, wr.heap[r]? = some (.cells cs t fr) → t = 98 := fun r e => by
               cases e
               refine ⟨Nat.le_refl _, fun cs t fr h => ?_⟩
               obtain ⟨D, ⟨es, clock, h4, _⟩, _⟩ := HM.out
               rw [h4] at h
               cases h
             have hj2 := JA.out pre wr w2 (some G) HJ.out hg2 (by rw [← hgw] at hmap ⊢; exact hmap)
             have hno : ∀ b, some G = some b → ∀ cs, ¬ Has wr b 103 cs := fun b e cs h => absurd ((hmap b e).2 cs _ _ h) (by decide)
             have hsx2 := HSX.out.grown hg2 hno
             have hsq2 : ∀ y ∈ q, StepAt w2 y.1 y.2.1 y.2.2 := fun y hy => (HSQ.out y hy).grown hg2 hno
             have hq2 := HQ.out.kept hg2 (.inl (fun e => by have := HQ.out.ge e; omega))
             have hG2 := HG.out.row hg2 (fun r e => (hmap r e).1) glt clt mlt hAlt
             obtain ⟨fn, tmps, assign, body, hy, hR⟩ := hY pre (xb, xn, xr) w2 hj2 ⟨hsx2, by dsimp only at hlx ⊢; omega⟩
             dsimp only [encSt] at hy
             have HSX2 := Lib.hid hsx2
             have HSQ2 := Lib.hid hsq2
             have HQ2 := Lib.hid hq2
             have HG2 := Lib.hid hG2
             have HM2 := Lib.hid hm2
             clear hj2 hsx2 hsq2 hq2 hG2 hm2 hg2 hmap hno HM HJ HG HSX HSQ HQ))
        refine hR.mono ?_
        rintro e W3 (⟨rfl, hJ3, hk3⟩ | ⟨rfl, hJx3⟩)
        · obtain ⟨hks, hkm, hkt, hkg⟩ := hk3
          have hq3 := HQ2.out.same hkm (by omega)
          have hm3 := MB.same HM2.out hkm (by omega)
          have hx3 := StepAt.keep hkt _ _ _ HSX2.out
          have hsq3 : ∀ y ∈ q, StepAt W3 y.1 y.2.1 y.2.2 := fun y hy => StepAt.keep hkt _ _ _ (HSQ2.out y hy)
          have hg3 := hkg HG2.out
          obtain ⟨-, xf3, hxc3, -⟩ := hx3.cells
          have b0 := hg3.hg.cell 0
          have b1 := hg3.hg.cell 1
          have s0' := hxc3.cell 0
          have s2' := hxc3.cell 2
          have slt' := hxc3.lt
          have glt' := hg3.hg.lt
          simp only [List.getElem?_toArray, List.getElem?_cons_zero, List.getElem?_cons_succ] at b0 b1 s0' s2'
          have HQ3 := Lib.hid hq3
          have HM3 := Lib.hid hm3
          have HX3 := Lib.hid hx3
          have HSQ3 := Lib.hid hsq3
          have HG3 := Lib.hid hg3
          have HJ3 := Lib.hid hJ3
          clear hq3 hm3 hx3 hsq3 hg3 hJ3 hks hkm hkt hkg hxc3 HQ2 HM2 HSX2 HSQ2 HG2 s0 s2 slt q0 qlt hml
          have hgX : GF W3.heap.size (W3.heap.size + 1) A cp m k L xn (((W3.alloc (.cells #[.slice A L.length cp, .map (some m)] 73)).alloc (.cells #[nm xn] 9)).drew) := by
            have h1 := (Has.new W3 73 #[.slice A L.length cp, .map (some m)]).alloc (.cells #[nm xn] 9)
            have h2 := Has.new (W3.alloc (.cells #[.slice A L.length cp, .map (some m)] 73)) 9 #[nm xn]
            rw [World.size_alloc] at h2
            have h3 := (HG3.out.alloc (.cells #[.slice A L.length cp, .map (some m)] 73)).alloc (.cells #[nm xn] 9)
            exact ⟨h1, h2, h3.hl, h3.hm, hxn⟩
          have HS := Lib.hid (sorted_any W3.heap.size (W3.heap.size + 1) A cp m k L xn _ hgX hL)
          clear hgX
          gi_wp2
          refine wpIn_wide.2 ?_
          go_region_with (first
            | (go_at_call 52; refine (parents_any _ _ A L.length cp (some m) xn _ rfl rfl).mono ?_; rintro e w' ⟨rfl, rfl⟩)
            | (go_at_call 48; refine HS.out.mono ?_; rintro e w5 ⟨o, rfl, ho5, hb5⟩; obtain ⟨oA, oc, rfl⟩ := own_len ho5))
          all_goals
            have hB5 : Below W3.heap.size W3 w5 := ((((Below.refl W3.heap.size W3).alloc (Nat.le_refl _) (.cells #[.slice A L.length cp, .map (some m)] 73)).alloc (by simp) (.cells #[nm xn] 9)).drew).trans (hb5.mono (by show _ ≤ (World.heap (World.drew _)).size; simp; omega))
            have hkl : (Hr.isort (Hr.parents L xn)).length ≤ 900000 := by
              rw [(Hr.isort_perm _).length_eq]
              exact Nat.le_trans (Hr.parents_count L xn) (Nat.le_trans (List.length_filter_le _ _) hL)
            have hkf : ∀ p ∈ Hr.isort (Hr.parents L xn), p.length ≤ 140737488355328 := fun p hp => (HG3.out.hl.1 _ (Hr.parents_mem L xn p ((Hr.isort_perm _).mem_iff.1 hp))).2
            have K1 := Lib.hid (HQ3.out.below hB5)
            have K2 : Hid (∀ y ∈ q, StepAt w5 y.1 y.2.1 y.2.2) := fun y hy => (HSQ3.out y hy).below hB5
            have K3 := Lib.hid (HX3.out.below hB5)
            have K4 := Lib.hid (HM3.out.below hB5 HM3.out.lt)
            have K5 := Lib.hid (HG3.out.below hB5)
            have K6 := Lib.hid (JA.out _ W3 w5 none HJ3.out (grown_of_below hB5 (Nat.le_refl _)) (fun r e => by cases e))
            have hGW3 := HM3.out.lt
            have K7 := Lib.hid (own_base (B := G) ho5 (by show _ ≤ (World.heap (World.drew _)).size; simp; omega))
            have HKF := Lib.hid hkf
            rw [HSC.out] at K4
            clear ho5 hb5 hB5 hkf HQ3 HSQ3 HX3 HM3 HG3 HJ3 b0 b1 s0' s2' slt' glt' hGW3
            generalize Hr.isort (Hr.parents L xn) = kids at *
            simp only [Act.put, List.getElem_toArray, List.getElem_cons_succ, List.getElem_cons_zero, List.setIfInBounds_toArray, List.set_cons_succ, List.set_cons_zero]
            gi_wp2
            gi_loopw [5, 45] (fun qv jv wz => ∃ (j : Nat) (ys : List St), j ≤ kids.length ∧ jv = .int .i64 j ∧ Hid (QAt wz (G + 1) qv (xb :: (q ++ ys).map (·.1))) ∧ Hid (∀ y ∈ q ++ ys, StepAt wz y.1 y.2.1 y.2.2) ∧ Hid (StepAt wz xb xn xr) ∧ Hid (ys.map (·.2) = (kids.take j).map fun p => (p, xn :: xr)) ∧ Hid (MB wz G (cnt + 1) (Hr.seenF (xn :: seen))) ∧ Hid (J (pre ++ [((xb, xn, xr) : St)]) wz) ∧ Hid (GF bg bc A cp m k L c wz) ∧ Hid (wz.ownsRow G 9 1 (.slice oA kids.length oc) kids.length (nmRow kids))) (fun _ jv _ => kids.length - (intOf jv).toNat)
            case atStart => exact ⟨0, [], Nat.zero_le _, rfl, by rw [List.append_nil]; have h := K1.out; rw [List.length_map] at h; exact h, by rw [List.append_nil]; exact K2, K3, by show _ = _; simp, K4, K6, K5, K7⟩
            case round =>
              clear K1 K2 K3 K4 K5 K6 K7
              obtain ⟨j, ys, hj, rfl, I1, I2, I3, I4, I5, I6, I7, I8⟩ := hrel
              have hyl : ys.length = j := by
                have := congrArg List.length I4.out
                rw [List.length_map, List.length_map, List.length_take] at this
                omega
              obtain ⟨g2, off2, cap2, cur2, hv2, -⟩ := id I1.out
              rw [List.length_cons, List.length_map, List.length_append] at hv2
              subst hv2
              have hql : q.length ≤ 1000000 := by
                have := HPOT.out
                unfold Hr.pot at this
                omega
              by_cases hjt : j < kids.length
              · obtain ⟨A9, c9, hv9, hat9⟩ := NmsAt.of_own I8.out
                cases hv9
                obtain ⟨kb, ko, hA9, hat10⟩ := hat9 (by omega)
                subst hA9
                have p0 := hat10 j hjt
                have hpn := HKF.out kids[j] (List.getElem_mem hjt)
                have hpblt := World.block_lt_of_cell? _ _ p0
                obtain ⟨-, xf4, hxc4, -⟩ := I3.out.cells
                have y0 := hxc4.cell 0
                have y2 := hxc4.cell 2
                have ylt := hxc4.lt
                simp only [List.getElem?_toArray, List.getElem?_cons_zero, List.getElem?_cons_succ] at y0 y2
                have hw1 : IntKind.i64.wrap ((j : Int) + 1) = (j : Int) + 1 := IntWalk.i64_in _ (by omega)
                have hw2 : IntKind.i64.wrap ((xr.length : Int) + 1) = (xr.length : Int) + 1 := IntWalk.i64_in _ (by omega)
                have hjtI : (j : Int) < kids.length := by omega
                have hkm : (kids.take (j + 1)).map (fun p => (p, xn :: xr)) = (kids.take j).map (fun p => (p, xn :: xr)) ++ [(kids[j], xn :: xr)] := by
                  rw [List.take_succ_eq_append_getElem hjt, List.map_append]; rfl
                have HKM := Lib.hid hkm
                clear hat9 hat10 hkm hxc4
                generalize kids[j] = p at *
                have hGz := I5.out.lt
                have hn1 := Has.new (wr.alloc (.cells #[nm p, ptr xb, .int .i64 ((xr.length : Int) + 1)] 103)) 98 #[.pointer (some ⟨wr.heap.size, 0, none⟩)]
                rw [World.size_alloc] at hn1
                have hc1 := hn1.cell 0
                simp only [List.getElem?_toArray, List.getElem?_cons_zero] at hc1
                have hB2 : Below wr.heap.size wr ((wr.alloc (.cells #[nm p, ptr xb, .int .i64 ((xr.length : Int) + 1)] 103)).alloc (.cells #[.pointer (some ⟨wr.heap.size, 0, none⟩)] 98)) := ((Below.refl _ _).alloc (Nat.le_refl _) _).alloc (by simp) _
                have hsn := (Has.new wr 103 #[nm p, ptr xb, .int .i64 ((xr.length : Int) + 1)]).alloc (.cells #[.pointer (some ⟨wr.heap.size, 0, none⟩)] 98)
                have Q1 := Lib.hid ((I1.out.alloc (.cells #[nm p, ptr xb, .int .i64 ((xr.length : Int) + 1)] 103)).alloc (.cells #[.pointer (some ⟨wr.heap.size, 0, none⟩)] 98))
                have Q2 : Hid (∀ y ∈ q ++ ys, StepAt ((wr.alloc (.cells #[nm p, ptr xb, .int .i64 ((xr.length : Int) + 1)] 103)).alloc (.cells #[.pointer (some ⟨wr.heap.size, 0, none⟩)] 98)) y.1 y.2.1 y.2.2) := fun y hy => (I2.out y hy).below hB2
                have Q3 := Lib.hid (I3.out.below hB2)
                have Q4 : Hid (StepAt ((wr.alloc (.cells #[nm p, ptr xb, .int .i64 ((xr.length : Int) + 1)] 103)).alloc (.cells #[.pointer (some ⟨wr.heap.size, 0, none⟩)] 98)) wr.heap.size p (xn :: xr)) := ⟨hpn, xb, hsn, Q3.out⟩
                have Q5 := Lib.hid ((I5.out.alloc (.cells #[nm p, ptr xb, .int .i64 ((xr.length : Int) + 1)] 103)).alloc (.cells #[.pointer (some ⟨wr.heap.size, 0, none⟩)] 98))
                have Q6 := Lib.hid (JA.out _ wr _ none I6.out (grown_of_below hB2 (Nat.le_refl _)) (fun r e => by cases e))
                have Q7 := Lib.hid ((I7.out.alloc (.cells #[nm p, ptr xb, .int .i64 ((xr.length : Int) + 1)] 103)).alloc (.cells #[.pointer (some ⟨wr.heap.size, 0, none⟩)] 98))
                have Q8 := Lib.hid ((I8.out.alloc (.cells #[nm p, ptr xb, .int .i64 ((xr.length : Int) + 1)] 103)).alloc (.cells #[.pointer (some ⟨wr.heap.size, 0, none⟩)] 98))
                have N7 : Hid (G + 1 ≤ (World.heap ((wr.alloc (.cells #[nm p, ptr xb, .int .i64 ((xr.length : Int) + 1)] 103)).alloc (.cells #[.pointer (some ⟨wr.heap.size, 0, none⟩)] 98))).size) := by show _ ≤ _; simp; omega
                have N8 : Hid ((xb :: (q ++ ys).map (·.1)).length ≤ 1000000) := by
                  show _ ≤ _
                  rw [List.length_cons, List.length_map, List.length_append]
                  have := HPOT.out
                  unfold Hr.pot at this
                  omega
                have HC1 := Lib.hid hc1
                clear hn1 hc1 hB2 hsn I1 I2 I3 I5 I6 I7 I8
                gi_wp2_with (first
                  | (gi_at_builtin; refine wpListIn_append_q rfl _ _ rfl (G + 1) _ (xb :: (q ++ ys).map (·.1)) wr.heap.size (wr.heap.size + 1) 1 rfl Q1.out rfl HC1.out N8.out N7.out (fun v' w6 hq6 hg6 hat6 => ?_)))
                have hrow : ∀ r, (Value.slice (some ⟨g2, off2, none⟩) (q.length + ys.length + 1) cap2).ownBlock = some r → G + 1 ≤ r ∧ ∃ cur, Has ((wr.alloc (.cells #[nm p, ptr xb, .int .i64 ((xr.length : Int) + 1)] 103)).alloc (.cells #[.pointer (some ⟨wr.heap.size, 0, none⟩)] 98)) r 98 cur := fun r e => ⟨(Q1.out.ge e).1, (Q1.out.ge e).2.2⟩
                have hno : ∀ r, (Value.slice (some ⟨g2, off2, none⟩) (q.length + ys.length + 1) cap2).ownBlock = some r → ∀ cs fr, ((wr.alloc (.cells #[nm p, ptr xb, .int .i64 ((xr.length : Int) + 1)] 103)).alloc (.cells #[.pointer (some ⟨wr.heap.size, 0, none⟩)] 98)).heap[r]? ≠ some (.cells cs 103 fr) := fun r e cs fr h => by
                  obtain ⟨-, cur, hc⟩ := hrow r e
                  unfold Has at hc
                  rw [hc] at h
                  cases h
                have R1 : Hid (QAt w6 (G + 1) v' (xb :: (q ++ (ys ++ [((wr.heap.size, p, xn :: xr) : St)])).map (·.1))) := by
                  show QAt _ _ _ _
                  rw [← List.append_assoc, List.map_append, ← List.cons_append]
                  exact hq6
                have R2 : Hid (∀ y ∈ q ++ (ys ++ [((wr.heap.size, p, xn :: xr) : St)]), StepAt w6 y.1 y.2.1 y.2.2) := fun y hy => by
                  rw [← List.append_assoc] at hy
                  rcases List.mem_append.1 hy with h | h
                  · exact (Q2.out y h).grown hg6 (fun b e cs hh => hno b e cs _ hh)
                  · rw [List.mem_singleton.1 h]
                    exact Q4.out.grown hg6 (fun b e cs hh => hno b e cs _ hh)
                have R3 := Lib.hid (Q3.out.grown hg6 (fun b e cs hh => hno b e cs _ hh))
                have R4 : Hid ((ys ++ [((wr.heap.size, p, xn :: xr) : St)]).map (·.2) = (kids.take (j + 1)).map fun p => (p, xn :: xr)) := by
                  show _ = _
                  rw [HKM.out, ← I4.out, List.map_append]
                  rfl
                have R5 := Lib.hid (Q5.out.kept hg6 (fun e => by have := (hrow _ e.symm).1; omega))
                have R6 := Lib.hid (JA.out _ _ w6 _ Q6.out hg6 (fun r e => ⟨by have := (hrow r e).1; omega, fun cs t fr h => by
                  obtain ⟨-, cur, hc⟩ := hrow r e
                  unfold Has at hc
                  rw [hc] at h
                  cases h
                  rfl⟩))
                have R7 := Lib.hid (Q7.out.row hg6 (fun r e => by have := (hrow r e).1; omega) glt clt mlt hAlt)
                have R8 : Hid (w6.ownsRow G 9 1 (.slice (some ⟨kb, ko, none⟩) kids.length oc) kids.length (nmRow kids)) := by
                  refine Q8.out.kept hg6 (.inr fun e => ?_)
                  obtain ⟨-, cur, hc⟩ := hrow g2 rfl
                  exact own_apart Q8.out hc (by decide) (e.trans rfl).symm
                clear hrow hno hq6 hg6 hat6 Q1 Q2 Q3 Q4 Q5 Q6 Q7 Q8
                gi_wp2
                go_roundw
                case rel => exact ⟨j + 1, _, by omega, by go_num, R1, R2, R3, R4, R5, R6, R7, R8⟩
                case measure => simp [intOf]; omega
              · obtain rfl : j = kids.length := by omega
                have hI4 := I4.out
                rw [List.take_length] at hI4
                have hT1 : QAt wr (G + 1) (.slice (some ⟨g2, off2, none⟩) (((q ++ ys).map (·.1)).length + 1) cap2) (xb :: (q ++ ys).map (·.1)) := by rw [List.length_map, List.length_append]; exact I1.out
                have hT := hT1.tail
                rw [List.length_map, List.length_append] at hT
                obtain ⟨-, -, -, -, hqc2⟩ := hT1.head
                rw [List.length_map, List.length_append] at hqc2
                have h5 : (q ++ ys).map (·.2) = q.map (·.2) ++ kids.map fun p => (p, xn :: xr) := by rw [List.map_append, hI4]
                have hnew : ∀ qv, QAt wr (G + 1) qv ((q ++ ys).map (·.1)) → RSt G bg bc A cp m k L c J f' qv wr := fun qv h =>
                  ⟨xn :: seen, q ++ ys, pre ++ [((xb, xn, xr) : St)], cnt + 1, ⟨h, I2.out⟩, I5.out, by omega, by rw [List.length_append, hyl]; exact HPOT.out, fun y hy => by
                    rcases List.mem_append.1 hy with h | h
                    · have := HLQ.out y h; omega
                    · have h2 : y.2 ∈ ys.map (·.2) := List.mem_map.2 ⟨y, h, rfl⟩
                      rw [hI4] at h2
                      obtain ⟨p, _, hp⟩ := List.mem_map.1 h2
                      rw [← hp, List.length_cons]
                      omega, by rw [h5]; exact HSR.out, I6.out, I7.out⟩
                have HN := Lib.hid hnew
                have HT := Lib.hid hT
                have u1 : (1 : Int) ≤ (q.length : Int) + ys.length + 1 := by omega
                have u2 : ((q.length : Int) + ys.length + 1 - 1).toNat = q.length + ys.length := by omega
                clear hnew hT hT1 hI4 I1 I2 I3 I4 I5 I6 I7 I8
                by_cases hc1 : cap2 = 1
                · subst hc1
                  have hq0 : q.length + ys.length = 0 := by omega
                  have hq1 : q.length = 0 := by omega
                  have hq2 : ys.length = 0 := by omega
                  gi_wp2
                  have h := HN.out _ HT.out
                  rw [if_pos rfl, hq1, hyl, Nat.zero_add] at h
                  exact ⟨⟨f', h⟩, Nat.lt_of_lt_of_eq (Hr.least_lt h (Nat.lt_succ_self _)) HEP.out.symm⟩
                · gi_wp2
                  have h := HN.out _ HT.out
                  rw [if_neg hc1, hyl] at h
                  exact ⟨⟨f', h⟩, Nat.lt_of_lt_of_eq (Hr.least_lt h (Nat.lt_succ_self _)) HEP.out.symm⟩
        · have hpre : (pre ++ [((xb, xn, xr) : St)]).map (·.2) <+: Hr.steps L c := ⟨_, HSR.out⟩
          gi_wp2
          refine bodyPost_ret (results_no rfl _ _) rfl ?_
          exact ⟨⟨_, rfl⟩, .inr ⟨_, hpre, hJx3⟩⟩
end Go.Proofs.Ytojfimbanaijdaa
