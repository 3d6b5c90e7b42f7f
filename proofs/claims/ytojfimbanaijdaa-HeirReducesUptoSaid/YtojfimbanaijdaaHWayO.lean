/-
  A region that draws its order and only reads, within a round of a range over a function: walked once. What Way returns, in package heir, of a valid system and two classes of it.
-/
import Derived.Test.YtojfimbanaijdaaHBase
import Derived.OrdersIn
import Derived.Still
import Derived.StillTactics
import Derived.Test.YtojfimbanaijdaaHLow
import Derived.Test.YtojfimbanaijdaaHFind
namespace Go.Proofs.Ytojfimbanaijdaa
open Go.RowKit Go.Shelf

theorem opIn_still {l n : Nat} {P : Program} {o : Oper} (hd : ∀ c : Call, o.op ≠ Op.defer c) {a : Act} {w : World} {K : Act → Prop} {K' : Act → World → Prop} {Q' : Exit → Act → World → Prop} (h : ∀ a, K a → K' a w) (hh : o.still P a w K) :
    o.wpIn (Fence.wide.inRound l) n P a w K' Q' := by
  refine ⟨fun _ _ => trivial, ?_⟩
  rw [Fence.inRound_round, Oper.semAt_some l _ _ hd]
  unfold Oper.still at hh
  generalize (execOp a.eval o).run P w = r at *
  cases r with
  | ok x w' =>
    cases x <;> simp only [Oper.stillUpon] at hh <;> simp only [Oper.uponIn]
    case enter f args =>
      obtain ⟨rfl, v, hc, hn⟩ := hh
      refine ⟨fun e => absurd e (by simp [Fence.wide, Fence.inRound]), CallsIn.inRound l ((callsIn_wide.2 hc).mono fun e w'' ⟨he, hw⟩ => ?_)⟩
      subst he; subst hw; exact h _ hn
    all_goals (obtain ⟨rfl, h2⟩ := hh; exact h _ h2)
  | halt x w' => simp only [Oper.stillUpon] at hh

theorem opAtIn_still {l n : Nat} {P : Program} {ops : Array Oper} (hd : ∀ (i : Nat) (o : Oper), ops[i]? = some o → ∀ c : Call, o.op ≠ Op.defer c) {i : Nat} {a : Act} {w : World} {K : Act → Prop} {K' : Act → World → Prop} {Q' : Exit → Act → World → Prop} (h : ∀ a, K a → K' a w) (hh : stOp P ops w i K a) :
    wpOpIn (Fence.wide.inRound l) n P ops Q' i K' a w := by
  unfold stOp at hh
  unfold wpOpIn
  split
  · rename_i ho; simp only [ho] at hh; exact h _ hh
  · rename_i o ho
    simp only [ho] at hh
    split
    · rename_i hw; simp only [hw, if_true] at hh; exact opIn_still (hd i o ho) h hh
    · rename_i hw; simp only [hw] at hh; exact ⟨fun _ _ => trivial, h _ hh⟩

theorem anyIn_still {l n : Nat} {P : Program} {md : Region.Mode} {ops : Array Oper} (hd : ∀ (i : Nat) (o : Oper), ops[i]? = some o → ∀ c : Call, o.op ≠ Op.defer c) {w : World} {Q : Act → Prop} {Q' : Exit → Act → World → Prop} (hQ : ∀ a, Q a → Q' .normal a w) :
    ∀ (fuel : Nat) (listed : Array Bool) (a : Act), wpAnyS P md ops w Q fuel listed a → wpAnyIn (Fence.wide.inRound l) n P md ops Q' fuel listed a w
  | 0, _, _, h => ⟨h.1, hQ _ h.2⟩
  | fuel + 1, _, _, h => ⟨fun h0 => hQ _ (h.1 h0), fun i hi => opAtIn_still hd (fun a' => anyIn_still hd hQ fuel _ a') (h.2 i hi)⟩

theorem regionIn_still {l n id : Nat} {P : Program} {Q : Exit → Act → World → Prop} {a : Act} {w : World} {L : List Oper} (hm : P.follows .mixedOrders = true) (hB : Region.lexB .any L.toArray = true) (hd : L.all (fun o => match o.op with | .defer _ => false | _ => true) = true)
    (h : wpStill P L.toArray w.drew (fun a' => Q .normal a' w.drew) L a) : (Code.region id L.toArray true).wpIn (Fence.wide.inRound l) n P Q a w := by
  simp only [Region.lexB, Bool.and_eq_true] at hB
  refine wpIn_region_any hm (anyIn_still (w := w.drew) (fun i o ho c e => ?_) (Q := fun a' => Q .normal a' w.drew) (fun _ h => h) _ _ _ ?_)
  · rw [List.getElem?_toArray] at ho
    have h1 := List.all_eq_true.1 hd o (List.mem_of_getElem? ho)
    rw [e] at h1
    cases h1
  · have := wpAnyS_lex (md := .any) hB.1 L 0 (Array.replicate L.toArray.size false) a (by simp) (by simpa using hB.2) h
    simpa using this

/-- An operation that its guard lets be. -/
theorem still_skip {P : Program} {ops : Array Oper} {w : World} {Q : Act → Prop} {a : Act} {o : Oper} {rest : List Oper} (h0 : Region.wanted o (yielded ops a.tmps) = false) (h : wpStill P ops w Q rest (a.put o.dst undef)) :
    wpStill P ops w Q (o :: rest) a := by
  unfold wpStill
  rw [if_neg (by rw [h0]; exact Bool.noConfusion)]
  exact h
/-- An operation by its run. -/
theorem still_value {P : Program} {ops : Array Oper} {w : World} {Q : Act → Prop} {a : Act} {o : Oper} {rest : List Oper} (v : Value) (h0 : Region.wanted o (yielded ops a.tmps) = true) (hr : (execOp a.eval o).run P w = .ok (.value v) w) (h : wpStill P ops w Q rest (a.put o.dst v)) :
    wpStill P ops w Q (o :: rest) a := by
  unfold wpStill
  rw [if_pos h0]
  unfold Oper.still
  rw [hr]
  exact ⟨rfl, h⟩
theorem still_run {P : Program} {w : World} {a : Act} {o : Oper} {K : Act → Prop} (v : Value) (hr : (execOp a.eval o).run P w = .ok (.value v) w) (h : K (a.put o.dst v)) : o.still P a w K := by
  unfold Oper.still
  rw [hr]
  exact ⟨rfl, h⟩
end Go.Proofs.Ytojfimbanaijdaa
namespace Go.Proofs.Ytojfimbanaijdaa
open Go.RowKit Go.Shelf
attribute [local go_sem] Oper.semAt_some

/-- What Way hands back: a way, or none. -/
def Hr.wayErr (L : List (Hr.Nm × Hr.Nm)) (c a : Hr.Nm) : Int := match Hr.way L c a with | some _ => 0 | none => 5

theorem Hr.find_prefix {pre l : List (Hr.Nm × List Hr.Nm)} {x : Hr.Nm × List Hr.Nm} {a : Hr.Nm} (h : pre ++ [x] <+: l) (hn : ∀ y ∈ pre, y.1 ≠ a) (hx : x.1 = a) : l.find? (fun x => x.1 == a) = some x := by
  obtain ⟨r, rfl⟩ := h
  rw [List.append_assoc, List.find?_append]
  have : pre.find? (fun x => x.1 == a) = none := by
    rw [List.find?_eq_none]
    intro y hy
    simpa using hn y hy
  rw [this]
  simp [hx]

theorem KpS.trans {B bg bc cp m k : Nat} {A : Option Addr} {L : List (Hr.Nm × Hr.Nm)} {c : Hr.Nm} {X Y Z : World} (h : KpS B bg bc A cp m k L c X Y) (g : KpS B bg bc A cp m k L c Y Z) : KpS B bg bc A cp m k L c X Z :=
  ⟨Nat.le_trans h.1 g.1, fun j o hj ho hc => g.2.1 j o hj (h.2.1 j o hj ho hc) hc, fun b cs hb => g.2.2.1 b cs (h.2.2.1 b cs hb), fun hG => g.2.2.2 (h.2.2.2 hG)⟩
theorem KpS.below {B bg bc cp m k : Nat} {A : Option Addr} {L : List (Hr.Nm × Hr.Nm)} {c : Hr.Nm} {X Y : World} (h : Below X.heap.size X Y) : KpS B bg bc A cp m k L c X Y :=
  ⟨h.size, fun j _ _ ho _ => (h.block j (Array.getElem?_eq_some_iff.1 ho).1).trans ho, fun _ _ hb => hb.below h hb.lt, fun hG => hG.below h⟩
theorem KpS.put {B bg bc cp m k : Nat} {A : Option Addr} {L : List (Hr.Nm × Hr.Nm)} {c : Hr.Nm} {W : World} {l : Nat} {o : Obj} (o' : Obj) (hl : B ≤ l) (h0 : bg < B) (h1 : bc < B) (h2 : m < B) (ho : W.heap[l]? = some o) (hc : o.isCells = false) (hw : o.isWalk = false) : KpS B bg bc A cp m k L c W (W.putObj l o') := by
  have other : ∀ j, j ≠ l → (W.putObj l o').heap[j]? = W.heap[j]? := fun j hj => World.putObj_heap_other hj
  refine ⟨by simp [World.putObj], fun j q _ hq hk => ?_, fun b cs hb => ?_, fun hG => ?_⟩
  · refine (other j (fun e => ?_)).trans hq
    subst e
    rw [ho] at hq
    cases hq
    rcases hk with hk | hk
    · rw [hc] at hk; cases hk
    · rw [hw] at hk; cases hk
  · exact has_put o' hb ho hc
  · refine hG.grown (fun p v h => cell_kept h (grownBy_putObj' W l o') (fun r e => by cases e; exact ⟨o, ho, hc⟩)) (fun j hj => other j ?_)
    rcases hj with rfl | rfl | rfl <;> omega
theorem StepAt.put {W : World} {l : Nat} {o : Obj} (o' : Obj) {b : Nat} {s : Hr.Nm} {r : List Hr.Nm} (h : StepAt W b s r) (ho : W.heap[l]? = some o) (hc : o.isCells = false) : StepAt (W.putObj l o') b s r :=
  StepAt.keep (fun _ _ hb => has_put o' hb ho hc) r b s h
theorem KeepsFrom.below {B : Nat} {X Y : World} (h : Below X.heap.size X Y) : KeepsFrom B X Y :=
  ⟨h.size, fun k _ _ hk _ => (h.block k (Array.getElem?_eq_some_iff.1 hk).1).trans hk⟩
theorem own_putT {w : World} {B0 B : Nat} {T : TypeId} {v : Value} {l : List Hr.Nm} {w' : World} {row : Option Nat} (h : w.ownsRow B0 9 1 v l.length (nmRow l)) (hg : w.grownBy w' row) (hr : ∀ r, row = some r → B ≤ r ∧ ∀ cs t fr, w.heap[r]? = some (.cells cs t fr) → t = T) (hT : T ≠ 9) : w'.ownsRow B0 9 1 v l.length (nmRow l) := by
  refine h.kept hg ?_
  rcases h.2 with ⟨rfl, _⟩ | ⟨g, cap, cur, rfl, _, hh, _⟩
  · exact .inl rfl
  · right
    intro e
    exact hT ((hr g e.symm).2 _ _ _ hh).symm

set_option maxRecDepth 100000 in
set_option maxHeartbeats 2000000 in
theorem Way_ok (v : Value) (S : List Hr.Cls) (c a : Hr.Nm) (w : World) (h : SysAt w v S) (hV : Hr.Valid S) (hc : c.length ≤ 140737488355328) (ha : a.length ≤ 140737488355328) (hin : (Hr.firstAt S c).isSome = true) (hina : (Hr.firstAt S a).isSome = true) :
    Calls Try.prog 19 #[v, nm c, nm a] w fun e w' => ∃ o, e = .returned (.tuple #[o, .int .i64 (Hr.wayErr (Hr.links S) c a)]) ∧ w'.ownsRow w.heap.size 9 1 o ((Hr.way (Hr.links S) c a).getD []).length (nmRow ((Hr.way (Hr.links S) c a).getD [])) ∧ Below w.heap.size w w' := by
  have hLL := hV.hL
  have hB1 : Below w.heap.size w ((((w.alloc (.cells #[nm a] 9)).alloc (.cells #[.slice none 0 0] 26)).alloc (.cells #[.int .i64 0] 27)).alloc (.cells #[nm c, nm a] 9)) := ((((Below.refl _ _).alloc (Nat.le_refl _) _).alloc (by simp) _).alloc (by simp; omega) _).alloc (by simp; omega) _
  have hnl := nms_laid (((w.alloc (.cells #[nm a] 9)).alloc (.cells #[.slice none 0 0] 26)).alloc (.cells #[.int .i64 0] 27)) [c, a] 2
  rw [World.size_alloc, World.size_alloc, World.size_alloc] at hnl
  have HE := Lib.hid (enter_ok v _ S [c, a] _ (h.below hB1 (Nat.le_refl _)) hV hnl (by simp) (fun s hs => by
    rcases List.mem_cons.1 hs with h | h
    · rw [h]; exact hc
    · rw [List.mem_singleton.1 h]; exact ha) (fun s hs => by
    rcases List.mem_cons.1 hs with h | h
    · rw [h]; exact hin
    · rw [List.mem_singleton.1 h]; exact hina))
  have HA1 : Hid (Has ((((w.alloc (.cells #[nm a] 9)).alloc (.cells #[.slice none 0 0] 26)).alloc (.cells #[.int .i64 0] 27)).alloc (.cells #[nm c, nm a] 9)) w.heap.size 9 #[nm a]) := (((Has.new _ _ _).alloc _).alloc _).alloc _
  have h6 := ((Has.new (w.alloc (.cells #[nm a] 9)) 26 #[.slice none 0 0]).alloc (.cells #[.int .i64 0] 27)).alloc (.cells #[nm c, nm a] 9)
  rw [World.size_alloc] at h6
  have H6 := Lib.hid h6
  have h7 := (Has.new ((w.alloc (.cells #[nm a] 9)).alloc (.cells #[.slice none 0 0] 26)) 27 #[.int .i64 0]).alloc (.cells #[nm c, nm a] 9)
  rw [World.size_alloc, World.size_alloc] at h7
  have H7 := Lib.hid h7
  have HB1 := Lib.hid hB1
  clear h hV hin hina hB1 hnl h6 h7
  generalize Hr.links S = L at *
  refine (callsIn_wide (n := 5)).1 ?_
  refine callsIn_of_wp_marks Try.func19 rfl trivial ?_ rfl
  simp only [Try.ntmps19, List.size_toArray, List.length_cons, List.length_nil, Nat.reduceAdd, Nat.reduceSub, Array.replicate_succ, Array.replicate_zero, List.push_toArray, List.append_toArray, List.nil_append, List.cons_append]
  gi_wp2_with (first
    | (refine ⟨trivial, ?_⟩; gi_at_call 34; refine (callsIn_wide.2 HE.out).mono ?_
       rintro e w2 ⟨x, rfl, hg2, hb2⟩
       obtain ⟨A, cp, m, rfl, hgc⟩ := GC.of hg2
       have hb3 : Below w2.heap.size w2 (w2.alloc (.cells #[.slice A L.length cp, .map (some m)] 73)) := (Below.refl _ _).alloc (Nat.le_refl _) _
       have HB3 := Lib.hid (stepN (stepN HB1.out hb2) hb3)
       have hA2 := HA1.out.below hb2 HA1.out.lt
       have HA3 := Lib.hid (hA2.below hb3 hA2.lt)
       have h62 := H6.out.below hb2 H6.out.lt
       have H63 := Lib.hid (h62.below hb3 h62.lt)
       have h72 := H7.out.below hb2 H7.out.lt
       have H73 := Lib.hid (h72.below hb3 h72.lt)
       have HG3 := Lib.hid hgc
       clear hg2 hb2 hb3 hgc hA2 h62 h72)
    | (refine ⟨trivial, ?_⟩; gi_at_call 51; refine (callsIn_wide.2 (steps_any _ _ A L.length cp (some m) c _ rfl rfl)).mono ?_; rintro e w' ⟨rfl, rfl⟩))
  obtain ⟨W5, hW5⟩ : ∃ W5, W5 = (((w2.alloc (.cells #[.slice A L.length cp, .map (some m)] 73)).alloc (.cells #[.slice A L.length cp, .map (some m)] 73)).alloc (.cells #[nm c] 9)) := ⟨_, rfl⟩
  rw [← hW5]
  have hb5 : Below (w2.alloc (.cells #[.slice A L.length cp, .map (some m)] 73)).heap.size (w2.alloc (.cells #[.slice A L.length cp, .map (some m)] 73)) W5 := by rw [hW5]; exact ((Below.refl _ _).alloc (Nat.le_refl _) _).alloc (by simp) _
  have hB5 : Below w.heap.size w W5 := stepN HB3.out hb5
  have hsz : W5.heap.size = w2.heap.size + 3 := by rw [hW5]; simp
  have hA5 := HA3.out.below hb5 HA3.out.lt
  have h65 := H63.out.below hb5 H63.out.lt
  have h75 := H73.out.below hb5 H73.out.lt
  have hg5 : Has W5 (w2.heap.size + 1) 73 #[.slice A L.length cp, .map (some m)] := by
    rw [hW5]
    have h := Has.new (w2.alloc (.cells #[.slice A L.length cp, .map (some m)] 73)) 73 #[.slice A L.length cp, .map (some m)]
    rw [World.size_alloc] at h
    exact h.alloc _
  have hc5 : Has W5 (w2.heap.size + 1 + 1) 9 #[nm c] := by
    rw [hW5]
    have h := Has.new ((w2.alloc (.cells #[.slice A L.length cp, .map (some m)] 73)).alloc (.cells #[.slice A L.length cp, .map (some m)] 73)) 9 #[nm c]
    rw [World.size_alloc, World.size_alloc] at h
    exact h
  obtain ⟨A', cp', m', k, hgg, hll, hmm⟩ := HG3.out
  have hvv := hgg.cell 0
  have hvw := hgg.cell 1
  rw [(Has.new w2 _ _).cell] at hvv hvw
  simp only [List.getElem?_toArray, List.getElem?_cons_zero, List.getElem?_cons_succ] at hvv hvw
  cases hvv
  cases hvw
  have hmlt : m < w2.heap.size + 1 := by have := hmm.lt; rw [World.size_alloc] at this; exact this
  have hGF : GF (w2.heap.size + 1) (w2.heap.size + 1 + 1) A cp m k L c W5 := ⟨hg5, hc5, hll.below hb5 (Nat.le_refl _), hmm.below hb5 hmm.lt, hc⟩
  have hw2 : w.heap.size + 2 < w2.heap.size + 1 := by have := H73.out.lt; rw [World.size_alloc] at this; have := HB3.out.size; omega
  clear hW5 hg5 hc5 hgg hll hmm HG3 HE HA1 H6 H7 HB1 HB3 HA3 H63 H73 hb5
  generalize hBw : w.heap.size = B at *
  generalize w2.heap.size = g2 at *
  refine range_ok rfl (by decide) (gf := 84) (lb := #[.pointer (some ⟨g2 + 1 + 1, 0, none⟩), .pointer (some ⟨g2 + 1, 0, none⟩)]) rfl trivial (enters_of Try.func84 (by kernel_rfl) rfl)
    (steps_ok 4 (by decide) (g2 + 1) (g2 + 1 + 1) A cp m k L c W5 hGF (by omega)) (fun h g => h.trans g) ?hKb (fun _ => rfl) ?hOk
    (fun pre Wx => Below B w Wx ∧ Has Wx B 9 #[nm a] ∧ Has Wx (B + 1) 26 #[.slice none 0 0] ∧ Has Wx (B + 1 + 1) 27 #[.int .i64 0] ∧ Hid (∀ x ∈ pre.map (·.2), x.1 ≠ a))
    (fun c' pre Wx => c' = .ret ∧ Below B w Wx ∧ ∃ (o : Value) (pr : List St) (x : St), pre = pr ++ [x] ∧ (∀ y ∈ pr.map (·.2), y.1 ≠ a) ∧ x.2.1 = a ∧ Has Wx (B + 1) 26 #[o] ∧ Has Wx (B + 1 + 1) 27 #[.int .i64 0] ∧ Wx.ownsRow B 9 1 o (Hr.wayOf x.2).length (nmRow (Hr.wayOf x.2)))
    ?hI ?hIx ⟨hB5, hA5, h65, h75, fun x hx => by cases hx⟩
    (fun x : St => { tmps := #[v, nm c, nm a, undef, undef, .pointer (some ⟨B, 0, none⟩), .pointer (some ⟨B + 1, 0, none⟩), .pointer (some ⟨B + 1 + 1, 0, none⟩), .pointer (some ⟨g2, 0, none⟩), .int .i64 0, ptr x.1, .tuple #[.agg #[.slice A L.length cp, .map (some m)], .int .i64 0], v, nm c, nm a, .slice (some ⟨B + 1 + 1 + 1, 0, none⟩) 2 2, .tuple #[.agg #[.slice A L.length cp, .map (some m)], .int .i64 0], .agg #[.slice A L.length cp, .map (some m)], .int .i64 0, .int .i64 0, .bool false, undef, .agg #[.slice A L.length cp, .map (some m)], nm c, .func (.func 84) #[] #[.pointer (some ⟨g2 + 1 + 1, 0, none⟩), .pointer (some ⟨g2 + 1, 0, none⟩)], ptr x.1, undef, undef, undef, undef, undef, undef, undef, undef], defers := [] })
    ?assign ?body ?done ?stop
  case hKb => exact fun Wa l ob ob' hl hlo hoc how => KpS.put ob' hl (by omega) (by omega) (by omega) hlo hoc how
  case hOk => exact fun x Wa l ob ob' hx hl hlo hoc how => ⟨hx.1.put ob' hlo hoc, hx.2⟩
  case hI =>
    rintro pre Wa Wb row ⟨i1, i2, i3, i4, i5⟩ hg hr
    have := i1.size
    exact ⟨i1.grown hg (by omega) (fun b e => by have := (hr b e).1; omega), i2.grown hg (fun e => by have := (hr _ e.symm).1; omega), i3.grown hg (fun e => by have := (hr _ e.symm).1; omega), i4.grown hg (fun e => by have := (hr _ e.symm).1; omega), i5⟩
  case hIx =>
    rintro cc pre Wa Wb row ⟨i0, i1, o, pr, x, i2, i3, i4, i5, i6, i7⟩ hg hr
    have := i1.size
    exact ⟨i0, i1.grown hg (by omega) (fun b e => by have := (hr b e).1; omega), o, pr, x, i2, i3, i4, i5.grown hg (fun e => by have := (hr _ e.symm).1; omega), i6.grown hg (fun e => by have := (hr _ e.symm).1; omega), own_putT i7 hg hr (by decide)⟩
  case assign =>
    intro l x Wx K hK
    gi_wp2
    exact hK
  case body =>
    rintro l pre ⟨xb, xn, xr⟩ Wx ⟨i1, i2, i3, i4, i5⟩ hok
    obtain ⟨hok, hxl⟩ := hok
    dsimp only at hok hxl
    have HWY := Lib.hid (fun (W : World) (hW : Below Wx.heap.size Wx W) => way_any xb xn xr W (hok.below hW) (by omega))
    obtain ⟨hxn, xf, hxc, -⟩ := hok.cells
    have s0 := hxc.cell 0
    have slt := hxc.lt
    have a0 := i2.cell 0
    have alt := i2.lt
    simp only [List.getElem?_toArray, List.getElem?_cons_zero] at s0 a0
    by_cases he : xn = a
    · subst he
      have HRES : Hid (∀ y ∈ pre.map (·.2), y.1 ≠ xn) := i5
      have hs1 := i1.size
      have I1 := Lib.hid i1
      have I3 := Lib.hid i3
      have I4 := Lib.hid i4
      have I5 := Lib.hid i5
      have HBD := Lib.hid (Below.refl Wx.heap.size Wx).drew
      clear hok hxc i1 i2 i3 i4 i5
      gi_wp2
      refine regionIn_still (by kernel_rfl) (by kernel_rfl) (by kernel_rfl) ?_
      repeat still_step
      refine wpStill_nil ?_
      gi_wp2_with (first
        | (refine ⟨trivial, ?_⟩; gi_at_call 53; refine (CallsIn.inRound l (callsIn_wide.2 (HWY.out _ HBD.out))).mono ?_
           rintro e w4 ⟨o, rfl, ho4, hb4⟩
           obtain ⟨oA, oc, rfl⟩ := own_len ho4
           have hd4 : Below Wx.heap.size Wx w4 := HBD.out.trans hb4
           have h64 := I3.out.below hd4 I3.out.lt
           have h74 := I4.out.below hd4 I4.out.lt
           have r0 := h64.cell 0
           have rf := h64.free 0
           have rlt := h64.lt
           have q0 := h74.cell 0
           have qf := h74.free 0
           have qlt := h74.lt
           simp only [List.getElem?_toArray, List.getElem?_cons_zero] at r0 q0
           have HO4 := Lib.hid ho4
           have H64 := Lib.hid h64
           have H74 := Lib.hid h74
           have HD4 := Lib.hid hd4
           clear ho4 hb4 h64 h74 hd4))
      have hB1 : B + 1 ≠ B + 1 + 1 := by omega
      have hbs : Below B w w4 := I1.out.trans (HD4.out.mono (by omega))
      have g1 := grown_set w4 (B + 1) 0 (.slice oA (Hr.wayOf (xn, xr)).length oc)
      have o1 := own_base HO4.out (by omega : B ≤ Wx.heap.size)
      have h1 := H64.out.set 0 (.slice oA (Hr.wayOf (xn, xr)).length oc)
      have h2 := H74.out.other (p := ⟨B + 1, 0, none⟩) (by show B + 1 + 1 ≠ B + 1; omega) (.slice oA (Hr.wayOf (xn, xr)).length oc)
      have o2 := o1.kept g1 (.inr (fun e => own_apart o1 H64.out (by decide) e.symm))
      refine ⟨(KeepsFrom.below HD4.out).trans (((KeepsOthers.setCell _ _ _).from _).trans ((KeepsOthers.setCell _ _ _).from _)), rfl, (hbs.setCell (p := ⟨B + 1, 0, none⟩) (by show B ≤ B + 1; omega) _).setCell (p := ⟨B + 1 + 1, 0, none⟩) (by show B ≤ B + 1 + 1; omega) _, _, pre, (xb, xn, xr), rfl, HRES.out, rfl, h1.other (p := ⟨B + 1 + 1, 0, none⟩) hB1 _, h2.set 0 _, o2.kept (grown_set _ (B + 1 + 1) 0 _) (.inr (fun e => own_apart o2 h2 (by decide) e.symm))⟩
    · have heb : (xn == a) = false := by simpa using he
      have I1 := Lib.hid i1
      have I2 := Lib.hid i2
      have I3 := Lib.hid i3
      have I4 := Lib.hid i4
      have HNE := Lib.hid he
      clear hok hxc i1 i2 i3 i4 he
      gi_wp2
      refine regionIn_still (by kernel_rfl) (by kernel_rfl) (by kernel_rfl) ?_
      repeat still_step
      refine wpStill_nil ?_
      gi_wp2
      refine ⟨KeepsFrom.below (Below.refl _ _).drew, KpS.below (Below.refl _ _).drew, I1.out.drew, I2.out, I3.out, I4.out, ?_⟩
      intro y hy
      rw [List.map_append] at hy
      rcases List.mem_append.1 hy with h | h
      · exact i5.out y h
      · rw [List.mem_singleton.1 h]; exact HNE.out
  case done =>
    rintro D xs Wx hD hS ⟨i1, i2, i3, i4, i5⟩ hK
    have hres : Hr.way L c a = none := by
      unfold Hr.way
      rw [← hS, Option.map_eq_none_iff, List.find?_eq_none]
      intro y hy
      simpa using i5.out y hy
    have HR := Lib.hid hres
    have r0 := i3.cell 0
    have rf := i3.free 0
    have rlt := i3.lt
    have q0 := i4.cell 0
    have qf := i4.free 0
    have qlt := i4.lt
    simp only [List.getElem?_toArray, List.getElem?_cons_zero] at r0 q0
    have I1 := Lib.hid i1
    have I3 := Lib.hid i3
    have I4 := Lib.hid i4
    clear hres i5 hS i1 i2 i3 i4
    gi_wp2
    have hs1 := I1.out.size
    have hK' : ((Wx.setCell ⟨B + 1, 0, none⟩ (.slice none 0 0)).setCell ⟨B + 1 + 1, 0, none⟩ (.int .i64 5)).heap[D]? = some (.deferred (some [])) := (Below.heap_setCell _ _ _ _ (by show D ≠ B + 1 + 1; omega)).trans ((Below.heap_setCell _ _ _ _ (by show D ≠ B + 1; omega)).trans hK)
    refine leaves_marks [D] _ (by simp) (fun E hE => by rw [List.mem_singleton.1 hE]; exact hK') ?_
    have hgD := grownBy_putObj' ((Wx.setCell ⟨B + 1, 0, none⟩ (.slice none 0 0)).setCell ⟨B + 1 + 1, 0, none⟩ (.int .i64 5)) D (.deferred none)
    have h6 := ((I3.out.set 0 (.slice none 0 0)).other (p := ⟨B + 1 + 1, 0, none⟩) (by show B + 1 ≠ B + 1 + 1; omega) (.int .i64 5)).grown hgD (by simp; omega)
    have h7 := ((I4.out.other (p := ⟨B + 1, 0, none⟩) (by show B + 1 + 1 ≠ B + 1; omega) (.slice none 0 0)).set 0 (.int .i64 5)).grown hgD (by simp; omega)
    have c6 := h6.cell 0
    have c7 := h7.cell 0
    simp only [List.setIfInBounds_toArray, List.set_cons_zero, List.getElem?_toArray, List.getElem?_cons_zero] at c6 c7
    have hBF := ((I1.out.setCell (p := ⟨B + 1, 0, none⟩) (by show B ≤ B + 1; omega) (.slice none 0 0)).setCell (p := ⟨B + 1 + 1, 0, none⟩) (by show B ≤ B + 1 + 1; omega) (.int .i64 5)).grown hgD (by simp [World.setCell]; omega) (fun b e => by cases e; omega)
    refine ⟨.tuple #[.slice none 0 0, .int .i64 5], ?_, .slice none 0 0, ?_, ?_, by first | exact hBF | (rw [hBw]; exact hBF)⟩
    · simp only [shut]
      simp [results, Try.results19, go_sem, c6, c7]
    · unfold Hr.wayErr; rw [HR.out]
    · rw [HR.out]
      exact World.ownsRow_nil _ _ _ _
  case stop =>
    rintro D cc pre Wx hD hSp ⟨rfl, i1, o, pr, x, rfl, hne, hxa, i3, i4, i5⟩ hK
    have hres : Hr.way L c a = some (Hr.wayOf x.2) := by
      unfold Hr.way
      rw [List.map_append] at hSp
      rw [Hr.find_prefix hSp hne hxa]
      rfl
    have HR := Lib.hid hres
    have r0 := i3.cell 0
    have q0 := i4.cell 0
    simp only [List.getElem?_toArray, List.getElem?_cons_zero] at r0 q0
    clear hres hSp hne hxa
    gi_wp2
    have hs1 := i1.size
    refine leaves_marks [D] _ (by simp) (fun E hE => by rw [List.mem_singleton.1 hE]; exact hK) ?_
    have hgD := grownBy_putObj' Wx D (.deferred none)
    have c6 := (i3.grown hgD (by simp; omega)).cell 0
    have c7 := (i4.grown hgD (by simp; omega)).cell 0
    simp only [List.getElem?_toArray, List.getElem?_cons_zero] at c6 c7
    have hBF := i1.grown hgD (by omega) (fun b e => by cases e; omega)
    refine ⟨.tuple #[o, .int .i64 0], ?_, o, ?_, ?_, by first | exact hBF | (rw [hBw]; exact hBF)⟩
    · simp only [shut]
      simp [results, Try.results19, go_sem, c6, c7]
    · unfold Hr.wayErr; rw [HR.out]
    · rw [HR.out]
      have hof := i5.kept hgD (by
        rcases i5.2 with ⟨hv, _⟩ | ⟨g, cap, cur, hv, _, hh, _⟩
        · rw [hv]; exact .inl rfl
        · right
          rw [hv]
          intro e
          have e2 : g = D := by simpa [Value.ownBlock] using e
          rw [e2, hK] at hh
          cases hh)
      first | exact hof | (rw [hBw]; exact hof)
end Go.Proofs.Ytojfimbanaijdaa
