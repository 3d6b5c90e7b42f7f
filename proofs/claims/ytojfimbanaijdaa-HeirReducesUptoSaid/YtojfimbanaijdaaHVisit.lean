/-
  What visit does, in package heir: the walk through a class and its ancestors.
-/
import Derived.Test.YtojfimbanaijdaaHUps
import Derived.ControlIn
namespace Go.Proofs.Ytojfimbanaijdaa
open Go.RowKit Go.Shelf
attribute [local go_sem] Oper.semAt_some

def nmRow (l : List Hr.Nm) : List Value := l.map nm
theorem nmRow_snoc (l : List Hr.Nm) (s : Hr.Nm) : nmRow (l ++ [s]) = nmRow l ++ [nm s] := by simp [nmRow]
/-- Colours as they lie in memory. -/
def cols (f : Hr.Nm → Option Bool) : Hr.Nm → Option Int := fun s => (f s).map fun b => if b then 2 else 1
theorem cols_upd (f : Hr.Nm → Option Bool) (c : Hr.Nm) (b : Bool) : cols (upd f c b) = upd (cols f) c (if b then 2 else 1) := by
  funext s
  unfold cols upd
  by_cases h : s = c
  · simp [h]
  · simp [h]

theorem strInfo : (Try.prog.info? 9).map (fun i => (i.zero, i.size, i.bytes)) = some (some (.string ⟨#[]⟩), 1, 16) := by kernel_rfl

/-- A walk as it lies in memory. -/
structure WkAt (wb mc B : Nat) (A : Option Addr) (n cp m : Nat) (U : List Hr.Nm) (o : Value) (wk : Hr.Walk) (M : Nat) (W : World) : Prop where
  hw : Has W wb 95 #[.slice A n cp, .map (some m), .map (some mc), o, .bool wk.ring]
  hm : ∃ q, MI W mc q (cols wk.col) ∧ q + 2 * Hr.pale U wk.col ≤ M
  ho : W.ownsRow B 9 1 o wk.order.length (nmRow wk.order)

/-- What a visit lets be. -/
structure Fr (G wb mc : Nat) (o o' : Value) (W W' : World) : Prop where
  below : Below G W W'
  keep : ∀ k, k < W.heap.size → k ≠ wb → k ≠ mc → some k ≠ o.ownBlock → W'.heap[k]? = W.heap[k]?
  row : o'.ownBlock = o.ownBlock ∨ ∀ b, o'.ownBlock = some b → W.heap.size ≤ b
theorem Fr.refl (G wb mc : Nat) (o : Value) (W : World) : Fr G wb mc o o W W := ⟨Below.refl _ _, fun _ _ _ _ _ => rfl, .inl rfl⟩
theorem Fr.trans {G wb mc : Nat} {o o' o'' : Value} {W W' W'' : World} (h : Fr G wb mc o o' W W') (k : Fr G wb mc o' o'' W' W'') : Fr G wb mc o o'' W W'' := by
  have hs := h.below.size
  refine ⟨h.below.trans k.below, fun j hj h1 h2 h3 => ?_, ?_⟩
  · refine (k.keep j (by omega) h1 h2 (fun e => ?_)).trans (h.keep j hj h1 h2 h3)
    rcases h.row with r | r
    · exact h3 (e.trans r)
    · have := r j e.symm; omega
  · rcases k.row with r | r
    · rcases h.row with r2 | r2
      · exact .inl (r.trans r2)
      · exact .inr fun b hb => r2 b (r ▸ hb)
    · exact .inr fun b hb => by have := r b hb; omega
theorem Fr.alloc (G wb mc : Nat) (o : Value) (W : World) (ob : Obj) (hG : G ≤ W.heap.size) : Fr G wb mc o o W (W.alloc ob) :=
  ⟨(Below.refl _ _).alloc hG _, fun k hk _ _ _ => Below.heap_alloc W ob k hk, .inl rfl⟩
theorem Fr.grown {G wb mc : Nat} {o o' : Value} {W W' : World} {row : Option Nat} (hg : W.grownBy W' row) (hG : G ≤ W.heap.size) (h1 : ∀ b, row = some b → G ≤ b) (h2 : ∀ b, row = some b → b = wb ∨ b = mc ∨ some b = o.ownBlock ∨ W.heap.size ≤ b) (hr : o'.ownBlock = o.ownBlock ∨ ∀ b, o'.ownBlock = some b → W.heap.size ≤ b) : Fr G wb mc o o' W W' :=
  ⟨(Below.refl _ _).grown hg hG h1, fun k hk a1 a2 a3 => hg.block k hk (fun e => by rcases h2 k e.symm with h | h | h | h <;> first | exact a1 h | exact a2 h | exact a3 h | omega), hr⟩

theorem Fr.late {G wb mc : Nat} {o o' : Value} {W W' W'' : World} {D : Nat} (h : Fr G wb mc o o' W W') (hg : W'.grownBy W'' (some D)) (hD : W.heap.size ≤ D) (hG : G ≤ W.heap.size) : Fr G wb mc o o' W W'' := by
  have hs := h.below.size
  exact ⟨h.below.grown hg (by omega) (fun b e => by cases e; omega), fun k hk a1 a2 a3 => (hg.block k (by omega) (fun e => by cases e; omega)).trans (h.keep k hk a1 a2 a3), h.row⟩
theorem Fr.drew {G wb mc : Nat} {o o' : Value} {W W' : World} (h : Fr G wb mc o o' W W') : Fr G wb mc o o' W W'.drew := ⟨h.below.drew, h.keep, h.row⟩

theorem Has.alloc' {W : World} {D : Nat} {ob o : Obj} (h : W.heap[D]? = some ob) : (W.alloc o).heap[D]? = some ob := (Below.heap_alloc W o D (Array.getElem?_eq_some_iff.1 h).1).trans h

theorem own_not {W : World} {B e size n r : Nat} {v : Value} {xs : List Value} {ob : Obj} (h : W.ownsRow B e size v n xs) (hr : W.heap[r]? = some ob) (hob : ob.isCells = false) : v.ownBlock ≠ some r := by
  intro he
  rcases h.2 with ⟨rfl, _⟩ | ⟨g', cap, cur, rfl, _, hh, _⟩
  · cases he
  · cases he
    rw [hr] at hh
    cases hh
    cases hob

/-- What stands ahead of a walk. -/
structure VC (w0 : World) (wb mc B : Nat) (A : Option Addr) (cp m k : Nat) (L : List (Hr.Nm × Hr.Nm)) (U : List Hr.Nm) (K : Nat) : Prop where
  hl : LinksAt w0 (.slice A L.length cp) L
  hm : MI w0 m k (fun s => (Hr.firstLink L s).map Int.ofNat)
  h1 : w0.heap.size ≤ wb
  h2 : w0.heap.size ≤ mc
  h3 : wb < B
  h4 : mc < B
  hU : ∀ x ∈ L, x.2 ∈ U
  hn : ∀ s ∈ U, s.length ≤ 140737488355328
  hL : L.length ≤ 1000000
  hK : K ≤ 1000000

set_option maxRecDepth 100000 in
set_option maxHeartbeats 2000000 in
theorem visit_any {w0 : World} {wb mc B : Nat} {A : Option Addr} {cp m k : Nat} {L : List (Hr.Nm × Hr.Nm)} {U : List Hr.Nm} {K : Nat} (hV : VC w0 wb mc B A cp m k L U K) :
    ∀ (d : Nat) (wk : Hr.Walk) (o : Value) (M : Nat) (c : Hr.Nm) (W : World), Below w0.heap.size w0 W → WkAt wb mc B A L.length cp m U o wk M W → c ∈ U → Hr.fresh L wk.col < d → Hr.weight U wk ≤ K → M ≤ 10000000 → B ≤ W.heap.size →
      Calls Try.prog 83 #[.pointer (some ⟨wb, 0, none⟩), nm c] W fun e W' => (∃ v, e = .returned v) ∧ ∃ o', WkAt wb mc B A L.length cp m U o' (Hr.visit L d wk c) M W' ∧ Fr w0.heap.size wb mc o o' W W'
  | 0, wk, o, M, c, W, _, _, _, hf, _, _, _ => absurd hf (Nat.not_lt_zero _)
  | d + 1, wk, o, M, c, W, hB0, hW, hc, hf, hwt, hM, hBW => by
    have IH := Lib.hid (visit_any hV d)
    obtain ⟨i0, hi, hz0, hz1, hz2⟩ := info_parts strInfo
    have HV := Lib.hid hV
    obtain ⟨hw, ⟨q, hm, hq⟩, ho⟩ := hW
    have hn := hV.hn c hc
    have hne : wb ≠ mc := fun e => by
      obtain ⟨D, ⟨es, clock, h4, _⟩, _⟩ := hm
      subst e
      unfold Has at hw
      rw [hw] at h4
      cases h4
    have g1 := hV.h1
    have g2 := hV.h2
    have g3 := hV.h3
    have g4 := hV.h4
    have hoW : ∀ b, o.ownBlock = some b → b < W.heap.size := fun b hb => (ho.lt b hb).2
    have hw1 := hw.alloc (.cells #[.pointer (some ⟨wb, 0, none⟩)] 96)
    have hm1 := hm.alloc (.cells #[.pointer (some ⟨wb, 0, none⟩)] 96)
    have ho1 := own_alloc ho (.cells #[.pointer (some ⟨wb, 0, none⟩)] 96)
    have hp1 := Has.new W 96 #[.pointer (some ⟨wb, 0, none⟩)]
    have hf1 := Fr.alloc w0.heap.size wb mc o W (.cells #[.pointer (some ⟨wb, 0, none⟩)] 96) (by omega)
    have m2 := hw1.cell 2
    have p0 := hp1.cell 0
    have z4 := hw1.cell 4
    have f4 := hw1.free 4
    have wlt := hw1.lt
    have plt := hp1.lt
    simp only [List.getElem?_toArray, List.getElem?_cons_zero, List.getElem?_cons_succ] at m2 p0 z4
    have HW1 := Lib.hid hw1
    have HM1 := Lib.hid hm1
    have HO1 := Lib.hid ho1
    have HP1 := Lib.hid hp1
    have HF1 := Lib.hid hf1
    clear hw hm ho hw1 hm1 ho1 hp1 hf1 hV
    refine (callsIn_wide (n := 5)).1 ?_
    refine callsIn_of_wp_marks Try.func83 rfl trivial ?_ rfl
    simp only [Try.ntmps83, List.size_toArray, List.length_cons, List.length_nil, Nat.reduceAdd, Nat.reduceSub, Array.replicate_succ, Array.replicate_zero, List.push_toArray, List.append_toArray, List.nil_append, List.cons_append]
    cases hcol : wk.col c with
    | some b =>
      cases b with
      | false =>
        have hval : (cols wk.col c).getD 0 = 1 := by unfold cols; rw [hcol]; rfl
        have hvis : Hr.visit L (d + 1) wk c = { wk with ring := true } := by unfold Hr.visit; rw [hcol]
        gi_wp2_with (gi_at_lookup; refine wpIn_at rfl _ _ rfl Try.underlying9 tMap Try.underlying3 (zInt _) rfl HM1.out c rfl hn _ hval ?_)
        have hW2 := HW1.out.set 4 (.bool true)
        simp only [List.setIfInBounds_toArray, List.set_cons_zero, List.set_cons_succ] at hW2
        refine leaves_marks [] _ List.nodup_nil (fun _ h => by cases h) ?_
        refine ⟨.tuple #[], results_no rfl _ _, ⟨_, rfl⟩, o, ?_, HF1.out.trans (Fr.grown (grown_set _ wb 4 _) (by simp; omega) (fun b e => by cases e; omega) (fun b e => by cases e; exact .inl rfl) (.inl rfl))⟩
        rw [hvis]
        exact ⟨hW2, ⟨q, HM1.out.kept (grown_set _ wb 4 _) (by simpa using hne.symm), hq⟩, HO1.out.kept (grown_set _ wb 4 _) (.inr (own_apart HO1.out HW1.out (by decide)).symm)⟩
      | true =>
        have hval : (cols wk.col c).getD 0 = 2 := by unfold cols; rw [hcol]; rfl
        have hvis : Hr.visit L (d + 1) wk c = wk := by unfold Hr.visit; rw [hcol]
        gi_wp2_with (gi_at_lookup; refine wpIn_at rfl _ _ rfl Try.underlying9 tMap Try.underlying3 (zInt _) rfl HM1.out c rfl hn _ hval ?_)
        refine leaves_marks [] _ List.nodup_nil (fun _ h => by cases h) ?_
        refine ⟨.tuple #[], results_no rfl _ _, ⟨_, rfl⟩, o, ?_, HF1.out⟩
        rw [hvis]
        exact ⟨HW1.out, ⟨q, HM1.out, hq⟩, HO1.out⟩
    | none =>
      have hval : (cols wk.col c).getD 0 = 0 := by unfold cols; rw [hcol]; rfl
      have hvis : Hr.visit L (d + 1) wk c = (let w1 := (Hr.parents L c).foldl (Hr.visit L d) { wk with col := upd wk.col c false }; { w1 with col := upd w1.col c true, order := w1.order ++ [c] }) := by
        conv => lhs; unfold Hr.visit
        rw [hcol]
      have hpale := Hr.pale_lt U (Hr.upd_later wk.col c false) hc hcol (by rw [Hr.upd_same]; simp)
      have hfr := Hr.fresh_step L wk c d hcol hf
      have hq1 : q < maxLen := by simp [maxLen]; omega
      have hwf1 : (Lit.int .i64 1).wf = true := by decide
      gi_wp2_with (first
        | (gi_at_lookup; refine wpIn_at rfl _ _ rfl Try.underlying9 tMap Try.underlying3 (zInt _) rfl HM1.out c rfl hn _ hval ?_)
        | (gi_at_mapUpdate; refine wpIn_put rfl _ _ _ rfl Try.underlying9 tMap Try.underlying3 rfl HM1.out hq1 c rfl hn 1 rfl hwf1 (fun W2 hm2 hg2 => ?_)
           have hw2 := HW1.out.grown hg2 (by simpa using hne)
           have hp2 := HP1.out.grown hg2 (by simp; omega)
           have ho2 := HO1.out.kept hg2 (.inr (HM1.out.apart HO1.out).symm)
           have hfr2 := HF1.out.trans (Fr.grown (G := w0.heap.size) (wb := wb) (mc := mc) (o := o) (o' := o) hg2 (by simp; omega) (fun b e => by cases e; omega) (fun b e => by cases e; exact .inr (.inl rfl)) (.inl rfl))
           have hsz2 : W.heap.size + 1 ≤ W2.heap.size := by have := hg2.size; simpa using this
           have g0 := hw2.cell 0
           have g1' := hw2.cell 1
           have p2 := hp2.cell 0
           have wlt2 := hw2.lt
           have plt2 := hp2.lt
           simp only [List.getElem?_toArray, List.getElem?_cons_zero, List.getElem?_cons_succ] at g0 g1' p2
           have HW2 := Lib.hid hw2
           have HP2 := Lib.hid hp2
           have HO2 := Lib.hid ho2
           have HF2 := Lib.hid hfr2
           have HM2 := Lib.hid hm2
           clear hw2 hp2 ho2 hfr2 hm2 hg2 p0 m2 z4 f4 HM1 HO1 HP1 HF1 HW1 wlt plt)
        | (refine ⟨trivial, ?_⟩; gi_at_call 52; refine (callsIn_wide.2 (parents_any _ _ A L.length cp (some m) c _ rfl rfl)).mono ?_; rintro e w' ⟨rfl, rfl⟩))
      obtain ⟨X, hX⟩ : ∃ X, X = W2.heap.size := ⟨_, rfl⟩
      obtain ⟨W3, hW3⟩ : ∃ W3, W3 = (W2.alloc (.cells #[.slice A L.length cp, .map (some m)] 73)).alloc (.cells #[nm c] 9) := ⟨_, rfl⟩
      have hbg : Has W3 X 73 #[.slice A L.length cp, .map (some m)] := by rw [hW3, hX]; exact (Has.new _ _ _).alloc _
      have hbc : Has W3 (X + 1) 9 #[nm c] := by
        rw [hW3, hX]
        have h := Has.new (W2.alloc (.cells #[.slice A L.length cp, .map (some m)] 73)) 9 #[nm c]
        rwa [World.size_alloc] at h
      have hfr3 : Fr w0.heap.size wb mc o o W W3 := by
        rw [hW3]
        exact (HF2.out.trans (Fr.alloc _ _ _ _ _ _ (by omega))).trans (Fr.alloc _ _ _ _ _ _ (by rw [World.size_alloc]; omega))
      have hsz3 : W3.heap.size = X + 2 := by rw [hW3, hX]; simp
      have hp3 : Has W3 W.heap.size 96 #[.pointer (some ⟨wb, 0, none⟩)] := by rw [hW3]; exact (HP2.out.alloc _).alloc _
      have hwk3 : WkAt wb mc B A L.length cp m U o { wk with col := upd wk.col c false } (M - 1) W3 := by
        rw [hW3]
        refine ⟨(HW2.out.alloc _).alloc _, ⟨q + 1, ?_, by dsimp only; omega⟩, own_alloc (own_alloc HO2.out _) _⟩
        have h := (HM2.out.alloc (.cells #[.slice A L.length cp, .map (some m)] 73)).alloc (.cells #[nm c] 9)
        rw [cols_upd]
        exact h
      rw [← hW3]
      have hX2 : W.heap.size + 1 ≤ X := by omega
      rw [← hX]
      clear hW3 hX HW2 HP2 HO2 HF2 HM2 g0 g1' p2 wlt2 plt2 hsz2
      have gfOf : ∀ (o' : Value) (Wx : World), Fr w0.heap.size wb mc o o' W3 Wx → GF X (X + 1) A cp m k L c Wx := fun o' Wx h => by
        have hb := (hB0.trans hfr3.below).trans h.below
        have e : ∀ j, W.heap.size ≤ j → j < W3.heap.size → Wx.heap[j]? = W3.heap[j]? := fun j hj1 hj2 => h.keep j hj2 (by omega) (by omega) (fun e => by have := hoW j e.symm; omega)
        exact ⟨(e X (by omega) (by omega)).trans hbg, (e (X + 1) (by omega) (by omega)).trans hbc, HV.out.hl.below hb (Nat.le_refl _), HV.out.hm.below hb HV.out.hm.lt, hn⟩
      have pOf : ∀ (o' : Value) (Wx : World), Fr w0.heap.size wb mc o o' W3 Wx → Has Wx W.heap.size 96 #[.pointer (some ⟨wb, 0, none⟩)] := fun o' Wx h =>
        (h.keep W.heap.size (by omega) (by omega) (by omega) (fun e => by have := hoW _ e.symm; omega)).trans hp3
      have hwt1 : Hr.weight U { wk with col := upd wk.col c false } ≤ K := by unfold Hr.weight at hwt ⊢; dsimp only; omega
      have GOF := Lib.hid gfOf
      have POF := Lib.hid pOf
      have HVIS := Lib.hid hvis
      have hG3 := gfOf o W3 (Fr.refl _ _ _ _ _)
      clear gfOf pOf hvis hbg hbc hp3
      refine wpIn_rangeFunc_ownG rfl (by decide) (gf := 85) (lb := #[.pointer (some ⟨X, 0, none⟩), .pointer (some ⟨X + 1, 0, none⟩)]) rfl trivial (enters_of Try.func85 (by kernel_rfl) rfl)
        (parents_stops 4 (by decide) X (X + 1) A cp m k L c W3 hG3 HV.out.hL) (fun h k g => k (h g)) ?hKb (Below.refl _ _) (fun _ => rfl)
        (fun pre Wx => ∃ o', WkAt wb mc B A L.length cp m U o' ((pre.map (·.1)).foldl (Hr.visit L d) { wk with col := upd wk.col c false }) (M - 1) Wx ∧ Fr w0.heap.size wb mc o o' W3 Wx)
        (fun _ _ _ => False)
        ?hI (fun _ _ _ _ _ h _ _ => h) ⟨o, hwk3, Fr.refl _ _ _ _ _⟩
        (fun x : Up L => { tmps := #[.pointer (some ⟨wb, 0, none⟩), nm c, .pointer (some ⟨W.heap.size, 0, none⟩), undef, nm x.1, .pointer (some ⟨wb, 0, none⟩), .pointer (some ⟨wb, 0, none⟩), .pointer (some ⟨wb, 2, none⟩), .map (some mc), nm c, .int .i64 0, .bool false, .bool false, undef, undef, undef, .bool false, .bool false, .pointer (some ⟨wb, 0, none⟩), .pointer (some ⟨wb, 0, none⟩), .pointer (some ⟨wb, 2, none⟩), .map (some mc), nm c, .pointer (some ⟨wb, 0, none⟩), .pointer (some ⟨wb, 0, none⟩), .pointer (some ⟨wb, 0, none⟩), .agg #[.slice A L.length cp, .map (some m)], nm c, .func (.func 85) #[] #[.pointer (some ⟨X, 0, none⟩), .pointer (some ⟨X + 1, 0, none⟩)], nm x.1, undef, undef, undef, undef, undef, undef, undef, undef, undef, undef, undef, undef, undef, undef, undef, undef, undef, undef], defers := [] }) ?assign ?body ?done (fun _ _ _ _ _ _ h => h.elim)
      case hKb =>
        intro Wa l ob ob' hl hlo hoc _ hg
        refine hg.grown (fun p v h => cell_kept h (grownBy_putObj' Wa l ob') (fun r e => by cases e; exact ⟨ob, hlo, hoc⟩)) (fun j hj => World.putObj_heap_other ?_)
        have := HV.out.hm.lt
        rcases hj with rfl | rfl | rfl <;> omega
      case hI =>
        rintro pre Wa Wb row ⟨o', hw, hf⟩ hg hr
        have hs := hf.below.size
        have hlt := hw.hw.lt
        refine ⟨o', ⟨hw.hw.grown hg (fun e => by have := (hr _ e.symm).1; omega), ?_, hw.ho.kept hg ?_⟩, ⟨hf.below.grown hg (by omega) (fun b e => by have := (hr b e).1; omega), fun j hj a1 a2 a3 => ?_, hf.row⟩⟩
        · obtain ⟨q', h1, h2⟩ := hw.hm
          exact ⟨q', h1.kept hg (fun e => by have := (hr _ e.symm).1; omega), h2⟩
        · cases row with
          | none => cases hob : o'.ownBlock <;> simp
          | some r =>
            obtain ⟨_, ob, h1, h2⟩ := hr r rfl
            exact .inr (own_not hw.ho h1 h2)
        · exact (hg.block j (by omega) (fun e => by have := (hr _ e.symm).1; omega)).trans (hf.keep j hj a1 a2 a3)
      case assign =>
        intro l x Wx K hK
        gi_wp2
        exact hK
      case body =>
        rintro l pre x Wx ⟨o', hw, hf⟩ hlN
        have hp := POF.out o' Wx hf
        have px := hp.cell 0
        have pxlt := hp.lt
        simp only [List.getElem?_toArray, List.getElem?_cons_zero] at px
        have hs := hf.below.size
        have hxU : ∀ y : Up L, y.1 ∈ U := fun y => by
          obtain ⟨z, hz, he⟩ := List.mem_map.1 y.2
          rw [← he]
          exact HV.out.hU z hz
        have hpn : Hr.parents L c ≠ [] := fun e => by rw [e] at hlN; exact absurd hlN (Nat.not_lt_zero _)
        have hlater : Hr.Later { wk with col := upd wk.col c false } ((pre.map (·.1)).foldl (Hr.visit L d) { wk with col := upd wk.col c false }) := Hr.foldl_later (fun w c => Hr.visit_later L d w c) _ _
        have hfr' := Hr.fresh_later L hlater (hfr hpn)
        have hwt' := Nat.le_trans (Hr.foldl_weight (U := U) (f := Hr.visit L d) (fun w c hc => Hr.visit_weight L U HV.out.hU d w c hc) (pre.map (·.1)) { wk with col := upd wk.col c false } (fun y hy => by
          obtain ⟨z, _, he⟩ := List.mem_map.1 hy
          rw [← he]
          exact hxU z)) hwt1
        have hih := IH.out _ o' (M - 1) x.1 Wx ((hB0.trans hfr3.below).trans hf.below) hw (hxU x) hfr' hwt' (by omega) (by omega)
        have hfo : (List.map (fun y : Up L => y.1) (pre ++ [x])).foldl (Hr.visit L d) { wk with col := upd wk.col c false } = Hr.visit L d ((pre.map (·.1)).foldl (Hr.visit L d) { wk with col := upd wk.col c false }) x.1 := by
          rw [List.map_append, List.foldl_append]; rfl
        have IHX := Lib.hid hih
        have HFO := Lib.hid hfo
        have HW := Lib.hid hw
        have HFX := Lib.hid hf
        clear hih hfo hw hf hwt' hfr' hlater
        gi_wp2_with (refine ⟨trivial, ?_⟩; gi_at_call 83; refine (CallsIn.inRound l (callsIn_wide.2 IHX.out)).mono ?_; rintro e W4 ⟨⟨v, rfl⟩, o4, hw4, hf4⟩)
        have hf5 := HFX.out.trans hf4
        refine ⟨⟨hf4.below.size, fun j ob hj h1 h2 => (hf4.keep j (Array.getElem?_eq_some_iff.1 h1).1 (by omega) (by omega) (fun e => own_not HW.out.ho h1 h2 e.symm)).trans h1⟩, fun _ => GOF.out o4 W4 hf5, o4, ?_, hf5⟩
        rw [HFO.out]
        exact hw4
      case done =>
        rintro D xs Wx hD hS ⟨o', hw, hf⟩ hK
        rw [hS] at hw
        have hp := POF.out o' Wx hf
        have px := hp.cell 0
        have pxlt := hp.lt
        have hs := hf.below.size
        have hwt' := Hr.foldl_weight (U := U) (f := Hr.visit L d) (fun w c hc => Hr.visit_weight L U HV.out.hU d w c hc) (Hr.parents L c) { wk with col := upd wk.col c false } (fun y hy => HV.out.hU _ (Hr.parents_mem L c y hy))
        have hpl2 := Hr.pale_le U (Hr.upd_later ((Hr.parents L c).foldl (Hr.visit L d) { wk with col := upd wk.col c false }).col c true)
        have hol : ((Hr.parents L c).foldl (Hr.visit L d) { wk with col := upd wk.col c false }).order.length ≤ 1000000 := by have := HV.out.hK; unfold Hr.weight at hwt' hwt1; dsimp only at hwt' hwt1; omega
        have hvis := HVIS.out
        generalize (Hr.parents L c).foldl (Hr.visit L d) { wk with col := upd wk.col c false } = wz at *
        obtain ⟨hwz, ⟨q', hmz, hqz⟩, hoz⟩ := hw
        have z0 := hwz.cell 0
        have z1 := hwz.cell 1
        have z2 := hwz.cell 2
        have z3 := hwz.cell 3
        have z4 := hwz.cell 4
        have wlt3 := hwz.lt
        simp only [List.getElem?_toArray, List.getElem?_cons_zero, List.getElem?_cons_succ] at px z0 z1 z2 z3 z4
        have hq2 : q' < maxLen := by simp [maxLen]; omega
        have hwf2 : (Lit.int .i64 2).wf = true := by decide
        have HMZ := Lib.hid hmz
        have HWZ := Lib.hid hwz
        have HOZ := Lib.hid hoz
        have HPZ := Lib.hid hp
        have HFZ := Lib.hid hf
        have HVZ := Lib.hid hvis
        clear hmz hwz hoz hp hf hvis HVIS hwt'
        gi_wp2_with (first
          | (gi_at_mapUpdate; refine wpIn_put rfl _ _ _ rfl Try.underlying9 tMap Try.underlying3 rfl HMZ.out hq2 c rfl hn 2 rfl hwf2 (fun W5 hm5 hg5 => ?_)
             have hw5 := HWZ.out.grown hg5 (by simpa using hne)
             have hp5 := HPZ.out.grown hg5 (by simp; omega)
             have ho5 := HOZ.out.kept hg5 (.inr (HMZ.out.apart HOZ.out).symm)
             have hf5 := HFZ.out.trans (Fr.grown (G := w0.heap.size) (wb := wb) (mc := mc) (o := o') (o' := o') hg5 (by omega) (fun b e => by cases e; omega) (fun b e => by cases e; exact .inr (.inl rfl)) (.inl rfl))
             have hK5 : W5.heap[D]? = some (.deferred (some [])) := (hg5.block D (Array.getElem?_eq_some_iff.1 hK).1 (fun e => by cases e; omega)).trans hK
             have hsz5 := hg5.size
             have y3 := hw5.cell 3
             have p5 := hp5.cell 0
             have ylt := hw5.lt
             have p5lt := hp5.lt
             simp only [List.getElem?_toArray, List.getElem?_cons_zero, List.getElem?_cons_succ] at y3 p5
             have HW5 := Lib.hid hw5
             have HP5 := Lib.hid hp5
             have HO5 := Lib.hid ho5
             have HF5 := Lib.hid hf5
             have HM5 := Lib.hid hm5
             have HK5 := Lib.hid hK5
             clear hw5 hp5 ho5 hf5 hm5 hK5 hg5 z0 z1 z2 z3 z4 px pxlt wlt3 HMZ HWZ HOZ HPZ HFZ hK))
        refine wpIn_wide.2 ?_
        simp only [Act.put]
        have hnews : ∀ j u, ([nm c] : List Value)[j]? = some u → (W5.alloc (.cells #[nm c] 9)).drew.cell? ((⟨W5.heap.size, 0, none⟩ : Addr).add j) = some u := fun j u h => World.news_of_block (w := (W5.alloc (.cells #[nm c] 9)).drew) (B := W5.heap.size) (cs := #[nm c]) (t := 9) (fr := (0, 0)) (Has.new W5 9 #[nm c]) j u h
        have N1 := Lib.hid hnews
        have N2 : Hid ((W5.alloc (.cells #[nm c] 9)).drew.ownsRow B 9 1 o' wz.order.length (nmRow wz.order)) := own_drew (own_alloc HO5.out _)
        have N3 : Hid (Has (W5.alloc (.cells #[nm c] 9)).drew wb 95 #[.slice A L.length cp, .map (some m), .map (some mc), o', .bool wz.ring]) := HW5.out.alloc _
        have N4 : Hid (Has (W5.alloc (.cells #[nm c] 9)).drew W.heap.size 96 #[.pointer (some ⟨wb, 0, none⟩)]) := HP5.out.alloc _
        have N6 : Hid ((W5.alloc (.cells #[nm c] 9)).drew.heap.size = W5.heap.size + 1) := by show _ = _; simp
        have N7 : Hid (B ≤ (W5.alloc (.cells #[nm c] 9)).drew.heap.size) := by rw [N6.out]; show _ ≤ _; omega
        have N8 : Hid (wz.order.length + 1 ≤ maxLen) := by show _ ≤ _; unfold maxLen; omega
        have N9 : Hid ((wz.order.length + 1) * 16 ≤ 140737488355328) := by show _ ≤ _; omega
        clear hnews
        refine Code.wp_mono (Q := fun e a' Wf => match e with
          | .normal => ∃ g cap w1, a'.defers = [{ target := .collected D, args := #[] }] ∧ Wf = w1.setCell ⟨wb, 3, none⟩ (.slice (some ⟨g, 0, none⟩) (wz.order.length + 1) cap) ∧ w1.ownsRow B 9 1 (.slice (some ⟨g, 0, none⟩) (wz.order.length + 1) cap) (wz.order.length + 1) (nmRow wz.order ++ [nm c]) ∧ (W5.alloc (.cells #[nm c] 9)).drew.grownBy w1 o'.ownBlock ∧ (o'.ownBlock = some g ∨ g = W5.heap.size + 1)
          | _ => False) ?behind ?region
        case region =>
          go_region_law ((refine step_append_lies _ rfl (.tmp 42) (.tmp 44) 26 rfl B 9 i0 (.string ⟨#[]⟩) 1 16 Try.underlying26 hi hz0 hz1 hz2 rfl ?_ o' wz.order.length (nmRow wz.order) ?_ ?_ ⟨W5.heap.size, 0, none⟩ 1 1 [nm c] ?_ rfl ?_ ?_ ?_ N8.out N9.out ?_ (W5.heap.size + 1) ?_ ?_; decide; simp [Act.eval]; exact N2.out; simp [Act.eval]; exact N1.out; simp [Value.oneCell']; decide; exact N7.out; exact N6.out; intro g cap w1 hown1 hg1 hat1 hlt1; have hb3 := Has.grown N3.out hg1 (own_apart N2.out N3.out (by decide)); have hb4 := Has.grown N4.out hg1 (own_apart N2.out N4.out (by decide)); have k1 := hb3.cell 3; have q1 := hb3.free 3; have k2 := hb4.cell 0))
          all_goals exact ⟨g, cap, w1, rfl, rfl, hown1, hg1, hat1⟩
        case behind =>
          rintro e a' Wf h
          cases e with
          | normal =>
            obtain ⟨g, cap, w1, hdef, rfl, hown1, hg1, hat1⟩ := h
            have hb3 := (N3.out.grown hg1 (own_apart N2.out N3.out (by decide))).set 3 (.slice (some ⟨g, 0, none⟩) (wz.order.length + 1) cap)
            have hb3' := N3.out.grown hg1 (own_apart N2.out N3.out (by decide))
            simp only [List.setIfInBounds_toArray, List.set_cons_zero, List.set_cons_succ] at hb3
            have hm7 : MI (W5.alloc (.cells #[nm c] 9)).drew mc (q' + 1) (upd (cols wz.col) c 2) := HM5.out.alloc _
            have hm8 := (hm7.kept hg1 (hm7.apart N2.out)).kept (grown_set w1 wb 3 (.slice (some ⟨g, 0, none⟩) (wz.order.length + 1) cap)) (by simpa using hne.symm)
            have ho8 := hown1.kept (grown_set w1 wb 3 (.slice (some ⟨g, 0, none⟩) (wz.order.length + 1) cap)) (.inr (own_apart hown1 hb3' (by decide)).symm)
            have hs7 := hg1.size
            have hD7 : w1.heap[D]? = some (.deferred (some [])) := (hg1.block D (by have := (Array.getElem?_eq_some_iff.1 HK5.out).1; rw [N6.out]; omega) (fun e => own_not N2.out (Has.alloc' HK5.out) rfl e.symm)).trans (Has.alloc' HK5.out)
            have hD8 : (w1.setCell ⟨wb, 3, none⟩ (.slice (some ⟨g, 0, none⟩) (wz.order.length + 1) cap)).heap[D]? = some (.deferred (some [])) := (Below.heap_setCell _ _ _ _ (by show D ≠ wb; omega)).trans hD7
            have hfr7 : Fr w0.heap.size wb mc o o' W (W5.alloc (.cells #[nm c] 9)).drew := ((hfr3.trans HF5.out).trans (Fr.alloc _ _ _ _ _ _ (by omega))).drew
            have hfr8 : Fr w0.heap.size wb mc o (.slice (some ⟨g, 0, none⟩) (wz.order.length + 1) cap) W w1 := hfr7.trans (Fr.grown hg1 (by rw [N6.out]; omega) (fun b e => by have := own_ge N2.out e; omega) (fun b e => .inr (.inr (.inl e.symm))) (by
              rcases hat1 with h | h
              · exact .inl h.symm
              · refine .inr fun b hb => ?_
                cases hb
                have e6 := N6.out
                rw [e6, h]
                exact Nat.le_refl _))
            have hfr9 := hfr8.trans (Fr.grown (o' := .slice (some ⟨g, 0, none⟩) (wz.order.length + 1) cap) (grown_set w1 wb 3 (.slice (some ⟨g, 0, none⟩) (wz.order.length + 1) cap)) (by have := N6.out; omega) (fun b e => by cases e; omega) (fun b e => by cases e; exact .inl rfl) (.inl rfl))
            have hgD := grownBy_putObj' (w1.setCell ⟨wb, 3, none⟩ (.slice (some ⟨g, 0, none⟩) (wz.order.length + 1) cap)) D (.deferred none)
            have hfrF := hfr9.late hgD (by omega) (by omega)
            obtain ⟨tm, df⟩ := a'
            cases hdef
            refine leaves_marks [D] _ (by simp) (fun E hE => by rw [List.mem_singleton.1 hE]; exact hD8) ?_
            refine ⟨.tuple #[], results_no rfl _ _, ⟨_, rfl⟩, _, ?_, hfrF⟩
            rw [HVZ.out]
            refine ⟨hb3.grown hgD (by simp; omega), ⟨q' + 1, ?_, by dsimp only; omega⟩, ?_⟩
            · dsimp only
              rw [cols_upd]
              exact hm8.kept hgD (by simp; omega)
            · dsimp only
              rw [nmRow_snoc, List.length_append]
              exact ho8.kept hgD (.inr (own_not ho8 hD8 rfl))
          | _ => exact h.elim
end Go.Proofs.Ytojfimbanaijdaa
