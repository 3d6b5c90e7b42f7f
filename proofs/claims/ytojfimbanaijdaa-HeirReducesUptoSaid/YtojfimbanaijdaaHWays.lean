/-
  What Ways returns, in package heir, of a valid system and two classes of it: sums in 64 bits.
-/
import Derived.Test.YtojfimbanaijdaaHWayO
import Derived.Test.YtojfimbanaijdaaHLeast
import Derived.OpenShut
namespace Go.Proofs.Ytojfimbanaijdaa
open Go.RowKit Go.Shelf
attribute [local go_sem] Oper.semAt_some

namespace Hr
def waysStep (x : Nm) (f : Nm → Option Int) (p : Nm) : Nm → Option Int := upd f x (wrap64 ((f x).getD 0 + (f p).getD 0))
def waysIn (L : List (Nm × Nm)) (x : Nm) (f : Nm → Option Int) : Nm → Option Int := (parents L x).foldl (waysStep x) f
def waysW (L : List (Nm × Nm)) (c a : Nm) : Int := (((above L c).foldl (fun f x => waysIn L x f) (upd (fun _ => none) a 1)) c).getD 0
theorem five_waysW : waysW (links five) [69] [65] = 3 := by decide +kernel
end Hr

theorem run_putI {w : World} {b n : Nat} {f : Hr.Nm → Option Int} (h : MI w b n f) (hn : n < maxLen) (N : Hr.Nm) (hs : N.length ≤ 140737488355328) (c : Int) (hw : (Lit.int .i64 c).wf = true) :
    ∃ w', (Instr.mapUpdate 58 (.map (some b)) (nm N) (.int .i64 c)).run Try.prog w = .ok () w' ∧ MI w' b (n + 1) (upd f N c) ∧ w.grownBy w' (some b) := by
  obtain ⟨D, h1, h2, h3⟩ := h
  obtain ⟨w', hrun, r1, r2⟩ := h1.update (Maps.string_keyed Try.underlying9) tMap hn (WideMaps.keyOf_string_mk Try.underlying9 (size_fine hs)) (plainElem_int Try.underlying3 hw)
  refine ⟨w', hrun, ?_, r2⟩
  have h4 := MapI.put h2 h3 N c
  rw [show (⟨N.toArray⟩ : ByteArray).data.toList = N from by simp] at r1
  exact ⟨_, r1, put_isMap h2, h4⟩

/-- Between two classes. -/
def WaysAt (w4 : World) (mb : Nat) (L : List (Hr.Nm × Hr.Nm)) (ab : List Hr.Nm) (f0 : Hr.Nm → Option Int) (k : Nat) (Ds : List Nat) (wr : World) : Prop :=
  Ds.Nodup ∧ (∀ D ∈ Ds, w4.heap.size ≤ D) ∧ (∀ D ∈ Ds, wr.heap[D]? = some (.deferred (some []))) ∧ w4.grownBy wr (some mb) ∧
    MI wr mb (1 + k * 400000) ((ab.take k).foldl (fun f x => Hr.waysIn L x f) f0)
def WaysI (v : Value) (c a : Hr.Nm) (w4 : World) (mb mc g2 B : Nat) (A : Option Addr) (cp m : Nat) (oA : Option Addr) (oc : Nat) (L : List (Hr.Nm × Hr.Nm)) (ab : List Hr.Nm) (f0 : Hr.Nm → Option Int) (act : Act) (wr : World) : Prop :=
  ∃ (k : Nat) (u12 u13 u33 u34 u35 u36 u37 u38 u39 u40 u41 u42 u43 u44 u45 u46 u47 u48 u49 : Value) (Ds : List Nat), k ≤ ab.length ∧ WaysAt w4 mb L ab f0 k Ds wr ∧
    act = { tmps := #[v, nm c, nm a, undef, undef, undef, .int .i64 0, .int .i64 0, .pointer (some ⟨g2, 0, none⟩), .int .i64 0, .pointer (some ⟨mc, 0, none⟩), undef, u12, u13, .tuple #[.agg #[.slice A L.length cp, .map (some m)], .int .i64 0], v, nm c, nm a, .slice (some ⟨B, 0, none⟩) 2 2, .tuple #[.agg #[.slice A L.length cp, .map (some m)], .int .i64 0], .agg #[.slice A L.length cp, .map (some m)], .int .i64 0, .int .i64 0, .bool false, undef, .map (some mb), nm a, .map (some mb), .agg #[.slice A L.length cp, .map (some m)], nm c, .slice oA ab.length oc, .int .i64 ab.length, .int .i64 k, u33, u34, u35, u36, u37, u38, u39, u40, u41, u42, u43, u44, u45, u46, u47, u48, u49, undef], defers := Ds.map mark }
def WaysMu (n : Nat) (a : Act) (_ : World) : Nat := n - (intOf (a.tmps.getD 32 undef)).toNat

set_option maxRecDepth 100000 in
set_option maxHeartbeats 2000000 in
theorem Ways_ok (v : Value) (S : List Hr.Cls) (c a : Hr.Nm) (w : World) (h : SysAt w v S) (hV : Hr.Valid S) (hc : c.length ≤ 140737488355328) (ha : a.length ≤ 140737488355328) (hin : (Hr.firstAt S c).isSome = true) (hina : (Hr.firstAt S a).isSome = true) :
    Calls Try.prog 21 #[v, nm c, nm a] w fun e w' => e = .returned (.tuple #[.int .i64 (Hr.waysW (Hr.links S) c a), .int .i64 0]) ∧ Below w.heap.size w w' := by
  have hLL := hV.hL
  have hB1 : Below w.heap.size w (w.alloc (.cells #[nm c, nm a] 9)) := (Below.refl _ _).alloc (Nat.le_refl _) _
  have HE := Lib.hid (enter_ok v _ S [c, a] _ (h.below hB1 (Nat.le_refl _)) hV (nms_laid w [c, a] 2) (by simp) (fun s hs => by
    rcases List.mem_cons.1 hs with h | h
    · rw [h]; exact hc
    · rw [List.mem_singleton.1 h]; exact ha) (fun s hs => by
    rcases List.mem_cons.1 hs with h | h
    · rw [h]; exact hin
    · rw [List.mem_singleton.1 h]; exact hina))
  have HB1 := Lib.hid hB1
  clear h hV hin hina hB1
  have hbd : Hr.waysW (Hr.links S) c a = (((Hr.above (Hr.links S) c).foldl (fun f x => Hr.waysIn (Hr.links S) x f) (upd (fun _ => none) a 1)) c).getD 0 := rfl
  have HBD := Lib.hid hbd
  clear hbd
  generalize Hr.waysW (Hr.links S) c a = res at *
  generalize Hr.links S = L at *
  have hal := Hr.above_length L c
  have hmm := @run_makeMap Try.prog
  refine (callsIn_wide (n := 5)).1 ?_
  refine callsIn_of_wp_marks Try.func21 rfl trivial ?_ rfl
  simp only [Try.ntmps21, List.size_toArray, List.length_cons, List.length_nil, Nat.reduceAdd, Nat.reduceSub, Array.replicate_succ, Array.replicate_zero, List.push_toArray, List.append_toArray, List.nil_append, List.cons_append]
  gi_wp2_with (first
    | (refine ⟨trivial, ?_⟩; gi_at_call 34; refine (callsIn_wide.2 HE.out).mono ?_
       rintro e w2 ⟨x, rfl, hg2, hb2⟩
       obtain ⟨A, cp, m, rfl, hgc⟩ := GC.of hg2
       have hb3 : Below w2.heap.size w2 (w2.alloc (.cells #[.slice A L.length cp, .map (some m)] 73)) := (Below.refl _ _).alloc (Nat.le_refl _) _
       have HB3 := Lib.hid (stepN (stepN HB1.out hb2) hb3)
       have hm0 : MI ((w2.alloc (.cells #[.slice A L.length cp, .map (some m)] 73)).alloc (.map #[] 0)) (w2.heap.size + 1) 0 (fun _ => none) := by
         have h := MapI.made (P := Try.prog) (k := 9) (e := 3) (w2.alloc (.cells #[.slice A L.length cp, .map (some m)] 73))
         rwa [World.size_alloc] at h
       have hsz2 := (stepN HB1.out hb2).size
       obtain ⟨w3, hrun, hm3, hg3⟩ := run_putI hm0 (by unfold maxLen; omega) a ha 1 (by decide)
       have hbX : Below (w2.alloc (.cells #[.slice A L.length cp, .map (some m)] 73)).heap.size (w2.alloc (.cells #[.slice A L.length cp, .map (some m)] 73)) (w3.alloc (.cells #[.map (some (w2.heap.size + 1))] 58)) :=
         (((Below.refl _ _).alloc (Nat.le_refl _) _).grown hg3 (by simp) (fun b e => by cases e; simp)).alloc (by have := hg3.size; simp at this ⊢; omega) _
       obtain ⟨A', cp', m', kk, hgg, hll, hmm⟩ := id hgc
       have hvv := hgg.cell 0
       have hvw := hgg.cell 1
       rw [(Has.new w2 _ _).cell] at hvv hvw
       simp only [List.getElem?_toArray, List.getElem?_cons_zero, List.getElem?_cons_succ] at hvv hvw
       cases hvv
       cases hvw
       have hg4 := hgg.below hbX hgg.lt
       have g0 := hg4.cell 0
       have g1 := hg4.cell 1
       have glt := hg4.lt
       simp only [List.getElem?_toArray, List.getElem?_cons_zero, List.getElem?_cons_succ] at g0 g1
       have hs3 := hg3.size
       rw [World.size_alloc, World.size_alloc] at hs3
       have HAB := Lib.hid (above_any A cp m kk L c _ (hll.below hbX (Nat.le_refl _)) (hmm.below hbX hmm.lt) hc (by omega))
       have HM4 := Lib.hid (hm3.alloc (.cells #[.map (some (w2.heap.size + 1))] 58))
       have HC4 := Lib.hid (Has.new w3 58 #[.map (some (w2.heap.size + 1))])
       have HBX := Lib.hid hbX
       have HGG := Lib.hid hgg
       have HLL := Lib.hid hll
       have HMM := Lib.hid hmm
       have HFN := Lib.hid (above_fine hgc.fine hc)
       clear hg2 hb2 hb3 hgc hm0 hm3 hg3 hbX hgg hll hmm hg4)
    | (refine ⟨trivial, ?_⟩; gi_at_call 57; refine (callsIn_wide.2 HAB.out).mono ?_
       rintro e w4 ⟨o, rfl, ho4, hb4⟩
       obtain ⟨oA, oc, rfl⟩ := own_len ho4
       have HN4 := Lib.hid (NmsAt.of_own ho4)
       have HM5 := Lib.hid (HM4.out.below hb4 HM4.out.lt)
       have HC5 := Lib.hid (HC4.out.below hb4 HC4.out.lt)
       have HBG := Lib.hid (stepN HBX.out hb4)
       clear ho4 hb4))
  obtain ⟨es4, clock4, hmo4⟩ : ∃ es clock, w4.heap[w2.heap.size + 1]? = some (.map es clock) := by
    obtain ⟨D, ⟨es, clock, h4, _⟩, _⟩ := HM5.out
    exact ⟨es, clock, h4⟩
  have hsG : (w2.alloc (.cells #[.slice A L.length cp, .map (some m)] 73)).heap.size = w2.heap.size + 1 := by simp
  have hmlt := HMM.out.lt
  have hB4 : Below w.heap.size w w4 := stepN HB3.out HBG.out
  have hsz34 := HC5.out.lt
  clear HE HB1 HB3 HAB HM4 HC4 HBX hrun g0 g1
  have hbd := HBD.out
  clear HBD
  rw [hsG] at hmlt
  generalize hfa : (upd (fun _ => none) a (1 : Int) : Hr.Nm → Option Int) = f0 at *
  generalize Hr.above L c = ab at *
  generalize hBw : w.heap.size = B at *
  generalize hwG : w2.alloc (.cells #[.slice A L.length cp, .map (some m)] 73) = wG at *
  generalize hg2 : w2.heap.size = g2 at *
  generalize w3.heap.size = mc at *
  clear hwG
  have HF0 := Lib.hid hfa
  clear hfa
  refine wpIn_loop (WaysI v c a w4 (g2 + 1) mc g2 B A cp m oA oc L ab f0) (WaysMu ab.length) ?start ?round
  case start =>
    exact ⟨0, undef, undef, undef, undef, undef, undef, undef, undef, undef, undef, undef, undef, undef, undef, undef, undef, undef, undef, undef, [], Nat.zero_le _, ⟨List.nodup_nil, fun D h => by simp at h, fun D h => by simp at h, ⟨rfl, rfl, rfl, Nat.le_refl _, fun _ _ _ => rfl⟩, HM5.out⟩, rfl⟩
  case round =>
    rintro act wr ⟨k, u12, u13, u33, u34, u35, u36, u37, u38, u39, u40, u41, u42, u43, u44, u45, u46, u47, u48, u49, Ds, hk, ⟨hDn, hDB, hDs, hgr, hmi⟩, rfl⟩
    have hsr := hgr.size
    have keep4 : Keeps w4 wr := fun p u hp => cell_kept hp hgr (fun r e => by cases e; exact ⟨_, hmo4, rfl⟩)
    have hmcr := HC5.out.grown hgr (by simp; omega)
    have m0 := hmcr.cell 0
    have mlt := hmcr.lt
    have hBr : Below B w wr := hB4.grown hgr (by omega) (fun b e => by cases e; omega)
    have hbgr : Below wG.heap.size wG wr := HBG.out.grown hgr HBG.out.size (fun b e => by cases e; omega)
    have hggr := HGG.out.below hbgr HGG.out.lt
    have g0 := hggr.cell 0
    have g1 := hggr.cell 1
    have glt := hggr.lt
    simp only [List.getElem?_toArray, List.getElem?_cons_zero, List.getElem?_cons_succ] at m0 g0 g1
    by_cases hlt : k < ab.length
    · obtain ⟨A', c', hv', hat⟩ := HN4.out
      cases hv'
      obtain ⟨b, ob, hA, hat2⟩ := hat (by omega)
      subst hA
      have c0 := keep4 _ _ (hat2 k hlt)
      have hblt := World.block_lt_of_cell? _ _ c0
      have hltI : (k : Int) < ab.length := by omega
      have hxn := HFN.out ab[k] (List.getElem_mem hlt)
      have hst : (ab.take (k + 1)).foldl (fun f x => Hr.waysIn L x f) f0 = Hr.waysIn L ab[k] ((ab.take k).foldl (fun f x => Hr.waysIn L x f) f0) := by
        rw [List.take_succ_eq_append_getElem hlt, List.foldl_append]; rfl
      have hw1 : IntKind.i64.wrap ((k : Int) + 1) = (k : Int) + 1 := IntWalk.i64_in _ (by omega)
      have HST := Lib.hid hst
      have HMI := Lib.hid hmi
      have HDS := Lib.hid hDs
      have HGR := Lib.hid hgr
      have HMC := Lib.hid hmcr
      have hllr := HLL.out.below hbgr (Nat.le_refl _)
      have hmmr := HMM.out.below hbgr HMM.out.lt
      have HLR := Lib.hid hllr
      have HMR := Lib.hid hmmr
      clear hst hmi hDs hgr hmcr hat hat2 hggr hllr hmmr keep4 hbgr
      generalize ab[k] = x at *
      generalize (ab.take k).foldl (fun f x => Hr.waysIn L x f) f0 = fk at *
      gi_wp2_with (first
        | (refine ⟨trivial, ?_⟩; gi_at_call 52; refine (callsIn_wide.2 (parents_any _ _ A L.length cp (some m) x _ rfl rfl)).mono ?_; rintro e w' ⟨rfl, rfl⟩))
      obtain ⟨wx, hwx⟩ : ∃ wx, wx = (((wr.alloc (.cells #[nm x] 9)).alloc (.cells #[.slice A L.length cp, .map (some m)] 73)).alloc (.cells #[nm x] 9)) := ⟨_, rfl⟩
      first | rw [← hwx] | (show Code.wpIn _ _ _ _ _ _ (((wr.alloc (.cells #[nm x] 9)).alloc (.cells #[.slice A L.length cp, .map (some m)] 73)).alloc (.cells #[nm x] 9)); rw [← hwx])
      have hbx : Below wr.heap.size wr wx := by rw [hwx]; exact (((Below.refl _ _).alloc (Nat.le_refl _) _).alloc (by simp) _).alloc (by simp; omega) _
      have hszx : wx.heap.size = wr.heap.size + 3 := by rw [hwx]; simp
      have hx0 : Has wx wr.heap.size 9 #[nm x] := by rw [hwx]; exact ((Has.new _ _ _).alloc _).alloc _
      have hx1 : Has wx (wr.heap.size + 1) 73 #[.slice A L.length cp, .map (some m)] := by
        rw [hwx]
        have h := Has.new (wr.alloc (.cells #[nm x] 9)) 73 #[.slice A L.length cp, .map (some m)]
        rw [World.size_alloc] at h
        exact h.alloc _
      have hx2 : Has wx (wr.heap.size + 1 + 1) 9 #[nm x] := by
        rw [hwx]
        have h := Has.new ((wr.alloc (.cells #[nm x] 9)).alloc (.cells #[.slice A L.length cp, .map (some m)] 73)) 9 #[nm x]
        rw [World.size_alloc, World.size_alloc] at h
        exact h
      have hmx := HMI.out.below hbx HMI.out.lt
      have hmcx := HMC.out.below hbx HMC.out.lt
      have hmlr := HMI.out.lt
      have hGF : GF (wr.heap.size + 1) (wr.heap.size + 1 + 1) A cp m kk L x wx := ⟨hx1, hx2, HLR.out.below hbx (Nat.le_refl _), HMR.out.below hbx HMR.out.lt, hxn⟩
      have hgrx : w4.grownBy wx (some (g2 + 1)) := by
        refine grown_two HGR.out ⟨hbx.os, hbx.tape, hbx.output, hbx.size, fun i hi _ => hbx.block i hi⟩
      have hDx : ∀ D ∈ Ds, wx.heap[D]? = some (.deferred (some [])) := fun D hD => (hbx.block D (Array.getElem?_eq_some_iff.1 (HDS.out D hD)).1).trans (HDS.out D hD)
      have HX0 := Lib.hid hx0
      have HMX := Lib.hid hmcx
      obtain ⟨esx, clockx, hmox⟩ : ∃ es clock, wx.heap[g2 + 1]? = some (.map es clock) := by
        obtain ⟨D, ⟨es, clock, h4, _⟩, _⟩ := hmx
        exact ⟨es, clock, h4⟩
      clear hwx hx1 hx2 hx0 hmcx g0 g1 m0 c0 hblt HMI HMC HLR HMR
      generalize wr.heap.size = X at *
      refine wpIn_rangeFunc_ownG rfl (by decide) (gf := 85) (lb := #[.pointer (some ⟨X + 1, 0, none⟩), .pointer (some ⟨X + 1 + 1, 0, none⟩)]) rfl trivial (enters_of Try.func85 (by kernel_rfl) rfl)
        (parents_stops 4 (by decide) (X + 1) (X + 1 + 1) A cp m kk L x wx hGF (by omega)) (fun h k g => k (h g)) ?hKb (Below.refl _ _) (fun _ => rfl)
        (fun pre Wx => wx.grownBy Wx (some (g2 + 1)) ∧ MI Wx (g2 + 1) (1 + k * 400000 + pre.length) ((pre.map (·.1)).foldl (Hr.waysStep x) fk))
        (fun _ _ _ => False)
        ?hI (fun _ _ _ _ _ h _ _ => h) ⟨⟨rfl, rfl, rfl, Nat.le_refl _, fun _ _ _ => rfl⟩, hmx⟩
        (fun y : Up L => { tmps := #[v, nm c, nm a, undef, undef, undef, .int .i64 0, .int .i64 0, .pointer (some ⟨g2, 0, none⟩), .int .i64 0, .pointer (some ⟨mc, 0, none⟩), undef, .pointer (some ⟨X, 0, none⟩), nm y.1, .tuple #[.agg #[.slice A L.length cp, .map (some m)], .int .i64 0], v, nm c, nm a, .slice (some ⟨B, 0, none⟩) 2 2, .tuple #[.agg #[.slice A L.length cp, .map (some m)], .int .i64 0], .agg #[.slice A L.length cp, .map (some m)], .int .i64 0, .int .i64 0, .bool false, undef, .map (some (g2 + 1)), nm a, .map (some (g2 + 1)), .agg #[.slice A L.length cp, .map (some m)], nm c, .slice (some ⟨b, ob, none⟩) ab.length oc, .int .i64 ab.length, .int .i64 k, .bool true, .pointer (some ⟨b, ob + k, none⟩), nm x, .agg #[.slice A L.length cp, .map (some m)], nm x, .func (.func 85) #[] #[.pointer (some ⟨X + 1, 0, none⟩), .pointer (some ⟨X + 1 + 1, 0, none⟩)], nm y.1, u40, u41, u42, u43, u44, u45, u46, u47, u48, u49, undef], defers := [] }) ?assign ?body ?done (fun _ _ _ _ _ _ h => h.elim)
      case hKb =>
        intro Wa l ob ob' hl hlo hoc _ hg
        refine hg.grown (fun p v h => cell_kept h (grownBy_putObj' Wa l ob') (fun r e => by cases e; exact ⟨ob, hlo, hoc⟩)) (fun j hj => World.putObj_heap_other ?_)
        rcases hj with rfl | rfl | rfl <;> omega
      case hI =>
        rintro pre Wa Wb row ⟨i1, i2⟩ hg hr
        have hs := i1.size
        exact ⟨⟨hg.os.trans i1.os, hg.tape.trans i1.tape, hg.output.trans i1.output, Nat.le_trans i1.size hg.size, fun j hj hne => (hg.block j (by omega) (fun e => by have := (hr _ e.symm).1; omega)).trans (i1.block j hj hne)⟩, i2.kept hg (fun e => by have := (hr _ e.symm).1; omega)⟩
      case assign =>
        intro l y Wx K hK
        gi_wp2
        exact hK
      case body =>
        rintro l pre y Wx ⟨i1, i2⟩ hlN
        have hpl : (Hr.parents L x).length ≤ L.length := by
          have := Hr.parents_count L x
          have := List.length_filter_le (fun z : Hr.Nm × Hr.Nm => z.1 == x) L
          omega
        have hxw := HX0.out.grown i1 (by simp; omega)
        have hcw := HMX.out.grown i1 (by simp; omega)
        have x0 := hxw.cell 0
        have xlt := hxw.lt
        have m0 := hcw.cell 0
        have mlt := hcw.lt
        simp only [List.getElem?_toArray, List.getElem?_cons_zero] at x0 m0
        have hyn : y.1.length ≤ 140737488355328 := by
          obtain ⟨z, hz, he⟩ := List.mem_map.1 y.2
          rw [← he]
          exact (hGF.hl.1 z hz).2
        have hcnt : 1 + k * 400000 + pre.length < maxLen := by unfold maxLen; omega
        have hwf : (Lit.int .i64 (wrap64 ((((pre.map (·.1)).foldl (Hr.waysStep x) fk) x).getD 0 + (((pre.map (·.1)).foldl (Hr.waysStep x) fk) y.1).getD 0))).wf = true := wrap64_wf _
        have hfo : (List.map (fun y : Up L => y.1) (pre ++ [y])).foldl (Hr.waysStep x) fk = upd ((pre.map (·.1)).foldl (Hr.waysStep x) fk) x (wrap64 ((((pre.map (·.1)).foldl (Hr.waysStep x) fk) x).getD 0 + (((pre.map (·.1)).foldl (Hr.waysStep x) fk) y.1).getD 0)) := by
          rw [List.map_append, List.foldl_append]; rfl
        have HFO := Lib.hid hfo
        have HM := Lib.hid i2
        have I1 := Lib.hid i1
        clear hfo i2 hxw hcw i1
        generalize (pre.map (·.1)).foldl (Hr.waysStep x) fk = fp at *
        gi_wp2_with (first
          | (gi_at_lookup; refine wpIn_at rfl _ _ rfl Try.underlying9 tMap Try.underlying3 (zInt _) rfl HM.out x rfl hxn _ rfl ?_)
          | (gi_at_lookup; refine wpIn_at rfl _ _ rfl Try.underlying9 tMap Try.underlying3 (zInt _) rfl HM.out y.1 rfl hyn _ rfl ?_)
          | (gi_at_mapUpdate; refine wpIn_put rfl _ _ _ rfl Try.underlying9 tMap Try.underlying3 rfl HM.out hcnt x rfl hxn _ rfl hwf (fun W2 hm2 hg2' => ?_)))
        obtain ⟨esw, clockw, hmow⟩ : ∃ es clock, Wx.heap[g2 + 1]? = some (.map es clock) := by
          obtain ⟨D, ⟨es, clock, h4, _⟩, _⟩ := HM.out
          exact ⟨es, clock, h4⟩
        refine ⟨KeepsFrom.of_grownBy hg2' (fun j e => by cases e; omega), fun hG => hG.grown (fun p u hp => cell_kept hp hg2' (fun r e => by cases e; exact ⟨_, hmow, rfl⟩)) (fun j hj => hg2'.block j ?_ ?_), grown_two I1.out hg2', ?_⟩
        · rcases hj with rfl | rfl | rfl
          · exact hG.hg.lt
          · exact hG.hc.lt
          · exact hG.hm.lt
        · rcases hj with rfl | rfl | rfl <;> simp <;> omega
        · rw [HFO.out, List.length_append]
          exact hm2
      case done =>
        rintro D ys Wf hD hS ⟨i1, i2⟩ hK
        have HS := Lib.hid hS
        have I1 := Lib.hid i1
        have I2 := Lib.hid i2
        have hyl := congrArg List.length hS
        rw [List.length_map] at hyl
        have hpl : (Hr.parents L x).length ≤ L.length := by
          have := Hr.parents_count L x
          have := List.length_filter_le (fun z : Hr.Nm × Hr.Nm => z.1 == x) L
          omega
        clear hS i1 i2
        gi_wp2
        refine ⟨⟨k + 1, _, _, _, _, _, _, _, _, _, _, _, _, _, _, _, _, _, _, _, D :: Ds, by omega, ⟨List.nodup_cons.2 ⟨fun h => ?_, hDn⟩, fun E hE => ?_, fun E hE => ?_, grown_two hgrx I1.out, ?_⟩, rfl⟩, by simp [WaysMu, intOf]; omega⟩
        · have := (Array.getElem?_eq_some_iff.1 (hDx D h)).1; omega
        · rcases List.mem_cons.1 hE with rfl | h
          · have := hgrx.size; omega
          · exact hDB E h
        · rcases List.mem_cons.1 hE with rfl | h
          · exact hK
          · refine (I1.out.block E (Array.getElem?_eq_some_iff.1 (hDx E h)).1 (fun e => ?_)).trans (hDx E h)
            have := hDB E h
            have e2 : E = g2 + 1 := by simpa using e
            omega
        · rw [HST.out]
          unfold Hr.waysIn
          rw [← HS.out]
          exact I2.out.mono (by omega)
    · obtain rfl : k = ab.length := by omega
      rw [List.take_length] at hmi
      have hfc : ((ab.foldl (fun f x => Hr.waysIn L x f) f0) c).getD 0 = res := by rw [hbd, ← HF0.out]
      have HMI := Lib.hid hmi
      have HDS := Lib.hid hDs
      have HRES := Lib.hid hfc
      clear hmi hDs hbd hfc keep4 hbgr hggr hmcr hgr
      gi_wp2_with (gi_at_lookup; refine wpIn_at rfl _ _ rfl Try.underlying9 tMap Try.underlying3 (zInt _) rfl HMI.out c rfl hc _ HRES.out ?_)
      obtain ⟨s1, s2, s3, s4, s5⟩ := shut_grown Ds wr
      refine leaves_marks Ds _ hDn HDS.out ?_
      refine ⟨.tuple #[.int .i64 res, .int .i64 0], ?_, rfl, ?_⟩
      · simp [results, Try.results21, go_sem]
      · have hB4s := hB4.size
        rw [hBw]
        exact ⟨s2.trans hBr.os, s3.trans hBr.tape, s4.trans hBr.output, by rw [s1]; exact hBr.size, fun j hj => (s5 j (fun hm => by have := hDB j hm; omega)).trans (hBr.block j hj)⟩
end Go.Proofs.Ytojfimbanaijdaa
