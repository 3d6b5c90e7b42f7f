/-
  What Levels returns, in package heir, of a valid system.
-/
import Derived.Test.YtojfimbanaijdaaHOrderO
namespace Go.Proofs.Ytojfimbanaijdaa
open Go.RowKit Go.Shelf Go.Sort
attribute [local go_sem] Oper.semAt_some

theorem rowInfo : (Try.prog.info? 26).map (fun i => (i.zero, i.size, i.bytes)) = some (some (.slice none 0 0), 1, 24) := by kernel_rfl

namespace Hr
theorem levels_step (L : List (Nm × Nm)) (hA : Acyc L) (R : List Nm) (n : Nat) (hR : R ≠ []) (hn : R.length ≤ n) : ∃ m, n = m + 1 ∧ levelsFrom L n R = R.filter (free L R) :: levelsFrom L m (R.filter fun c => !(R.filter (free L R)).contains c) ∧ (R.filter fun c => !(R.filter (free L R)).contains c).length < R.length := by
  have hpos : 0 < R.length := List.length_pos_iff.2 hR
  obtain ⟨m, rfl⟩ : ∃ m, n = m + 1 := ⟨n - 1, by omega⟩
  refine ⟨m, rfl, ?_, ?_⟩
  · conv => lhs; unfold levelsFrom
    rw [if_neg hR]
  · obtain ⟨c, hc, hf⟩ := free_ex L hA R hR
    rcases Nat.lt_or_ge (R.filter fun c => !(R.filter (free L R)).contains c).length R.length with h | h
    · exact h
    · have h1 := List.length_filter_le (fun c => !(R.filter (free L R)).contains c) R
      have h2 : (R.filter fun c => !(R.filter (free L R)).contains c).length = R.length := by omega
      rw [List.length_filter_eq_length_iff] at h2
      have h3 := h2 c hc
      rw [Bool.not_eq_true', ← Bool.not_eq_true, List.contains_iff_mem] at h3
      exact absurd (List.mem_filter.2 ⟨hc, hf⟩) h3
end Hr

/-- Rows of names. -/
def LvAt (w : World) (G : Nat) : List Value → List (List Hr.Nm) → Prop
  | [], [] => True
  | v :: vs, l :: V => w.ownsRow G 9 1 v l.length (nmRow l) ∧ LvAt w G vs V
  | _, _ => False
theorem LvAt.kept {w w' : World} {G : Nat} {row : Option Nat} (hg : w.grownBy w' row) (hne : ∀ r, row = some r → ∀ cs, ¬ Has w r 9 cs) : ∀ {vs : List Value} {V : List (List Hr.Nm)}, LvAt w G vs V → LvAt w' G vs V
  | [], [], _ => trivial
  | v :: vs, l :: V, h => by
    refine ⟨h.1.kept hg ?_, LvAt.kept hg hne h.2⟩
    rcases h.1.2 with ⟨rfl, _⟩ | ⟨g, cap, cur, rfl, _, hh, _⟩
    · exact .inl rfl
    · right
      intro e
      exact hne g (by rw [← e]; rfl) cur hh
  | [], _ :: _, h => h.elim
  | _ :: _, [], h => h.elim
theorem LvAt.alloc {w : World} {G : Nat} (o : Obj) {vs : List Value} {V : List (List Hr.Nm)} (h : LvAt w G vs V) : LvAt (w.alloc o) G vs V := LvAt.kept (World.grownBy_alloc w o none) (fun r e => by cases e) h
theorem LvAt.snoc {w : World} {G : Nat} : ∀ {vs : List Value} {V : List (List Hr.Nm)} {v : Value} {l : List Hr.Nm}, LvAt w G vs V → w.ownsRow G 9 1 v l.length (nmRow l) → LvAt w G (vs ++ [v]) (V ++ [l])
  | [], [], _, _, _, h2 => ⟨h2, trivial⟩
  | _ :: _, _ :: _, _, _, h1, h2 => ⟨h1.1, LvAt.snoc h1.2 h2⟩
  | [], _ :: _, _, _, h, _ => h.elim
  | _ :: _, [], _, _, h, _ => h.elim
theorem LvAt.length {w : World} {G : Nat} : ∀ {vs : List Value} {V : List (List Hr.Nm)}, LvAt w G vs V → vs.length = V.length
  | [], [], _ => rfl
  | _ :: _, _ :: _, h => by simp [LvAt.length h.2]
  | [], _ :: _, h => h.elim
  | _ :: _, [], h => h.elim
theorem LvAt.base {w : World} {G B : Nat} (hB : B ≤ G) : ∀ {vs : List Value} {V : List (List Hr.Nm)}, LvAt w G vs V → LvAt w B vs V
  | [], [], _ => trivial
  | _ :: _, _ :: _, h => ⟨own_base h.1 hB, LvAt.base hB h.2⟩
  | [], _ :: _, h => h.elim
  | _ :: _, [], h => h.elim
theorem LvAt.one {w : World} {G : Nat} : ∀ {vs : List Value} {V : List (List Hr.Nm)}, LvAt w G vs V → ∀ u ∈ vs, u.oneCell' = true
  | [], [], _, u, hu => by cases hu
  | v :: _, _ :: _, h, u, hu => by
    rcases List.mem_cons.1 hu with rfl | hu
    · obtain ⟨A, c, rfl⟩ := own_len h.1
      rfl
    · exact LvAt.one h.2 u hu
  | [], _ :: _, h, _, _ => h.elim
  | _ :: _, [], h, _, _ => h.elim
theorem own_has {w : World} {B e s n g : Nat} {v : Value} {xs : List Value} (h : w.ownsRow B e s v n xs) (hg : v.ownBlock = some g) : ∃ cur, Has w g e cur := by
  rcases h.2 with ⟨rfl, _⟩ | ⟨g', cap, cur, rfl, _, hh, _⟩
  · cases hg
  · cases hg
    exact ⟨cur, hh⟩
theorem own_two {w : World} {B e s n B' e' s' m : Nat} {v u : Value} {xs ys : List Value} (h1 : w.ownsRow B e s v n xs) (h2 : w.ownsRow B' e' s' u m ys) (hne : e ≠ e') : v.ownBlock = none ∨ v.ownBlock ≠ u.ownBlock := by
  cases hv : v.ownBlock with
  | none => exact .inl rfl
  | some g =>
    right
    intro e
    obtain ⟨cur, hc⟩ := own_has h2 e.symm
    exact own_apart h1 hc hne hv.symm
theorem not_string {w : World} {r : Nat} {t : TypeId} {cs : Array Value} (h : Has w r t cs) (ht : t ≠ 9) : ∀ cs', ¬ Has w r 9 cs' := fun cs' h' => by
  unfold Has at h h'
  rw [h] at h'
  cases h'
  exact ht rfl

theorem level1_any (c : Hr.Nm) (gb rb : Nat) (v : Value) (R : List Hr.Nm) (L : List (Hr.Nm × Hr.Nm)) (w : World) (hG : GC w gb L) (hrb : Has w rb 26 #[v]) (hv : NmsAt w v R) (hc : c.length ≤ 140737488355328) (hL : L.length ≤ 900000) (hR : R.length ≤ 1000000) :
    Calls Try.prog 63 #[nm c, .pointer (some ⟨gb, 0, none⟩), .pointer (some ⟨rb, 0, none⟩)] w fun e w' => e = .returned (.bool (Hr.free L R c)) ∧ Below w.heap.size w w' := by
  obtain ⟨A, cp, m, k, hg, hl, hm⟩ := hG
  obtain ⟨vA, vc, rfl, -⟩ := id hv
  have HI := Lib.hid (isFree_any A cp m k L c vA vc R w hl hm hc hL hv hR)
  have g0 := hg.cell 0
  have g1 := hg.cell 1
  have glt := hg.lt
  have c0 := hrb.cell 0
  have clt := hrb.lt
  simp only [List.getElem?_toArray, List.getElem?_cons_zero, List.getElem?_cons_succ] at g0 g1 c0
  clear hg hl hm hrb hv
  go_enter Try.func63, Try.ntmps63
  go_wp2_with (go_at_call 61; refine HI.out.mono ?_; rintro e w' ⟨rfl, hb⟩)
  go_ret
  exact ⟨rfl, hb⟩
theorem level2_any (x : Hr.Nm) (cb : Nat) (chv : Value) (ch : List Hr.Nm) (w : World) (hcb : Has w cb 26 #[chv]) (hch : NmsAt w chv ch) (hl : ch.length ≤ 1000000) :
    Calls Try.prog 64 #[nm x, .pointer (some ⟨cb, 0, none⟩)] w fun e w' => e = .returned (.bool (!ch.contains x)) ∧ Below w.heap.size w w' := by
  have HC := Lib.hid (contains_any chv ch x w hch hl)
  have c0 := hcb.cell 0
  have clt := hcb.lt
  simp only [List.getElem?_toArray, List.getElem?_cons_zero] at c0
  clear hcb hch
  generalize ch.contains x = R at *
  go_enter Try.func64, Try.ntmps64
  go_wp2_with (go_at_call 65; refine HC.out.mono ?_; rintro e w' ⟨rfl, rfl⟩)
  go_ret
  exact ⟨rfl, Below.refl _ _⟩

/-- Levels between two rounds. -/
structure RLev (G gb : Nat) (L : List (Hr.Nm × Hr.Nm)) (w3 : World) (res : List (List Hr.Nm)) (N : Nat) (o : Value) (rb : Nat) (v : Value) (R : List Hr.Nm) (vs : List Value) (V : List (List Hr.Nm)) (n : Nat) (wr : World) : Prop where
  hr : Has wr rb 26 #[v]
  hv : wr.ownsRow G 9 1 v R.length (nmRow R)
  ho : wr.ownsRow G 26 1 o vs.length vs
  hvs : LvAt wr G vs V
  ha : o.ownBlock ≠ some rb
  hb : Below G w3 wr
  hn : R.length ≤ n
  hres : V ++ Hr.levelsFrom L n R = res
  hlen : V.length + R.length ≤ N
  hf : FineN R
  hrb : G ≤ rb

set_option maxRecDepth 100000 in
set_option maxHeartbeats 2000000 in
theorem Levels_ok (v : Value) (S : List Hr.Cls) (w : World) (h : SysAt w v S) (hV : Hr.Valid S) :
    Calls Try.prog 23 #[v] w fun e w' => ∃ o vs, e = .returned (.tuple #[o, .int .i64 0]) ∧ w'.ownsRow w.heap.size 26 1 o vs.length vs ∧ LvAt w' w.heap.size vs (Hr.levels S) ∧ Below w.heap.size w w' := by
  obtain ⟨i0, hi, hz0, hz1, hz2⟩ := info_parts rowInfo
  have hLL := hV.hL
  have h24 := hV.h24
  have hA := hV.acyc
  have HS := Lib.hid h
  have HE := Lib.hid (enter_ok v (.slice none 0 0) S [] w h hV ⟨none, 0, rfl, fun h => by simp at h⟩ (by simp) (fun s hs => by cases hs) (fun s hs => by cases hs))
  have hnl : (Hr.isort (S.map (·.name))).length = S.length := by rw [(Hr.isort_perm _).length_eq, List.length_map]
  have hbdef : Hr.levels S = Hr.levelsFrom (Hr.links S) S.length (Hr.isort (S.map (·.name))) := rfl
  have hfn : FineN (Hr.isort (S.map (·.name))) := fun s hs => names_fine h s ((Hr.isort_perm _).mem_iff.1 hs)
  have HBD := Lib.hid hbdef
  have HFN := Lib.hid hfn
  have HAC := Lib.hid hA
  have HNL := Lib.hid hnl
  clear h hV hbdef hfn hA hnl
  generalize Hr.levels S = res at *
  generalize Hr.links S = L at *
  go_enter Try.func23, Try.ntmps23
  go_wp2_with (first
    | (go_at_call 34; refine HE.out.mono ?_
       rintro e w2 ⟨x, rfl, hg2, hb2⟩
       obtain ⟨A, cp, m, rfl, hgc⟩ := GC.of hg2
       have hb3 : Below w2.heap.size w2 (w2.alloc (.cells #[.slice A L.length cp, .map (some m)] 73)) := (Below.refl _ _).alloc (Nat.le_refl _) _
       have HB3 := Lib.hid (stepN hb2 hb3)
       have HG3 := Lib.hid hgc
       have HSN := Lib.hid (sortedNames_any v S _ (HS.out.below HB3.out (Nat.le_refl _)) (by omega))
       clear hg2 hb2 hb3 hgc)
    | (go_at_call 58; refine HSN.out.mono ?_
       rintro e w4 ⟨o1, rfl, ho4, hb4⟩
       obtain ⟨oA1, on1, rfl⟩ := own_len ho4
       have HO4 := Lib.hid ho4
       have HB4 := Lib.hid hb4
       clear ho4 hb4))
  generalize hw3 : w2.alloc (.cells #[.slice A L.length cp, .map (some m)] 73) = w3 at *
  generalize hgb : w2.heap.size = gb at *
  clear HSN HE hw3
  have hE : RLev w3.heap.size gb L w3 res S.length (.slice none 0 0) w4.heap.size (.slice oA1 (Hr.isort (S.map (·.name))).length on1) (Hr.isort (S.map (·.name))) [] [] S.length (w4.alloc (.cells #[.slice oA1 (Hr.isort (S.map (·.name))).length on1] 26)) :=
    ⟨Has.new _ _ _, HO4.out.alloc _, World.ownsRow_nil _ _ _ _, trivial, (by intro e; cases e), HB4.out.alloc HB4.out.size _, by rw [HNL.out]; exact Nat.le_refl _, by rw [List.nil_append]; exact HBD.out.symm, by rw [HNL.out]; simp, HFN.out, HB4.out.size⟩
  have HEE := Lib.hid hE
  clear hE HO4 HB4 HFN HNL HBD
  generalize Hr.isort (S.map (·.name)) = R0 at *
  generalize w4.alloc (.cells #[.slice oA1 R0.length on1] 26) = wE at *
  generalize w4.heap.size = rb0 at *
  go_loopw [6, 7] (fun o p wr => ∃ rb v R vs V n, p = .pointer (some ⟨rb, 0, none⟩) ∧ Hid (RLev w3.heap.size gb L w3 res S.length o rb v R vs V n wr)) (fun o _ _ => S.length - (match o with | .slice _ n _ => n | _ => 0))
  case atStart => exact ⟨_, _, _, _, _, _, rfl, HEE⟩
  case round =>
    obtain ⟨rb, v1, R, vs, V, n, rfl, HR⟩ := hrel
    obtain ⟨vA, vc, rfl⟩ := own_len HR.out.hv
    obtain ⟨oA, oc, rfl⟩ := own_len HR.out.ho
    have r0 := HR.out.hr.cell 0
    have rf0 := HR.out.hr.free 0
    have rlt := HR.out.hr.lt
    simp only [List.getElem?_toArray, List.getElem?_cons_zero] at r0
    have hlen := HR.out.hlen
    have HVL := Lib.hid HR.out.hvs.length
    have hvs1 : vs.length ≤ S.length := by rw [HVL.out]; omega
    by_cases hR0 : R = []
    · subst hR0
      go_wp2_with fail
      have hres : V ++ Hr.levelsFrom L n [] = res := HR.out.hres
      rw [show Hr.levelsFrom L n [] = [] from by cases n <;> simp [Hr.levelsFrom], List.append_nil] at hres
      subst hres
      refine bodyPost_ret (v := .tuple #[.slice oA vs.length oc, .int .i64 0]) ?_ rfl ⟨_, vs, rfl, own_base HR.out.ho HB3.out.size, HR.out.hvs.base HB3.out.size, stepN HB3.out HR.out.hb⟩
      simp [results, Try.results23, go_sem]
    · obtain ⟨n', hn', hstep, hshort⟩ := Hr.levels_step L HAC.out R n hR0 HR.out.hn
      have hpos : 0 < R.length := List.length_pos_iff.2 hR0
      have hRn : R.length ≤ n := HR.out.hn
      subst hn'
      have hnm := NmsAt.of_own HR.out.hv
      have hGC := HG3.out.below HR.out.hb
      have K1 := Lib.hid (keep_any 63 #[.pointer (some ⟨gb, 0, none⟩), .pointer (some ⟨rb, 0, none⟩)] (enters_of Try.func63 (by kernel_rfl) rfl) (Hr.free L R) (.slice vA R.length vc) R wr hnm (by omega)
        (fun x hx W hW => level1_any x gb rb _ R L W (hGC.below hW) (HR.out.hr.below hW HR.out.hr.lt) (hnm.below hW (Nat.le_refl _)) (HR.out.hf x hx) (by omega) (by omega)))
      have hRlI : (0 : Int) < R.length := by omega
      have HSTEP := Lib.hid hstep
      have HSH := Lib.hid hshort
      have hGs := HR.out.hb.size
      have hl1 := List.length_filter_le (Hr.free L R) R
      have HNM := Lib.hid hnm
      clear hstep hGC hshort hnm
      generalize hR1 : R.filter (Hr.free L R) = R1 at *
      generalize hR2 : (R.filter fun c => !R1.contains c) = R2 at *
      have HD2 := Lib.hid hR2
      have HD1 := Lib.hid hR1
      clear hR1 hR2
      have hVlt : vs.length < S.length := by rw [HVL.out]; omega
      go_wp2_with (first
        | (go_at_call 35; refine K1.out.mono ?_
           rintro e w5 ⟨o5, rfl, ho5, hb5⟩
           obtain ⟨lA, lc, rfl⟩ := own_len ho5
           have hs5 := hb5.size
           have hb6 : Below w5.heap.size w5 (w5.alloc (.cells #[.slice lA R1.length lc] 26)) := (Below.refl _ _).alloc (Nat.le_refl _) _
           have hl6 : Has (w5.alloc (.cells #[.slice lA R1.length lc] 26)) w5.heap.size 26 #[.slice lA R1.length lc] := Has.new _ _ _
           have hr6 := (HR.out.hr.below hb5 HR.out.hr.lt).alloc (.cells #[.slice lA R1.length lc] 26)
           have q0 := (HR.out.hr.below hb5 HR.out.hr.lt).cell 0
           have qlt := (HR.out.hr.below hb5 HR.out.hr.lt).lt
           simp only [List.getElem?_toArray, List.getElem?_cons_zero] at q0
           have hn6 := NmsAt.of_own (ho5.alloc (.cells #[.slice lA R1.length lc] 26))
           have k2 := (keep_any 64 #[.pointer (some ⟨w5.heap.size, 0, none⟩)] (enters_of Try.func64 (by kernel_rfl) rfl) (fun c => !R1.contains c) (.slice vA R.length vc) R (w5.alloc (.cells #[.slice lA R1.length lc] 26)) ((HNM.out.below hb5 (Nat.le_refl _)).below hb6 (Nat.le_refl _)) (by omega)
             (fun x hx W hW => level2_any x _ _ R1 W (hl6.below hW hl6.lt) (hn6.below hW (Nat.le_refl _)) (by omega)))
           rw [HD2.out] at k2
           have K2 := Lib.hid k2
           have HO5 := Lib.hid (own_base ho5 hGs)
           have HB5 := Lib.hid hb5
           have HL6 := Lib.hid hl6
           have HR6 := Lib.hid hr6
           clear ho5 hb5 hb6 hl6 hr6 hn6 K1 k2)
        | (go_at_call 35; refine K2.out.mono ?_
           rintro e w7 ⟨o7, rfl, ho7, hb7⟩
           obtain ⟨mA, mc, rfl⟩ := own_len ho7
           have hs7 := hb7.size
           have hsz6 : (w5.alloc (.cells #[.slice lA R1.length lc] 26)).heap.size = w5.heap.size + 1 := by simp
           have hr7 := HR6.out.below hb7 HR6.out.lt
           have hl7 := HL6.out.below hb7 HL6.out.lt
           have p0 := hr7.cell 0
           have pf0 := hr7.free 0
           have plt := hr7.lt
           have t0 := hl7.cell 0
           have tlt := hl7.lt
           simp only [List.getElem?_toArray, List.getElem?_cons_zero] at p0 t0
           have HO7 := Lib.hid (own_base ho7 (by omega : w3.heap.size ≤ (w5.alloc (.cells #[.slice lA R1.length lc] 26)).heap.size))
           have HL7 := Lib.hid (own_below (HO5.out.alloc (.cells #[.slice lA R1.length lc] 26)) hb7 (Nat.le_refl _))
           have hbb : Below wr.heap.size wr w7 := stepA HB5.out _ hb7
           have hsz8 : (w7.setCell ⟨rb, 0, none⟩ (.slice mA R2.length mc)).heap.size = w7.heap.size := by simp [World.setCell]
           have gs := grown_set w7 rb 0 (.slice mA R2.length mc)
           have O5 : Hid (((w7.setCell ⟨rb, 0, none⟩ (.slice mA R2.length mc)).alloc (.cells #[.slice lA R1.length lc] 26)).ownsRow w3.heap.size 26 1 (.slice oA vs.length oc) vs.length vs) := ((own_below HR.out.ho hbb (Nat.le_refl _)).kept gs (.inr HR.out.ha)).alloc _
           have V5 : Hid (LvAt ((w7.setCell ⟨rb, 0, none⟩ (.slice mA R2.length mc)).alloc (.cells #[.slice lA R1.length lc] 26)) w3.heap.size vs V) := ((HR.out.hvs.kept (grown_of_below hbb (Nat.le_refl _)) (fun r e => by cases e)).kept gs (fun r e => by cases e; exact not_string hr7 (by decide))).alloc _
           have M5 : Hid (((w7.setCell ⟨rb, 0, none⟩ (.slice mA R2.length mc)).alloc (.cells #[.slice lA R1.length lc] 26)).ownsRow w3.heap.size 9 1 (.slice mA R2.length mc) R2.length (nmRow R2)) := (HO7.out.kept gs (.inr (fun e => own_apart HO7.out hr7 (by decide) e.symm))).alloc _
           have L5 : Hid (((w7.setCell ⟨rb, 0, none⟩ (.slice mA R2.length mc)).alloc (.cells #[.slice lA R1.length lc] 26)).ownsRow w3.heap.size 9 1 (.slice lA R1.length lc) R1.length (nmRow R1)) := (HL7.out.kept gs (.inr (fun e => own_apart HL7.out hr7 (by decide) e.symm))).alloc _
           have R5 : Hid (Has ((w7.setCell ⟨rb, 0, none⟩ (.slice mA R2.length mc)).alloc (.cells #[.slice lA R1.length lc] 26)) rb 26 #[.slice mA R2.length mc]) := by
             have h := hr7.set 0 (.slice mA R2.length mc)
             exact h.alloc _
           have hb8 := (HR.out.hb.trans (hbb.mono hGs)).setCell (p := ⟨rb, 0, none⟩) HR.out.hrb (.slice mA R2.length mc)
           have B5 : Hid (Below w3.heap.size w3 ((w7.setCell ⟨rb, 0, none⟩ (.slice mA R2.length mc)).alloc (.cells #[.slice lA R1.length lc] 26))) := hb8.alloc hb8.size _
           have n1 := one_new (w7.setCell ⟨rb, 0, none⟩ (.slice mA R2.length mc)) (.slice lA R1.length lc) 26
           rw [hsz8] at n1
           have N1 := Lib.hid n1
           have N7 : Hid (w3.heap.size ≤ ((w7.setCell ⟨rb, 0, none⟩ (.slice mA R2.length mc)).alloc (.cells #[.slice lA R1.length lc] 26)).heap.size) := by show _ ≤ _; rw [World.size_alloc]; have := hb8.size; omega
           have N8 : Hid (vs.length + 1 ≤ maxLen) := by show _ ≤ _; unfold maxLen; omega
           have N9 : Hid ((vs.length + 1) * 24 ≤ 140737488355328) := by show _ ≤ _; omega
           clear ho7 hb7 hr7 hl7 hbb K2 gs hb8 n1 hsz8)
        | (at_builtin; refine wpList_append_own_at _ rfl _ _ 55 rfl w3.heap.size 26 i0 (.slice none 0 0) 1 24 Try.underlying55 hi hz0 hz1 hz2 rfl (by decide) _ _ _ rfl O5.out ⟨w7.heap.size, 0, none⟩ 1 1 [.slice lA R1.length lc] rfl rfl N1.out (by simp [Value.oneCell']) N8.out N9.out N7.out ?_
           intro v' w8 hown8 hg8 _ hat8
           have hr8 := R5.out.grown hg8 (fun e => HR.out.ha e.symm)
           have e0 := hr8.cell 0
           have elt := hr8.lt
           simp only [List.getElem?_toArray, List.getElem?_cons_zero] at e0
           have hns : ∀ r, (Value.slice oA vs.length oc).ownBlock = some r → ∀ cs, ¬ Has ((w7.setCell ⟨rb, 0, none⟩ (.slice mA R2.length mc)).alloc (.cells #[.slice lA R1.length lc] 26)) r 9 cs := fun r e => by
             obtain ⟨cur, hc⟩ := own_has O5.out e
             exact not_string hc (by decide)
           have hv8 := V5.out.kept hg8 hns
           have hl8 := L5.out.kept hg8 (own_two L5.out O5.out (by decide))
           have hm8 := M5.out.kept hg8 (own_two M5.out O5.out (by decide))
           have hb8 := Below.grown B5.out hg8 N7.out (fun g hg => own_ge O5.out hg)
           have hs8 := hb8.size
           have RR : Hid (RLev w3.heap.size gb L w3 res S.length v' w8.heap.size (.slice mA R2.length mc) R2 (vs ++ [.slice lA R1.length lc]) (V ++ [R1]) n' (w8.alloc (.cells #[.slice mA R2.length mc] 26))) := by
             refine ⟨Has.new _ _ _, hm8.alloc _, ?_, (hv8.snoc hl8).alloc _, fun e => ?_, hb8.alloc hs8 _, by have := HSH.out; omega, ?_, ?_, fun s hs => HR.out.hf s (List.mem_filter.1 (by rw [HD2.out]; exact hs)).1, hs8⟩
             · rw [List.length_append]
               exact hown8.alloc _
             · obtain ⟨cur, hc⟩ := own_has hown8 e
               exact absurd hc.lt (Nat.lt_irrefl _)
             · rw [List.append_assoc, ← HR.out.hres, HSTEP.out]
               rfl
             · rw [List.length_append, List.length_singleton]
               have := HSH.out
               omega
           have HV8 := Lib.hid hown8
           clear hr8 hns hv8 hl8 hm8 hb8 hs8 hown8 hg8 hat8))
      obtain ⟨vA', vc', rfl⟩ := own_len HV8.out
      go_roundw
      case rel => exact ⟨_, _, _, _, _, _, rfl, RR⟩
      case measure => simp; omega
end Go.Proofs.Ytojfimbanaijdaa
