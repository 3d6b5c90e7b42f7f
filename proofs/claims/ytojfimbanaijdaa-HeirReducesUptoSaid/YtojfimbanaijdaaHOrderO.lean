/-
  What slices.Delete at a row of the call's own, and Order of a valid system return, in package heir. What Order returns, in package heir, of a valid system.
-/
import Derived.Test.YtojfimbanaijdaaHNeed
import Derived.Test.YtojfimbanaijdaaHCheckP
namespace Go.Proofs.Ytojfimbanaijdaa
open Go.RowKit Go.Shelf Go.Sort

namespace Hr
theorem least_rank (r : Nm → Nat) : ∀ R : List Nm, R ≠ [] → ∃ c ∈ R, ∀ d ∈ R, r c ≤ r d
  | [], h => absurd rfl h
  | [c], _ => ⟨c, by simp, fun d hd => by rw [List.mem_singleton.1 hd]; exact Nat.le_refl _⟩
  | c :: d :: q, _ => by
    obtain ⟨e, he, hm⟩ := least_rank r (d :: q) (by simp)
    by_cases h : r c ≤ r e
    · refine ⟨c, by simp, fun x hx => ?_⟩
      rcases List.mem_cons.1 hx with rfl | hx
      · exact Nat.le_refl _
      · exact Nat.le_trans h (hm x hx)
    · refine ⟨e, by simp [he], fun x hx => ?_⟩
      rcases List.mem_cons.1 hx with rfl | hx
      · omega
      · exact hm x hx
theorem free_ex (L : List (Nm × Nm)) (hA : Acyc L) (R : List Nm) (hR : R ≠ []) : ∃ c ∈ R, free L R c = true := by
  obtain ⟨r, hr⟩ := hA
  obtain ⟨c, hc, hm⟩ := least_rank r R hR
  refine ⟨c, hc, ?_⟩
  unfold free
  rw [List.all_eq_true]
  intro p hp
  have h1 := hr c p hp
  simp only [Bool.not_eq_true']
  cases h : R.contains p with
  | false => rfl
  | true =>
    have := hm p (List.contains_iff_mem.1 h)
    omega
theorem free_some (L : List (Nm × Nm)) (hA : Acyc L) (R : List Nm) (hR : R ≠ []) : ∃ i, R.findIdx? (free L R) = some i := by
  obtain ⟨c, hc, hf⟩ := free_ex L hA R hR
  cases h : R.findIdx? (free L R) with
  | some i => exact ⟨i, rfl⟩
  | none =>
    rw [List.findIdx?_eq_none_iff] at h
    have := h c hc
    rw [hf] at this
    cases this
theorem order_step (L : List (Nm × Nm)) (R : List Nm) (i : Nat) (h : R.findIdx? (free L R) = some i) : ∃ hi : i < R.length, orderFrom L R.length R = R[i] :: orderFrom L (R.eraseIdx i).length (R.eraseIdx i) ∧ (R.eraseIdx i).length + 1 = R.length := by
  rw [List.findIdx?_eq_some_iff_getElem] at h
  obtain ⟨hi, h1, h2⟩ := h
  have hl : (R.eraseIdx i).length + 1 = R.length := by rw [List.length_eraseIdx_of_lt hi]; omega
  refine ⟨hi, ?_, hl⟩
  have hfind : R.find? (free L R) = some R[i] := by
    rw [List.find?_eq_some_iff_getElem]
    exact ⟨h1, i, hi, rfl, fun j hj => by rw [Bool.not_eq_true']; simpa using h2 j hj⟩
  have hidx : R.idxOf R[i] = i := by
    rw [List.idxOf, List.findIdx_eq hi]
    refine ⟨by simp, fun j hj => ?_⟩
    have := h2 j hj
    simp only [beq_eq_false_iff_ne, ne_eq]
    intro e
    rw [e] at this
    exact this h1
  have herase : R.erase R[i] = R.eraseIdx i := by rw [List.erase_eq_eraseIdx_of_idxOf hidx]
  rw [← hl]
  conv => lhs; unfold orderFrom
  rw [hfind]
  dsimp only
  rw [herase]
end Hr

theorem own_shrink {w : World} {B e n cap : Nat} {g : Nat} {xs : List Value} (h : w.ownsRow B e 1 (.slice (some ⟨g, 0, none⟩) n cap) n xs) {m : Nat} (hm : m ≤ n) : w.ownsRow B e 1 (.slice (some ⟨g, 0, none⟩) m cap) m (xs.take m) := by
  refine ⟨?_, ?_⟩
  · rw [List.length_take, h.1]; omega
  · rcases h.2 with ⟨hv, _⟩ | ⟨g', cap', cur, hv, hb, hh, h1, h2, h3, h4⟩
    · cases hv
    · cases hv
      refine .inr ⟨_, _, cur, rfl, hb, hh, by omega, h2, h3, ?_⟩
      rw [← h4, List.take_take]
      congr 1
      omega

theorem delete_any (v : Value) (B : Nat) (l : List Hr.Nm) (i : Nat) (w : World) (ho : w.ownsRow B 9 1 v l.length (nmRow l)) (hi : i < l.length) (hl : l.length ≤ 1000000) :
    Calls Try.prog 62 #[v, .int .i64 i, .int .i64 ((i : Int) + 1)] w fun e w' => ∃ A c, e = .returned (.slice A (l.eraseIdx i).length c) ∧ (Value.slice A (l.eraseIdx i).length c).ownBlock = v.ownBlock ∧ w'.ownsRow B 9 1 (.slice A (l.eraseIdx i).length c) (l.eraseIdx i).length (nmRow (l.eraseIdx i)) ∧ w.grownBy w' v.ownBlock := by
  rcases ho.2 with ⟨rfl, hz⟩ | ⟨gb, cap, cur, rfl, hbase, hgb, r1, r2, r3, r4⟩
  · omega
  · have h4 : List.take l.length cur.toList = nmRow l := by simpa using r4
    have hH := holds_of_block (ss := l) hgb h4
    have hcap : cap ≤ 9223372036854775807 := Nat.le_trans r2 (by unfold maxLen; omega)
    have hd := Try.slices_Delete_string gb 0 cap i (i + 1) l w hH r1 hcap (Nat.le_succ _) hi
    refine hd.mono ?_
    rintro e w' ⟨rfl, q, rfl⟩
    have hle : (l.eraseIdx i).length + 1 = l.length := by rw [List.length_eraseIdx_of_lt hi]; omega
    have hts : (l.take i ++ l.drop (i + 1) ++ List.replicate (i + 1 - i) []).length = l.length := by
      rw [List.length_append, ← List.eraseIdx_eq_take_drop_succ, List.length_replicate]; omega
    have hg := grownBy_sorted (w := w) (g := gb) (n := q) (os := #[]) (l.take i ++ l.drop (i + 1) ++ List.replicate (i + 1 - i) []).toArray
    have hr := ownsRow_sorted (w := w) (base := B) (g := gb) (cap := cap) (n := q) (e := 9) (os := #[]) (cur := cur) (ss := l) (ts := l.take i ++ l.drop (i + 1) ++ List.replicate (i + 1 - i) []) hts hbase hgb r1 r2 r3
    rw [Sort.grow_empty] at hg hr
    have hs := own_shrink hr (m := (l.eraseIdx i).length) (by omega)
    have hx : l.length - (i + 1 - i) = (l.eraseIdx i).length := by omega
    refine ⟨some ⟨gb, 0, none⟩, cap, by rw [hx], rfl, ?_, hg⟩
    have ht : (List.map encStr (l.take i ++ l.drop (i + 1) ++ List.replicate (i + 1 - i) [])).take (l.eraseIdx i).length = nmRow (l.eraseIdx i) := by
      rw [← List.map_take, ← List.eraseIdx_eq_take_drop_succ, List.take_append_of_le_length (Nat.le_refl _), List.take_length]
      rfl
    rw [ht] at hs
    exact hs

theorem order1_any (c : Hr.Nm) (gb rb : Nat) (v : Value) (R : List Hr.Nm) (L : List (Hr.Nm × Hr.Nm)) (w : World) (hG : GC w gb L) (hrb : Has w rb 26 #[v]) (hv : NmsAt w v R) (hc : c.length ≤ 140737488355328) (hL : L.length ≤ 900000) (hR : R.length ≤ 1000000) :
    Calls Try.prog 60 #[nm c, .pointer (some ⟨gb, 0, none⟩), .pointer (some ⟨rb, 0, none⟩)] w fun e w' => e = .returned (.bool (Hr.free L R c)) ∧ Below w.heap.size w w' := by
  obtain ⟨A, cp, m, k, hg, hl, hm⟩ := hG
  obtain ⟨vA, vc, rfl, -⟩ := id hv
  have HI := Lib.hid (isFree_any A cp m k L c vA vc R w hl hm hc hL hv hR)
  have g0 := hg.cell 0
  have g1 := hg.cell 1
  have glt := hg.lt
  have c0 := hrb.cell 0
  have clt := hrb.lt
  simp only [List.getElem?_toArray, List.getElem?_cons_zero, List.getElem?_cons_succ] at g0 g1 c0
  clear hg hl hm hrb hv
  go_enter Try.func60, Try.ntmps60
  go_wp2_with (go_at_call 61; refine HI.out.mono ?_; rintro e w' ⟨rfl, hb⟩)
  go_ret
  exact ⟨rfl, hb⟩
end Go.Proofs.Ytojfimbanaijdaa
namespace Go.Proofs.Ytojfimbanaijdaa
open Go.RowKit Go.Shelf Go.Sort
attribute [local go_sem] Oper.semAt_some

/-- Order between two rounds. -/
structure ROrd (G gb : Nat) (L : List (Hr.Nm × Hr.Nm)) (w3 : World) (res : List Hr.Nm) (N : Nat) (o : Value) (rb : Nat) (v : Value) (R O : List Hr.Nm) (wr : World) : Prop where
  hr : Has wr rb 26 #[v]
  hv : wr.ownsRow G 9 1 v R.length (nmRow R)
  ho : wr.ownsRow G 9 1 o O.length (nmRow O)
  ha : ∀ b, v.ownBlock = some b → o.ownBlock ≠ some b
  hb : Below G w3 wr
  hres : O ++ Hr.orderFrom L R.length R = res
  hlen : O.length + R.length = N
  hf : FineN R
  hrb : G ≤ rb

set_option maxRecDepth 100000 in
set_option maxHeartbeats 2000000 in
theorem Order_ok (v : Value) (S : List Hr.Cls) (w : World) (h : SysAt w v S) (hV : Hr.Valid S) :
    Calls Try.prog 22 #[v] w fun e w' => ∃ o, e = .returned (.tuple #[o, .int .i64 0]) ∧ w'.ownsRow w.heap.size 9 1 o (Hr.order S).length (nmRow (Hr.order S)) ∧ Below w.heap.size w w' := by
  obtain ⟨i0, hi, hz0, hz1, hz2⟩ := info_parts strInfo
  have hLL := hV.hL
  have h24 := hV.h24
  have hA := hV.acyc
  have HS := Lib.hid h
  have HE := Lib.hid (enter_ok v (.slice none 0 0) S [] w h hV ⟨none, 0, rfl, fun h => by simp at h⟩ (by simp) (fun s hs => by cases hs) (fun s hs => by cases hs))
  have hnl : (Hr.isort (S.map (·.name))).length = S.length := by rw [(Hr.isort_perm _).length_eq, List.length_map]
  have hbdef : Hr.order S = Hr.orderFrom (Hr.links S) (Hr.isort (S.map (·.name))).length (Hr.isort (S.map (·.name))) := by rw [hnl]; rfl
  have hfn : FineN (Hr.isort (S.map (·.name))) := fun s hs => names_fine h s ((Hr.isort_perm _).mem_iff.1 hs)
  have HBD := Lib.hid hbdef
  have HFN := Lib.hid hfn
  have HAC := Lib.hid hA
  have HNL := Lib.hid hnl
  clear h hV hbdef hfn hA hnl
  generalize Hr.order S = res at *
  generalize Hr.links S = L at *
  go_enter Try.func22, Try.ntmps22
  go_wp2_with (first
    | (go_at_call 34; refine HE.out.mono ?_
       rintro e w2 ⟨x, rfl, hg2, hb2⟩
       obtain ⟨A, cp, m, rfl, hgc⟩ := GC.of hg2
       have hb3 : Below w2.heap.size w2 (w2.alloc (.cells #[.slice A L.length cp, .map (some m)] 73)) := (Below.refl _ _).alloc (Nat.le_refl _) _
       have HB3 := Lib.hid (stepN hb2 hb3)
       have HG3 := Lib.hid hgc
       have HSN := Lib.hid (sortedNames_any v S _ (HS.out.below HB3.out (Nat.le_refl _)) (by omega))
       clear hg2 hb2 hb3 hgc)
    | (go_at_call 58; refine HSN.out.mono ?_
       rintro e w4 ⟨o1, rfl, ho4, hb4⟩
       obtain ⟨oA1, on1, rfl⟩ := own_len ho4
       have HO4 := Lib.hid ho4
       have HB4 := Lib.hid hb4
       clear ho4 hb4))
  generalize hw3 : w2.alloc (.cells #[.slice A L.length cp, .map (some m)] 73) = w3 at *
  generalize hgb : w2.heap.size = gb at *
  clear HSN HE hw3
  have hE : ROrd w3.heap.size gb L w3 res S.length (.slice none 0 0) w4.heap.size (.slice oA1 (Hr.isort (S.map (·.name))).length on1) (Hr.isort (S.map (·.name))) [] (w4.alloc (.cells #[.slice oA1 (Hr.isort (S.map (·.name))).length on1] 26)) :=
    ⟨Has.new _ _ _, HO4.out.alloc _, World.ownsRow_nil _ _ _ _, fun b _ h => (by cases h), HB4.out.alloc HB4.out.size _, by rw [List.nil_append]; exact HBD.out.symm, by rw [HNL.out]; simp, HFN.out, HB4.out.size⟩
  have HEE := Lib.hid hE
  clear hE HO4 HB4 HFN HNL HBD
  generalize Hr.isort (S.map (·.name)) = R0 at *
  generalize w4.alloc (.cells #[.slice oA1 R0.length on1] 26) = wE at *
  generalize w4.heap.size = rb0 at *
  go_loopw [6, 7] (fun o p wr => ∃ rb v R O, p = .pointer (some ⟨rb, 0, none⟩) ∧ Hid (ROrd w3.heap.size gb L w3 res S.length o rb v R O wr)) (fun o _ _ => S.length - (match o with | .slice _ n _ => n | _ => 0))
  case atStart => exact ⟨_, _, _, _, rfl, HEE⟩
  case round =>
    obtain ⟨rb, v1, R, O, rfl, HR⟩ := hrel
    obtain ⟨vA, vc, rfl⟩ := own_len HR.out.hv
    obtain ⟨oA, oc, rfl⟩ := own_len HR.out.ho
    have r0 := HR.out.hr.cell 0
    have rlt := HR.out.hr.lt
    simp only [List.getElem?_toArray, List.getElem?_cons_zero] at r0
    have hlen := HR.out.hlen
    by_cases hR0 : R = []
    · subst hR0
      go_wp2_with fail
      have hres : O ++ [] = res := HR.out.hres
      rw [List.append_nil] at hres
      subst hres
      refine bodyPost_ret (v := .tuple #[.slice oA O.length oc, .int .i64 0]) ?_ rfl ⟨_, rfl, own_base HR.out.ho HB3.out.size, stepN HB3.out HR.out.hb⟩
      simp [results, Try.results22, go_sem]
    · obtain ⟨i, hidx⟩ := Hr.free_some L HAC.out R hR0
      obtain ⟨hil, hstep, hel⟩ := Hr.order_step L R i hidx
      have hn := NmsAt.of_own HR.out.hv
      have hGC := HG3.out.below HR.out.hb
      have IX := indexFuncN_any 60 #[.pointer (some ⟨gb, 0, none⟩), .pointer (some ⟨rb, 0, none⟩)] (enters_of Try.func60 (by kernel_rfl) rfl) (Hr.free L R) (.slice vA R.length vc) R wr hn (by omega)
        (fun x hx W hW => order1_any x gb rb _ R L W (hGC.below hW) (HR.out.hr.below hW HR.out.hr.lt) (hn.below hW (Nat.le_refl _)) (HR.out.hf x hx) (by omega) (by omega))
      rw [hidx] at IX
      change Calls _ _ _ _ (fun e w' => e = .returned (.int .i64 (i : Int)) ∧ _) at IX
      obtain ⟨A', c', hv', hat⟩ := hn
      cases hv'
      obtain ⟨b, ob, hbA, hat2⟩ := hat (by omega)
      subst hbA
      have c0 := hat2 i hil
      have hblt := World.block_lt_of_cell? _ _ c0
      have hRlI : (0 : Int) < R.length := by omega
      have hi0 : (0 : Int) ≤ i := by omega
      have hiI : (i : Int) < R.length := by omega
      have hw1 : IntKind.i64.wrap ((i : Int) + 1) = (i : Int) + 1 := IntWalk.i64_in _ (by omega)
      have HIX := Lib.hid IX
      have HSTEP := Lib.hid hstep
      have hGs := HR.out.hb.size
      clear IX hat hat2 hstep hGC hidx
      have hmem : R[i] ∈ R := List.getElem_mem hil
      generalize hC : R[i] = C at *
      clear hC
      go_wp2_with (first
        | (go_at_call 59; refine HIX.out.mono ?_
           rintro e w5 ⟨rfl, hb5⟩
           have c5 := kept_below hb5 (Nat.le_refl _) _ _ c0
           have hR5 := HR.out.hr.below hb5 HR.out.hr.lt
           have r5 := hR5.cell 0
           have rlt5 := hR5.lt
           have blt5 := World.block_lt_of_cell? _ _ c5
           simp only [List.getElem?_toArray, List.getElem?_cons_zero] at r5
           have hs5 := hb5.size
           have V5 : Hid ((w5.alloc (.cells #[nm C] 9)).ownsRow w3.heap.size 9 1 (.slice (some ⟨b, ob, none⟩) R.length vc) R.length (nmRow R)) := (own_below HR.out.hv hb5 (Nat.le_refl _)).alloc _
           have O5 : Hid ((w5.alloc (.cells #[nm C] 9)).ownsRow w3.heap.size 9 1 (.slice oA O.length oc) O.length (nmRow O)) := (own_below HR.out.ho hb5 (Nat.le_refl _)).alloc _
           have R5 := Lib.hid (hR5.alloc (.cells #[nm C] 9))
           have B5 : Hid (Below w3.heap.size w3 (w5.alloc (.cells #[nm C] 9))) := (HR.out.hb.trans (hb5.mono hGs)).alloc (by omega) _
           have N1 := Lib.hid (one_new w5 (nm C) 9)
           have N7 : Hid (w3.heap.size ≤ (w5.alloc (.cells #[nm C] 9)).heap.size) := by show _ ≤ _; simp; omega
           have N8 : Hid (O.length + 1 ≤ maxLen) := by show _ ≤ _; unfold maxLen; omega
           have N9 : Hid ((O.length + 1) * 16 ≤ 140737488355328) := by show _ ≤ _; omega
           clear hb5 hR5)
        | (at_builtin; refine wpList_append_own_at _ rfl _ _ 26 rfl w3.heap.size 9 i0 (.string ⟨#[]⟩) 1 16 Try.underlying26 hi hz0 hz1 hz2 rfl (by decide) _ _ _ rfl O5.out ⟨w5.heap.size, 0, none⟩ 1 1 [nm C] rfl rfl N1.out (by simp [Value.oneCell']) N8.out N9.out N7.out ?_
           intro v' w6 hown6 hg6 _ hat6
           have hv6 := V5.out.kept hg6 (.inr (fun e => HR.out.ha b rfl e.symm))
           have hr6 := R5.out.grown hg6 (own_apart O5.out R5.out (by decide))
           have r6 := hr6.cell 0
           have rlt6 := hr6.lt
           simp only [List.getElem?_toArray, List.getElem?_cons_zero] at r6
           have hb6 := Below.grown B5.out hg6 N7.out (fun g hg => own_ge O5.out hg)
           have hav : ∀ q, some b = some q → v'.ownBlock ≠ some q := fun q hq e => by
             cases hq
             rcases hat6 with h6 | h6
             · rw [e] at h6
               exact HR.out.ha b rfl h6.symm
             · rw [e] at h6
               cases h6
               have : (w5.alloc (.cells #[nm C] 9)).heap.size = w5.heap.size + 1 := by simp
               omega
           have HV6 := Lib.hid hv6
           have HR6 := Lib.hid hr6
           have HO6 := Lib.hid hown6
           have HB6 := Lib.hid hb6
           have HAV := Lib.hid hav
           have HDEL := Lib.hid (delete_any _ w3.heap.size R i w6 hv6 hil (by omega))
           clear hv6 hr6 hown6 hg6 hat6 hb6 hav)
        | (go_at_call 62; refine HDEL.out.mono ?_
           rintro e w7 ⟨A7, c7, rfl, hob7, hv7, hg7⟩
           have hr7 := HR6.out.grown hg7 (own_apart HV6.out HR6.out (by decide))
           have r7 := hr7.cell 0
           have rf7 := hr7.free 0
           have rlt7 := hr7.lt
           simp only [List.getElem?_toArray, List.getElem?_cons_zero] at r7
           have ho7 := HO6.out.kept hg7 (.inr (fun e => by
             have e2 : v'.ownBlock = some b := e
             exact HAV.out b rfl e2))
           have hs7 := hg7.size
           have hb7 := Below.grown HB6.out hg7 HB6.out.size (fun g hg => own_ge HV6.out hg)
           have hr8 := hr7.set 0 (.slice A7 (R.eraseIdx i).length c7)
           have r8 := hr8.cell 0
           simp only [List.setIfInBounds_toArray, List.set_cons_zero, List.getElem?_toArray, List.getElem?_cons_zero] at r8
           have hv8 := hv7.kept (grown_set w7 rb 0 (.slice A7 (R.eraseIdx i).length c7)) (.inr (fun e => own_apart hv7 hr7 (by decide) e.symm))
           have ho8 := ho7.kept (grown_set w7 rb 0 (.slice A7 (R.eraseIdx i).length c7)) (.inr (fun e => own_apart ho7 hr7 (by decide) e.symm))
           have hb8 := hb7.setCell (p := ⟨rb, 0, none⟩) HR.out.hrb (.slice A7 (R.eraseIdx i).length c7)
           have hs8 := hb8.size
           have RR : Hid (ROrd w3.heap.size gb L w3 res S.length v' (w7.setCell ⟨rb, 0, none⟩ (.slice A7 (R.eraseIdx i).length c7)).heap.size (.slice A7 (R.eraseIdx i).length c7) (R.eraseIdx i) (O ++ [C]) ((w7.setCell ⟨rb, 0, none⟩ (.slice A7 (R.eraseIdx i).length c7)).alloc (.cells #[.slice A7 (R.eraseIdx i).length c7] 26))) := by
             refine ⟨Has.new _ _ _, hv8.alloc _, ?_, fun q hq => ?_, hb8.alloc hs8 _, ?_, ?_, fun s hs => HR.out.hf s (List.mem_of_mem_eraseIdx hs), hs8⟩
             · rw [nmRow_snoc, List.length_append]
               exact ho8.alloc _
             · rw [hob7] at hq
               exact HAV.out q hq
             · rw [List.append_assoc, ← HR.out.hres, HSTEP.out]
               rfl
             · rw [List.length_append, List.length_singleton]
               omega
           rw [show (w7.setCell ⟨rb, 0, none⟩ (.slice A7 (R.eraseIdx i).length c7)).heap.size = w7.heap.size from by simp [World.setCell]] at RR
           clear hr7 ho7 hb7 hr8 hv8 ho8 hb8 hv7 hg7))
      obtain ⟨vA', vc', rfl⟩ := own_len HO6.out
      go_roundw
      case rel => exact ⟨_, _, _, _, rfl, RR⟩
      case measure => simp; omega
end Go.Proofs.Ytojfimbanaijdaa
