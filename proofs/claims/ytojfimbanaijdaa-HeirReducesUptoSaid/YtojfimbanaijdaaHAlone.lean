/-
  What repeats and alone return, in package heir.
-/
import Derived.Test.YtojfimbanaijdaaHList
namespace Go.Proofs.Ytojfimbanaijdaa
open Go.RowKit Go.Shelf

namespace Hr
def repeats (l : List Nm) : Bool := !decide l.Nodup
def seenF (pre : List Nm) : Nm → Option Bool := fun s => if s ∈ pre then some true else none
theorem seenF_snoc (pre : List Nm) (x : Nm) : upd (seenF pre) x true = seenF (pre ++ [x]) := by
  funext s
  unfold upd seenF
  by_cases h : s = x
  · simp [h]
  · simp [h]
theorem repeats_hit (l : List Nm) (k : Nat) (h : k < l.length) (hm : l[k] ∈ l.take k) : repeats l = true := by
  unfold repeats
  simp only [Bool.not_eq_true', decide_eq_false_iff_not]
  intro hn
  rw [← List.take_append_drop k l, List.nodup_append] at hn
  have hd : l[k] ∈ l.drop k := by
    rw [List.drop_eq_getElem_cons h]
    exact List.mem_cons_self
  exact hn.2.2 _ hm l[k] hd rfl
theorem nodup_next (l : List Nm) (k : Nat) (h : k < l.length) (hn : (l.take k).Nodup) (hm : l[k] ∉ l.take k) : (l.take (k + 1)).Nodup := by
  rw [List.take_succ_eq_append_getElem h, List.nodup_append]
  refine ⟨hn, by simp, fun a ha b hb => ?_⟩
  rw [List.mem_singleton.1 hb]
  rintro rfl
  exact hm ha
def alone (c : Cls) : Int := if 4 < c.ups.length then 3 else if isName c.name = false then 4 else if repeats c.ups = true then 6 else 0
end Hr

theorem tMapB : Try.prog.underlying 124 = some (.map 9 4) := Try.underlying124
theorem zBool (w : World) : (zeroValue 4).run Try.prog w = .ok (.bool false) w := Try.zeroValue4 w
abbrev MB (w : World) (m k : Nat) (f : Hr.Nm → Option Bool) : Prop := MapB Try.prog 9 4 w m k f

section
variable {P : Program} {k e t : TypeId} {w w' : World} {b n : Nat}
variable {ops : Array Oper} {rest : List Oper} {o : Oper} {a : Act} {Q : Exit → Act → World → Prop}
theorem wpB_at (hg : o.guard = none) (m x : Operand) (hop : o.op = Op.lookup t m x false) (hk : P.underlying k = some .string) (ht : P.underlying t = some (.map k e)) (he : P.underlying e = some .bool) (hz : (zeroValue e).run P w = .ok (.bool false) w)
    (hm : a.eval m = .map (some b)) {f} (h : MapB P k e w b n f) (N : Hr.Nm) (hx : a.eval x = nm N) (hs : N.length ≤ 140737488355328) (i : Bool) (hf : (f N).getD false = i)
    (hK : wpList P ops Q rest (a.put o.dst (.bool i)) w) : wpList P ops Q (o :: rest) a w := by
  refine wpB_look hg m x hop hk ht he hz hm h _ hx (size_fine hs) ?_
  rw [show (⟨N.toArray⟩ : ByteArray).data.toList = N from by simp, hf]
  exact hK
theorem wpB_put (hg : o.guard = none) (m x v : Operand) (hop : o.op = Op.mapUpdate t m x v) (hk : P.underlying k = some .string) (ht : P.underlying t = some (.map k e)) (he : P.underlying e = some .bool)
    (hm : a.eval m = .map (some b)) {f} (h : MapB P k e w b n f) (hn : n < maxLen) (N : Hr.Nm) (hx : a.eval x = nm N) (hs : N.length ≤ 140737488355328) (c : Bool) (hv : a.eval v = .bool c)
    (hK : ∀ w', MapB P k e w' b (n + 1) (upd f N c) → w.grownBy w' (some b) → wpList P ops Q rest (a.put o.dst undef) w') : wpList P ops Q (o :: rest) a w := by
  refine wpB_store hg m x v hop hk ht he hm h hn _ hx (size_fine hs) c hv (fun w' h1 h2 => ?_)
  rw [show (⟨N.toArray⟩ : ByteArray).data.toList = N from by simp] at h1
  exact hK w' h1 h2
end

set_option maxRecDepth 100000 in
set_option maxHeartbeats 1000000 in
theorem repeats_any (v : Value) (l : List Hr.Nm) (w : World) (h : NmsAt w v l) (hl : l.length ≤ 1000000) (hf : FineN l) :
    Calls Try.prog 54 #[v] w fun e w' => e = .returned (.bool (Hr.repeats l)) ∧ Below w.heap.size w w' := by
  have HC := Lib.hid h
  have HF := Lib.hid hf
  obtain ⟨A, c, rfl, -⟩ := h
  clear hf
  have h0 : MB (w.alloc (.map #[] 0)) w.heap.size 0 (Hr.seenF []) := (MapB.made w).of_eq (fun s => by simp [Hr.seenF])
  have H0 := Lib.hid h0
  have hB0 : Below w.heap.size w (w.alloc (.map #[] 0)) := (Below.refl _ _).alloc (Nat.le_refl _) _
  have HB0 := Lib.hid hB0
  clear h0 hB0
  have hmm := @run_makeMap Try.prog
  go_enter Try.func54, Try.ntmps54
  go_wp2_with fail
  generalize hg : w.heap.size = g at *
  go_loopw [9] (fun i wr => ∃ k : Nat, k ≤ l.length ∧ i = .int .i64 k ∧ Hid (MB wr g k (Hr.seenF (l.take k))) ∧ Hid (Below g w wr) ∧ Hid ((l.take k).Nodup)) (fun i _ => l.length - (intOf i).toNat)
  case atStart => exact ⟨0, Nat.zero_le _, rfl, by rw [List.take_zero]; exact H0, HB0, by show List.Nodup _; simp⟩
  case round =>
    obtain ⟨k, hk, rfl, HM, HB, HN⟩ := hrel
    by_cases hlt : k < l.length
    · obtain ⟨A', c', hv, hat⟩ := HC.out.below HB.out (by omega)
      cases hv
      obtain ⟨b, o, hA, hat2⟩ := hat (by omega)
      subst hA
      have c0 := hat2 k hlt
      have hblt := World.block_lt_of_cell? _ _ c0
      have hn := HF.out l[k] (List.getElem_mem hlt)
      have hw1 : IntKind.i64.wrap ((k : Int) + 1) = (k : Int) + 1 := IntWalk.i64_in _ (by omega)
      have hltI : (k : Int) < l.length := by omega
      have hgr : g < wr.heap.size := HM.out.lt
      have hk63 : k < maxLen := by simp [maxLen]; omega
      by_cases hin : l[k] ∈ l.take k
      · have hval : (Hr.seenF (l.take k) l[k]).getD false = true := by unfold Hr.seenF; rw [if_pos hin]; rfl
        have hres := Hr.repeats_hit l k hlt hin
        have HR := Lib.hid hres
        clear hat hat2 hres hin
        generalize l[k] = N at *
        go_wp2_with (at_lookup; refine wpB_at rfl _ _ rfl Try.underlying9 tMapB Try.underlying4 (zBool _) rfl HM.out N rfl hn _ hval ?_)
        go_ret
        refine ⟨by rw [HR.out]; rfl, ?_⟩
        first | exact HB.out | (rw [hg]; exact HB.out)
      · have hval : (Hr.seenF (l.take k) l[k]).getD false = false := by unfold Hr.seenF; rw [if_neg hin]; rfl
        have hnx := Hr.nodup_next l k hlt HN.out hin
        have hsn := Hr.seenF_snoc (l.take k) l[k]
        rw [← List.take_succ_eq_append_getElem hlt] at hsn
        have HNX := Lib.hid hnx
        have HSN := Lib.hid hsn
        clear hat hat2 hnx hsn hin
        generalize l[k] = N at *
        go_wp2_with (first
          | (at_lookup; refine wpB_at rfl _ _ rfl Try.underlying9 tMapB Try.underlying4 (zBool _) rfl HM.out N rfl hn _ hval ?_)
          | (at_mapUpdate; refine wpB_put rfl _ _ _ rfl Try.underlying9 tMapB Try.underlying4 rfl HM.out hk63 N rfl hn true rfl (fun w' hm' hg' => ?_); clear HM))
        have hB2 : Below g w w' := HB.out.grown hg' (by omega) (fun r e => by cases e; omega)
        go_roundw
        case rel => exact ⟨k + 1, by omega, by go_num, by rw [← HSN.out]; exact hm', hB2, HNX⟩
        case measure => simp [intOf]; omega
    · obtain rfl : k = l.length := by omega
      go_wp2_with fail
      go_ret
      have hnd : l.Nodup := by have := HN.out; rwa [List.take_length] at this
      refine ⟨by unfold Hr.repeats; simp [hnd], ?_⟩
      first | exact HB.out | (rw [hg]; exact HB.out)

set_option maxRecDepth 100000 in
set_option maxHeartbeats 1000000 in
theorem alone_any (C : Hr.Cls) (d : Bool) (A2 A3 A4 A5 A6 : Option Addr) (n2 c2 c3 n4 c4 n5 c5 n6 c6 : Nat) (w : World) (hn : C.name.length ≤ 140737488355328) (hu : UpsAt w (.slice A3 C.ups.length c3) C.ups) :
    Calls Try.prog 42 #[.agg #[nm C.name, .bool d, .slice A2 n2 c2, .slice A3 C.ups.length c3, .slice A4 n4 c4, .slice A5 n5 c5, .slice A6 n6 c6]] w fun e w' => e = .returned (.int .i64 (Hr.alone C)) ∧ Below w.heap.size w w' := by
  obtain ⟨N, l⟩ := C
  dsimp only at *
  have hB0 : Below w.heap.size w (w.alloc (.cells #[nm N, .bool d, .slice A2 n2 c2, .slice A3 l.length c3, .slice A4 n4 c4, .slice A5 n5 c5, .slice A6 n6 c6] 48)) := (Below.refl _ _).alloc (Nat.le_refl _) _
  by_cases h4 : 4 < l.length
  · have h4' : (4 : Int) < l.length := by omega
    have hres : Hr.alone ⟨N, l⟩ = 3 := by unfold Hr.alone; rw [if_pos h4]
    rw [hres]
    go_enter Try.func42, Try.ntmps42
    go_wp2_with fail
    go_ret
    exact ⟨rfl, hB0⟩
  · have h4' : ¬ (4 : Int) < l.length := by omega
    have hfl : FineN l := fun s hs => by
      obtain ⟨i, hi, rfl⟩ := List.getElem_of_mem hs
      obtain ⟨A', c', hv, h⟩ := hu
      obtain ⟨b, o, _, h⟩ := h (by omega)
      exact (h i hi).1
    have hu' := hu.keep (kept_below hB0 (Nat.le_refl _))
    have hE := eachParent_any _ l _ hu' (by omega)
    have HE := Lib.hid hE
    have HI := Lib.hid (fun w => isName_any N w hn)
    have HFL := Lib.hid hfl
    have HB0 := Lib.hid hB0
    clear hE hfl hB0 hu hu'
    have hres1 : Hr.isName N = false → Hr.alone ⟨N, l⟩ = 4 := fun h => by unfold Hr.alone; rw [if_neg h4, if_pos h]
    have hres2 : Hr.isName N = true → Hr.alone ⟨N, l⟩ = if Hr.repeats l = true then 6 else 0 := fun h => by unfold Hr.alone; rw [if_neg h4, if_neg (by rw [h]; simp)]
    have R1 := Lib.hid hres1
    have R2 := Lib.hid hres2
    clear hres1 hres2
    generalize Hr.isName N = bn at *
    cases bn with
    | false =>
      rw [R1.out rfl]
      go_enter Try.func42, Try.ntmps42
      go_wp2_with (go_at_call 77; refine (HI.out _).mono ?_; rintro e w' ⟨rfl, rfl⟩)
      go_ret
      exact ⟨rfl, HB0.out⟩
    | true =>
      rw [R2.out rfl]
      generalize hrp : Hr.repeats l = br at *
      cases br with
      | true =>
        go_enter Try.func42, Try.ntmps42
        go_wp2_with (first
          | (go_at_call 77; refine (HI.out _).mono ?_; rintro e w' ⟨rfl, rfl⟩)
          | (go_at_call 78; refine HE.out.mono ?_
             rintro e w4 ⟨o, rfl, ho4, hb4⟩
             have HP := Lib.hid (repeats_any o l w4 (NmsAt.of_own ho4) (by omega) HFL.out)
             rw [hrp] at HP
             have HB4 := Lib.hid (HB0.out.trans (hb4.mono HB0.out.size))
             clear ho4 hb4)
          | (go_at_call 54; refine HP.out.mono ?_
             rintro e w5 ⟨rfl, hb5⟩
             have HB5 := Lib.hid (HB4.out.trans (hb5.mono HB4.out.size))
             clear hb5))
        go_ret
        exact ⟨rfl, HB5.out⟩
      | false =>
        go_enter Try.func42, Try.ntmps42
        go_wp2_with (first
          | (go_at_call 77; refine (HI.out _).mono ?_; rintro e w' ⟨rfl, rfl⟩)
          | (go_at_call 78; refine HE.out.mono ?_
             rintro e w4 ⟨o, rfl, ho4, hb4⟩
             have HP := Lib.hid (repeats_any o l w4 (NmsAt.of_own ho4) (by omega) HFL.out)
             rw [hrp] at HP
             have HB4 := Lib.hid (HB0.out.trans (hb4.mono HB0.out.size))
             clear ho4 hb4)
          | (go_at_call 54; refine HP.out.mono ?_
             rintro e w5 ⟨rfl, hb5⟩
             have HB5 := Lib.hid (HB4.out.trans (hb5.mono HB4.out.size))
             clear hb5))
        go_ret
        exact ⟨rfl, HB5.out⟩
end Go.Proofs.Ytojfimbanaijdaa
