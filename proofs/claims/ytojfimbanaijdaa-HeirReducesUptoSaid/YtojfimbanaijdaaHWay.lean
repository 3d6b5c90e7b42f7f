/-
  What sortedNames returns, and what the way up to a step is, in package heir.
-/
import Derived.Test.YtojfimbanaijdaaHRange
namespace Go.Proofs.Ytojfimbanaijdaa
open Go.RowKit Go.Shelf

set_option maxRecDepth 100000 in
theorem sortedNames_any (v : Value) (S : List Hr.Cls) (w : World) (h : SysAt w v S) (hS : S.length ≤ 1000000) :
    Calls Try.prog 58 #[v] w fun e w' => ∃ o, e = .returned o ∧ w'.ownsRow w.heap.size 9 1 o (Hr.isort (S.map (·.name))).length (nmRow (Hr.isort (S.map (·.name)))) ∧ Below w.heap.size w w' := by
  have HE := Lib.hid (eachClass_any v S w h hS)
  have hl : (S.map (·.name)).length ≤ 1000000 := by rw [List.length_map]; exact hS
  clear h
  generalize S.map (·.name) = l at *
  go_enter Try.func58, Try.ntmps58
  go_wp2_with (first
    | (go_at_call 36; refine HE.out.mono ?_
       rintro e w4 ⟨o, rfl, ho4, hb4⟩
       have HS := Lib.hid (sort_any o w.heap.size _ w4 ho4 hl)
       have HO := Lib.hid ho4
       have HB := Lib.hid hb4
       clear ho4 hb4)
    | (go_at_call 71; refine HS.out.mono ?_
       rintro e w5 ⟨rfl, ho5, hg5⟩
       have HO5 := Lib.hid ho5
       have HB5 := Lib.hid (HB.out.grown hg5 HB.out.size (fun g hg => own_ge HO.out hg))
       clear ho5 hg5))
  go_ret
  exact ⟨o, rfl, HO5.out, HB5.out⟩

theorem reverse_any (v : Value) (B : Nat) (l : List Hr.Nm) (w : World) (ho : w.ownsRow B 9 1 v l.length (nmRow l)) (hl : l.length ≤ 1000000) :
    Calls Try.prog 86 #[v] w fun e w' => e = .returned (.tuple #[]) ∧ w'.ownsRow B 9 1 v l.reverse.length (nmRow l.reverse) ∧ w.grownBy w' v.ownBlock := by
  rcases ho.2 with ⟨rfl, hz⟩ | ⟨gb, cap, cur, rfl, hbase, hgb, r1, r2, r3, r4⟩
  · have hss : l = [] := List.eq_nil_of_length_eq_zero hz
    subst hss
    refine (Try.slices_Reverse_string_empty none 0 w).mono ?_
    rintro e w' ⟨rfl, rfl⟩
    exact ⟨rfl, ho, ⟨rfl, rfl, rfl, Nat.le_refl _, fun _ _ _ => rfl⟩⟩
  · have h4 : List.take l.length cur.toList = nmRow l := by simpa using r4
    have hH := holds_of_block (ss := l) hgb h4
    refine (Try.slices_Reverse_string gb 0 cap l w hH (by omega)).mono ?_
    rintro e w' ⟨rfl, nn, rfl⟩
    have hg := grownBy_sorted (w := w) (g := gb) (n := nn) (os := #[]) l.reverse.toArray
    have hr := ownsRow_sorted (w := w) (base := B) (g := gb) (cap := cap) (n := nn) (e := 9) (os := #[]) (cur := cur) (ss := l) (ts := l.reverse) (by simp) hbase hgb r1 r2 r3
    rw [Sort.grow_empty] at hg hr
    refine ⟨rfl, ?_, hg⟩
    rw [List.length_reverse]
    exact hr

/-- A step and the steps by which it was come to. -/
def StepAt (W : World) : Nat → Hr.Nm → List Hr.Nm → Prop
  | b, s, [] => s.length ≤ 140737488355328 ∧ Has W b 103 #[nm s, .pointer none, .int .i64 0]
  | b, s, d :: r => s.length ≤ 140737488355328 ∧ ∃ b', Has W b 103 #[nm s, .pointer (some ⟨b', 0, none⟩), .int .i64 ((r.length : Int) + 1)] ∧ StepAt W b' d r
theorem StepAt.keep {W W' : World} (hk : ∀ b cs, Has W b 103 cs → Has W' b 103 cs) : ∀ (r : List Hr.Nm) (b : Nat) (s : Hr.Nm), StepAt W b s r → StepAt W' b s r
  | [], _, _, h => ⟨h.1, hk _ _ h.2⟩
  | d :: r, _, _, ⟨h0, b', h1, h2⟩ => ⟨h0, b', hk _ _ h1, StepAt.keep hk r b' d h2⟩
theorem StepAt.below {W W' : World} (hb : Below W.heap.size W W') {b : Nat} {s : Hr.Nm} {r : List Hr.Nm} (h : StepAt W b s r) : StepAt W' b s r :=
  StepAt.keep (fun _ _ h => h.below hb h.lt) r b s h
theorem StepAt.cells {W : World} {b : Nat} {s : Hr.Nm} {r : List Hr.Nm} (h : StepAt W b s r) : s.length ≤ 140737488355328 ∧ ∃ f, Has W b 103 #[nm s, f, .int .i64 (r.length : Int)] ∧ (f = .pointer none ∧ r = [] ∨ ∃ b' d r', f = .pointer (some ⟨b', 0, none⟩) ∧ r = d :: r' ∧ StepAt W b' d r') := by
  cases r with
  | nil => exact ⟨h.1, _, h.2, .inl ⟨rfl, rfl⟩⟩
  | cons d r =>
    obtain ⟨h0, b', h1, h2⟩ := h
    refine ⟨h0, _, ?_, .inr ⟨b', d, r, rfl, rfl, h2⟩⟩
    rw [List.length_cons]
    exact h1

set_option maxRecDepth 100000 in
set_option maxHeartbeats 1000000 in
theorem way_any (b : Nat) (s : Hr.Nm) (r : List Hr.Nm) (w : World) (h : StepAt w b s r) (hr : r.length ≤ 900000) :
    Calls Try.prog 53 #[.pointer (some ⟨b, 0, none⟩)] w fun e w' => ∃ o, e = .returned o ∧ w'.ownsRow w.heap.size 9 1 o (Hr.wayOf (s, r)).length (nmRow (Hr.wayOf (s, r))) ∧ Below w.heap.size w w' := by
  obtain ⟨i0, hi, hz0, hz1, hz2⟩ := info_parts strInfo
  have HST := Lib.hid h
  clear h
  go_enter Try.func53, Try.ntmps53
  go_wp2_with fail
  generalize hg : w.heap.size = g at *
  go_loopw [0, 3] (fun x o wr => ∃ (pre rest : List Hr.Nm), pre ++ rest = s :: r ∧ Hid (match rest with | [] => x = .pointer none | d :: q => ∃ b', x = .pointer (some ⟨b', 0, none⟩) ∧ StepAt w b' d q) ∧ Hid (wr.ownsRow g 9 1 o pre.length (nmRow pre)) ∧ Hid (Below g w wr)) (fun _ o _ => r.length + 1 - (match o with | .slice _ n _ => n | _ => 0))
  case atStart =>
    refine ⟨[], s :: r, rfl, ?_, ?_, ?_⟩
    · exact ⟨b, rfl, HST.out⟩
    · exact World.ownsRow_nil _ _ _ _
    · rw [← hg]; exact Below.refl _ _
  case round =>
    obtain ⟨pre, rest, hpr, HX, HO, HB⟩ := hrel
    have hlen := congrArg List.length hpr
    rw [List.length_append, List.length_cons] at hlen
    have hBs : g ≤ wr.heap.size := by have := HB.out.size; omega
    obtain ⟨oA, oc, rfl⟩ := own_len HO.out
    cases rest with
    | nil =>
      obtain rfl := HX.out
      rw [List.append_nil] at hpr
      have HRV := Lib.hid (reverse_any _ g pre wr HO.out (by simp at hlen; omega))
      have hw : Hr.wayOf (s, r) = pre.reverse := by unfold Hr.wayOf; rw [hpr]
      have HW := Lib.hid hw
      clear hw hpr hlen
      go_wp2_with (first
        | (go_at_call 86; refine HRV.out.mono ?_
           rintro e w5 ⟨rfl, ho5, hg5⟩
           have HO5 := Lib.hid ho5
           have HB5 := Lib.hid (HB.out.grown hg5 hBs (fun g hg => own_ge HO.out hg))
           clear ho5 hg5))
      go_ret
      rw [HW.out]
      refine ⟨_, rfl, ?_, ?_⟩
      · first | exact HO5.out | (rw [hg]; exact HO5.out)
      · first | exact HB5.out | (rw [hg]; exact HB5.out)
    | cons d q =>
      obtain ⟨b', rfl, hst⟩ := HX.out
      obtain ⟨hn, f, hcs0, hf⟩ := hst.cells
      have hcs := hcs0.below HB.out (by have := hcs0.lt; omega)
      have s0 := hcs.cell 0
      have s1 := hcs.cell 1
      have slt := hcs.lt
      simp only [List.getElem?_toArray, List.getElem?_cons_zero, List.getElem?_cons_succ] at s0 s1
      have O5 : Hid ((wr.alloc (.cells #[nm d] 9)).ownsRow g 9 1 (.slice oA pre.length oc) pre.length (nmRow pre)) := HO.out.alloc _
      have B5 : Hid (Below g w (wr.alloc (.cells #[nm d] 9))) := HB.out.alloc hBs _
      have C5 := Lib.hid (hcs.alloc (.cells #[nm d] 9))
      have N1 := Lib.hid (one_new wr (nm d) 9)
      have N7 : Hid (g ≤ (wr.alloc (.cells #[nm d] 9)).heap.size) := by show _ ≤ _; simp; omega
      have N8 : Hid (pre.length + 1 ≤ maxLen) := by show _ ≤ _; unfold maxLen; simp at hlen; omega
      have N9 : Hid ((pre.length + 1) * 16 ≤ 140737488355328) := by show _ ≤ _; simp at hlen; omega
      have HF := Lib.hid hf
      have HPR := Lib.hid hpr
      have HLEN := Lib.hid hlen
      clear hst hcs hcs0 hf HX hpr hlen
      go_wp2_with (first
        | (at_builtin; refine wpList_append_own_at _ rfl _ _ 26 rfl g 9 i0 (.string ⟨#[]⟩) 1 16 Try.underlying26 hi hz0 hz1 hz2 rfl (by decide) _ _ _ rfl O5.out ⟨wr.heap.size, 0, none⟩ 1 1 [nm d] rfl rfl N1.out (by simp [Value.oneCell']) N8.out N9.out N7.out ?_
           intro v' w5 hown5 hg5 _ hat5
           have hb5 := C5.out.grown hg5 (own_apart O5.out C5.out (by decide))
           obtain ⟨vA, vc, rfl⟩ := own_len hown5
           have y0 := hb5.cell 0
           have y1 := hb5.cell 1
           have ylt := hb5.lt
           simp only [List.getElem?_toArray, List.getElem?_cons_zero, List.getElem?_cons_succ] at y0 y1
           have R1 := Lib.hid hown5
           have RG := Lib.hid hg5
           have R3 := Lib.hid (B5.out.grown hg5 N7.out (fun g hg => own_ge O5.out hg))
           clear hown5 hg5 hb5 hat5))
      go_roundw
      case rel =>
        refine ⟨pre ++ [d], q, by rw [List.append_assoc]; exact HPR.out, ?_, ?_, R3⟩
        · rcases HF.out with ⟨rfl, rfl⟩ | ⟨b2, d2, q2, rfl, rfl, h2⟩
          · rfl
          · exact ⟨b2, rfl, h2⟩
        · show World.ownsRow _ _ _ _ _ _ _
          rw [nmRow_snoc, List.length_append]
          exact R1.out
      case measure =>
        have := HLEN.out
        simp at this ⊢
        omega
end Go.Proofs.Ytojfimbanaijdaa
