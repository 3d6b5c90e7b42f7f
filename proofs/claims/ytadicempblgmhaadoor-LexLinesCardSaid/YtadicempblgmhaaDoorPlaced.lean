/-
  Whether tokens stand at places of a text, in their order, in package lex.
-/
import Derived.Test.YtadicempblgmhaaDoorStill
namespace Go.Proofs.YtadicempblgmhaaDoor
open Go.RowKit Go.Shelf

attribute [local go_sem] Oper.semAt_some
-- where a guard is false, whnf would run through the whole rest of the program
attribute [local irreducible] wpStill

namespace Lx
def atPlace (s : List UInt8) (k : Nat) (t : Tok) : Bool := (t.line == ((place s k).1 : Int)) && (t.col == ((place s k).2 : Int))
/-- What is left of tokens when some places have been met. -/
def leftOf (s : List UInt8) (l : List Tok) (pre : List Nat) : List Tok := pre.foldl (fun r k => r.dropWhile (atPlace s k)) l
theorem leftOf_snoc (s : List UInt8) (l : List Tok) (pre : List Nat) (k : Nat) : leftOf s l (pre ++ [k]) = (leftOf s l pre).dropWhile (atPlace s k) := by
  unfold leftOf; rw [List.foldl_append]; rfl
/-- Whether tokens stand at places, in their order. -/
def placed (l : List Tok) (s : List UInt8) : Bool := (leftOf s l (List.range (s.length + 1))).isEmpty
end Lx

set_option maxRecDepth 100000 in
set_option maxHeartbeats 8000000 in
theorem arePlaced_any (v : Value) (l : List Lx.Tok) (s : ByteArray) (w : World) (hl : ToksAt w v l) (hlen : l.length ≤ 100000) (hs : s.size ≤ 900000) :
    Calls Tryd.prog 81 #[v, .string s] w fun e w' => e = .returned (.bool (Lx.placed l s.data.toList)) ∧ Below w.heap.size w w' := by
  have hl' : ∀ W, Below w.heap.size w W → ToksAt W v l := fun W h => hl.below h (Nat.le_refl _)
  have HL := Lib.hid hl'
  obtain ⟨A, c, rfl, -⟩ := hl
  clear hl'
  refine (callsIn_wide (n := 5)).1 ?_
  refine callsIn_of_wp_marks Tryd.func81 rfl trivial ?_ rfl
  simp only [Tryd.ntmps81, List.size_toArray, List.length_cons, List.length_nil, Nat.reduceAdd, Nat.reduceSub, Array.replicate_succ, Array.replicate_zero, List.push_toArray, List.append_toArray, List.nil_append, List.cons_append]
  have PI := fun w => places_in 4 s w
  gi_wp2_with (refine ⟨trivial, ?_⟩; gi_at_call 72; refine (PI _).mono ?_; rintro e w' ⟨rfl, rfl⟩)
  clear PI
  obtain ⟨w4, hw4⟩ : ∃ w4, w4 = (((w.alloc (.cells #[.slice A l.length c] 35)).alloc (.cells #[.int .i64 0] 3)).alloc (.cells #[.string s] 9)) := ⟨_, rfl⟩
  rw [← hw4]
  have hB4 : Below w.heap.size w w4 := by rw [hw4]; exact (((Below.refl _ _).alloc (Nat.le_refl _) _).alloc (by simp) _).alloc (by simp; omega) _
  have hv : Has w4 w.heap.size 35 #[.slice A l.length c] := by rw [hw4]; exact ((Has.new _ _ _).alloc _).alloc _
  have hn : Has w4 (w.heap.size + 1) 3 #[.int .i64 0] := by
    rw [hw4]; have := (Has.new (w.alloc (.cells #[.slice A l.length c] 35)) 3 #[.int .i64 0]).alloc (.cells #[.string s] 9)
    rw [World.size_alloc] at this; exact this
  have hb : Has w4 (w.heap.size + 1 + 1) 9 #[.string s] := by
    rw [hw4]; have := Has.new ((w.alloc (.cells #[.slice A l.length c] 35)).alloc (.cells #[.int .i64 0] 3)) 9 #[.string s]
    rw [World.size_alloc, World.size_alloc] at this; exact this
  have hsz4 : w4.heap.size = w.heap.size + 3 := by rw [hw4]; simp
  clear hw4
  generalize hBw : w.heap.size = B at *
  refine range_above rfl (by decide) (gf := 108) (lb := #[.pointer (some ⟨B + 1 + 1, 0, none⟩)]) rfl trivial (enters_of Tryd.func108 (by kernel_rfl) rfl)
    (places_stops 4 (by decide) (B + 1 + 1) s w4 hs (by rw [hb.cell 0]; rfl)) (fun h k => h.trans k) (keptP_put _) (fun _ => rfl)
    (fun pre W => Below B w W ∧ Has W B 35 #[.slice A l.length c] ∧ ∃ n : Nat, n ≤ l.length ∧ Has W (B + 1) 3 #[.int .i64 n] ∧ Hid (l.drop n = Lx.leftOf s.data.toList l pre))
    (fun c pre W => False)
    ?hI ?hIx ⟨hB4, hv, 0, Nat.zero_le _, hn, rfl⟩ ?round ?done ?stop
  case hI => exact fun pre X Y row ⟨h1, h2, n, h3, h4, h5⟩ hg hr => ⟨below_above h1 hg hr (by omega) (by omega), h2.above hg hr (by omega), n, h3, h4.above hg hr (by omega), h5⟩
  case hIx => exact fun c pre X Y row h _ _ => h
  case round =>
    rintro lp pre x W hlp ⟨o, hlo, hlc⟩ ⟨hB, hv, n0, hn0, hn, hdr⟩ hlen'
    dsimp only [encPlace]
    have HAT : Hid (∀ t : Lx.Tok, Lx.atPlace s.data.toList x t = ((t.line == ((Lx.place s.data.toList x).1 : Int)) && (t.col == ((Lx.place s.data.toList x).2 : Int)))) := fun _ => rfl
    generalize ((Lx.place s.data.toList x).1 : Int) = la at *
    generalize ((Lx.place s.data.toList x).2 : Int) = ca at *
    gi_wp2
    refine ⟨KeepsOthers.alloc _ _, keptP_alloc _ _ _, fun o' => ?_⟩
    obtain ⟨W2, hW2⟩ : ∃ W2, W2 = (W.alloc (.cells #[.int .i64 la, .int .i64 ca] 37)).putObj lp o' := ⟨_, rfl⟩
    rw [← hW2]
    have hlW : (W.alloc (.cells #[.int .i64 la, .int .i64 ca] 37)).heap[lp]? = some o := (Below.heap_alloc _ _ _ (Array.getElem?_eq_some_iff.1 hlo).1).trans hlo
    have hB2 : Below B w W2 := by rw [hW2]; exact below_above (hB.alloc (by have := hB.size; omega) _) (grownBy_putObj' _ _ _) (fun r e => by cases e; exact hlp) (by omega) (by omega)
    have hv2 : Has W2 B 35 #[.slice A l.length c] := by rw [hW2]; exact has_put _ (hv.alloc _) hlW hlc
    have hn2 : Has W2 (B + 1) 3 #[.int .i64 n0] := by rw [hW2]; exact has_put _ (hn.alloc _) hlW hlc
    have hx2 : Has W2 W.heap.size 37 #[.int .i64 la, .int .i64 ca] := by rw [hW2]; exact has_put _ (Has.new _ _ _) hlW hlc
    have hXB : B + 1 < W.heap.size := hn.lt
    clear hW2 hlW hlo hB hv hn
    generalize W.heap.size = X at *
    have HDR := hdr
    clear hdr
    gi_wp2
    gi_loopw [12] (fun _ wr => ∃ n : Nat, n ≤ l.length ∧ W2.grownBy wr (some (B + 1)) ∧ Has wr (B + 1) 3 #[.int .i64 n] ∧ Hid ((l.drop n).dropWhile (Lx.atPlace s.data.toList x) = (l.drop n0).dropWhile (Lx.atPlace s.data.toList x))) (fun _ wr => l.length - (intOf ((wr.cell? ⟨B + 1, 0, none⟩).getD undef)).toNat)
    case atStart => exact ⟨n0, hn0, ⟨rfl, rfl, rfl, Nat.le_refl _, fun _ _ _ => rfl⟩, hn2, rfl⟩
    case round =>
      obtain ⟨n, hn', hgr, hnr, hdw⟩ := hrel
      have hBr : Below B w wr := hB2.grown hgr (by have := hB2.size; omega) (fun k e => by cases e; omega)
      have hvr := hv2.grown hgr (by simp)
      have hxr := hx2.grown hgr (by simp; omega)
      have v0 := hvr.cell 0
      have m0 := hnr.cell 0
      have x0 := hxr.cell 0
      have x1 := hxr.cell 1
      have mf := hnr.free 0
      have mlt := hnr.lt
      have vlt := hvr.lt
      have xlt := hxr.lt
      simp only [List.getElem?_toArray, List.getElem?_cons_zero, List.getElem?_cons_succ] at v0 m0 x0 x1
      have hko : KeepsOthers W2 wr.drew := by
        have h1 : KeepsOthers W2 wr := KeepsOthers.of_grownBy hgr (fun j o e ho => by cases e; rw [show W2.heap[B + 1]? = _ from hn2] at ho; cases ho; rfl)
        exact h1.trans ⟨Nat.le_refl _, fun _ _ h _ => h⟩
      have hkp : KeptP (B + 1 + 1) W2 wr.drew := ⟨fun u hu => by
          rcases hgr' : W2.heap[B + 1 + 1]? with _ | ob
          · unfold World.cell? at hu
            rw [hgr'] at hu
            cases hu
          · have hq := hgr.block (B + 1 + 1) (Array.getElem?_eq_some_iff.1 hgr').1 (by simp)
            show wr.cell? _ = _
            unfold World.cell? at hu ⊢
            rw [hq]
            exact hu,
        fun b cs hb => by
          have : b ≠ B + 1 := fun e => by
            subst e
            unfold Has at hb hn2
            rw [hb] at hn2
            cases hn2
          show Has wr b _ cs
          exact hb.grown hgr (by simp; exact this)⟩
      have hfin : (l.drop n).dropWhile (Lx.atPlace s.data.toList x) = l.drop n → KeepsOthers W2 wr.drew ∧ KeptP (B + 1 + 1) W2 wr.drew ∧ Below B w wr.drew ∧ Has wr.drew B 35 #[.slice A l.length c] ∧ ∃ n : Nat, n ≤ l.length ∧ Has wr.drew (B + 1) 3 #[.int .i64 n] ∧ Hid (l.drop n = Lx.leftOf s.data.toList l (pre ++ [x])) := fun hd =>
        ⟨hko, hkp, hBr.trans ⟨rfl, rfl, rfl, Nat.le_refl _, fun _ _ => rfl⟩, hvr, n, hn', hnr, Lib.hid (by rw [Lx.leftOf_snoc, ← HDR.out, ← hdw.out, hd])⟩
      have HFIN := Lib.hid hfin
      have HH := Lib.hid hdw
      clear hdw hfin hkp hko
      by_cases hlt : n < l.length
      · obtain ⟨A', c', hv', hc⟩ := HL.out wr (hBw ▸ hBr)
        cases hv'
        obtain ⟨b, o, hA, hc2⟩ := hc (by omega)
        obtain ⟨c0, c1, c2, c3⟩ := hc2 n hlt
        subst hA
        clear hc hc2
        have hblt := World.block_lt_of_cell? _ _ c0
        have hdrop : l.drop n = l[n] :: l.drop (n + 1) := List.drop_eq_getElem_cons hlt
        have hAT := HAT.out l[n]
        generalize l[n] = T at *
        have HD := Lib.hid hdrop
        have HA := Lib.hid hAT
        have HG := Lib.hid hgr
        have HNR := Lib.hid hnr
        have HM0 := Lib.hid m0
        clear hdrop hAT hgr hnr hBr hvr hxr c0 c1 hB2 hv2 hn2 hx2
        have hnl : (n : Int) < l.length := by omega
        by_cases e1 : T.line = la
        · by_cases e2 : T.col = ca
          · rw [e1] at c2
            rw [e2] at c3
            have hyes : Lx.atPlace s.data.toList x T = true := by rw [HA.out, e1, e2]; simp
            have HY := Lib.hid hyes
            clear hyes e1 e2
            gi_wp2
            refine regionIn_still (by kernel_rfl) (by kernel_rfl) (by kernel_rfl) ?_
            repeat still_step
            refine wpStill_nil ?_
            gi_wp2
            go_roundw
            case rel =>
              refine ⟨n + 1, by omega, grown_two (grown_two HG.out (grown_set wr (B + 1) 0 _)) ⟨rfl, rfl, rfl, Nat.le_refl _, fun _ _ _ => rfl⟩, HNR.out.set 0 _, ?_⟩
              refine Lib.hid ?_
              rw [← HH.out, HD.out, List.dropWhile_cons, if_pos HY.out]
            case measure =>
              rw [show (wr.setCell ⟨B + 1, 0, none⟩ (.int .i64 ((n : Int) + 1))).drew.cell? ⟨B + 1, 0, none⟩ = some (.int .i64 ((n : Int) + 1)) from (HNR.out.set 0 (.int .i64 ((n : Int) + 1))).cell 0, HM0.out]
              simp [intOf]
              omega
          · have hno : Lx.atPlace s.data.toList x T = false := by rw [HA.out]; simp [e2]
            have HY := Lib.hid hno
            clear hno
            gi_wp2
            refine regionIn_still (by kernel_rfl) (by kernel_rfl) (by kernel_rfl) ?_
            repeat still_step
            refine wpStill_nil ?_
            gi_wp2
            exact HFIN.out (by rw [HD.out, List.dropWhile_cons, if_neg (by rw [HY.out]; exact Bool.noConfusion)])
        · have hno : Lx.atPlace s.data.toList x T = false := by rw [HA.out]; simp [e1]
          have HY := Lib.hid hno
          clear hno
          gi_wp2
          refine regionIn_still (by kernel_rfl) (by kernel_rfl) (by kernel_rfl) ?_
          repeat still_step
          refine wpStill_nil ?_
          gi_wp2
          exact HFIN.out (by rw [HD.out, List.dropWhile_cons, if_neg (by rw [HY.out]; exact Bool.noConfusion)])
      · have hnl : (l.length : Int) ≤ n := by omega
        have hdn : l.drop n = [] := List.drop_of_length_le (by omega)
        have HDN := Lib.hid hdn
        have hdec : decide ((n : Int) < l.length) = false := by simp; omega
        clear hdn hgr hnr hBr hvr hxr hB2 hv2 hn2 hx2
        gi_wp2
        refine regionIn_still (by kernel_rfl) (by kernel_rfl) (by kernel_rfl) ?_
        repeat still_step
        refine wpStill_nil ?_
        gi_wp2
        exact HFIN.out (by rw [HDN.out]; rfl)
  case done =>
    rintro D xs W hD rfl ⟨hB, hv, n, hn1, hn, hdr⟩ hK
    have hres : Lx.placed l s.data.toList = decide (n = l.length) := by
      unfold Lx.placed
      rw [show s.data.toList.length = s.size from by simp, ← hdr.out]
      by_cases e : n = l.length
      · subst e; simp
      · have : l.drop n ≠ [] := by intro h; rw [List.drop_eq_nil_iff] at h; omega
        cases hd : l.drop n with
        | nil => exact absurd hd this
        | cons => simp [e]
    have HRES := Lib.hid hres
    have v0 := hv.cell 0
    have m0 := hn.cell 0
    simp only [List.getElem?_toArray, List.getElem?_cons_zero] at v0 m0
    have hB' : Below B w (shut [D] W) := below_above hB (grownBy_putObj' _ _ _) (fun r e => by cases e; exact hD) (by omega) (by omega)
    have HB' := Lib.hid hB'
    clear hB' hB hv hn hdr hres
    by_cases e : n = l.length
    · subst e
      gi_wp2
      rw [HRES.out]
      refine leaves_marks [D] _ (by simp) (fun E hE => by rw [List.mem_singleton.1 hE]; exact hK) ?_
      refine ⟨.bool true, ?_, by simp, by first | exact HB'.out | (rw [hBw]; exact HB'.out)⟩
      simp [results, Tryd.results81, go_sem]
    · have hne : ¬ (n : Int) = l.length := by omega
      gi_wp2
      rw [HRES.out]
      refine leaves_marks [D] _ (by simp) (fun E hE => by rw [List.mem_singleton.1 hE]; exact hK) ?_
      refine ⟨.bool false, ?_, by simp; omega, by first | exact HB'.out | (rw [hBw]; exact HB'.out)⟩
      simp [results, Tryd.results81, go_sem]
      exact hne
  case stop => exact fun _ _ _ _ _ _ h => h.elim
end Go.Proofs.YtadicempblgmhaaDoor
