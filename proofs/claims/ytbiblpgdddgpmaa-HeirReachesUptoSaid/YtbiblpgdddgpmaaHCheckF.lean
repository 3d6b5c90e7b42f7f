/-
  What slices.ContainsFunc returns of parents, in package heir: whether one is no class.
-/
import Derived.Test.YtbiblpgdddgpmaaHRingN
namespace Go.Proofs.Ytbiblpgdddgpmaa
open Go.RowKit Go.Shelf

theorem check1_any (N : Hr.Nm) (A2 A3 A4 A5 A6 : Option Addr) (n2 c2 n3 c3 n4 c4 n5 c5 n6 c6 : Nat) (mb m k : Nat) (f : Hr.Nm → Option Int) (w : World) (hn : N.length ≤ 140737488355328) (hc : w.cell? ⟨mb, 0, none⟩ = some (.map (some m))) (hm : MI w m k f) :
    Calls Try.prog 44 #[.agg #[nm N, .slice A2 n2 c2, .slice A3 n3 c3, .slice A4 n4 c4, .slice A5 n5 c5, .slice A6 n6 c6], .pointer (some ⟨mb, 0, none⟩)] w fun e w' => e = .returned (.bool (f N).isNone) ∧ w' = w.alloc (.cells #[nm N, .slice A2 n2 c2, .slice A3 n3 c3, .slice A4 n4 c4, .slice A5 n5 c5, .slice A6 n6 c6] 52) := by
  have HM := Lib.hid (hm.alloc (.cells #[nm N, .slice A2 n2 c2, .slice A3 n3 c3, .slice A4 n4 c4, .slice A5 n5 c5, .slice A6 n6 c6] 52))
  have hlt := World.block_lt_of_cell? _ _ hc
  clear hm
  go_enter Try.func44, Try.ntmps44
  go_wp2_with (go_at_call 45; refine (has_any m k _ _ _ hn HM.out).mono ?_; rintro e w' ⟨rfl, rfl⟩)
  go_ret
  exact ⟨by simp, rfl⟩

set_option maxRecDepth 100000 in
set_option maxHeartbeats 1000000 in
theorem indexFunc_any (v : Value) (l : List Hr.Nm) (mb m k : Nat) (f : Hr.Nm → Option Int) (w : World) (h : UpsAt w v l) (hl : l.length ≤ 1000000) (hc : w.cell? ⟨mb, 0, none⟩ = some (.map (some m))) (hm : MI w m k f) :
    Calls Try.prog 80 #[v, .func (.func 44) #[] #[.pointer (some ⟨mb, 0, none⟩)]] w fun e w' => ∃ i : Int, e = .returned (.int .i64 i) ∧ decide (0 ≤ i) = (l.any fun p => (f p).isNone) ∧ Below w.heap.size w w' := by
  have HC := Lib.hid h
  have HM := Lib.hid hm
  obtain ⟨A, c, rfl, -⟩ := h
  have hclt := World.block_lt_of_cell? _ _ hc
  have HCC := Lib.hid hc
  clear hm hc
  go_enter Try.func80, Try.ntmps80
  go_wp2_with fail
  go_loopw [8] (fun i wr => ∃ j : Nat, j ≤ l.length ∧ i = .int .i64 j ∧ Hid (((l.take j).any fun p => (f p).isNone) = false) ∧ Hid (Below w.heap.size w wr)) (fun i _ => l.length - (intOf i).toNat)
  case atStart => exact ⟨0, Nat.zero_le _, rfl, rfl, Below.refl _ _⟩
  case round =>
    obtain ⟨j, hj, rfl, HA, HB⟩ := hrel
    by_cases hlt : j < l.length
    · obtain ⟨A', c', hv, hat1⟩ := HC.out.keep (kept_below HB.out (Nat.le_refl _))
      cases hv
      obtain ⟨b, o, hA, hat⟩ := hat1 (by omega)
      subst hA
      obtain ⟨hn, c0, A2, n2, k2, A3, n3, k3, A4, n4, k4, A5, n5, k5, A6, n6, k6, c1, c2, c3, c4, c5⟩ := hat j hlt
      have hblt := World.block_lt_of_cell? _ _ c0
      have hBs := HB.out.size
      have hst : ((l.take (j + 1)).any fun p => (f p).isNone) = (f l[j]).isNone := by
        rw [List.take_succ_eq_append_getElem hlt, List.any_append, HA.out]
        simp
      have hyes : (f l[j]).isNone = true → (l.any fun p => (f p).isNone) = true := fun h => List.any_eq_true.2 ⟨_, List.getElem_mem hlt, h⟩
      have hw1 : IntKind.i64.wrap ((j : Int) + 1) = (j : Int) + 1 := IntWalk.i64_in _ (by omega)
      have hltI : (j : Int) < l.length := by omega
      have hj0 : (0 : Int) ≤ j := by omega
      have hC := check1_any l[j] A2 A3 A4 A5 A6 n2 k2 n3 k3 n4 k4 n5 k5 n6 k6 mb m k f wr hn (kept_below HB.out (Nat.le_refl _) _ _ HCC.out) (HM.out.below HB.out HM.out.lt)
      have HCK := Lib.hid hC
      have HST := Lib.hid hst
      have HY := Lib.hid hyes
      clear hst hyes hC hat hat1
      generalize hb : (f l[j]).isNone = bn at *
      clear hb
      generalize l[j] = N at *
      cases bn with
      | true =>
        go_wp2_with (go_at_call 44; refine HCK.out.mono ?_; rintro e w' ⟨rfl, rfl⟩)
        go_ret
        exact ⟨_, rfl, by rw [HY.out (by trivial)]; simp, HB.out.alloc hBs _⟩
      | false =>
        have HB2 := Lib.hid (HB.out.alloc hBs (.cells #[nm N, .slice A2 n2 k2, .slice A3 n3 k3, .slice A4 n4 k4, .slice A5 n5 k5, .slice A6 n6 k6] 52))
        go_wp2_with (go_at_call 44; refine HCK.out.mono ?_; rintro e w' ⟨rfl, rfl⟩)
        go_roundw
        case rel => exact ⟨j + 1, by omega, by go_num, HST, HB2⟩
        case measure => simp [intOf]; omega
    · obtain rfl : j = l.length := by omega
      go_wp2_with fail
      go_ret
      have h := HA.out
      rw [List.take_length] at h
      exact ⟨_, rfl, by rw [h]; simp, HB.out⟩

theorem containsFunc_any (v : Value) (l : List Hr.Nm) (mb m k : Nat) (f : Hr.Nm → Option Int) (w : World) (h : UpsAt w v l) (hl : l.length ≤ 1000000) (hc : w.cell? ⟨mb, 0, none⟩ = some (.map (some m))) (hm : MI w m k f) :
    Calls Try.prog 43 #[v, .func (.func 44) #[] #[.pointer (some ⟨mb, 0, none⟩)]] w fun e w' => e = .returned (.bool (l.any fun p => (f p).isNone)) ∧ Below w.heap.size w w' := by
  have HI := Lib.hid (indexFunc_any v l mb m k f w h hl hc hm)
  clear h hm
  go_enter Try.func43, Try.ntmps43
  go_wp2_with (first
    | (go_at_call 80; refine HI.out.mono ?_
       rintro e w4 ⟨i, rfl, hi, hb4⟩
       have HB := Lib.hid hb4
       have HD := Lib.hid hi
       clear hb4 hi))
  go_ret
  exact ⟨by rw [← HD.out]; rfl, HB.out⟩
end Go.Proofs.Ytbiblpgdddgpmaa
