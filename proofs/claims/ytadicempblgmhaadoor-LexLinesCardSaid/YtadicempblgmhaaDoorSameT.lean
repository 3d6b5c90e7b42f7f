/-
  What the reference's SameTokens returns: whether two lists of tokens are equal.
-/
import Derived.Test.YtadicempblgmhaaDoorSane
import Derived.Deep.QuietTactic
import Derived.BigQuiet
namespace Go.Proofs.YtadicempblgmhaaDoor
open Go.RowKit Go.Shelf

theorem toks_nth (l m : List Lx.Tok) (h : l.length = m.length) : l = m ↔ ∀ i (h1 : i < l.length) (h2 : i < m.length), l[i] = m[i] :=
  ⟨fun e i h1 h2 => by subst e; rfl, fun e => List.ext_getElem h (fun i h1 h2 => e i h1 h2)⟩

set_option maxRecDepth 100000 in
set_option maxHeartbeats 2000000 in
theorem sameToks_any (u v : Value) (l m : List Lx.Tok) (w : World) (hl : ToksAt w u l) (hm : ToksAt w v m) (hlen : l.length ≤ 100000) (hlen2 : m.length ≤ 100000) :
    Calls Tryd.prog 25 #[u, v] w fun e w' => e = .returned (.bool (decide (l = m))) ∧ Below w.heap.size w w' := by
  have HLt := Lib.hid hl
  have HMt := Lib.hid hm
  obtain ⟨A, c, rfl, -⟩ := hl
  obtain ⟨A', c', rfl, -⟩ := hm
  by_cases hne : (l.length : Int) = m.length
  · have hml : m.length = l.length := by omega
    have hiff := toks_nth l m hml.symm
    have HI := Lib.hid hiff
    clear hiff
    have hMt2 := HMt.out
    clear HMt
    rw [hml] at hMt2
    have HMt := Lib.hid hMt2
    clear hMt2
    rw [hml]
    have HML := Lib.hid hml
    clear hne hml hlen2
    go_enter Tryd.func25, Tryd.ntmps25
    go_wp2_with fail
    go_loopw [5] (fun i wr => ∃ j : Nat, j ≤ l.length ∧ i = .int .i64 j ∧ (∀ k (_ : k < j) (h1 : k < l.length) (h2 : k < m.length), l[k] = m[k]) ∧ Below w.heap.size w wr) (fun i _ => l.length - (intOf i).toNat)
    case atStart => exact ⟨0, Nat.zero_le _, rfl, fun k hk => absurd hk (Nat.not_lt_zero _), Below.refl _ _⟩
    case round =>
      obtain ⟨j, hj, rfl, hall, hB⟩ := hrel
      have HAll := Lib.hid hall
      have HB := Lib.hid hB
      clear hall hB
      by_cases hlt : j < l.length
      · have hlt2 : j < m.length := by rw [HML.out]; exact hlt
        obtain ⟨b1, o1, d1, hv1, k1⟩ := HLt.out.first (by omega)
        have HMt' := HMt.out
        rw [← HML.out] at HMt'
        obtain ⟨b2, o2, d2, hv2, k2⟩ := HMt'.first (by omega)
        cases hv1
        rw [HML.out] at hv2
        cases hv2
        clear HMt'
        have t1 := (k1 j hlt).below HB.out (Nat.le_refl _)
        have t2 := (k2 j hlt2).below HB.out (Nat.le_refl _)
        clear k1 k2
        have hstep : l[j] = m[j] → ∀ k (_ : k < j + 1) (h1 : k < l.length) (h2 : k < m.length), l[k] = m[k] := fun h k hk h1 h2 => by
          rcases Nat.lt_or_ge k j with h3 | h3
          · exact HAll.out k h3 h1 h2
          · obtain rfl : k = j := by omega
            exact h
        have hstop : l[j] ≠ m[j] → decide (l = m) = false := fun h => by
          rw [decide_eq_false_iff_not, HI.out]
          intro h2
          exact h (h2 j hlt hlt2)
        generalize l[j] = x at *
        generalize m[j] = y at *
        have HST := Lib.hid hstep
        have HSP := Lib.hid hstop
        have HLT2 := Lib.hid hlt2
        clear hstep hstop hlt2
        obtain ⟨xk, xt, xl, xc⟩ := x
        obtain ⟨yk, yt, yl, yc⟩ := y
        obtain ⟨e0, e1, e2, e3⟩ := t1
        obtain ⟨g0, g1, g2, g3⟩ := t2
        dsimp only at e0 e1 e2 e3 g0 g1 g2 g3
        have hjI : (j : Int) < l.length := by omega
        by_cases q1 : xk = yk
        · by_cases q2 : xt = yt
          · by_cases q3 : xl = yl
            · by_cases q4 : xc = yc
              · subst q1 q2 q3 q4
                go_wp2_with fail
                go_quiet (fail)
                go_wp2_with fail
                exact ⟨⟨j + 1, hlt, by go_num, HST.out (by trivial), below_drewN HB.out nq⟩, by simp [intOf]; omega⟩
              · have hp := Lib.hid (HSP.out (by simp [q4]))
                subst q1 q2 q3
                go_wp2_with fail
                go_quiet (fail)
                go_wp2_with fail
                go_ret
                exact ⟨ret_bool hp.out.symm, below_drewN HB.out nq⟩
            · have hp := Lib.hid (HSP.out (by simp [q3]))
              subst q1 q2
              go_wp2_with fail
              go_quiet (fail)
              go_wp2_with fail
              go_ret
              exact ⟨ret_bool hp.out.symm, below_drewN HB.out nq⟩
          · have hp := Lib.hid (HSP.out (by simp [q2]))
            subst q1
            have ht : ((⟨xt.toArray⟩ : ByteArray).toList == (⟨yt.toArray⟩ : ByteArray).toList) = false := by rw [Lib.toList_data, Lib.toList_data]; simpa using q2
            go_wp2_with fail
            go_quiet (fail)
            go_wp2_with fail
            go_ret
            exact ⟨ret_bool hp.out.symm, below_drewN HB.out nq⟩
        · have hp := Lib.hid (HSP.out (by simp [q1]))
          go_wp2_with fail
          go_quiet (fail)
          go_wp2_with fail
          go_ret
          exact ⟨ret_bool hp.out.symm, below_drewN HB.out nq⟩
      · obtain rfl : j = l.length := by omega
        have hfin : decide (l = m) = true := by
          rw [decide_eq_true_eq, HI.out]
          exact fun i h1 h2 => HAll.out i h1 h1 h2
        have HF := Lib.hid hfin
        clear hfin
        go_wp2_with fail
        go_ret
        exact ⟨ret_bool HF.out.symm, HB.out⟩
  · have hfin : decide (l = m) = false := decide_eq_false (fun h => hne (by rw [h]))
    have HF := Lib.hid hfin
    clear hfin
    go_enter Tryd.func25, Tryd.ntmps25
    go_wp2_with fail
    go_ret
    exact ⟨ret_bool HF.out.symm, Below.refl _ _⟩
end Go.Proofs.YtadicempblgmhaaDoor
