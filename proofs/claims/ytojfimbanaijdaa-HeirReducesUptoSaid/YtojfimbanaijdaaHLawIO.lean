/-
  What the law HeirIsOrder returns: true.
-/
import Derived.Test.YtojfimbanaijdaaHLawA
namespace Go.Proofs.Ytojfimbanaijdaa
open Go.RowKit Go.Shelf
attribute [local go_sem] Oper.semAt_some

theorem Hr.mem_below (S : List Hr.Cls) (c x : Hr.Nm) (hx : x ∈ S.map (·.name)) : 0 ≤ Hr.atI (Hr.below S c) x ↔ Hr.isUp (Hr.links S) x c = true := by
  rw [Hr.atI_nonneg]
  unfold Hr.below
  rw [List.mem_filter]
  exact ⟨fun h => h.2, fun h => ⟨hx, h⟩⟩
theorem Hr.isUp_self (L : List (Hr.Nm × Hr.Nm)) (c : Hr.Nm) : Hr.isUp L c c = true := (Hr.isUp_iff L c c).2 (.refl c)
theorem Hr.isUp_trans {L : List (Hr.Nm × Hr.Nm)} {a b c : Hr.Nm} (h : Hr.isUp L a b = true) (k : Hr.isUp L b c = true) : Hr.isUp L a c = true := (Hr.isUp_iff L a c).2 (((Hr.isUp_iff L a b).1 h).trans ((Hr.isUp_iff L b c).1 k))
theorem Hr.isUp_anti {L : List (Hr.Nm × Hr.Nm)} (hA : Hr.Acyc L) {a b : Hr.Nm} (h : Hr.isUp L a b = true) (k : Hr.isUp L b a = true) : a = b := Hr.Reach.anti hA ((Hr.isUp_iff L a b).1 h) ((Hr.isUp_iff L b a).1 k)

/-- A name of a class of the system. -/
def Hr.InS (S : List Hr.Cls) (s : Hr.Nm) : Prop := s ∈ S.map (·.name) ∧ s.length ≤ 140737488355328

set_option maxRecDepth 100000 in
set_option maxHeartbeats 4000000 in
theorem HeirIsOrder_any (v : Value) (a b c : Nat) (S : List Hr.Cls) (w : World) (h : SysAt w v S) (hS : S.length ≤ 1000000) (ha : a ≤ 255) (hb : b ≤ 255) (hc : c ≤ 255) :
    Calls Try.prog 3 #[v, .int .u8 a, .int .u8 b, .int .u8 c] w fun e w' => e = .returned (.bool true) ∧ Below w.heap.size w w' := by
  have HR := Lib.hid (right_any v S w h hS)
  have HSY := Lib.hid (fun (W : World) (hW : Below w.heap.size w W) => h.below hW (Nat.le_refl _))
  have SANE := Lib.hid (fun (W W0 : World) (hW : Below W0.heap.size W0 W) => (sanity_any W).mono (fun e w' h => (⟨h.1, stepN hW h.2⟩ : e = .returned (.bool true) ∧ Below W0.heap.size W0 w')))
  obtain ⟨A, cp, rfl, -⟩ := h
  by_cases hr : (Hr.check S).1 = 0 ∧ S ≠ []
  case neg =>
    have hrd : decide ((Hr.check S).1 = 0 ∧ S ≠ []) = false := by simpa using hr
    rw [hrd] at HR
    clear hr hrd
    go_enter Try.func3, Try.ntmps3
    go_wp2_with (first
      | (go_at_call 10; refine HR.out.mono ?_
         rintro e w1 ⟨rfl, hb1⟩
         have HS1 := Lib.hid (SANE.out w1 w hb1)
         clear hb1 HR)
      | (go_at_call 11; refine HS1.out.mono ?_
         rintro e w2 ⟨rfl, hb2⟩
         have HB2 := Lib.hid hb2
         clear hb2 HS1))
    go_ret
    exact ⟨rfl, HB2.out⟩
  case pos =>
    have hrd : decide ((Hr.check S).1 = 0 ∧ S ≠ []) = true := by simpa using hr
    rw [hrd] at HR
    have hV := (Hr.check_zero S).1 hr.1
    have hne := hr.2
    have NM := Lib.hid (fun (W : World) (hW : Below w.heap.size w W) (n : Nat) (hn : n ≤ 255) => (name_any _ n S W (HSY.out W hW) hne hS hn).mono (fun e w' h => (by
      obtain ⟨s, h1, h2, h3, h4⟩ := h
      exact ⟨s, h1, ⟨h2, h3⟩, stepN hW h4⟩ : ∃ s, e = .returned (nm s) ∧ Hr.InS S s ∧ Below w.heap.size w w')))
    have IS := Lib.hid (fun (W W0 : World) (hW0 : Below W0.heap.size W0 W) (hW : Below w.heap.size w W0) (x y : Hr.Nm) (hx : Hid (Hr.InS S x)) (hy : Hid (Hr.InS S y)) => (is_law _ S x y W (HSY.out W (stepN hW hW0)) hV hx.out.2 hy.out.2 hx.out.1 hy.out.1).mono (fun e w' h => (⟨h.1, stepN hW0 h.2⟩ : e = .returned (.bool (Hr.isUp (Hr.links S) x y)) ∧ Below W0.heap.size W0 w')))
    have LOW := Lib.hid (fun (W : World) (hW : Below w.heap.size w W) (x : Hr.Nm) (hx : Hid (Hr.InS S x)) => (Below_ok _ S x W (HSY.out W hW) hV hx.out.2 (Hr.has_first hx.out.1)).mono (fun e w' h => (by
      obtain ⟨o, h1, h2, h3⟩ := h
      exact ⟨o, h1, NmsAt.of_own h2, stepN hW h3⟩ : ∃ o, e = .returned (.tuple #[o, .int .i64 0]) ∧ NmsAt w' o (Hr.below S x) ∧ Below w.heap.size w w')))
    have hbl : ∀ x, (Hr.below S x).length ≤ 1000000 := fun x => by
      unfold Hr.below
      exact Nat.le_trans (List.length_filter_le _ _) (by simpa using hS)
    have AT := Lib.hid (fun (W W0 : World) (o : Value) (x y : Hr.Nm) (ho : NmsAt W0 o (Hr.below S x)) (hW0 : Below W0.heap.size W0 W) => (at_any o (Hr.below S x) y W (ho.below hW0 (Nat.le_refl _)) (hbl x)).mono (fun e w' h => (⟨h.1, stepN hW0 h.2⟩ : e = .returned (.int .i64 (Hr.atI (Hr.below S x) y)) ∧ Below W0.heap.size W0 w')))
    have HAN := Lib.hid hV.acyc
    have MB := Lib.hid (fun (x y : Hr.Nm) (hy : Hid (Hr.InS S y)) => Hr.mem_below S x y hy.out.1)
    clear hr hrd hV hne hbl HSY hS
    go_enter Try.func3, Try.ntmps3
    go_wp2_with (first
      | (go_at_call 10; refine HR.out.mono ?_
         rintro e w1 ⟨rfl, hb1⟩
         have N1 := Lib.hid (NM.out w1 hb1 a ha)
         clear hb1 HR)
      | (go_at_call 12; refine N1.out.mono ?_
         rintro e w2 ⟨NA, rfl, hna, hb2⟩
         have HNA := Lib.hid hna
         have N2 := Lib.hid (NM.out w2 hb2 b hb)
         clear hna hb2 N1)
      | (go_at_call 12; refine N2.out.mono ?_
         rintro e w3 ⟨NB, rfl, hnb, hb3⟩
         have HNB := Lib.hid hnb
         have N3 := Lib.hid (NM.out w3 hb3 c hc)
         clear hnb hb3 N2)
      | (go_at_call 12; refine N3.out.mono ?_
         rintro e w4 ⟨NC, rfl, hnc, hb4⟩
         have HNC := Lib.hid hnc
         have L1 := Lib.hid (LOW.out w4 hb4 NA HNA)
         clear hnc hb4 N3 NM LOW)
      | (go_at_call 13; refine L1.out.mono ?_
         rintro e w5 ⟨o5, rfl, ho5, hb5⟩
         have O5 := Lib.hid ho5
         have HB5 := Lib.hid hb5
         clear ho5 hb5 L1))
    have I0 := Lib.hid (fun (W : World) (hW : Below w5.heap.size w5 W) => IS.out W w5 hW HB5.out NA NA HNA HNA)
    have I1 := Lib.hid (fun (W : World) (hW : Below w5.heap.size w5 W) => IS.out W w5 hW HB5.out NA NB HNA HNB)
    have I2 := Lib.hid (fun (W : World) (hW : Below w5.heap.size w5 W) => IS.out W w5 hW HB5.out NB NC HNB HNC)
    have I3 := Lib.hid (fun (W : World) (hW : Below w5.heap.size w5 W) => IS.out W w5 hW HB5.out NA NC HNA HNC)
    have I4 := Lib.hid (fun (W : World) (hW : Below w5.heap.size w5 W) => IS.out W w5 hW HB5.out NB NA HNB HNA)
    have A1 := Lib.hid (fun (W : World) (hW : Below w5.heap.size w5 W) => AT.out W w5 o5 NA NB O5.out hW)
    have S1 := Lib.hid (fun (W : World) (hW : Below w5.heap.size w5 W) => SANE.out W w5 hW)
    have e0 := Hr.isUp_self (Hr.links S) NA
    have e3 : Hr.isUp (Hr.links S) NA NB = true → Hr.isUp (Hr.links S) NB NC = true → Hr.isUp (Hr.links S) NA NC = true := Hr.isUp_trans
    have e4 : Hr.isUp (Hr.links S) NA NB = true → Hr.isUp (Hr.links S) NB NA = true → (NA == NB) = true := fun h k => by simpa using Hr.isUp_anti HAN.out h k
    have m := MB.out NA NB HNB
    have hb0 : Below w5.heap.size w5 w5 := Below.refl _ _
    have hab : (NA == NB) = true ∨ (NA == NB) = false := by cases (NA == NB) <;> simp
    clear IS AT MB HAN SANE HNA HNB HNC O5
    generalize Hr.isUp (Hr.links S) NA NA = x0 at *
    generalize Hr.isUp (Hr.links S) NA NB = x1 at *
    generalize Hr.isUp (Hr.links S) NB NC = x2 at *
    generalize Hr.isUp (Hr.links S) NA NC = x3 at *
    generalize Hr.isUp (Hr.links S) NB NA = x4 at *
    generalize Hr.atI (Hr.below S NA) NB = k at *
    subst e0
    have hm : (x4 = true ∧ 0 ≤ k) ∨ (x4 = false ∧ ¬ 0 ≤ k) := by cases x4 <;> simp_all
    clear m
    rcases hm with ⟨rfl, hk⟩ | ⟨rfl, hk⟩ <;> cases x1
    case inl.true =>
      have hab' := e4 rfl rfl
      clear hab e4
      cases x2
      case' true => have e3' := e3 rfl rfl; subst e3'
      all_goals clear e3
      all_goals (go_wp2_with (first
          | (go_at_call 14; with_reducible refine (I0.out _ (by assumption)).mono ?_; rintro e wz ⟨rfl, hbz⟩)
          | (go_at_call 14; with_reducible refine (I1.out _ (by assumption)).mono ?_; rintro e wz ⟨rfl, hbz⟩)
          | (go_at_call 14; with_reducible refine (I2.out _ (by assumption)).mono ?_; rintro e wz ⟨rfl, hbz⟩)
          | (go_at_call 14; with_reducible refine (I3.out _ (by assumption)).mono ?_; rintro e wz ⟨rfl, hbz⟩)
          | (go_at_call 14; with_reducible refine (I4.out _ (by assumption)).mono ?_; rintro e wz ⟨rfl, hbz⟩)
          | (go_at_call 11; with_reducible refine (S1.out _ (by assumption)).mono ?_; rintro e wz ⟨rfl, hbz⟩)
          | (go_at_call 15; with_reducible refine (A1.out _ (by assumption)).mono ?_; rintro e wz ⟨rfl, hbz⟩)); go_ret; exact ⟨by first | rfl | simp [hk], stepN HB5.out (by assumption)⟩)
    case inl.false =>
      clear e3 e4
      rcases hab with hab | hab
      all_goals (go_wp2_with (first
          | (go_at_call 14; with_reducible refine (I0.out _ (by assumption)).mono ?_; rintro e wz ⟨rfl, hbz⟩)
          | (go_at_call 14; with_reducible refine (I1.out _ (by assumption)).mono ?_; rintro e wz ⟨rfl, hbz⟩)
          | (go_at_call 14; with_reducible refine (I2.out _ (by assumption)).mono ?_; rintro e wz ⟨rfl, hbz⟩)
          | (go_at_call 14; with_reducible refine (I3.out _ (by assumption)).mono ?_; rintro e wz ⟨rfl, hbz⟩)
          | (go_at_call 14; with_reducible refine (I4.out _ (by assumption)).mono ?_; rintro e wz ⟨rfl, hbz⟩)
          | (go_at_call 11; with_reducible refine (S1.out _ (by assumption)).mono ?_; rintro e wz ⟨rfl, hbz⟩)
          | (go_at_call 15; with_reducible refine (A1.out _ (by assumption)).mono ?_; rintro e wz ⟨rfl, hbz⟩)); go_ret; exact ⟨by first | rfl | simp [hk], stepN HB5.out (by assumption)⟩)
    case inr.true =>
      clear e4
      cases x2
      case' true => have e3' := e3 rfl rfl; subst e3'
      all_goals clear e3
      all_goals rcases hab with hab | hab
      all_goals (go_wp2_with (first
          | (go_at_call 14; with_reducible refine (I0.out _ (by assumption)).mono ?_; rintro e wz ⟨rfl, hbz⟩)
          | (go_at_call 14; with_reducible refine (I1.out _ (by assumption)).mono ?_; rintro e wz ⟨rfl, hbz⟩)
          | (go_at_call 14; with_reducible refine (I2.out _ (by assumption)).mono ?_; rintro e wz ⟨rfl, hbz⟩)
          | (go_at_call 14; with_reducible refine (I3.out _ (by assumption)).mono ?_; rintro e wz ⟨rfl, hbz⟩)
          | (go_at_call 14; with_reducible refine (I4.out _ (by assumption)).mono ?_; rintro e wz ⟨rfl, hbz⟩)
          | (go_at_call 11; with_reducible refine (S1.out _ (by assumption)).mono ?_; rintro e wz ⟨rfl, hbz⟩)
          | (go_at_call 15; with_reducible refine (A1.out _ (by assumption)).mono ?_; rintro e wz ⟨rfl, hbz⟩)); go_ret; exact ⟨by first | rfl | simp [hk], stepN HB5.out (by assumption)⟩)
    case inr.false =>
      clear e3 e4
      rcases hab with hab | hab
      all_goals (go_wp2_with (first
          | (go_at_call 14; with_reducible refine (I0.out _ (by assumption)).mono ?_; rintro e wz ⟨rfl, hbz⟩)
          | (go_at_call 14; with_reducible refine (I1.out _ (by assumption)).mono ?_; rintro e wz ⟨rfl, hbz⟩)
          | (go_at_call 14; with_reducible refine (I2.out _ (by assumption)).mono ?_; rintro e wz ⟨rfl, hbz⟩)
          | (go_at_call 14; with_reducible refine (I3.out _ (by assumption)).mono ?_; rintro e wz ⟨rfl, hbz⟩)
          | (go_at_call 14; with_reducible refine (I4.out _ (by assumption)).mono ?_; rintro e wz ⟨rfl, hbz⟩)
          | (go_at_call 11; with_reducible refine (S1.out _ (by assumption)).mono ?_; rintro e wz ⟨rfl, hbz⟩)
          | (go_at_call 15; with_reducible refine (A1.out _ (by assumption)).mono ?_; rintro e wz ⟨rfl, hbz⟩)); go_ret; exact ⟨by first | rfl | simp [hk], stepN HB5.out (by assumption)⟩)
end Go.Proofs.Ytojfimbanaijdaa
