/-
  What the law HeirMeets returns: true.
-/
import Derived.Test.YtbiblpgdddgpmaaHMeetP
import Derived.Test.YtbiblpgdddgpmaaHLawIO
import Derived.Deep.RegionHeld3
namespace Go.Proofs.Ytbiblpgdddgpmaa
open Go.RowKit Go.Shelf
attribute [local go_sem] Oper.semAt_some

set_option maxRecDepth 100000 in
set_option maxHeartbeats 4000000 in
theorem HeirMeets_any (v : Value) (a b c : Nat) (S : List Hr.Cls) (w : World) (h : SysAt w v S) (hS : S.length ≤ 1000000) (ha : a ≤ 255) (hb : b ≤ 255) (hc : c ≤ 255) :
    Calls Try.prog 7 #[v, .int .u8 a, .int .u8 b, .int .u8 c] w fun e w' => e = .returned (.bool true) ∧ Below w.heap.size w w' := by
  have HR := Lib.hid (right_any v S w h hS)
  have HSY := Lib.hid (fun (W : World) (hW : Below w.heap.size w W) => h.below hW (Nat.le_refl _))
  have SANE := Lib.hid (fun (W W0 : World) (hW : Below W0.heap.size W0 W) => (sanity_any W).mono (fun e w' h => (⟨h.1, stepN hW h.2⟩ : e = .returned (.bool true) ∧ Below W0.heap.size W0 w')))
  obtain ⟨A, cp, rfl, -⟩ := h
  by_cases hr : (Hr.check S).1 = 0 ∧ S ≠ []
  case neg =>
    have hrd : decide ((Hr.check S).1 = 0 ∧ S ≠ []) = false := by simpa using hr
    rw [hrd] at HR
    clear hr hrd
    go_enter Try.func7, Try.ntmps7
    go_wp2_with (first
      | (go_at_call 10; refine HR.out.mono ?_
         rintro e w1 ⟨rfl, hb1⟩
         have HS1 := Lib.hid (SANE.out w1 w hb1)
         clear hb1 HR)
      | (go_at_call 11; refine HS1.out.mono ?_
         rintro e w2 ⟨rfl, hb2⟩
         have HB2 := Lib.hid hb2
         clear hb2 HS1))
    go_ret
    exact ⟨rfl, HB2.out⟩
  case pos =>
    have hrd : decide ((Hr.check S).1 = 0 ∧ S ≠ []) = true := by simpa using hr
    rw [hrd] at HR
    have hV := (Hr.check_zero S).1 hr.1
    have hne := hr.2
    have NM := Lib.hid (fun (W : World) (hW : Below w.heap.size w W) (n : Nat) (hn : n ≤ 255) => (name_any _ n S W (HSY.out W hW) hne hS hn).mono (fun e w' h => (by
      obtain ⟨s, h1, h2, h3, h4⟩ := h
      exact ⟨s, h1, ⟨h2, h3⟩, stepN hW h4⟩ : ∃ s, e = .returned (nm s) ∧ Hr.InS S s ∧ Below w.heap.size w w')))
    have IS := Lib.hid (fun (W W0 : World) (hW0 : Below W0.heap.size W0 W) (hW : Below w.heap.size w W0) (x y : Hr.Nm) (hx : Hr.InS S x) (hy : Hr.InS S y) => (is_law _ S x y W (HSY.out W (stepN hW hW0)) hV hx.2 hy.2 hx.1 hy.1).mono (fun e w' h => (⟨h.1, stepN hW0 h.2⟩ : e = .returned (.bool (Hr.isUp (Hr.links S) x y)) ∧ Below W0.heap.size W0 w')))
    have LEAST := Lib.hid (fun (W : World) (hW : Below w.heap.size w W) (x y : Hr.Nm) (hx : Hr.InS S x) (hy : Hr.InS S y) => (Least_ok _ S x y W (HSY.out W hW) hV hx.2 hy.2 (Hr.has_first hx.1) (Hr.has_first hy.1)).mono (fun e w' h => (by
      obtain ⟨o, h1, h2, h3⟩ := h
      obtain ⟨A5, c5, rfl⟩ := own_len h2
      exact ⟨A5, c5, h1, NmsAt.of_own h2, stepN hW h3⟩ : ∃ A5 c5, e = .returned (.tuple #[.slice A5 (Hr.least (Hr.links S) x y).length c5, .int .i64 0]) ∧ NmsAt w' (.slice A5 (Hr.least (Hr.links S) x y).length c5) (Hr.least (Hr.links S) x y) ∧ Below w.heap.size w w')))
    have HAN := Lib.hid hV.acyc
    have hfine : ∀ {x y : Hr.Nm}, Hr.Reach (Hr.links S) x y → x.length ≤ 140737488355328 → y.length ≤ 140737488355328 := fun h hx => reach_fine (links_fine (HSY.out w (Below.refl _ _))) h hx
    have INM := Lib.hid (fun (x y : Hr.Nm) (hx : Hr.InS S x) (m : Hr.Nm) (hm : m ∈ Hr.least (Hr.links S) x y) => (⟨hV.reach ((Hr.mem_least _ _ _ _).1 hm).1 hx.1, hfine ((Hr.mem_least _ _ _ _).1 hm).1 hx.2⟩ : Hr.InS S m))
    have hbl : ∀ x y, (Hr.least (Hr.links S) x y).length ≤ 1000000 := fun x y => by
      have h1 : (Hr.least (Hr.links S) x y).length ≤ (Hr.above (Hr.links S) x).length := by
        unfold Hr.least
        rw [(Hr.isort_perm _).length_eq]
        exact Nat.le_trans (List.length_filter_le _ _) (List.length_filter_le _ _)
      have h2 := Hr.above_length (Hr.links S) x
      have h3 := hV.hL
      omega
    have HBL := Lib.hid hbl
    clear hr hrd hV hne hbl HSY hS hfine
    go_enter Try.func7, Try.ntmps7
    go_wp2_with (first
      | (go_at_call 10; refine HR.out.mono ?_
         rintro e w1 ⟨rfl, hb1⟩
         have N1 := Lib.hid (NM.out w1 hb1 a ha)
         clear hb1 HR)
      | (go_at_call 12; refine N1.out.mono ?_
         rintro e w2 ⟨NA, rfl, hna, hb2⟩
         have HNA := Lib.hid hna
         have N2 := Lib.hid (NM.out w2 hb2 b hb)
         clear hna hb2 N1)
      | (go_at_call 12; refine N2.out.mono ?_
         rintro e w3 ⟨NB, rfl, hnb, hb3⟩
         have HNB := Lib.hid hnb
         have N3 := Lib.hid (NM.out w3 hb3 c hc)
         clear hnb hb3 N2)
      | (go_at_call 12; refine N3.out.mono ?_
         rintro e w4 ⟨NC, rfl, hnc, hb4⟩
         have HNC := Lib.hid hnc
         have L1 := Lib.hid (LEAST.out w4 hb4 NA NB HNA.out HNB.out)
         clear hnc hb4 N3 NM LEAST)
      | (go_at_call 25; refine L1.out.mono ?_
         rintro e w5 ⟨A5, c5, rfl, ho5, hb5⟩
         have O5 := Lib.hid ho5
         have HB5 := Lib.hid hb5
         clear ho5 hb5 L1))
    have hin : ∀ m ∈ Hr.least (Hr.links S) NA NB, Hr.InS S m := fun m hm => INM.out NA NB HNA.out m hm
    have ISC := Lib.hid (fun (W : World) (hW : Below w5.heap.size w5 W) (i : Nat) (hi : i < (Hr.least (Hr.links S) NA NB).length) => IS.out W w5 hW HB5.out _ NC (hin _ (List.getElem_mem hi)) HNC.out)
    have ISM := Lib.hid (fun (W : World) (hW : Below w5.heap.size w5 W) (i j : Nat) (hi : i < (Hr.least (Hr.links S) NA NB).length) (hj : j < (Hr.least (Hr.links S) NA NB).length) (hne : i ≠ j) => (IS.out W w5 hW HB5.out _ _ (hin _ (List.getElem_mem hi)) (hin _ (List.getElem_mem hj))).mono (fun e w' h => (⟨by rw [h.1, Hr.least_apart _ _ _ _ _ hi hj hne], h.2⟩ : e = .returned (.bool false) ∧ Below w5.heap.size w5 w')))
    have I1 := Lib.hid (fun (W : World) (hW : Below w5.heap.size w5 W) => IS.out W w5 hW HB5.out NA NC HNA.out HNC.out)
    have I2 := Lib.hid (fun (W : World) (hW : Below w5.heap.size w5 W) => IS.out W w5 hW HB5.out NB NC HNB.out HNC.out)
    have I3 := Lib.hid (fun (W : World) (hW : Below w5.heap.size w5 W) => IS.out W w5 hW HB5.out NA NB HNA.out HNB.out)
    have S1 := Lib.hid (fun (W : World) (hW : Below w5.heap.size w5 W) => SANE.out W w5 hW)
    have hlow : ((Hr.least (Hr.links S) NA NB).any fun m => Hr.isUp (Hr.links S) m NC) = (Hr.isUp (Hr.links S) NA NC && Hr.isUp (Hr.links S) NB NC) := by
      have h := Hr.least_low HAN.out NA NB NC
      rw [Bool.eq_iff_iff]
      simp only [List.any_eq_true, Bool.and_eq_true, Hr.isUp_iff]
      exact h
    have LOW := Lib.hid hlow
    have hone : Hr.isUp (Hr.links S) NA NB = true → Hr.least (Hr.links S) NA NB = [NB] := fun h => Hr.least_above HAN.out ((Hr.isUp_iff _ _ _).1 h)
    have ONE := Lib.hid hone
    have hML := HBL.out NA NB
    obtain ⟨P, hP⟩ : ∃ f : Hr.Nm → Bool, f = fun m => Hr.isUp (Hr.links S) m NC := ⟨_, rfl⟩
    have hP2 : ∀ m, Hr.isUp (Hr.links S) m NC = P m := fun m => by rw [hP]
    rw [← hP] at LOW
    clear hP
    simp only [hP2] at ISC LOW I1 I2
    clear hin hlow hone IS SANE HAN INM HBL hP2 HNA HNB HNC
    generalize Hr.isUp (Hr.links S) NA NB = x1 at *
    generalize Hr.least (Hr.links S) NA NB = M at *
    go_loopw [14, 15] (fun s i wr => ∃ k : Nat, k ≤ M.length ∧ i = .int .i64 k ∧ s = .bool ((M.take k).any P) ∧ Hid (Below w5.heap.size w5 wr)) (fun _ i _ => M.length - (intOf i).toNat)
    case atStart => exact ⟨0, Nat.zero_le _, rfl, rfl, Below.refl _ _⟩
    case round =>
      obtain ⟨k, hk, rfl, rfl, HB⟩ := hrel
      by_cases hlt : k < M.length
      · obtain ⟨A', c', hv', hat⟩ := O5.out
        cases hv'
        obtain ⟨b5, ob, hA, hat2⟩ := hat (by omega)
        subst hA
        have HC := Lib.hid (fun (W : World) (hW : Below w5.heap.size w5 W) (j : Nat) (hj : j < M.length) => kept_below hW (Nat.le_refl _) _ _ (hat2 j hj))
        have hw1 : IntKind.i64.wrap ((k : Int) + 1) = (k : Int) + 1 := IntWalk.i64_in _ (by omega)
        have hltI : (k : Int) < M.length := by omega
        have HST : Hid ((M.take (k + 1)).any P = ((M.take k).any P || P M[k])) := by
          show _ = _
          rw [List.take_succ_eq_append_getElem hlt, List.any_append, List.any_cons, List.any_nil, Bool.or_false]
        have KP := Lib.hid (fun (W : World) (hW : Below w5.heap.size w5 W) => ISC.out W hW k hlt)
        have c0 := HC.out wr HB.out k hlt
        have hblt := World.block_lt_of_cell? _ _ c0
        clear hat hat2
        obtain ⟨N, hN⟩ : ∃ N, N = M[k] := ⟨_, rfl⟩
        rw [← hN] at c0
        simp only [← hN] at KP HST
        clear hN
        generalize (M.take k).any P = q at *
        have hbz := HB.out
        cases q
        · go_wp2_with (first
            | (go_at_call 14; with_reducible refine (KP.out _ (by assumption)).mono ?_; rintro e wz ⟨rfl, hby⟩))
          have HBX := Lib.hid hby
          clear hbz hby KP c0 hblt
          go_loopw [16] (fun j wy => ∃ k2 : Nat, k2 ≤ M.length ∧ j = .int .i64 k2 ∧ Hid (Below w5.heap.size w5 wy)) (fun j _ => M.length - (intOf j).toNat)
          case atStart => exact ⟨0, Nat.zero_le _, rfl, HBX.out⟩
          case round =>
            obtain ⟨k2, hk2, rfl, HB2⟩ := hrel
            by_cases hlt2 : k2 < M.length
            · have hw2 : IntKind.i64.wrap ((k2 : Int) + 1) = (k2 : Int) + 1 := IntWalk.i64_in _ (by omega)
              have hltI2 : (k2 : Int) < M.length := by omega
              by_cases hkk : k = k2
              · subst hkk
                have c0 := HC.out wr HB2.out k hlt
                have hblt := World.block_lt_of_cell? _ _ c0
                go_wp2_with fail
                go_quiet (fail)
                go_wp2_with fail
                go_roundw
                case rel => exact ⟨k + 1, by omega, by go_num, below_drewN HB2.out _⟩
                case measure => simp [intOf]; omega
              · have hkkI : ¬ (k : Int) = k2 := by omega
                have hkkN : ((k : Int) != (k2 : Int)) = true := by simpa using hkkI
                have KM := Lib.hid (fun (W : World) (hW : Below w5.heap.size w5 W) => ISM.out W hW k k2 hlt hlt2 hkk)
                have GIVE := Lib.hid (fun (W : World) (hW : Below w5.heap.size w5 W) => (⟨HC.out W hW k hlt, HC.out W hW k2 hlt2, hW⟩ : W.cell? ⟨b5, ob + k, none⟩ = some (nm M[k]) ∧ W.cell? ⟨b5, ob + k2, none⟩ = some (nm M[k2]) ∧ Below w5.heap.size w5 W))
                obtain ⟨N1, hN1⟩ : ∃ N, N = M[k] := ⟨_, rfl⟩
                obtain ⟨N2, hN2⟩ : ∃ N, N = M[k2] := ⟨_, rfl⟩
                simp only [← hN1, ← hN2] at KM GIVE
                clear hN1 hN2 hkk
                go_wp2_with fail
                go_region_held3 (fun W => W.cell? ⟨b5, ob + k, none⟩ = some (nm N1) ∧ W.cell? ⟨b5, ob + k2, none⟩ = some (nm N2) ∧ Below w5.heap.size w5 W)
                  (with_reducible (refine GIVE.out _ ?_; first | exact hbx | exact (HB2.out).drew))
                  (first
                    | (go_at_call 14; with_reducible refine (KM.out _ (by first | exact hbx | exact (HB2.out).drew)).mono ?_; rintro e wx ⟨rfl, hbx⟩))
                all_goals
                  go_wp2_with fail
                  go_roundw
                  case rel => exact ⟨k2 + 1, by omega, by go_num, hbx⟩
                  case measure => simp [intOf]; omega
            · obtain rfl : k2 = M.length := by omega
              go_wp2_with fail
              go_roundw
              case rel => exact ⟨k + 1, by omega, by go_num, (by rw [HST.out]; simp), HB2⟩
              case measure => simp [intOf]; omega
        · go_wp2_with fail
          have HBX := Lib.hid hbz
          clear hbz KP c0 hblt
          go_loopw [16] (fun j wy => ∃ k2 : Nat, k2 ≤ M.length ∧ j = .int .i64 k2 ∧ Hid (Below w5.heap.size w5 wy)) (fun j _ => M.length - (intOf j).toNat)
          case atStart => exact ⟨0, Nat.zero_le _, rfl, HBX.out⟩
          case round =>
            obtain ⟨k2, hk2, rfl, HB2⟩ := hrel
            by_cases hlt2 : k2 < M.length
            · have hw2 : IntKind.i64.wrap ((k2 : Int) + 1) = (k2 : Int) + 1 := IntWalk.i64_in _ (by omega)
              have hltI2 : (k2 : Int) < M.length := by omega
              by_cases hkk : k = k2
              · subst hkk
                have c0 := HC.out wr HB2.out k hlt
                have hblt := World.block_lt_of_cell? _ _ c0
                go_wp2_with fail
                go_quiet (fail)
                go_wp2_with fail
                go_roundw
                case rel => exact ⟨k + 1, by omega, by go_num, below_drewN HB2.out _⟩
                case measure => simp [intOf]; omega
              · have hkkI : ¬ (k : Int) = k2 := by omega
                have hkkN : ((k : Int) != (k2 : Int)) = true := by simpa using hkkI
                have KM := Lib.hid (fun (W : World) (hW : Below w5.heap.size w5 W) => ISM.out W hW k k2 hlt hlt2 hkk)
                have GIVE := Lib.hid (fun (W : World) (hW : Below w5.heap.size w5 W) => (⟨HC.out W hW k hlt, HC.out W hW k2 hlt2, hW⟩ : W.cell? ⟨b5, ob + k, none⟩ = some (nm M[k]) ∧ W.cell? ⟨b5, ob + k2, none⟩ = some (nm M[k2]) ∧ Below w5.heap.size w5 W))
                obtain ⟨N1, hN1⟩ : ∃ N, N = M[k] := ⟨_, rfl⟩
                obtain ⟨N2, hN2⟩ : ∃ N, N = M[k2] := ⟨_, rfl⟩
                simp only [← hN1, ← hN2] at KM GIVE
                clear hN1 hN2 hkk
                go_wp2_with fail
                go_region_held3 (fun W => W.cell? ⟨b5, ob + k, none⟩ = some (nm N1) ∧ W.cell? ⟨b5, ob + k2, none⟩ = some (nm N2) ∧ Below w5.heap.size w5 W)
                  (with_reducible (refine GIVE.out _ ?_; first | exact hbx | exact (HB2.out).drew))
                  (first
                    | (go_at_call 14; with_reducible refine (KM.out _ (by first | exact hbx | exact (HB2.out).drew)).mono ?_; rintro e wx ⟨rfl, hbx⟩))
                all_goals
                  go_wp2_with fail
                  go_roundw
                  case rel => exact ⟨k2 + 1, by omega, by go_num, hbx⟩
                  case measure => simp [intOf]; omega
            · obtain rfl : k2 = M.length := by omega
              go_wp2_with fail
              go_roundw
              case rel => exact ⟨k + 1, by omega, by go_num, (by rw [HST.out]; simp), HB2⟩
              case measure => simp [intOf]; omega
      · obtain rfl : k = M.length := by omega
        rw [List.take_length, LOW.out]
        have hbz := HB.out
        have hlen : x1 = true → ∃ b5 o5, A5 = some ⟨b5, o5, none⟩ ∧ ∀ W, Below w5.heap.size w5 W → W.cell? ⟨b5, o5, none⟩ = some (nm NB) := fun hx => by
          obtain rfl := ONE.out hx
          obtain ⟨A', c', hv', hat⟩ := O5.out
          cases hv'
          obtain ⟨b5, ob, hA, hat2⟩ := hat (by simp)
          exact ⟨b5, ob, hA, fun W hW => kept_below hW (Nat.le_refl _) _ _ (hat2 0 (by simp))⟩
        have HLEN := Lib.hid hlen
        clear hlen
        clear O5 ISC ISM LOW
        generalize P NA = y1 at *
        generalize P NB = y2 at *
        cases x1
        case false =>
          clear ONE HLEN
          cases y1 <;> cases y2
          all_goals
            go_wp2_with (first
              | (go_at_call 14; with_reducible refine (I1.out _ (by assumption)).mono ?_; rintro e wz ⟨rfl, hby⟩)
              | (go_at_call 14; with_reducible refine (I2.out _ (by assumption)).mono ?_; rintro e wz ⟨rfl, hby⟩)
              | (go_at_call 14; with_reducible refine (I3.out _ (by assumption)).mono ?_; rintro e wz ⟨rfl, hby⟩)
              | (go_at_call 11; with_reducible refine (S1.out _ (by assumption)).mono ?_; rintro e wz ⟨rfl, hby⟩))
            go_ret
            exact ⟨rfl, stepN HB5.out (by assumption)⟩
        case true =>
          obtain rfl := ONE.out rfl
          obtain ⟨b5, o5, rfl, hcell⟩ := HLEN.out rfl
          have HC := Lib.hid hcell
          clear hcell HLEN ONE
          cases y1 <;> cases y2
          all_goals
            go_wp2_with (first
              | (go_at_call 14; with_reducible refine (I1.out _ (by assumption)).mono ?_; rintro e wz ⟨rfl, hby⟩)
              | (go_at_call 14; with_reducible refine (I2.out _ (by assumption)).mono ?_; rintro e wz ⟨rfl, hby⟩)
              | (go_at_call 14; with_reducible refine (I3.out _ (by assumption)).mono ?_; rintro e wz ⟨rfl, hby⟩
                 have c9 := HC.out wz hby)
              | (go_at_call 11; with_reducible refine (S1.out _ (by assumption)).mono ?_; rintro e wz ⟨rfl, hby⟩))
            go_ret
            exact ⟨rfl, stepN HB5.out (by assumption)⟩
end Go.Proofs.Ytbiblpgdddgpmaa
