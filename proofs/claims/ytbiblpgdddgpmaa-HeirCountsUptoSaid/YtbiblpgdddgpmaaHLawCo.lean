/-
  What the law HeirCounts returns: true.
-/
import Derived.Test.YtbiblpgdddgpmaaHCountP
import Derived.Test.YtbiblpgdddgpmaaHLawIO
namespace Go.Proofs.Ytbiblpgdddgpmaa
open Go.RowKit Go.Shelf
attribute [local go_sem] Oper.semAt_some

set_option maxRecDepth 100000 in
set_option maxHeartbeats 4000000 in
theorem HeirCounts_any (v : Value) (a b : Nat) (S : List Hr.Cls) (w : World) (h : SysAt w v S) (hS : S.length ≤ 1000000) (ha : a ≤ 255) (hb : b ≤ 255) :
    Calls Try.prog 5 #[v, .int .u8 a, .int .u8 b] w fun e w' => e = .returned (.bool true) ∧ Below w.heap.size w w' := by
  have HR := Lib.hid (right_any v S w h hS)
  have HSY := Lib.hid (fun (W : World) (hW : Below w.heap.size w W) => h.below hW (Nat.le_refl _))
  have SANE := Lib.hid (fun (W W0 : World) (hW : Below W0.heap.size W0 W) => (sanity_any W).mono (fun e w' h => (⟨h.1, stepN hW h.2⟩ : e = .returned (.bool true) ∧ Below W0.heap.size W0 w')))
  obtain ⟨A, cp, rfl, hat⟩ := h
  by_cases hr : (Hr.check S).1 = 0 ∧ S ≠ []
  case neg =>
    have hrd : decide ((Hr.check S).1 = 0 ∧ S ≠ []) = false := by simpa using hr
    rw [hrd] at HR
    clear hr hrd hat
    go_enter Try.func5, Try.ntmps5
    go_wp2_with (first
      | (go_at_call 10; refine HR.out.mono ?_
         rintro e w1 ⟨rfl, hb1⟩
         have HS1 := Lib.hid (SANE.out w1 w hb1)
         clear hb1 HR)
      | (go_at_call 11; refine HS1.out.mono ?_
         rintro e w2 ⟨rfl, hb2⟩
         have HB2 := Lib.hid hb2
         clear hb2 HS1))
    go_ret
    exact ⟨rfl, HB2.out⟩
  case pos =>
    have hrd : decide ((Hr.check S).1 = 0 ∧ S ≠ []) = true := by simpa using hr
    rw [hrd] at HR
    have hV := (Hr.check_zero S).1 hr.1
    have hne := hr.2
    have hlen : 0 < S.length := List.length_pos_iff.2 hne
    have hkl : a % S.length < S.length := Nat.mod_lt _ hlen
    obtain ⟨bb, ob, hA, hat3⟩ := hat hlen
    subst hA
    have hcl := hat3 (a % S.length) hkl
    have hpe := Hr.parents_eq hV (a % S.length) hkl
    have hul := Hr.alone_four (hV.hal (a % S.length) hkl).1
    have hmem : S[a % S.length].name ∈ S.map (·.name) := List.mem_map.2 ⟨_, List.getElem_mem hkl, rfl⟩
    have hrem : Int.tmod (a : Int) (S.length : Int) = ((a % S.length : Nat) : Int) := by rw [← Int.ofNat_tmod]
    have hltK : ((a % S.length : Nat) : Int) < S.length := by omega
    have hlI : ¬ (S.length : Int) = 0 := by omega
    have hwa : IntKind.i64.wrap ((a : Int)) = (a : Int) := IntWalk.i64_in _ (by omega)
    clear hat hat3
    generalize hcK : S[a % S.length] = cl at *
    clear hcK hkl
    obtain ⟨NC, ups⟩ := cl
    obtain ⟨hn0, hc0, d, A2, n2, c2, A3, c3, A4, n4, c4, Aa, na, ca, A6, n6, c6, -, -, hc3, hu, -, -, -⟩ := hcl
    dsimp only at *
    generalize a % S.length = K at *
    have NM := Lib.hid (fun (W : World) (hW : Below w.heap.size w W) (n : Nat) (hn : n ≤ 255) => (name_any _ n S W (HSY.out W hW) hne hS hn).mono (fun e w' h => (by
      obtain ⟨s, h1, h2, h3, h4⟩ := h
      exact ⟨s, h1, ⟨h2, h3⟩, stepN hW h4⟩ : ∃ s, e = .returned (nm s) ∧ Hr.InS S s ∧ Below w.heap.size w w')))
    have hfine : ∀ {x y : Hr.Nm}, Hr.Reach (Hr.links S) x y → x.length ≤ 140737488355328 → y.length ≤ 140737488355328 := fun h hx => reach_fine (links_fine (HSY.out w (Below.refl _ _))) h hx
    have hinC : Hr.InS S NC := ⟨hmem, hn0⟩
    have hinP : ∀ p ∈ ups, Hr.InS S p := fun p hp => by
      rw [← hpe] at hp
      exact ⟨hV.up hp, hfine (Hr.Reach.one hp) hn0⟩
    have WY := Lib.hid (fun (W W0 : World) (hW0 : Below W0.heap.size W0 W) (hW : Below w.heap.size w W0) (x y : Hr.Nm) (N : Hr.Nm → Int) (hN : Hr.Count (Hr.links S) y N) (hx : Hr.InS S x) (hy : Hr.InS S y) => (Ways_ok _ S x y W (HSY.out W (stepN hW hW0)) hV hx.2 hy.2 (Hr.has_first hx.1) (Hr.has_first hy.1)).mono (fun e w' h => (⟨by rw [h.1, Hr.waysW_eq hV.acyc hN], stepN hW0 h.2⟩ : e = .returned (.tuple #[.int .i64 (wrap64 (N x)), .int .i64 0]) ∧ Below W0.heap.size W0 w')))
    have IS := Lib.hid (fun (W W0 : World) (hW0 : Below W0.heap.size W0 W) (hW : Below w.heap.size w W0) (x y : Hr.Nm) (hx : Hr.InS S x) (hy : Hr.InS S y) => (is_law _ S x y W (HSY.out W (stepN hW hW0)) hV hx.2 hy.2 hx.1 hy.1).mono (fun e w' h => (⟨h.1, stepN hW0 h.2⟩ : e = .returned (.bool (Hr.isUp (Hr.links S) x y)) ∧ Below W0.heap.size W0 w')))
    have CNT := Lib.hid (fun (y : Hr.Nm) => (by
      obtain ⟨N, hN⟩ := Hr.count_of hV.acyc y
      have h1 : N NC ≤ 9223372036854775807 := Hr.count_small hV hN NC hmem
      have h2 := hN.pos NC
      have h3 := hN.eq NC
      have h4 : wrap64 (N NC) = N NC := by unfold wrap64; omega
      rw [hpe] at h3
      refine ⟨N, hN, h3, h4, ?_⟩
      rw [Bool.eq_iff_iff, Hr.isUp_iff, decide_eq_true_eq]
      exact Hr.Count.reach hV.acyc hN NC : ∃ N, Hr.Count (Hr.links S) y N ∧ N NC = (if NC = y then 1 else 0) + (ups.map N).sum ∧ wrap64 (N NC) = N NC ∧ decide (0 < N NC) = Hr.isUp (Hr.links S) NC y))
    obtain ⟨A3', c3', hv3, hup⟩ := hu
    cases hv3
    have CE := Lib.hid (fun (W : World) (hW : Below w.heap.size w W) => (⟨kept_below hW (Nat.le_refl _) _ _ hc0, kept_below hW (Nat.le_refl _) _ _ hc3⟩ : W.cell? ⟨bb, ob + K * 7, none⟩ = some (nm NC) ∧ W.cell? ⟨bb, ob + K * 7 + 3, none⟩ = some (.slice A3 ups.length c3)))
    have HIC := Lib.hid hinC
    have HIP := Lib.hid hinP
    have HUP := Lib.hid hup
    clear hr hrd hV hne HSY hS hlen hpe hmem hn0 hc0 hc3 hup hinC hinP hfine
    go_enter Try.func5, Try.ntmps5
    go_wp2_with (first
      | (go_at_call 10; refine HR.out.mono ?_
         rintro e w1 ⟨rfl, hb1⟩
         have N1 := Lib.hid (NM.out w1 hb1 b hb)
         clear hb1 HR)
      | (go_at_call 12; refine N1.out.mono ?_
         rintro e w2 ⟨NB, rfl, hnb, hb2⟩
         obtain ⟨N, hN, hNe, hNw, hNu⟩ := CNT.out NB
         have hwc := WY.out w2 w2 (Below.refl _ _) hb2 NC NB N hN HIC.out hnb
         rw [hNw] at hwc
         have WC := Lib.hid hwc
         clear hwc
         have WP := Lib.hid (fun (W : World) (hW : Below w2.heap.size w2 W) (p : Hr.Nm) (hp : p ∈ ups) => WY.out W w2 hW hb2 p NB N hN (HIP.out p hp) hnb)
         have I1 := Lib.hid (fun (W : World) (hW : Below w2.heap.size w2 W) => IS.out W w2 hW hb2 NC NB HIC.out hnb)
         have S1 := Lib.hid (fun (W : World) (hW : Below w2.heap.size w2 W) => SANE.out W w2 hW)
         have CE2 := Lib.hid (fun (W : World) (hW : Below w2.heap.size w2 W) => CE.out W (stepN hb2 hW))
         have UP2 := Lib.hid (fun (W : World) (hW : Below w2.heap.size w2 W) (h0 : 0 < ups.length) => (by
           obtain ⟨b3, o3, hA, hall⟩ := HUP.out h0
           exact ⟨b3, o3, hA, fun i hi => kept_below (stepN hb2 hW) (Nat.le_refl _) _ _ (hall i hi).2.1⟩ : ∃ b3 o3, A3 = some ⟨b3, o3, none⟩ ∧ ∀ i (hi : i < ups.length), W.cell? ⟨b3, o3 + i * 6, none⟩ = some (nm ups[i])))
         have HB2 := Lib.hid hb2
         have NE := Lib.hid hNe
         have NW := Lib.hid hNw
         have NU := Lib.hid hNu
         have hc0 := (CE2.out w2 (Below.refl _ _)).1
         have hblt := World.block_lt_of_cell? _ _ hc0
         clear hnb hb2 N1 NM WY IS SANE CE HUP CNT HIC HIP hN hNe hNw hNu)
      | (go_at_call 21; refine WC.out.mono ?_
         rintro e w3 ⟨rfl, hb3⟩
         have HB3 := Lib.hid hb3
         clear hb3 WC hc0 hblt))
    go_loopw [11, 12] (fun s i wr => ∃ p : Nat, p ≤ ups.length ∧ i = .int .i64 p ∧ s = .int .i64 (wrap64 ((ups.take p).map N).sum) ∧ Hid (Below w2.heap.size w2 wr)) (fun _ i _ => ups.length - (intOf i).toNat)
    case atStart => exact ⟨0, Nat.zero_le _, rfl, by simp [Hr.wrap64_small.2], HB3.out⟩
    case round =>
      obtain ⟨p, hp, rfl, rfl, HB⟩ := hrel
      obtain ⟨c0, c3⟩ := CE2.out wr HB.out
      have hblt := World.block_lt_of_cell? _ _ c0
      by_cases hlt : p < ups.length
      · obtain ⟨b3, o3, hA3, hall⟩ := UP2.out wr HB.out (by omega)
        subst hA3
        have cpp := hall p hlt
        have hblt3 := World.block_lt_of_cell? _ _ cpp
        have hw1 : IntKind.i64.wrap ((p : Int) + 1) = (p : Int) + 1 := IntWalk.i64_in _ (by omega)
        have hltI : (p : Int) < ups.length := by omega
        have KP := Lib.hid (WP.out wr HB.out ups[p] (List.getElem_mem hlt))
        have HST : Hid (wrap64 (wrap64 ((ups.take p).map N).sum + wrap64 (N ups[p])) = wrap64 ((ups.take (p + 1)).map N).sum) := by
          show _ = _
          rw [Hr.wrap64_add, List.take_succ_eq_append_getElem hlt, List.map_append, List.sum_append]
          simp
        clear hall
        generalize ups[p] = PN at *
        go_wp2_with (first
          | (go_at_call 21; refine KP.out.mono ?_
             rintro e wz ⟨rfl, hbz⟩
             have HBZ := Lib.hid hbz
             clear hbz KP c0 c3 hblt hblt3 cpp))
        go_roundw
        case rel => exact ⟨p + 1, by omega, by go_num, (by rw [← HST.out, List.map_take]), HBZ⟩
        case measure => simp [intOf]; omega
      · obtain rfl : p = ups.length := by omega
        rw [List.take_length]
        have hwn := NW.out
        have hne := NE.out
        have hbz := HB.out
        rw [← NU.out] at I1
        have hpp : decide (0 < N NC) = true ∨ decide (0 < N NC) = false := by cases decide (0 < N NC) <;> simp
        by_cases e : NC = NB
        · have heb : (NC == NB) = true := by simpa using e
          have hfin : wrap64 (wrap64 (ups.map N).sum + 1) = N NC := by
            rw [Hr.wrap64_add_l, ← hwn, hne, if_pos e]
            congr 1
            omega
          clear hne hwn e NE NW NU WP UP2
          generalize N NC = n at *
          generalize wrap64 (ups.map N).sum = s at *
          go_wp2_with (first
            | (go_at_call 14; with_reducible refine (I1.out _ (by assumption)).mono ?_; rintro e wz ⟨rfl, hby⟩)
            | (go_at_call 11; with_reducible refine (S1.out _ (by assumption)).mono ?_; rintro e wz ⟨rfl, hby⟩
               obtain ⟨c0', -⟩ := CE2.out wz hby
               have hblt' := World.block_lt_of_cell? _ _ c0'))
          all_goals
            go_ret
            exact ⟨by first | rfl | simp, stepN HB2.out (by assumption)⟩
        · have heb : (NC == NB) = false := by simpa using e
          have hfin : wrap64 (ups.map N).sum = N NC := by
            rw [← hwn, hne, if_neg e]
            congr 1
            omega
          clear hne hwn e NE NW NU WP UP2
          generalize N NC = n at *
          rw [hfin]
          go_wp2_with (first
            | (go_at_call 14; with_reducible refine (I1.out _ (by assumption)).mono ?_; rintro e wz ⟨rfl, hby⟩)
            | (go_at_call 11; with_reducible refine (S1.out _ (by assumption)).mono ?_; rintro e wz ⟨rfl, hby⟩
               obtain ⟨c0', -⟩ := CE2.out wz hby
               have hblt' := World.block_lt_of_cell? _ _ c0'))
          all_goals
            go_ret
            exact ⟨by first | rfl | simp, stepN HB2.out (by assumption)⟩
end Go.Proofs.Ytbiblpgdddgpmaa
