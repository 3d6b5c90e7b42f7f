/-
  What the law HeirReaches returns: true.
-/
import Derived.Test.YtbiblpgdddgpmaaHMeetP
import Derived.Test.YtbiblpgdddgpmaaHLawIO
namespace Go.Proofs.Ytbiblpgdddgpmaa
open Go.RowKit Go.Shelf
attribute [local go_sem] Oper.semAt_some

theorem Hr.mem_touched (S : List Hr.Cls) (ch : List Hr.Nm) (x : Hr.Nm) (hx : x ∈ S.map (·.name)) : 0 ≤ Hr.atI (Hr.touched S ch) x ↔ (ch.any fun s => Hr.isUp (Hr.links S) x s) = true := by
  rw [Hr.atI_nonneg]
  unfold Hr.touched
  rw [List.mem_filter, List.any_eq_true, List.any_eq_true]
  constructor
  · rintro ⟨-, s, h1, h2⟩
    exact ⟨s, List.contains_iff_mem.1 h2, (Hr.isUp_iff _ _ _).2 ((Hr.mem_above _ _ _).1 h1)⟩
  · rintro ⟨s, h1, h2⟩
    exact ⟨hx, s, (Hr.mem_above _ _ _).2 ((Hr.isUp_iff _ _ _).1 h2), List.contains_iff_mem.2 h1⟩
theorem dec_of {p : Prop} [Decidable p] {b : Bool} (h : p ↔ b = true) : (b = true ∧ p) ∨ (b = false ∧ ¬ p) := by
  cases b <;> simp_all

set_option maxRecDepth 100000 in
set_option maxHeartbeats 4000000 in
theorem HeirReaches_any (v : Value) (a : Nat) (S : List Hr.Cls) (A2 : Option Addr) (cp2 : Nat) (ns : List Hr.Nm) (w : World) (h : SysAt w v S) (hS : S.length ≤ 1000000) (ha : a ≤ 255) (hn : NmsAt w (.slice A2 ns.length cp2) ns) (hcp : ns.length ≤ cp2) :
    Calls Try.prog 9 #[v, .int .u8 a, .slice A2 ns.length cp2] w fun e w' => e = .returned (.bool true) ∧ Below w.heap.size w w' := by
  have HR := Lib.hid (right_any v S w h hS)
  have HSY := Lib.hid (fun (W : World) (hW : Below w.heap.size w W) => h.below hW (Nat.le_refl _))
  have SANE := Lib.hid (fun (W W0 : World) (hW : Below W0.heap.size W0 W) => (sanity_any W).mono (fun e w' h => (⟨h.1, stepN hW h.2⟩ : e = .returned (.bool true) ∧ Below W0.heap.size W0 w')))
  obtain ⟨A, cp, rfl, hat⟩ := h
  by_cases hr : (Hr.check S).1 = 0 ∧ S ≠ []
  case neg =>
    have hrd : decide ((Hr.check S).1 = 0 ∧ S ≠ []) = false := by simpa using hr
    rw [hrd] at HR
    clear hr hrd hat
    go_enter Try.func9, Try.ntmps9
    go_wp2_with (first
      | (go_at_call 10; refine HR.out.mono ?_
         rintro e w1 ⟨rfl, hb1⟩
         have HS1 := Lib.hid (SANE.out w1 w hb1)
         clear hb1 HR)
      | (go_at_call 11; refine HS1.out.mono ?_
         rintro e w2 ⟨rfl, hb2⟩
         have HB2 := Lib.hid hb2
         clear hb2 HS1))
    go_ret
    exact ⟨rfl, HB2.out⟩
  case pos =>
    have hrd : decide ((Hr.check S).1 = 0 ∧ S ≠ []) = true := by simpa using hr
    rw [hrd] at HR
    by_cases h40 : ns.length ≤ 40
    case neg =>
      have hgt : (40 : Int) < ns.length := by omega
      clear hr hrd hat hn
      go_enter Try.func9, Try.ntmps9
      go_wp2_with (first
        | (go_at_call 10; refine HR.out.mono ?_
           rintro e w1 ⟨rfl, hb1⟩
           have HS1 := Lib.hid (SANE.out w1 w hb1)
           clear hb1 HR)
        | (go_at_call 11; refine HS1.out.mono ?_
           rintro e w2 ⟨rfl, hb2⟩
           have HB2 := Lib.hid hb2
           clear hb2 HS1))
      go_ret
      exact ⟨rfl, HB2.out⟩
    have hle : ¬ (40 : Int) < ns.length := by omega
    have hV := (Hr.check_zero S).1 hr.1
    have hne := hr.2
    have NM := Lib.hid (fun (W : World) (hW : Below w.heap.size w W) (n : Nat) (hn : n ≤ 255) => (name_any _ n S W (HSY.out W hW) hne hS hn).mono (fun e w' h => (by
      obtain ⟨s, h1, h2, h3, h4⟩ := h
      exact ⟨s, h1, ⟨h2, h3⟩, stepN hW h4⟩ : ∃ s, e = .returned (nm s) ∧ Hr.InS S s ∧ Below w.heap.size w w')))
    have IS := Lib.hid (fun (W W0 : World) (hW0 : Below W0.heap.size W0 W) (hW : Below w.heap.size w W0) (x y : Hr.Nm) (hx : Hr.InS S x) (hy : Hr.InS S y) => (is_law _ S x y W (HSY.out W (stepN hW hW0)) hV hx.2 hy.2 hx.1 hy.1).mono (fun e w' h => (⟨h.1, stepN hW0 h.2⟩ : e = .returned (.bool (Hr.isUp (Hr.links S) x y)) ∧ Below W0.heap.size W0 w')))
    have TOU := Lib.hid (fun (W : World) (hW : Below w.heap.size w W) (u : Value) (ch : List Hr.Nm) (hu : NmsAt W u ch) (hl : ch.length ≤ 48) => (Touched_ok _ u S ch W (HSY.out W hW) hV hu hl).mono (fun e w' h => (by
      obtain ⟨o, h1, h2, h3⟩ := h
      obtain ⟨A5, c5, rfl⟩ := own_len h2
      exact ⟨A5, c5, h1, NmsAt.of_own h2, h3⟩ : ∃ A5 c5, e = .returned (.tuple #[.slice A5 (Hr.touched S ch).length c5, .int .i64 0]) ∧ NmsAt w' (.slice A5 (Hr.touched S ch).length c5) (Hr.touched S ch) ∧ Below W.heap.size W w')))
    have hbl : ∀ ch, (Hr.touched S ch).length ≤ 1000000 := fun ch => by
      unfold Hr.touched
      exact Nat.le_trans (List.length_filter_le _ _) (by simpa using hS)
    have AT := Lib.hid (fun (W W0 : World) (u : Value) (ch : List Hr.Nm) (x : Hr.Nm) (hu : NmsAt W u (Hr.touched S ch)) (hW0 : Below W0.heap.size W0 W) => (at_any u (Hr.touched S ch) x W hu (hbl ch)).mono (fun e w' h => (⟨h.1, stepN hW0 h.2⟩ : e = .returned (.int .i64 (Hr.atI (Hr.touched S ch) x)) ∧ Below W0.heap.size W0 w')))
    have NSAT := Lib.hid hn
    have MT := Lib.hid (fun (ch : List Hr.Nm) (x : Hr.Nm) (hx : Hr.InS S x) => Hr.mem_touched S ch x hx.1)
    have hcls : ∀ k (hk : k < S.length), (∃ b5 o5, A = some ⟨b5, o5, none⟩ ∧ ∀ W, Below w.heap.size w W → W.cell? ⟨b5, o5 + k * 7, none⟩ = some (nm S[k].name)) ∧ Hr.InS S S[k].name := fun k hk => by
      obtain ⟨b5, o5, hA, h3⟩ := hat (by omega)
      obtain ⟨h0, h1, -⟩ := h3 k hk
      exact ⟨⟨b5, o5, hA, fun W hW => kept_below hW (Nat.le_refl _) _ _ h1⟩, List.mem_map.2 ⟨_, List.getElem_mem hk, rfl⟩, h0⟩
    have CLS := Lib.hid hcls
    have L1 := Lib.hid (fun (W : World) (hW : Below w.heap.size w W) => TOU.out W hW _ ns (NSAT.out.below hW (Nat.le_refl _)) (by omega))
    clear hr hrd hV hne hbl HSY hn hcls hat
    go_enter Try.func9, Try.ntmps9
    go_wp2_with (first
      | (go_at_call 10; refine HR.out.mono ?_
         rintro e w1 ⟨rfl, hb1⟩
         have N1 := Lib.hid (NM.out w1 hb1 a ha)
         clear hb1 HR)
      | (go_at_call 12; refine N1.out.mono ?_
         rintro e w2 ⟨NC, rfl, hna, hb2⟩
         have HNC := Lib.hid hna
         have HB2 := Lib.hid hb2
         have L2 := Lib.hid (L1.out w2 hb2)
         clear hna hb2 N1 L1 NM)
      | (go_at_call 28; refine L2.out.mono ?_
         rintro e w5 ⟨A5, c5, rfl, ho5, hb5⟩
         have O5 := Lib.hid ho5
         have HB5 := Lib.hid (stepN HB2.out hb5)
         clear ho5 hb5 L2 HB2))
    have IN5 := Lib.hid (fun (W : World) (hW : Below w5.heap.size w5 W) (k : Nat) (hk : k < ns.length) => (by
      obtain ⟨A', c', hv', hat⟩ := NSAT.out.below (stepN HB5.out hW) (Nat.le_refl _)
      cases hv'
      obtain ⟨b3, o3, hA, hall⟩ := hat (by omega)
      exact ⟨b3, o3, hA, hall k hk⟩ : ∃ b3 o3, A2 = some ⟨b3, o3, none⟩ ∧ W.cell? ⟨b3, o3 + k, none⟩ = some (nm ns[k])))
    obtain ⟨P, hP⟩ : ∃ f : Hr.Nm → Bool, f = fun s => Hr.isUp (Hr.links S) NC s := ⟨_, rfl⟩
    have hP2 : ∀ s, Hr.isUp (Hr.links S) NC s = P s := fun s => by rw [hP]
    have M0 : 0 ≤ Hr.atI (Hr.touched S ns) NC ↔ ns.any P = true := (MT.out ns NC HNC.out).trans (by rw [hP])
    have M1 : ∀ s, 0 ≤ Hr.atI (Hr.touched S [s]) NC ↔ P s = true := fun s => (MT.out [s] NC HNC.out).trans (by rw [List.any_cons, List.any_nil, Bool.or_false, hP2])
    have HM0 := Lib.hid M0
    have HM1 := Lib.hid M1
    have HP2 := Lib.hid hP2
    clear M0 M1 hP2 hP
    go_loopw [10, 11] (fun s i wr => ∃ k : Nat, k ≤ ns.length ∧ i = .int .i64 k ∧ s = .bool ((ns.take k).any P) ∧ Hid (Below w5.heap.size w5 wr)) (fun _ i _ => ns.length - (intOf i).toNat)
    case atStart => exact ⟨0, Nat.zero_le _, rfl, rfl, Below.refl _ _⟩
    case round =>
      obtain ⟨k, hk, rfl, rfl, HB⟩ := hrel
      by_cases hlt : k < ns.length
      · obtain ⟨b3, o3, hA3, ck⟩ := IN5.out wr HB.out k hlt
        subst hA3
        have hblt := World.block_lt_of_cell? _ _ ck
        have hw1 : IntKind.i64.wrap ((k : Int) + 1) = (k : Int) + 1 := IntWalk.i64_in _ (by omega)
        have hltI : (k : Int) < ns.length := by omega
        have hk0 : (0 : Int) ≤ k := by omega
        have hk1 : (k : Int) ≤ (k : Int) + 1 := by omega
        have hk2 : (k : Int) + 1 ≤ cp2 := by omega
        have h1 : NmsAt wr (.slice (some ⟨b3, o3 + k, none⟩) 1 (cp2 - k)) [ns[k]] := ⟨_, _, rfl, fun _ => ⟨b3, o3 + k, rfl, fun i hi => by
          have : i = 0 := by simpa using hi
          subst this
          exact ck⟩⟩
        have TK := Lib.hid (TOU.out wr (stepN HB5.out HB.out) _ _ h1 (by simp))
        have MK := dec_of (HM1.out ns[k])
        have HST : Hid ((ns.take (k + 1)).any P = ((ns.take k).any P || P ns[k])) := by
          show _ = _
          rw [List.take_succ_eq_append_getElem hlt, List.any_append, List.any_cons, List.any_nil, Bool.or_false]
        have AT2 := Lib.hid (fun (W : World) (u : Value) (hu : NmsAt W u (Hr.touched S [ns[k]])) (hW : Below w5.heap.size w5 W) => AT.out W w5 u [ns[k]] NC hu hW)
        clear h1
        generalize ns[k] = N at *
        clear ck
        generalize (ns.take k).any P = q at *
        generalize P N = pn at *
        generalize hKK : Hr.atI (Hr.touched S [N]) NC = K at *
        clear hKK
        rcases MK with ⟨rfl, hK⟩ | ⟨rfl, hK⟩ <;> cases q
        all_goals
          go_wp2_with (first
            | (go_at_call 28; refine TK.out.mono ?_
               rintro e wz ⟨A6, c6, rfl, ho6, hb6⟩
               have hbz := stepN HB.out hb6
               have A7 := Lib.hid (AT2.out wz _ ho6 hbz)
               clear ho6 hb6 TK AT2)
            | (go_at_call 15; refine A7.out.mono ?_
               rintro e wy ⟨rfl, hby⟩
               clear A7))
          go_roundw
          case rel => exact ⟨k + 1, by omega, by go_num, (by rw [HST.out]; simp [hK]), Lib.hid (by assumption)⟩
          case measure => simp [intOf]; omega
      · obtain rfl : k = ns.length := by omega
        rw [List.take_length]
        have hT1 : ∀ x, Hr.InS S x → ns.any P = true → Hr.isUp (Hr.links S) x NC = true → 0 ≤ Hr.atI (Hr.touched S ns) x := fun x hx hq hy => by
          obtain ⟨s, hs, hps⟩ := List.any_eq_true.1 hq
          rw [← HP2.out] at hps
          exact (MT.out ns x hx).2 (List.any_eq_true.2 ⟨s, hs, Hr.isUp_trans hy hps⟩)
        have hT2 : ∀ x, Hr.InS S x → ns.any P = false → Hr.isUp (Hr.links S) NC x = true → ¬ 0 ≤ Hr.atI (Hr.touched S ns) x := fun x hx hq hy h0 => by
          obtain ⟨s, hs, hps⟩ := List.any_eq_true.1 ((MT.out ns x hx).1 h0)
          have h1 := Hr.isUp_trans hy hps
          rw [HP2.out] at h1
          have h2 : ns.any P = true := List.any_eq_true.2 ⟨s, hs, h1⟩
          rw [hq] at h2
          cases h2
        have T1 := Lib.hid hT1
        have T2 := Lib.hid hT2
        have A8 := Lib.hid (AT.out wr w5 _ ns NC (O5.out.below HB.out (Nat.le_refl _)) HB.out)
        have S1 := Lib.hid (fun (W : World) (hW : Below w5.heap.size w5 W) => SANE.out W w5 hW)
        clear hT1 hT2 TOU HM1 HP2 MT IN5
        rcases dec_of HM0.out with ⟨hq, hK0⟩ | ⟨hq, hK0⟩
        all_goals
          rw [hq]
          clear HM0
          generalize Hr.atI (Hr.touched S ns) NC = K0 at *
          have HQ := Lib.hid hq
          clear hq
          go_wp2_with (first
            | (go_at_call 15; refine A8.out.mono ?_
               rintro e wy ⟨rfl, hby⟩
               have HBY := Lib.hid hby
               clear hby A8))
          go_loopw [14] (fun i wr => ∃ k : Nat, k ≤ S.length ∧ i = .int .i64 k ∧ Hid (Below w5.heap.size w5 wr)) (fun i _ => S.length - (intOf i).toNat)
          case atStart => exact ⟨0, Nat.zero_le _, rfl, HBY.out⟩
          case round =>
            obtain ⟨k, hk, rfl, HB2⟩ := hrel
            by_cases hlt : k < S.length
            · obtain ⟨⟨b5, o5, hA, hcell⟩, hin⟩ := CLS.out k hlt
              subst hA
              have ck := hcell _ (stepN HB5.out HB2.out)
              have hblt := World.block_lt_of_cell? _ _ ck
              have hcw := Lib.hid (fun (W : World) (hW : Below w5.heap.size w5 W) => hcell W (stepN HB5.out hW))
              have hw1 : IntKind.i64.wrap ((k : Int) + 1) = (k : Int) + 1 := IntWalk.i64_in _ (by omega)
              have hltI : (k : Int) < S.length := by omega
              have X1 := Lib.hid (fun (W : World) (hW : Below w5.heap.size w5 W) => IS.out W w5 hW HB5.out S[k].name NC hin HNC.out)
              have X2 := Lib.hid (fun (W : World) (hW : Below w5.heap.size w5 W) => IS.out W w5 hW HB5.out NC S[k].name HNC.out hin)
              have AX := Lib.hid (fun (W : World) (hW : Below w5.heap.size w5 W) => AT.out W w5 _ ns S[k].name (O5.out.below hW (Nat.le_refl _)) hW)
              have F1 := Lib.hid (T1.out S[k].name hin)
              have F2 := Lib.hid (T2.out S[k].name hin)
              have hb2 := HB2.out
              clear hcell hin
              generalize S[k].name = X at *
              generalize Hr.isUp (Hr.links S) X NC = y1 at *
              generalize Hr.isUp (Hr.links S) NC X = y2 at *
              generalize Hr.atI (Hr.touched S ns) X = K at *
              by_cases hK : 0 ≤ K <;> cases y1 <;> cases y2
              all_goals first
                | (exfalso; have e1 := F1.out HQ.out rfl; omega)
                | (exfalso; have e1 := F2.out HQ.out rfl; omega)
                | (clear F1 F2
                   go_wp2_with (first
                     | (go_at_call 15; with_reducible refine (AX.out _ (by assumption)).mono ?_; rintro e wz ⟨rfl, hbz⟩
                        have ck2 := hcw.out wz hbz
                        have hblt2 := World.block_lt_of_cell? _ _ ck2)
                     | (go_at_call 14; with_reducible refine (X1.out _ (by assumption)).mono ?_; rintro e wz ⟨rfl, hbz⟩
                        have ck3 := hcw.out wz hbz
                        have hblt3 := World.block_lt_of_cell? _ _ ck3)
                     | (go_at_call 14; with_reducible refine (X2.out _ (by assumption)).mono ?_; rintro e wz ⟨rfl, hbz⟩))
                   go_roundw
                   case rel => exact ⟨k + 1, by omega, by go_num, Lib.hid (by assumption)⟩
                   case measure => simp [intOf]; omega)
            · obtain rfl : k = S.length := by omega
              have hb2 := HB2.out
              go_wp2_with (first
                | (go_at_call 11; with_reducible refine (S1.out _ (by assumption)).mono ?_; rintro e wz ⟨rfl, hbz⟩))
              go_ret
              exact ⟨rfl, stepN HB5.out (by assumption)⟩
end Go.Proofs.Ytbiblpgdddgpmaa
