/-
  What Check returns, in package heir, of any system: its first error, and the class.
-/
import Derived.Test.YtojfimbanaijdaaHCheckP
import Derived.Test.YtojfimbanaijdaaHRingS
namespace Go.Proofs.Ytojfimbanaijdaa
open Go.RowKit Go.Shelf

set_option maxRecDepth 100000 in
set_option maxHeartbeats 2000000 in
theorem Check_any (v : Value) (S : List Hr.Cls) (w : World) (h : SysAt w v S) (hS : S.length ≤ 1000000) :
    Calls Try.prog 16 #[v] w fun e w' => e = .returned (.tuple #[.int .i64 (Hr.check S).1, nm (Hr.check S).2]) ∧ Below w.heap.size w w' := by
  by_cases h24 : S.length ≤ 24
  case neg =>
    have hck : Hr.check S = (3, []) := by
      unfold Hr.check
      rw [if_pos (by omega)]
    rw [hck]
    obtain ⟨A, c, rfl, -⟩ := h
    have h24I : (24 : Int) < S.length := by omega
    go_enter Try.func16, Try.ntmps16
    go_wp2_with fail
    refine bodyPost_ret (v := .tuple #[.int .i64 3, .string ⟨#[]⟩]) ?_ rfl ⟨rfl, Below.refl _ _⟩
    simp [results, Try.results16, go_sem]
  have HF := Lib.hid (firsts_any v S w h (by omega))
  have HC := Lib.hid h
  obtain ⟨A, c, rfl, -⟩ := h
  have h24I : ¬ (24 : Int) < S.length := by omega
  go_enter Try.func16, Try.ntmps16
  go_wp2_with (first
    | (go_at_call 41; refine HF.out.mono ?_
       rintro e w1 ⟨m, rfl, hmw, hm, hb1⟩
       have HM1 := Lib.hid hm
       have HB1 := Lib.hid hb1
       clear hm hb1 hmw))
  obtain ⟨w2, hw2⟩ : ∃ w2, w2 = w1.alloc (.cells #[.map (some m)] 58) := ⟨_, rfl⟩
  rw [← hw2]
  obtain ⟨X, hX⟩ : ∃ X, X = w1.heap.size := ⟨_, rfl⟩
  rw [← hX]
  have hx2 : w2.cell? ⟨X, 0, none⟩ = some (.map (some m)) := by
    rw [hw2, hX]
    exact (Has.new w1 58 #[.map (some m)]).cell 0
  have hsz2 : w2.heap.size = X + 1 := by rw [hw2, hX]; simp
  have HM2 : Hid (MI w2 m S.length (fun s => (Hr.firstAt S s).map Int.ofNat)) := by rw [hw2]; exact HM1.out.alloc _
  have HB2 : Hid (Below w.heap.size w w2) := by rw [hw2]; exact HB1.out.alloc HB1.out.size _
  have HX2 := Lib.hid hx2
  clear hw2 hX HM1 HB1 hx2
  have hs2 := HB2.out.size
  go_wp2_with fail
  go_loopw [19] (fun i wr => ∃ k : Nat, k ≤ S.length ∧ i = .int .i64 k ∧ Hid (∀ j, j < k → Hr.err1 S j = 0) ∧ Hid (Below w2.heap.size w2 wr)) (fun i _ => S.length - (intOf i).toNat)
  case atStart => exact ⟨0, Nat.zero_le _, rfl, fun j hj => absurd hj (Nat.not_lt_zero j), Below.refl _ _⟩
  case round =>
    obtain ⟨k, hk, rfl, HE, HB⟩ := hrel
    by_cases hlt : k < S.length
    · have hBw : Below w.heap.size w wr := HB2.out.trans (HB.out.mono hs2)
      obtain ⟨A', c', hv, hat1⟩ := HC.out.below hBw (Nat.le_refl _)
      cases hv
      obtain ⟨b, o, hA, hat⟩ := hat1 (by omega)
      subst hA
      obtain ⟨hn, c0, d1, A2, n2, k2, A3, k3, A4, n4, k4, A5, n5, k5, A6, n6, k6, c1, c2, c3, hups, c4, c5, c6⟩ := hat k hlt
      have hblt := World.block_lt_of_cell? _ _ c0
      have hw1 : IntKind.i64.wrap ((k : Int) + 1) = (k : Int) + 1 := IntWalk.i64_in _ (by omega)
      have hltI : (k : Int) < S.length := by omega
      have hBs := HB.out.size
      have hxr := kept_below HB.out (Nat.le_refl _) _ _ HX2.out
      obtain ⟨q, hfa, hqk⟩ := Hr.firstAt_self S k hlt
      have hval : ((fun s => (Hr.firstAt S s).map Int.ofNat) S[k].name).getD 0 = (q : Int) := by simp [hfa]
      have hB3 : Below wr.heap.size wr (wr.alloc (.cells #[nm S[k].name, .bool d1, .slice A2 n2 k2, .slice A3 S[k].ups.length k3, .slice A4 n4 k4, .slice A5 n5 k5, .slice A6 n6 k6] 48)) := (Below.refl _ _).alloc (Nat.le_refl _) _
      have hal := (alone_any S[k] d1 A2 A3 A4 A5 A6 n2 k2 k3 n4 k4 n5 k5 n6 k6 (wr.alloc (.cells #[nm S[k].name, .bool d1, .slice A2 n2 k2, .slice A3 S[k].ups.length k3, .slice A4 n4 k4, .slice A5 n5 k5, .slice A6 n6 k6] 48)) hn (hups.keep (kept_below hB3 (Nat.le_refl _))))
      have he1 := Hr.err1_at S k hlt
      rw [hfa] at he1
      generalize hav : Hr.alone S[k] = av at hal he1
      have hck : Hr.err1 S k ≠ 0 → Hr.check S = (Hr.err1 S k, S[k].name) := fun he => Hr.check_first S h24 k hlt HE.out he
      have HAL := Lib.hid hal
      have HVAL := Lib.hid hval
      have HMR := Lib.hid ((HM2.out.below HB.out HM2.out.lt).alloc (.cells #[nm S[k].name, .bool d1, .slice A2 n2 k2, .slice A3 S[k].ups.length k3, .slice A4 n4 k4, .slice A5 n5 k5, .slice A6 n6 k6] 48))
      have HB3 := Lib.hid (HB.out.alloc hBs (.cells #[nm S[k].name, .bool d1, .slice A2 n2 k2, .slice A3 S[k].ups.length k3, .slice A4 n4 k4, .slice A5 n5 k5, .slice A6 n6 k6] 48))
      have hxc := Has.new wr 48 #[nm S[k].name, .bool d1, .slice A2 n2 k2, .slice A3 S[k].ups.length k3, .slice A4 n4 k4, .slice A5 n5 k5, .slice A6 n6 k6]
      have HXC := Lib.hid hxc
      have HCK := Lib.hid hck
      have HE1 := Lib.hid he1
      clear hat hat1 hups hal hfa hval hB3 hxc hck he1 hav
      generalize S[k].name = N at *
      generalize S[k].ups.length = n3 at *
      have hkk : ¬ (k : Int) < k := by omega
      by_cases h0 : av = 0
      · subst h0
        by_cases hqe : q = k
        · subst hqe
          have hz : Hr.err1 S q = 0 := by rw [HE1.out]; simp
          have HZ := Lib.hid hz
          clear hz
          go_wp2_with (first
            | (go_at_call 42; refine HAL.out.mono ?_
               rintro e w4 ⟨rfl, hb4⟩
               have hx4 := HXC.out.below hb4 HXC.out.lt
               have y0 := hx4.cell 0
               have y4 := kept_below hb4 (Nat.le_refl _) _ _ ((kept_below ((Below.refl wr.heap.size wr).alloc (Nat.le_refl _) (.cells #[nm N, .bool d1, .slice A2 n2 k2, .slice A3 n3 k3, .slice A4 n4 k4, .slice A5 n5 k5, .slice A6 n6 k6] 48)) (Nat.le_refl _)) _ _ hxr)
               have ylt := hx4.lt
               have zlt := World.block_lt_of_cell? _ _ y4
               simp only [List.getElem?_toArray, List.getElem?_cons_zero] at y0
               have hlk := run_lookI (HMR.out.below hb4 HMR.out.lt) N hn _ HVAL.out
               have HB4 := Lib.hid (stepN HB3.out hb4)
               clear hb4 hx4))
          go_roundw
          case rel => exact ⟨q + 1, by omega, by go_num, fun j hj => by
            rcases Nat.lt_succ_iff_lt_or_eq.1 hj with h | rfl
            · exact HE.out j h
            · exact HZ.out, HB4⟩
          case measure => simp [intOf]; omega
        · have hqk2 : (q : Int) < k := by omega
          have hz : Hr.check S = (6, N) := by
            have h6 : Hr.err1 S k = 6 := by rw [HE1.out]; simp [hqe]
            rw [HCK.out (by rw [h6]; decide), h6]
          have HZ := Lib.hid hz
          clear hz hqe
          go_wp2_with (first
            | (go_at_call 42; refine HAL.out.mono ?_
               rintro e w4 ⟨rfl, hb4⟩
               have hx4 := HXC.out.below hb4 HXC.out.lt
               have y0 := hx4.cell 0
               have y4 := kept_below hb4 (Nat.le_refl _) _ _ ((kept_below ((Below.refl wr.heap.size wr).alloc (Nat.le_refl _) (.cells #[nm N, .bool d1, .slice A2 n2 k2, .slice A3 n3 k3, .slice A4 n4 k4, .slice A5 n5 k5, .slice A6 n6 k6] 48)) (Nat.le_refl _)) _ _ hxr)
               have ylt := hx4.lt
               have zlt := World.block_lt_of_cell? _ _ y4
               simp only [List.getElem?_toArray, List.getElem?_cons_zero] at y0
               have hlk := run_lookI (HMR.out.below hb4 HMR.out.lt) N hn _ HVAL.out
               have HB4 := Lib.hid (stepN HB3.out hb4)
               clear hb4 hx4))
          go_quiet (fail)
          go_wp2_with fail
          rw [HZ.out]
          refine bodyPost_ret (v := .tuple #[.int .i64 6, nm N]) ?_ rfl ⟨rfl, below_drewN (stepN HB2.out HB4.out) _⟩
          simp [results, Try.results16, go_sem]
      · have hz : Hr.check S = (av, N) := by
          have h6 : Hr.err1 S k = av := by rw [HE1.out]; simp [h0]
          rw [HCK.out (by rw [h6]; exact h0), h6]
        have HZ := Lib.hid hz
        have h0b : (av == 0) = false := by simpa using h0
        clear hz
        go_wp2_with (first
          | (go_at_call 42; refine HAL.out.mono ?_
             rintro e w4 ⟨rfl, hb4⟩
             have hx4 := HXC.out.below hb4 HXC.out.lt
             have y0 := hx4.cell 0
             have y4 := kept_below hb4 (Nat.le_refl _) _ _ ((kept_below ((Below.refl wr.heap.size wr).alloc (Nat.le_refl _) (.cells #[nm N, .bool d1, .slice A2 n2 k2, .slice A3 n3 k3, .slice A4 n4 k4, .slice A5 n5 k5, .slice A6 n6 k6] 48)) (Nat.le_refl _)) _ _ hxr)
             have ylt := hx4.lt
             have zlt := World.block_lt_of_cell? _ _ y4
             simp only [List.getElem?_toArray, List.getElem?_cons_zero] at y0
             have hlk := run_lookI (HMR.out.below hb4 HMR.out.lt) N hn _ HVAL.out
             have HB4 := Lib.hid (stepN HB3.out hb4)
             clear hb4 hx4))
        go_quiet (fail)
        go_wp2_with fail
        rw [HZ.out]
        refine bodyPost_ret (v := .tuple #[.int .i64 av, nm N]) ?_ rfl ⟨rfl, below_drewN (stepN HB2.out HB4.out) _⟩
        simp [results, Try.results16, go_sem]
    · obtain rfl : k = S.length := by omega
      have HBE := Lib.hid HB.out
      have HEA := Lib.hid HE.out
      clear HB HE
      generalize hwe : wr = wE at *
      clear hwe
      go_wp2_with fail
      go_loopw [44] (fun i wr => ∃ k : Nat, k ≤ S.length ∧ i = .int .i64 k ∧ Hid (∀ j (hj : j < S.length), j < k → Hr.lost S S[j] = false) ∧ Hid (Below w2.heap.size w2 wr)) (fun i _ => S.length - (intOf i).toNat)
      case atStart => exact ⟨0, Nat.zero_le _, rfl, fun j _ hj => absurd hj (Nat.not_lt_zero j), HBE⟩
      case round =>
        obtain ⟨k, hk, rfl, HL, HB⟩ := hrel
        have hBw : Below w.heap.size w wr := HB2.out.trans (HB.out.mono hs2)
        by_cases hlt : k < S.length
        · obtain ⟨A', c', hv, hat1⟩ := HC.out.below hBw (Nat.le_refl _)
          cases hv
          obtain ⟨b, o, hA, hat⟩ := hat1 (by omega)
          subst hA
          obtain ⟨hn, c0, d1, A2, n2, k2, A3, k3, A4, n4, k4, A5, n5, k5, A6, n6, k6, c1, c2, c3, hups, c4, c5, c6⟩ := hat k hlt
          have hblt := World.block_lt_of_cell? _ _ c0
          have hw1 : IntKind.i64.wrap ((k : Int) + 1) = (k : Int) + 1 := IntWalk.i64_in _ (by omega)
          have hltI : (k : Int) < S.length := by omega
          have hBs := HB.out.size
          have hxr := kept_below HB.out (Nat.le_refl _) _ _ HX2.out
          have hck : Hr.lost S S[k] = true → Hr.check S = (5, S[k].name) := fun he => Hr.check_lost S h24 HEA.out k hlt HL.out he
          have hB3 : Below wr.heap.size wr (wr.alloc (.cells #[nm S[k].name, .bool d1, .slice A2 n2 k2, .slice A3 S[k].ups.length k3, .slice A4 n4 k4, .slice A5 n5 k5, .slice A6 n6 k6] 48)) := (Below.refl _ _).alloc (Nat.le_refl _) _
          have hal := (Hr.err1_zero S k hlt (HEA.out k hlt)).1
          have hul : S[k].ups.length ≤ 1000000 := by
            unfold Hr.alone at hal
            split at hal
            · cases hal
            · omega
          have hcf := (containsFunc_any _ S[k].ups X m S.length _ (wr.alloc (.cells #[nm S[k].name, .bool d1, .slice A2 n2 k2, .slice A3 S[k].ups.length k3, .slice A4 n4 k4, .slice A5 n5 k5, .slice A6 n6 k6] 48)) (hups.keep (kept_below hB3 (Nat.le_refl _))) hul ((kept_below hB3 (Nat.le_refl _)) _ _ hxr) ((HM2.out.below HB.out HM2.out.lt).alloc (.cells #[nm S[k].name, .bool d1, .slice A2 n2 k2, .slice A3 S[k].ups.length k3, .slice A4 n4 k4, .slice A5 n5 k5, .slice A6 n6 k6] 48)))
          change Calls _ _ _ _ (fun e w' => e = .returned (.bool (Hr.lost S S[k])) ∧ _) at hcf
          have hlo : Hr.lost S S[k] = Hr.lost S S[k] := rfl
          have hst : Hr.lost S S[k] = false → ∀ j (hj : j < S.length), j < k + 1 → Hr.lost S S[j] = false := fun h j hj hjk => by
            rcases Nat.lt_succ_iff_lt_or_eq.1 hjk with h1 | rfl
            · exact HL.out j hj h1
            · exact h
          have HST := Lib.hid hst
          have HCK := Lib.hid hck
          have HXC := Lib.hid (Has.new wr 48 #[nm S[k].name, .bool d1, .slice A2 n2 k2, .slice A3 S[k].ups.length k3, .slice A4 n4 k4, .slice A5 n5 k5, .slice A6 n6 k6])
          have HB3 := Lib.hid (HB.out.alloc hBs (.cells #[nm S[k].name, .bool d1, .slice A2 n2 k2, .slice A3 S[k].ups.length k3, .slice A4 n4 k4, .slice A5 n5 k5, .slice A6 n6 k6] 48))
          generalize hlb : Hr.lost S S[k] = lb at hcf HST HCK
          have HCF := Lib.hid hcf
          clear hat hat1 hups hB3 hal hul hcf hlo hst hck hlb
          cases lb with
          | false =>
            go_wp2_with (go_at_call 43; refine HCF.out.mono ?_; rintro e w4 ⟨rfl, hb4⟩)
            have HB4 := Lib.hid (stepN HB3.out hb4)
            have HST2 := Lib.hid (HST.out (by trivial))
            go_roundw
            case rel => exact ⟨k + 1, by omega, by go_num, HST2, HB4⟩
            case measure => simp [intOf]; omega
          | true =>
            have HCK2 := Lib.hid (HCK.out (by trivial))
            generalize S[k].name = N at *
            go_wp2_with (go_at_call 43; refine HCF.out.mono ?_
                         rintro e w4 ⟨rfl, hb4⟩
                         have hx4 := HXC.out.below hb4 HXC.out.lt
                         have y0 := hx4.cell 0
                         have ylt := hx4.lt
                         simp only [List.getElem?_toArray, List.getElem?_cons_zero] at y0
                         have HB4 := Lib.hid (stepN HB3.out hb4)
                         clear hb4 hx4)
            go_quiet (fail)
            go_wp2_with fail
            rw [HCK2.out]
            refine bodyPost_ret (v := .tuple #[.int .i64 5, nm N]) ?_ rfl ⟨rfl, below_drewN (stepN HB2.out HB4.out) _⟩
            simp [results, Try.results16, go_sem]
        · obtain rfl : k = S.length := by omega
          have hal4 : ∀ c ∈ S, c.ups.length ≤ 4 := fun c hc => by
            obtain ⟨i, hi, rfl⟩ := List.getElem_of_mem hc
            exact Hr.alone_four (Hr.err1_zero S i hi (HEA.out i hi)).1
          have hLL := Hr.links_le S hal4
          have hck := Hr.check_ring S h24 HEA.out (fun j hj => HL.out j hj hj)
          have HBW := Lib.hid hBw
          cases hno : (Hr.visited (Hr.links S) (Hr.sources (Hr.links S))).ring with
          | false =>
            rw [(Hr.ring_none_iff _).2 hno] at hck
            have HRN := Lib.hid (Ring_none _ S wr (HC.out.below hBw (Nat.le_refl _)) (by omega) (by omega) hno)
            have HCK := Lib.hid hck
            clear hBw hno hck hLL hal4
            go_wp2_with (go_at_call 17; refine HRN.out.mono ?_; rintro e w4 ⟨rfl, hb4⟩)
            have HBF := Lib.hid (stepN HBW.out hb4)
            rw [HCK.out]
            refine bodyPost_ret (v := .tuple #[.int .i64 0, .string ⟨#[]⟩]) ?_ rfl ⟨rfl, HBF.out⟩
            simp [results, Try.results16, go_sem]
          | true =>
            have HRS := Lib.hid (Ring_some _ S wr (HC.out.below hBw (Nat.le_refl _)) (by omega) (by omega) hno)
            have HCK := Lib.hid hck
            clear hBw hno hck hLL hal4
            go_wp2_with (go_at_call 17; refine HRS.out.mono ?_
                         rintro e w4 ⟨rg, o4, hrg, rfl, ho4, hb4⟩
                         obtain ⟨a4, q4, hrq⟩ := Hr.ring_head hrg
                         obtain ⟨oA4, oc4, rfl⟩ := own_len ho4
                         obtain ⟨A4', c4', hv4, hat4⟩ := NmsAt.of_own ho4
                         cases hv4
                         obtain ⟨b4, ob4, hA4, hat5⟩ := hat4 (by rw [hrq]; simp)
                         subst hA4
                         have z0 := hat5 0 (by rw [hrq]; simp)
                         have hz4 : rg[0]'(by rw [hrq]; simp) = a4 := by subst hrq; rfl
                         rw [hz4, Nat.add_zero] at z0
                         have zlt := World.block_lt_of_cell? _ _ z0
                         have hrl : (0 : Int) < rg.length := by rw [hrq]; simp
                         have HCK2 : Hid (Hr.check S = (7, a4)) := by
                           show _ = _
                           rw [HCK.out, hrg, hrq]
                           rfl
                         have HBF := Lib.hid (stepN HBW.out hb4)
                         clear ho4 hb4 hat4 hat5 hz4 hrg hrq)
            go_quiet (fail)
            go_wp2_with fail
            rw [HCK2.out]
            refine bodyPost_ret (v := .tuple #[.int .i64 7, nm a4]) ?_ rfl ⟨rfl, below_drewN HBF.out _⟩
            simp [results, Try.results16, go_sem]
end Go.Proofs.Ytojfimbanaijdaa
