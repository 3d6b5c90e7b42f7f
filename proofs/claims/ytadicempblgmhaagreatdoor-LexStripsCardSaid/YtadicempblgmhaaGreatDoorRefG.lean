/-
  The reference's note and sign, by contract.
-/
import Derived.Test.YtadicempblgmhaaGreatDoorRefC
import Derived.Test.YtadicempblgmhaaGreatDoorPatchA
import Derived.Test.YtadicempblgmhaaGreatDoorTight
import Derived.Deep.QuietTactic
import Derived.BigQuiet
namespace Go.Proofs.YtadicempblgmhaaGreatDoor
open Go.RowKit Go.Shelf

namespace Lx
/-- The first line's rest, told by its bytes. -/
theorem refNote_is : ∀ (l : List UInt8) (n : Nat), n ≤ l.length → (∀ i (h : i < n) (h2 : i < l.length), l[i] ≠ 10) → (∀ h : n < l.length, l[n] = 10) → refNote l = l.take n
  | [], n, h, _, _ => by
    obtain rfl : n = 0 := by simpa using h
    rfl
  | c :: r, 0, _, _, h3 => by
    have := h3 (by simp)
    simp at this
    subst this
    rw [refNote_nl]
    rfl
  | c :: r, n + 1, h1, h2, h3 => by
    have hc := h2 0 (by omega) (by simp)
    simp at hc
    rw [refNote_cons c r hc, List.take_succ_cons, refNote_is r n (by simpa using h1) (fun i hi hl => by have := h2 (i + 1) (by omega) (by simpa using hl); simpa using this) (fun hl => by have := h3 (by simpa using hl); simpa using this)]

theorem signs_two : ∀ i (h : i < signs.length), (signs[i].length = 2 ↔ i < 5) ∧ (signs[i].length = 1 ∨ signs[i].length = 2) := by decide +kernel
/-- The first sign of the list with which a text begins is the longest. -/
theorem longest_first (l : List UInt8) (j : Nat) (hj : j < signs.length) (hp : signs[j] <+: l) (hn : ∀ i (h : i < j) (h2 : i < signs.length), ¬ signs[i] <+: l) : longest l = signs[j] := by
  have hlen := hp.length_le
  have htake : l.take signs[j].length = signs[j] := (List.prefix_iff_eq_take.1 hp).symm
  have hmem : signs[j] ∈ signs := List.getElem_mem hj
  obtain ⟨k1, k2⟩ := signs_two j hj
  unfold longest
  rcases k2 with h1 | h2
  · rw [h1] at htake hlen
    have hno : ¬ (2 ≤ l.length ∧ l.take 2 ∈ signs) := by
      rintro ⟨hl, hin⟩
      obtain ⟨i, hi, he⟩ := List.getElem_of_mem hin
      have hlen2 : signs[i].length = 2 := by rw [he, List.length_take]; omega
      have hi5 := (signs_two i hi).1.1 hlen2
      have hj5 : ¬ j < 5 := fun h => by have := k1.2 h; omega
      exact hn i (by omega) hi (he ▸ List.take_prefix _ _)
    rw [if_neg hno, if_pos ⟨hlen, htake ▸ hmem⟩, htake]
  · rw [h2] at htake hlen
    rw [if_pos ⟨hlen, htake ▸ hmem⟩, htake]
theorem longest_nothing (l : List UInt8) (hn : ∀ i (h2 : i < signs.length), ¬ signs[i] <+: l) : longest l = [] := by
  unfold longest
  rw [if_neg, if_neg]
  · rintro ⟨hl, hin⟩
    obtain ⟨i, hi, he⟩ := List.getElem_of_mem hin
    exact hn i hi (he ▸ List.take_prefix _ _)
  · rintro ⟨hl, hin⟩
    obtain ⟨i, hi, he⟩ := List.getElem_of_mem hin
    exact hn i hi (he ▸ List.take_prefix _ _)
end Lx

theorem drop_nth (s : ByteArray) (a i : Nat) (h : a + i < s.size) : (s.data.toList.drop a)[i]'(by rw [List.length_drop]; simp; omega) = s[a + i] := by
  rw [List.getElem_drop]
  rfl

set_option maxRecDepth 100000 in
set_option maxHeartbeats 1000000 in
theorem rnote_any (s : ByteArray) (a : Nat) (w : World) (hs : s.size ≤ 1000000) (ha : a + 2 ≤ s.size) (h1 : s[a] = 45) (h2 : s[a + 1] = 45) :
    Calls Tryz.prog 74 #[.string s, .int .i64 a] w fun e w' => e = .returned (if Lx.span Lx.printable (Lx.refNote (s.data.toList.drop a)) < (Lx.refNote (s.data.toList.drop a)).length then .tuple #[.int .i64 (-1), .int .i64 ((a + Lx.span Lx.printable (Lx.refNote (s.data.toList.drop a)) : Nat) : Int)] else .tuple #[.int .i64 (Lx.refNote (s.data.toList.drop a)).length, .int .i64 0]) ∧ w = w' := by
  have hll : (s.data.toList.drop a).length = s.size - a := by simp
  have good : ∀ n, 2 ≤ n → a + n ≤ s.size → (∀ i (_ : 2 ≤ i) (_ : i < n) (h : a + i < s.size), s[a + i] ≠ 10 ∧ Lx.printable s[a + i] = true) → ∀ i (hi : i < n) (h : a + i < s.size), s[a + i] ≠ 10 ∧ Lx.printable s[a + i] = true := by
    intro n hn hle hall i hi h
    by_cases h0 : i = 0
    · subst h0
      show s[a] ≠ 10 ∧ Lx.printable s[a] = true
      rw [h1]; decide
    · by_cases h01 : i = 1
      · subst h01; rw [h2]; decide
      · exact hall i (by omega) hi h
  have hend : ∀ n, 2 ≤ n → a + n ≤ s.size → (∀ i (_ : 2 ≤ i) (_ : i < n) (h : a + i < s.size), s[a + i] ≠ 10 ∧ Lx.printable s[a + i] = true) → (∀ h : a + n < s.size, s[a + n] = 10) →
      (Lx.refNote (s.data.toList.drop a)).length = n ∧ Lx.span Lx.printable (Lx.refNote (s.data.toList.drop a)) = n := by
    intro n hn hle hall hst
    have hg := good n hn hle hall
    have e := Lx.refNote_is (s.data.toList.drop a) n (by omega) (fun i hi hl => by rw [drop_nth s a i (by omega)]; exact (hg i hi (by omega)).1) (fun hl => by rw [drop_nth s a n (by omega)]; exact hst (by omega))
    have hlen : ((s.data.toList.drop a).take n).length = n := by rw [List.length_take]; omega
    rw [e]
    refine ⟨hlen, Lx.span_eq _ _ n (by omega) (fun i hi => ?_) (fun h => by omega)⟩
    rw [List.getElem_take, drop_nth s a i (by omega)]
    exact (hg i hi (by omega)).2
  have hbad : ∀ n, 2 ≤ n → ∀ h : a + n < s.size, (∀ i (_ : 2 ≤ i) (_ : i < n) (h : a + i < s.size), s[a + i] ≠ 10 ∧ Lx.printable s[a + i] = true) → s[a + n] ≠ 10 → Lx.printable s[a + n] = false →
      Lx.span Lx.printable (Lx.refNote (s.data.toList.drop a)) = n ∧ n < (Lx.refNote (s.data.toList.drop a)).length := by
    intro n hn h hall h10 hp
    have hg := good n hn (by omega) hall
    have hpre : (s.data.toList.drop a).take (n + 1) <+: Lx.refNote (s.data.toList.drop a) := by
      have key : ∀ (l : List UInt8) (m : Nat), m ≤ l.length → (∀ i (_ : i < m) (h2 : i < l.length), l[i] ≠ 10) → l.take m <+: Lx.refNote l := by
        intro l
        induction l with
        | nil => intro m hm _; simp at hm; subst hm; exact List.nil_prefix
        | cons c r ih =>
          intro m hm hh
          cases m with
          | zero => exact List.nil_prefix
          | succ m =>
            have hc := hh 0 (by omega) (by simp)
            simp at hc
            rw [Lx.refNote_cons c r hc, List.take_succ_cons]
            obtain ⟨t, ht⟩ := ih m (by simpa using hm) (fun i hi hl => by have := hh (i + 1) (by omega) (by simpa using hl); simpa using this)
            exact ⟨t, by rw [List.cons_append, ht]⟩
      refine key _ _ (by omega) (fun i hi hl => ?_)
      rw [drop_nth s a i (by omega)]
      by_cases hin : i = n
      · subst hin; exact h10
      · exact (hg i (by omega) (by omega)).1
    have hlen : n < (Lx.refNote (s.data.toList.drop a)).length := by
      have := hpre.length_le
      rw [List.length_take] at this
      omega
    refine ⟨?_, hlen⟩
    obtain ⟨t, ht⟩ := hpre
    refine Lx.span_eq _ _ n (by omega) (fun i hi => ?_) (fun hh => ?_)
    · have : (Lx.refNote (s.data.toList.drop a))[i]'(by omega) = s[a + i] := by
        rw [← drop_nth s a i (by omega)]
        have e : ((s.data.toList.drop a).take (n + 1) ++ t)[i]'(by rw [ht]; omega) = (s.data.toList.drop a)[i]'(by omega) := by
          rw [List.getElem_append_left (by rw [List.length_take]; omega), List.getElem_take]
        rw [← e]
        congr 1
        exact ht.symm
      rw [this]
      exact (hg i hi (by omega)).2
    · have : (Lx.refNote (s.data.toList.drop a))[n]'hh = s[a + n] := by
        rw [← drop_nth s a n (by omega)]
        have e : ((s.data.toList.drop a).take (n + 1) ++ t)[n]'(by rw [ht]; omega) = (s.data.toList.drop a)[n]'(by omega) := by
          rw [List.getElem_append_left (by rw [List.length_take]; omega), List.getElem_take]
        rw [← e]
        congr 1
        exact ht.symm
      rw [this]
      exact hp
  generalize (Lx.refNote (s.data.toList.drop a)).length = nl at *
  generalize Lx.span Lx.printable (Lx.refNote (s.data.toList.drop a)) = sp at *
  have HEnd := Lib.hid hend
  have HBad := Lib.hid hbad
  clear good hend hbad h1 h2
  go_enter Tryz.func74, Tryz.ntmps74
  go_wp2
  go_loop [6] (fun n => ∃ k : Nat, 2 ≤ k ∧ a + k ≤ s.size ∧ n = .int .i64 k ∧ ∀ i (_ : 2 ≤ i) (_ : i < k) (h : a + i < s.size), s[a + i] ≠ 10 ∧ Lx.printable s[a + i] = true) (fun n => s.size - (intOf n).toNat)
  case atStart => exact ⟨2, Nat.le_refl _, ha, rfl, fun i h1 h2 => by omega⟩
  case round =>
    obtain ⟨k, hk2, hk, rfl, hall⟩ := hrel
    have Hall := Lib.hid hall
    clear hall
    have hwr : IntKind.i64.wrap ((a : Int) + k) = ((a + k : Nat) : Int) := by rw [IntWalk.i64_in _ (by omega)]; omega
    by_cases hlt : a + k < s.size
    · have hi1 : ((a + k : Nat) : Int) < s.size := by omega
      by_cases h10 : (s[a + k].toNat : Int) = 10
      · have h10' : s[a + k] = 10 := UInt8.toNat_inj.1 (by simp; omega)
        obtain ⟨e1, e2⟩ := HEnd.out k hk2 hk Hall.out (fun _ => h10')
        subst e1 e2
        go_wp2_with fail
        go_ret2
        exact ⟨by simp, rfl⟩
      · have hne : s[a + k] ≠ 10 := fun h => h10 (by rw [h]; rfl)
        by_cases hpr : 32 ≤ (s[a + k].toNat : Int) ∧ (s[a + k].toNat : Int) ≤ 126
        · have hp : Lx.printable s[a + k] = true := by rw [printable_eq]; simpa using hpr
          have Hp := Lib.hid hp
          have Hn := Lib.hid hne
          obtain ⟨p1, p2⟩ := hpr
          clear hp hne
          go_wp2_with fail
          go_round
          case rel => exact ⟨k + 1, by omega, by omega, by go_num, fun i h1 h2 h => by
            by_cases e : i = k
            · subst e; exact ⟨Hn.out, Hp.out⟩
            · exact Hall.out i h1 (by omega) h⟩
          case measure => simp [intOf]; omega
        · have hp : Lx.printable s[a + k] = false := by rw [printable_eq]; simpa using hpr
          obtain ⟨e1, e2⟩ := HBad.out k hk2 hlt Hall.out hne hp
          subst e1
          clear hp hne
          by_cases p1 : 32 ≤ (s[a + sp].toNat : Int)
          · have p2 : 126 < (s[a + sp].toNat : Int) := by omega
            go_wp2_with fail
            go_ret2
            exact ⟨by simp [e2], rfl⟩
          · go_wp2_with fail
            go_ret2
            exact ⟨by simp [e2], rfl⟩
    · obtain ⟨e1, e2⟩ := HEnd.out k hk2 hk Hall.out (fun h => absurd h hlt)
      have hi1 : ¬ ((a + k : Nat) : Int) < s.size := by omega
      subst e1 e2
      go_wp2_with fail
      go_ret2
      exact ⟨by simp, rfl⟩

theorem piece_prefix (s : ByteArray) (a n : Nat) (x : ByteArray) (h : a + n ≤ s.size) (hx : x.size = n) : ((s.extract a (a + n)).toList == x.toList) = true ↔ x.data.toList <+: s.data.toList.drop a := by
  rw [beq_iff_eq, Lib.toList_data, Lib.toList_data, Lib.extract_data, List.prefix_iff_eq_take]
  have e1 : a + n - a = n := by omega
  have e2 : x.data.toList.length = n := by simpa using hx
  rw [e1, e2]
  exact ⟨fun h => h.symm, fun h => h.symm⟩
theorem prefix_room (s : ByteArray) (a : Nat) (x : ByteArray) (ha : a ≤ s.size) (h : x.data.toList <+: s.data.toList.drop a) : a + x.size ≤ s.size := by
  have := h.length_le
  rw [List.length_drop] at this
  simp at this
  omega

set_option maxRecDepth 100000 in
set_option maxHeartbeats 2000000 in
theorem rsign_any (s : ByteArray) (a : Nat) (w : World) (hs : s.size ≤ 1000000) (ha : a ≤ s.size) :
    Calls Tryz.prog 75 #[.string s, .int .i64 a] w fun e w' => e = .returned (.string ⟨(Lx.longest (s.data.toList.drop a)).toArray⟩) ∧ Below w.heap.size w w' := by
  have hfirst := Lx.longest_first (s.data.toList.drop a)
  have hnone := Lx.longest_nothing (s.data.toList.drop a)
  have hbl : (bytesOf Lx.signs).length = 22 := rfl
  have hbs : ∀ i (h : i < (bytesOf Lx.signs).length) (h2 : i < Lx.signs.length), ((bytesOf Lx.signs)[i]).data.toList = Lx.signs[i] := fun i h h2 => by
    show ((Lx.signs.map fun x => (⟨x.toArray⟩ : ByteArray))[i]'h).data.toList = _
    rw [List.getElem_map]
  have hsz : ∀ i (h : i < (bytesOf Lx.signs).length), ((bytesOf Lx.signs)[i]).size ≤ 2 := by decide +kernel
  generalize Lx.longest (s.data.toList.drop a) = fin at *
  have HF := Lib.hid hfirst
  have HN := Lib.hid hnone
  have HBS := Lib.hid hbs
  have HSZ := Lib.hid hsz
  clear hfirst hnone hbs hsz
  go_enter Tryz.func75, Tryz.ntmps75
  go_wp2_with fail
  refine (rsigns_any _).mono ?_
  rintro e w1 ⟨v, rfl, hl, hb1⟩
  obtain ⟨A, c, rfl, hc⟩ := hl
  obtain ⟨bs, os, rfl, hc2⟩ := hc (by decide)
  rw [hbl]
  have HC := Lib.hid hc2
  have B1 := Lib.hid hb1
  clear hc hc2 hb1
  go_wp2_with fail
  go_loopw [6] (fun i wr => ∃ j : Nat, j ≤ 22 ∧ i = .int .i64 j ∧ (∀ k (_ : k < j) (h2 : k < Lx.signs.length), ¬ Lx.signs[k] <+: s.data.toList.drop a) ∧ Below w1.heap.size w1 wr) (fun i _ => 22 - (intOf i).toNat)
  case atStart => exact ⟨0, Nat.zero_le _, rfl, fun k hk => absurd hk (Nat.not_lt_zero _), Below.refl _ _⟩
  case round =>
    obtain ⟨j, hj, rfl, hall, hB⟩ := hrel
    have HAll := Lib.hid hall
    have HB := Lib.hid hB
    clear hall hB
    have BW := Lib.hid (B1.out.trans (HB.out.mono B1.out.size))
    by_cases hlt : j < 22
    · have hltS : j < Lx.signs.length := hlt
      obtain ⟨x, hx, f1⟩ : ∃ x : ByteArray, x.data.toList = Lx.signs[j]'hltS ∧ wr.cell? ⟨bs, os + j, none⟩ = some (.string x) := ⟨_, HBS.out j (by rw [hbl]; exact hlt) hltS, kept_below HB.out (Nat.le_refl _) _ _ (HC.out j (by rw [hbl]; exact hlt))⟩
      have hsz : x.size ≤ 2 := by
        have h1 := (Lx.signs_form _ (List.getElem_mem hltS)).2.1
        rw [← hx] at h1
        simpa using h1
      have hstop : x.data.toList <+: s.data.toList.drop a → (⟨fin.toArray⟩ : ByteArray) = x := fun h => by
        have := HF.out j hltS (hx ▸ h) (fun i hi h2 => HAll.out i hi h2)
        rw [this]
        exact (of_list hx).symm
      have hstep : ¬ x.data.toList <+: s.data.toList.drop a → ∀ k (_ : k < j + 1) (h2 : k < Lx.signs.length), ¬ Lx.signs[k] <+: s.data.toList.drop a := fun h k hk h2 hh => by
        rcases Nat.lt_or_ge k j with h3 | h3
        · exact HAll.out k h3 h2 hh
        · obtain rfl : k = j := by omega
          exact h (hx ▸ hh)
      have HST := Lib.hid hstep
      have HSP := Lib.hid hstop
      clear hstep hstop hx
      have hjI : (j : Int) < 22 := by omega
      have hwr : IntKind.i64.wrap ((a : Int) + x.size) = ((a + x.size : Nat) : Int) := by rw [IntWalk.i64_in _ (by omega)]; omega
      by_cases hroom : a + x.size ≤ s.size
      · have hr1 : ((a + x.size : Nat) : Int) ≤ s.size := by omega
        have hr2 : decide (((a + x.size : Nat) : Int) ≤ s.size) = true := decide_eq_true hr1
        have hr3 : decide ((a : Int) + x.size ≤ s.size) = true := decide_eq_true (by omega)
        have hpp := piece_prefix s a x.size x hroom rfl
        by_cases hp : x.data.toList <+: s.data.toList.drop a
        · have hq := hpp.2 hp
          have HX := Lib.hid (HSP.out hp)
          clear hpp hp
          go_wp2_with fail
          go_quiet (fail)
          go_wp2_with fail
          go_ret
          exact ⟨by rw [HX.out]; rfl, below_drewN BW.out nq⟩
        · have hq : ((s.extract a (a + x.size)).toList == x.toList) = false := by
            rw [Bool.eq_false_iff]; exact fun h => hp (hpp.1 h)
          have HX := Lib.hid (HST.out hp)
          clear hpp hp
          go_wp2_with fail
          go_quiet (fail)
          go_wp2_with fail
          exact ⟨⟨j + 1, hlt, by go_num, HX.out, below_drewN HB.out nq⟩, by simp [intOf]; omega⟩
      · have hr1 : ¬ ((a + x.size : Nat) : Int) ≤ s.size := by omega
        have HX := Lib.hid (HST.out (fun h => hroom (prefix_room s a x ha h)))
        have hr2 : decide (((a + x.size : Nat) : Int) ≤ s.size) = false := decide_eq_false hr1
        have hr3 : decide ((a : Int) + x.size ≤ s.size) = false := decide_eq_false (by omega)
        go_wp2_with fail
        go_quiet (fail)
        go_wp2_with fail
        exact ⟨⟨j + 1, hlt, by go_num, HX.out, below_drewN HB.out nq⟩, by simp [intOf]; omega⟩
    · obtain rfl : j = 22 := by omega
      have hfin : fin = [] := HN.out (fun i h2 => HAll.out i h2 h2)
      subst hfin
      go_wp2_with fail
      go_ret
      exact ⟨rfl, BW.out⟩
end Go.Proofs.YtadicempblgmhaaGreatDoor
