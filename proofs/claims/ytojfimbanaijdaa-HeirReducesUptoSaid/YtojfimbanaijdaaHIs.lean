/-
  What isCapital, isLater, isName return, in package heir. What slices.Contains at names and is return, in package heir.
-/
import Derived.Test.YtojfimbanaijdaaHAbove
import Derived.Test.YtojfimbanaijdaaShelf
namespace Go.Proofs.Ytojfimbanaijdaa
open Go.RowKit Go.Shelf

namespace Hr
def capital (b : UInt8) : Bool := decide (65 ≤ b.toNat) && decide (b.toNat ≤ 90)
def later (b : UInt8) : Bool := (decide (48 ≤ b.toNat) && decide (b.toNat ≤ 57)) || decide (b.toNat = 95)
/-- The names that no class may have. -/
def taken : List Nm := [[], [73, 78, 84, 69, 71, 69, 82], [66, 79, 79, 76, 69, 65, 78], [65, 78, 89], [78, 79, 78, 69]]
def bytesOk (s : Nm) (k : Nat) : Bool := (s.take k).zipIdx.all fun x => capital x.1 || (x.2 != 0 && later x.1)
def isName (s : Nm) : Bool := !taken.contains s && bytesOk s s.length && decide (s.length ≤ 20)
theorem bytesOk_zero (s : Nm) : bytesOk s 0 = true := by simp [bytesOk]
theorem bytesOk_step (s : Nm) (k : Nat) (h : k < s.length) : bytesOk s (k + 1) = (bytesOk s k && (capital s[k] || (k != 0 && later s[k]))) := by
  unfold bytesOk
  rw [List.take_succ_eq_append_getElem h, List.zipIdx_append, List.all_append]
  simp [Nat.min_eq_left (Nat.le_of_lt h)]
theorem bytesOk_stop (s : Nm) (k : Nat) (h : k ≤ s.length) (hb : bytesOk s k = false) : bytesOk s s.length = false := by
  have key : ∀ d, k + d ≤ s.length → bytesOk s (k + d) = false := by
    intro d
    induction d with
    | zero => exact fun _ => hb
    | succ d ih =>
      intro hd
      rw [← Nat.add_assoc, bytesOk_step s (k + d) (by omega), ih (by omega)]
      rfl
  have := key (s.length - k) (by omega)
  rwa [show k + (s.length - k) = s.length from by omega] at this
end Hr

theorem isCapital_any (b : UInt8) (w : World) : Calls Try.prog 91 #[.int .u8 b.toNat] w fun e w' => e = .returned (.bool (Hr.capital b)) ∧ w = w' := by
  unfold Hr.capital
  generalize b.toNat = n
  by_cases h1 : 65 ≤ n
  · have h1' : (65 : Int) ≤ n := by omega
    by_cases h2 : n ≤ 90
    · have h2' : (n : Int) ≤ 90 := by omega
      go_enter Try.func91, Try.ntmps91
      go_wp2
      go_ret
      exact ⟨by first | (congr 2; done) | (congr 2; simp; done) | (congr 2; simp; omega), rfl⟩
    · have h2' : ¬ (n : Int) ≤ 90 := by omega
      go_enter Try.func91, Try.ntmps91
      go_wp2
      go_ret
      exact ⟨by first | (congr 2; done) | (congr 2; simp; done) | (congr 2; simp; omega), rfl⟩
  · have h1' : ¬ (65 : Int) ≤ n := by omega
    go_enter Try.func91, Try.ntmps91
    go_wp2
    go_ret
    exact ⟨by first | (congr 2; done) | (congr 2; simp; done) | (congr 2; simp; omega), rfl⟩

theorem isLater_any (b : UInt8) (w : World) : Calls Try.prog 92 #[.int .u8 b.toNat] w fun e w' => e = .returned (.bool (Hr.later b)) ∧ w = w' := by
  unfold Hr.later
  generalize b.toNat = n
  by_cases h3 : n = 95
  · subst h3
    go_enter Try.func92, Try.ntmps92
    go_wp2
    go_ret
    exact ⟨by simp, rfl⟩
  · have h3' : ¬ (n : Int) = 95 := by omega
    by_cases h1 : 48 ≤ n
    · have h1' : (48 : Int) ≤ n := by omega
      by_cases h2 : n ≤ 57
      · have h2' : (n : Int) ≤ 57 := by omega
        go_enter Try.func92, Try.ntmps92
        go_wp2
        go_ret
        exact ⟨by first | (congr 2; done) | (congr 2; simp; done) | (congr 2; simp; omega), rfl⟩
      · have h2' : ¬ (n : Int) ≤ 57 := by omega
        go_enter Try.func92, Try.ntmps92
        go_wp2
        go_ret
        exact ⟨by first | (congr 2; done) | (congr 2; simp; done) | (congr 2; simp; omega), rfl⟩
    · have h1' : ¬ (48 : Int) ≤ n := by omega
      go_enter Try.func92, Try.ntmps92
      go_wp2
      go_ret
      exact ⟨by first | (congr 2; done) | (congr 2; simp; done) | (congr 2; simp; omega), rfl⟩

set_option maxRecDepth 100000 in
set_option maxHeartbeats 1000000 in
theorem isName_any (s : Hr.Nm) (w : World) (hs : s.length ≤ 140737488355328) :
    Calls Try.prog 77 #[nm s] w fun e w' => e = .returned (.bool (Hr.isName s)) ∧ w = w' := by
  by_cases hr : Hr.taken.contains s = true
  · have hres : Hr.isName s = false := by unfold Hr.isName; rw [hr]; rfl
    rw [hres]
    have hm : s ∈ Hr.taken := by simpa using hr
    simp only [Hr.taken, List.mem_cons, List.not_mem_nil, or_false] at hm
    rcases hm with rfl | rfl | rfl | rfl | rfl
    all_goals
      go_enter Try.func77, Try.ntmps77
      go_wp2
      go_ret
      exact ⟨rfl, rfl⟩
  · have hr' : Hr.taken.contains s = false := by simpa using hr
    have hm : s ∉ Hr.taken := by simpa using hr
    simp only [Hr.taken, List.mem_cons, List.not_mem_nil, or_false, not_or] at hm
    obtain ⟨m1, m2, m3, m4, m5⟩ := hm
    have hres : Hr.isName s = (Hr.bytesOk s s.length && decide (s.length ≤ 20)) := by unfold Hr.isName; rw [hr']; rfl
    have n1 : List.isEmpty s = false := by simpa using m1
    have n2 : (s == [73, 78, 84, 69, 71, 69, 82]) = false := by simpa using m2
    have n3 : (s == [66, 79, 79, 76, 69, 65, 78]) = false := by simpa using m3
    have n4 : (s == [65, 78, 89]) = false := by simpa using m4
    have n5 : (s == [78, 79, 78, 69]) = false := by simpa using m5
    have HRES := Lib.hid hres
    clear hres hr hr'
    go_enter Try.func77, Try.ntmps77
    go_wp2_with fail
    go_loopw [13] (fun i wr => ∃ k : Nat, k ≤ s.length ∧ i = .int .i64 k ∧ Hid (Hr.bytesOk s k = true) ∧ w = wr) (fun i _ => s.length - (intOf i).toNat)
    case atStart => exact ⟨0, Nat.zero_le _, rfl, Hr.bytesOk_zero s, rfl⟩
    case round =>
      obtain ⟨k, hk, rfl, HB, rfl⟩ := hrel
      by_cases hlt : k < s.length
      · have hst := Hr.bytesOk_step s k hlt
        rw [HB.out, Bool.true_and] at hst
        have hstop := Hr.bytesOk_stop s (k + 1) hlt
        have hw1 : IntKind.i64.wrap ((k : Int) + 1) = (k : Int) + 1 := IntWalk.i64_in _ (by omega)
        have hltI : (k : Int) < s.length := by omega
        have hsz : (⟨s.toArray⟩ : ByteArray).size = s.length := Lib.size_mk s
        have hbk : ((⟨s.toArray⟩ : ByteArray)[k]'(by rw [hsz]; exact hlt)) = s[k] := by
          show s.toArray[k] = s[k]
          simp
        have cC := isCapital_any s[k] w
        have cL := isLater_any s[k] w
        rw [← hbk] at cC cL hst
        have CC := Lib.hid cC
        have CL := Lib.hid cL
        clear cC cL hbk
        generalize Hr.capital ((⟨s.toArray⟩ : ByteArray)[k]'(by rw [hsz]; exact hlt)) = bc at *
        generalize Hr.later ((⟨s.toArray⟩ : ByteArray)[k]'(by rw [hsz]; exact hlt)) = bl at *
        have HST := Lib.hid hst
        have HSTOP := Lib.hid hstop
        clear hst hstop
        cases bc with
        | true =>
          go_wp2_with (go_at_call 91; refine CC.out.mono ?_; rintro e w' ⟨rfl, rfl⟩)
          go_roundw
          case rel => exact ⟨k + 1, hlt, by go_num, by show _ = _; rw [HST.out]; rfl, by trivial⟩
          case measure => simp [intOf]; omega
        | false =>
          by_cases hz0 : k = 0
          · subst hz0
            have hr : Hr.isName s = false := by
              rw [HRES.out, HSTOP.out (by rw [HST.out]; rfl)]
              rfl
            have HR := Lib.hid hr
            clear hr
            go_wp2_with (go_at_call 91; refine CC.out.mono ?_; rintro e w' ⟨rfl, rfl⟩)
            go_ret
            exact ⟨by rw [HR.out]; rfl, rfl⟩
          · have hz : ¬ (k : Int) = 0 := by omega
            have hk0 : (k != 0) = true := by simp [hz0]
            cases bl with
            | true =>
              go_wp2_with (first
                | (go_at_call 91; refine CC.out.mono ?_; rintro e w' ⟨rfl, rfl⟩)
                | (go_at_call 92; refine CL.out.mono ?_; rintro e w' ⟨rfl, rfl⟩))
              go_roundw
              case rel => exact ⟨k + 1, hlt, by go_num, by show _ = _; rw [HST.out, hk0]; rfl, by trivial⟩
              case measure => simp [intOf]; omega
            | false =>
              have hr : Hr.isName s = false := by
                rw [HRES.out, HSTOP.out (by rw [HST.out]; simp)]
                rfl
              have HR := Lib.hid hr
              clear hr
              go_wp2_with (first
                | (go_at_call 91; refine CC.out.mono ?_; rintro e w' ⟨rfl, rfl⟩)
                | (go_at_call 92; refine CL.out.mono ?_; rintro e w' ⟨rfl, rfl⟩))
              go_ret
              exact ⟨by rw [HR.out]; rfl, rfl⟩
      · obtain rfl : k = s.length := by omega
        go_wp2_with fail
        go_ret
        exact ⟨by rw [HRES.out, HB.out]; congr 1; simp; omega, rfl⟩
end Go.Proofs.Ytojfimbanaijdaa
namespace Go.Proofs.Ytojfimbanaijdaa
open Go.RowKit Go.Shelf

theorem nm_inj {s t : Hr.Nm} (h : (⟨s.toArray⟩ : ByteArray) = ⟨t.toArray⟩) : s = t := by
  have := congrArg (fun b : ByteArray => b.data.toList) h
  simpa using this
theorem nms_contains (l : List Hr.Nm) (s : Hr.Nm) : Lib.containsS (l.map fun x => (⟨x.toArray⟩ : ByteArray)) ⟨s.toArray⟩ = l.contains s := by
  rw [Bool.eq_iff_iff, Lib.containsS_iff]
  simp only [List.mem_map, List.contains_iff_mem]
  constructor
  · rintro ⟨x, hx, he⟩
    rw [← nm_inj he]; exact hx
  · exact fun h => ⟨s, h, rfl⟩

theorem contains_any (v : Value) (l : List Hr.Nm) (s : Hr.Nm) (w : World) (h : NmsAt w v l) (hl : l.length ≤ 1000000) :
    Calls Try.prog 65 #[v, nm s] w fun e w' => e = .returned (.bool (l.contains s)) ∧ w' = w := by
  obtain ⟨A, c, rfl, h⟩ := h
  by_cases h0 : 0 < l.length
  · obtain ⟨b, o, rfl, hc⟩ := h h0
    have hh := Try.slices_Contains_string b o l.length c (l.map fun x => (⟨x.toArray⟩ : ByteArray)) ⟨s.toArray⟩ w (by simp) (by omega) (fun j hj => by
      rw [List.length_map] at hj
      rw [hc j hj]
      simp [List.getD, hj])
    rw [List.take_of_length_le (by simp), nms_contains] at hh
    exact hh
  · have hl0 : l = [] := List.eq_nil_of_length_eq_zero (by omega)
    subst hl0
    exact Try.slices_Contains_string_empty A c ⟨s.toArray⟩ w

namespace Hr
theorem visited_weight (L : List (Nm × Nm)) (l : List Nm) : (visited L l).order.length ≤ l.length + L.length := by
  have h := foldl_weight (U := l ++ L.map (·.2)) (f := visit L (L.length + 1)) (fun w c hc => visit_weight L _ (fun x hx => List.mem_append.2 (.inr (List.mem_map.2 ⟨x, hx, rfl⟩))) (L.length + 1) w c hc) l ⟨fun _ => none, [], false⟩ (fun s hs => List.mem_append.2 (.inl hs))
  unfold weight at h
  dsimp only at h
  rw [pale_none, List.length_append, List.length_map] at h
  unfold visited
  simp at h ⊢
  omega
theorem above_length (L : List (Nm × Nm)) (c : Nm) : (above L c).length ≤ L.length + 1 := by
  have := visited_weight L [c]
  simp at this
  unfold above
  omega
end Hr

set_option maxRecDepth 100000 in
theorem is_any (A : Option Addr) (cp m k : Nat) (L : List (Hr.Nm × Hr.Nm)) (c a : Hr.Nm) (w : World) (hl : LinksAt w (.slice A L.length cp) L) (hm : MI w m k (fun s => (Hr.firstLink L s).map Int.ofNat)) (hc : c.length ≤ 140737488355328) (hlen : L.length ≤ 900000) :
    Calls Try.prog 39 #[.agg #[.slice A L.length cp, .map (some m)], nm c, nm a] w fun e w' => e = .returned (.bool (Hr.isUp L c a)) ∧ Below w.heap.size w w' := by
  have hB0 : Below w.heap.size w (w.alloc (.cells #[.slice A L.length cp, .map (some m)] 73)) := (Below.refl _ _).alloc (Nat.le_refl _) _
  have hA := above_any A cp m k L c _ (hl.below hB0 (Nat.le_refl _)) (hm.below hB0 hm.lt) hc hlen
  have hal := Hr.above_length L c
  have HA := Lib.hid hA
  have HB0 := Lib.hid hB0
  clear hA hB0
  go_enter Try.func39, Try.ntmps39
  go_wp2_with (first
    | (go_at_call 57; refine HA.out.mono ?_
       rintro e w4 ⟨o, rfl, ho4, hb4⟩
       have HC := Lib.hid (contains_any o (Hr.above L c) a w4 (NmsAt.of_own ho4) (by omega))
       have HBB := Lib.hid hb4
       clear ho4 hb4)
    | (go_at_call 65; refine HC.out.mono ?_
       rintro e w5 ⟨rfl, rfl⟩))
  go_ret
  exact ⟨by unfold Hr.isUp; simp, HB0.out.trans (HBB.out.mono (by simp))⟩
end Go.Proofs.Ytojfimbanaijdaa
