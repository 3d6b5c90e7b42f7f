/-
  What the law's right, name, is and at return.
-/
import Derived.Test.YtojfimbanaijdaaHSane
namespace Go.Proofs.Ytojfimbanaijdaa
open Go.RowKit Go.Shelf
attribute [local go_sem] Oper.semAt_some

/-- Where a name stands in a list; -1 where it doesn't. -/
def Hr.atI (l : List Hr.Nm) (s : Hr.Nm) : Int := Hr.idxI (l.findIdx? (· == s))
theorem Hr.atI_nonneg (l : List Hr.Nm) (s : Hr.Nm) : 0 ≤ Hr.atI l s ↔ s ∈ l := by
  unfold Hr.atI
  cases h : l.findIdx? (· == s) with
  | none =>
    rw [List.findIdx?_eq_none_iff] at h
    simp only [Hr.idxI]
    exact ⟨fun h => by omega, fun hs => by have := h s hs; simp at this⟩
  | some k =>
    rw [List.findIdx?_eq_some_iff_getElem] at h
    obtain ⟨hk, he, -⟩ := h
    simp only [Hr.idxI]
    refine ⟨fun _ => ?_, fun _ => by omega⟩
    have : l[k] = s := by simpa using he
    rw [← this]
    exact List.getElem_mem hk

set_option maxRecDepth 100000 in
set_option maxHeartbeats 1000000 in
theorem at_any (v : Value) (l : List Hr.Nm) (s : Hr.Nm) (w : World) (hv : NmsAt w v l) (hl : l.length ≤ 1000000) :
    Calls Try.prog 15 #[v, nm s] w fun e w' => e = .returned (.int .i64 (Hr.atI l s)) ∧ Below w.heap.size w w' := by
  have HV := Lib.hid hv
  obtain ⟨A, c, rfl, -⟩ := hv
  go_enter Try.func15, Try.ntmps15
  go_wp2_with fail
  go_loopw [5] (fun i wr => ∃ k : Nat, k ≤ l.length ∧ i = .int .i64 k ∧ Hid (∀ j (h : j < l.length), j < k → l[j] ≠ s) ∧ Hid (Below w.heap.size w wr)) (fun i _ => l.length - (intOf i).toNat)
  case atStart => exact ⟨0, Nat.zero_le _, rfl, fun j _ h => by omega, Below.refl _ _⟩
  case round =>
    obtain ⟨k, hk, rfl, HT, HB⟩ := hrel
    by_cases hlt : k < l.length
    · obtain ⟨A', c', hv', hat⟩ := HV.out.below HB.out (Nat.le_refl _)
      cases hv'
      obtain ⟨b, ob, hA, hat2⟩ := hat (by omega)
      subst hA
      have c0 := hat2 k hlt
      have hblt := World.block_lt_of_cell? _ _ c0
      have hw1 : IntKind.i64.wrap ((k : Int) + 1) = (k : Int) + 1 := IntWalk.i64_in _ (by omega)
      have hltI : (k : Int) < l.length := by omega
      have hst : l[k] ≠ s → ∀ j (h : j < l.length), j < k + 1 → l[j] ≠ s := fun h j hj hjk => by
        rcases Nat.lt_or_ge j k with h' | h'
        · exact HT.out j hj h'
        · have : j = k := by omega
          subst this
          exact h
      have hyes : l[k] = s → Hr.atI l s = k := fun h => by
        have : l.findIdx? (· == s) = some k := List.findIdx?_eq_some_iff_getElem.2 ⟨hlt, by simpa using h, fun j hj => by simpa using HT.out j (by omega) hj⟩
        unfold Hr.atI
        rw [this]
        rfl
      have HST := Lib.hid hst
      have HYES := Lib.hid hyes
      clear hst hyes hat hat2
      generalize l[k] = N at *
      by_cases he : N = s
      · subst he
        have HS2 := Lib.hid (HYES.out rfl)
        clear HST HYES
        go_wp2_with fail
        go_ret
        exact ⟨by rw [HS2.out]; rfl, HB.out⟩
      · have HN2 := Lib.hid (HST.out he)
        have heb : (N == s) = false := by simpa using he
        clear HST HYES
        go_wp2_with fail
        go_roundw
        case rel => exact ⟨k + 1, by omega, by go_num, HN2, HB.out⟩
        case measure => simp [intOf]; omega
    · obtain rfl : k = l.length := by omega
      go_wp2_with fail
      go_ret
      have hno : Hr.atI l s = -1 := by
        have : l.findIdx? (· == s) = none := by
          rw [List.findIdx?_eq_none_iff]
          intro x hx
          obtain ⟨i, hi, rfl⟩ := List.getElem_of_mem hx
          simpa using HT.out i hi hi
        unfold Hr.atI
        rw [this]
        rfl
      exact ⟨by rw [hno]; rfl, HB.out⟩

set_option maxRecDepth 100000 in
set_option maxHeartbeats 1000000 in
theorem right_any (v : Value) (S : List Hr.Cls) (w : World) (h : SysAt w v S) (hS : S.length ≤ 1000000) :
    Calls Try.prog 10 #[v] w fun e w' => e = .returned (.bool (decide ((Hr.check S).1 = 0 ∧ S ≠ []))) ∧ Below w.heap.size w w' := by
  have HC := Lib.hid (Check_any v S w h hS)
  obtain ⟨A, c, rfl, -⟩ := h
  go_enter Try.func10, Try.ntmps10
  go_wp2_with (first
    | (go_at_call 16; refine HC.out.mono ?_
       rintro e w1 ⟨rfl, hb⟩
       have HB := Lib.hid hb
       clear hb HC))
  · rename_i h0
    go_ret
    exact ⟨by simp [h0, List.length_pos_iff], HB.out⟩
  · rename_i h0
    go_ret
    exact ⟨by simp [h0], HB.out⟩

set_option maxRecDepth 100000 in
set_option maxHeartbeats 1000000 in
theorem name_any (v : Value) (n : Nat) (S : List Hr.Cls) (w : World) (h : SysAt w v S) (hne : S ≠ []) (hS : S.length ≤ 1000000) (hn : n ≤ 255) :
    Calls Try.prog 12 #[v, .int .u8 n] w fun e w' => ∃ s, e = .returned (nm s) ∧ s ∈ S.map (·.name) ∧ s.length ≤ 140737488355328 ∧ Below w.heap.size w w' := by
  have hlen : 0 < S.length := List.length_pos_iff.2 hne
  have hk : n % S.length < S.length := Nat.mod_lt _ hlen
  obtain ⟨A, c, rfl, hat⟩ := h
  obtain ⟨b, ob, hA, hat3⟩ := hat hlen
  subst hA
  obtain ⟨h0, h1, -⟩ := hat3 (n % S.length) hk
  have hmem : S[n % S.length].name ∈ S.map (·.name) := List.mem_map.2 ⟨_, List.getElem_mem hk, rfl⟩
  have hblt := World.block_lt_of_cell? _ _ h1
  have hw1 : IntKind.i64.wrap ((n : Int)) = (n : Int) := IntWalk.i64_in _ (by omega)
  have hr : Int.tmod (n : Int) (S.length : Int) = ((n % S.length : Nat) : Int) := by rw [← Int.ofNat_tmod]
  have hlI : ¬ (S.length : Int) = 0 := by omega
  have hlt : ((n % S.length : Nat) : Int) < S.length := by omega
  clear hat hat3
  generalize S[n % S.length].name = N at *
  generalize hK : n % S.length = K at *
  go_enter Try.func12, Try.ntmps12
  go_wp2_with fail
  go_ret
  exact ⟨N, rfl, by simpa using hmem, h0, Below.refl _ _⟩

theorem Hr.has_first {S : List Hr.Cls} {s : Hr.Nm} (h : s ∈ S.map (·.name)) : (Hr.firstAt S s).isSome = true := by
  obtain ⟨c, hc, rfl⟩ := List.mem_map.1 h
  unfold Hr.firstAt
  rw [List.findIdx?_isSome]
  exact List.any_eq_true.2 ⟨c, hc, by simp⟩

set_option maxRecDepth 100000 in
set_option maxHeartbeats 1000000 in
theorem is_law (v : Value) (S : List Hr.Cls) (c a : Hr.Nm) (w : World) (h : SysAt w v S) (hV : Hr.Valid S) (hc : c.length ≤ 140737488355328) (ha : a.length ≤ 140737488355328) (hin : c ∈ S.map (·.name)) (hina : a ∈ S.map (·.name)) :
    Calls Try.prog 14 #[v, nm c, nm a] w fun e w' => e = .returned (.bool (Hr.isUp (Hr.links S) c a)) ∧ Below w.heap.size w w' := by
  have HI := Lib.hid (Is_ok v S c a w h hV hc ha (Hr.has_first hin) (Hr.has_first hina))
  obtain ⟨A, cp, rfl, -⟩ := h
  clear hin hina hV
  generalize Hr.isUp (Hr.links S) c a = r at *
  cases r
  all_goals
    go_enter Try.func14, Try.ntmps14
    go_wp2_with (first
      | (go_at_call 40; refine HI.out.mono ?_
         rintro e w1 ⟨rfl, hb⟩
         have HB := Lib.hid hb
         clear hb HI))
    go_ret
    exact ⟨rfl, HB.out⟩
end Go.Proofs.Ytojfimbanaijdaa
