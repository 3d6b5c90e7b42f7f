/-
  The reference's small functions, by contract: letters, digits, runs, lists of words.
-/
import Derived.Test.YtmmemkkljadglaaDoorRefB
import Derived.Test.YtmmemkkljadglaaDoorJoin
namespace Go.Proofs.YtmmemkkljadglaaDoor
open Go.RowKit Go.Shelf

theorem lower_eq (c : UInt8) : Lx.lower c = decide (97 ≤ (c.toNat : Int) ∧ (c.toNat : Int) ≤ 122) := by
  rw [Bool.eq_iff_iff]; simp [Lx.lower, UInt8.le_iff_toNat_le]; omega
theorem upper_eq (c : UInt8) : Lx.upper c = decide (65 ≤ (c.toNat : Int) ∧ (c.toNat : Int) ≤ 90) := by
  rw [Bool.eq_iff_iff]; simp [Lx.upper, UInt8.le_iff_toNat_le]; omega

theorem rdigit_any (c : UInt8) (w : World) : Calls Tryd.prog 48 #[.int .u8 c.toNat] w fun e w' => e = .returned (.bool (Lx.digit c)) ∧ w = w' := by
  go_enter Tryd.func48, Tryd.ntmps48
  go_wp2
  all_goals go_ret
  all_goals exact ⟨ret_bool (by rw [digit_eq, Bool.eq_iff_iff]; simp; omega), rfl⟩
theorem rsmall_any (c : UInt8) (w : World) : Calls Tryd.prog 82 #[.int .u8 c.toNat] w fun e w' => e = .returned (.bool (Lx.lower c)) ∧ w = w' := by
  go_enter Tryd.func82, Tryd.ntmps82
  go_wp2
  all_goals go_ret
  all_goals exact ⟨ret_bool (by rw [lower_eq, Bool.eq_iff_iff]; simp; omega), rfl⟩
theorem rcapital_any (c : UInt8) (w : World) : Calls Tryd.prog 83 #[.int .u8 c.toNat] w fun e w' => e = .returned (.bool (Lx.upper c)) ∧ w = w' := by
  go_enter Tryd.func83, Tryd.ntmps83
  go_wp2
  all_goals go_ret
  all_goals exact ⟨ret_bool (by rw [upper_eq, Bool.eq_iff_iff]; simp; omega), rfl⟩
theorem part_eq (c : UInt8) : Lx.inRun c = (Lx.lower c || Lx.upper c || Lx.digit c || ((c.toNat : Int) == 95)) := by
  unfold Lx.inRun
  rw [byte_eq c 95]
  rfl
theorem rpart_any (c : UInt8) (w : World) : Calls Tryd.prog 81 #[.int .u8 c.toNat] w fun e w' => e = .returned (.bool (Lx.inRun c)) ∧ w = w' := by
  have hp := part_eq c
  have CS := fun W => rsmall_any c W
  have CC := fun W => rcapital_any c W
  have CD := fun W => rdigit_any c W
  generalize Lx.inRun c = pt at *
  generalize Lx.lower c = lo at *
  generalize Lx.upper c = up at *
  generalize Lx.digit c = di at *
  go_enter Tryd.func81, Tryd.ntmps81
  cases lo <;> cases up <;> cases di
  all_goals
    go_wp2_with (first
      | (go_at_call 82; refine (CS _).mono ?_; rintro e w' ⟨rfl, rfl⟩)
      | (go_at_call 83; refine (CC _).mono ?_; rintro e w' ⟨rfl, rfl⟩)
      | (go_at_call 48; refine (CD _).mono ?_; rintro e w' ⟨rfl, rfl⟩))
  all_goals go_ret
  all_goals exact ⟨ret_bool (by rw [hp]; simp), rfl⟩

theorem span_from (p : UInt8 → Bool) (s : ByteArray) (a k : Nat) (hk : a + k ≤ s.size) (h : ∀ i (_ : i < k), ∀ (h : a + i < s.size), p s[a + i] = true) (hs : ∀ (h : a + k < s.size), p s[a + k] = false) : Lx.span p (s.data.toList.drop a) = k := by
  refine Lx.span_eq p _ k (by rw [List.length_drop]; simp; omega) (fun i hi => ?_) (fun hl => ?_)
  · have := h i hi (by omega)
    rw [List.getElem_drop]
    exact this
  · rw [List.length_drop] at hl
    have := hs (by simp at hl; omega)
    rw [List.getElem_drop]
    exact this

set_option maxHeartbeats 400000 in
theorem rrun_any (s : ByteArray) (a : Nat) (w : World) (hs : s.size ≤ 1000000) (ha : a ≤ s.size) : Calls Tryd.prog 47 #[.string s, .int .i64 a] w fun e w' => e = .returned (.int .i64 (Lx.span Lx.inRun (s.data.toList.drop a))) ∧ w = w' := by
  go_enter Tryd.func47, Tryd.ntmps47
  go_wp2
  go_loop [5] (fun n => ∃ k : Nat, a + k ≤ s.size ∧ n = .int .i64 k ∧ ∀ i (_ : i < k), ∀ (h : a + i < s.size), Lx.inRun s[a + i] = true) (fun n => s.size - (intOf n).toNat)
  case atStart => exact ⟨0, ha, rfl, fun i hi => by omega⟩
  case round =>
    obtain ⟨k, hk, rfl, hall⟩ := hrel
    have Hall := Lib.hid hall
    clear hall
    have hwr : IntKind.i64.wrap ((a : Int) + k) = ((a + k : Nat) : Int) := by rw [IntWalk.i64_in _ (by omega)]; omega
    by_cases hlt : a + k < s.size
    · have CP := fun W => rpart_any s[a + k] W
      generalize hb : Lx.inRun s[a + k] = bb at *
      have HB := Lib.hid hb
      clear hb
      have hi1 : ((a + k : Nat) : Int) < s.size := by omega
      cases bb
      · go_wp2_with (go_at_call 81; refine (CP _).mono ?_; rintro e w' ⟨rfl, rfl⟩)
        go_ret
        exact ⟨ret_int (by rw [span_from _ s a k hk Hall.out (fun _ => HB.out)]), rfl⟩
      · go_wp2_with (go_at_call 81; refine (CP _).mono ?_; rintro e w' ⟨rfl, rfl⟩)
        go_round
        case rel => exact ⟨k + 1, by omega, by go_num, fun i hi h => by
          by_cases e : i = k
          · subst e; exact HB.out
          · exact Hall.out i (by omega) h⟩
        case measure => simp [intOf]; omega
    · have hi1 : ¬ ((a + k : Nat) : Int) < s.size := by omega
      go_wp2_with fail
      go_ret
      exact ⟨ret_int (by rw [span_from _ s a k hk Hall.out (fun h => absurd h hlt)]), rfl⟩

set_option maxRecDepth 100000 in
set_option maxHeartbeats 1000000 in
theorem rhas_any (v : Value) (L : List ByteArray) (x : ByteArray) (w : World) (hl : StrsAt w v L) (hlen : L.length ≤ 100000) : Calls Tryd.prog 45 #[v, .string x] w fun e w' => e = .returned (.bool (decide (x.data.toList ∈ L.map fun s => s.data.toList))) ∧ w = w' := by
  obtain ⟨A, c, rfl, hc⟩ := hl
  have HC := Lib.hid hc
  clear hc
  go_enter Tryd.func45, Tryd.ntmps45
  go_wp2
  go_loop [5] (fun n => ∃ k : Nat, k ≤ L.length ∧ n = .int .i64 k ∧ ∀ i (_ : i < k) (h : i < L.length), L[i] ≠ x) (fun n => L.length - (intOf n).toNat)
  case atStart => exact ⟨0, Nat.zero_le _, rfl, fun i hi => by omega⟩
  case round =>
    obtain ⟨k, hk, rfl, hall⟩ := hrel
    have Hall := Lib.hid hall
    clear hall
    by_cases hlt : k < L.length
    · obtain ⟨b, o, rfl, hc⟩ := HC.out (by omega)
      have c0 := hc k hlt
      clear hc
      generalize hy : L[k] = y at *
      have HY := Lib.hid hy
      clear hy
      have hmem : y ∈ L := HY.out ▸ List.getElem_mem hlt
      by_cases he : (y.toList == x.toList) = true
      · go_wp2
        go_ret
        have : y = x := by
          rw [beq_iff_eq, Lib.toList_data, Lib.toList_data] at he
          exact ByteArray.ext (Array.toList_inj.1 he)
        exact ⟨ret_bool (by rw [eq_comm, decide_eq_true_eq]; exact ⟨y, hmem, by rw [this]⟩), rfl⟩
      · have he2 : (y.toList == x.toList) = false := by simpa using he
        go_wp2
        go_round
        case rel => exact ⟨k + 1, by omega, by go_num, fun i hi h => by
          by_cases e : i = k
          · subst e
            rw [HY.out]
            rintro rfl
            simp at he2
          · exact Hall.out i (by omega) h⟩
        case measure => simp [intOf]; omega
    · go_wp2
      go_ret
      refine ⟨ret_bool ?_, rfl⟩
      rw [eq_comm, decide_eq_false_iff_not]
      intro hm
      obtain ⟨y, hy, hx⟩ := hm
      obtain ⟨i, hi, rfl⟩ := List.getElem_of_mem hy
      exact Hall.out i (by omega) hi (ByteArray.ext hx)
end Go.Proofs.YtmmemkkljadglaaDoor
