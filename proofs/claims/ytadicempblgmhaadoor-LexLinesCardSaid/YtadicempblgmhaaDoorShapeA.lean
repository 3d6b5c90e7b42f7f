/-
  What the small functions of package lex return: bytes, spans.
-/
import Derived.Test.YtadicempblgmhaaDoorSpec
import Derived.Test.YtadicempblgmhaaDoorProg
import Derived.Deep.QuietTactic
import Derived.BigQuiet
import Derived.Lib.Hide
import Derived.WalkLawsBesides
import Derived.WalkSpells
namespace Go.Proofs.YtadicempblgmhaaDoor
open Go.RowKit

theorem ret_bool {a b : Bool} (h : a = b) : Ending.returned (.bool a) = .returned (.bool b) := by rw [h]
theorem ret_int {k : IntKind} {a b : Int} (h : a = b) : Ending.returned (.int k a) = .returned (.int k b) := by rw [h]

theorem digit_eq (c : UInt8) : Lx.digit c = decide (48 ≤ (c.toNat : Int) ∧ (c.toNat : Int) ≤ 57) := by
  rw [Bool.eq_iff_iff]; simp [Lx.digit, UInt8.le_iff_toNat_le]; omega
theorem letter_eq (c : UInt8) : Lx.letter c = decide ((97 ≤ (c.toNat : Int) ∧ (c.toNat : Int) ≤ 122) ∨ (65 ≤ (c.toNat : Int) ∧ (c.toNat : Int) ≤ 90)) := by
  rw [Bool.eq_iff_iff]; simp [Lx.letter, UInt8.le_iff_toNat_le]; omega
theorem printable_eq (c : UInt8) : Lx.printable c = decide (32 ≤ (c.toNat : Int) ∧ (c.toNat : Int) ≤ 126) := by
  rw [Bool.eq_iff_iff]; simp [Lx.printable, UInt8.le_iff_toNat_le]; omega
theorem byte_eq (c d : UInt8) : (c == d) = ((c.toNat : Int) == (d.toNat : Int)) := by
  rw [Bool.eq_iff_iff]; simp; constructor
  · intro h; rw [h]
  · intro h; exact UInt8.toNat_inj.1 (by omega)

theorem isDigit_any (c : UInt8) (w : World) : Calls Tryd.prog 53 #[.int .u8 c.toNat] w fun e w' => e = .returned (.bool (Lx.digit c)) ∧ w = w' := by
  go_enter Tryd.func53, Tryd.ntmps53
  go_wp2
  all_goals go_ret
  all_goals exact ⟨ret_bool (by rw [digit_eq, Bool.eq_iff_iff]; simp; omega), rfl⟩

theorem isLetter_any (c : UInt8) (w : World) : Calls Tryd.prog 51 #[.int .u8 c.toNat] w fun e w' => e = .returned (.bool (Lx.letter c)) ∧ w = w' := by
  go_enter Tryd.func51, Tryd.ntmps51
  go_wp2
  all_goals go_ret
  all_goals exact ⟨ret_bool (by rw [letter_eq, Bool.eq_iff_iff]; simp; omega), rfl⟩

theorem isPrintable_any (c : UInt8) (w : World) : Calls Tryd.prog 128 #[.int .u8 c.toNat] w fun e w' => e = .returned (.bool (Lx.printable c)) ∧ w = w' := by
  go_enter Tryd.func128, Tryd.ntmps128
  go_wp2
  all_goals go_ret
  all_goals exact ⟨ret_bool (by rw [printable_eq, Bool.eq_iff_iff]; simp; omega), rfl⟩

theorem inRun_any (c : UInt8) (w : World) : Calls Tryd.prog 50 #[.int .u8 c.toNat] w fun e w' => e = .returned (.bool (Lx.inRun c)) ∧ w = w' := by
  go_enter Tryd.func50, Tryd.ntmps50
  go_wp2_with (first
    | (go_at_call 51; refine (isLetter_any c _).mono ?_; rintro e w' ⟨rfl, rfl⟩)
    | (go_at_call 53; refine (isDigit_any c _).mono ?_; rintro e w' ⟨rfl, rfl⟩))
  all_goals go_ret
  all_goals exact ⟨ret_bool (by unfold Lx.inRun; simp [*, byte_eq]), rfl⟩

theorem span_at (p : UInt8 → Bool) (s : ByteArray) (k : Nat) (hk : k ≤ s.size) (h : ∀ i (_ : i < k), ∀ (h : i < s.size), p s[i] = true) (hs : ∀ (h : k < s.size), p s[k] = false) : Lx.span p s.data.toList = k :=
  Lx.span_eq p _ k (by simpa using hk) (fun i hi => h i hi (by omega)) (fun hl => hs (by simpa using hl))

set_option maxHeartbeats 400000 in
theorem span_inRun (s : ByteArray) (w : World) (hs : s.size ≤ maxLen) : Calls Tryd.prog 49 #[.string s, .func (.func 50) #[] #[]] w fun e w' => e = .returned (.int .i64 (Lx.span Lx.inRun s.data.toList)) ∧ w = w' := by
  unfold maxLen at hs
  go_enter Tryd.func49, Tryd.ntmps49
  go_wp2
  go_loop [5] (fun n => ∃ k : Nat, k ≤ s.size ∧ n = .int .i64 k ∧ ∀ i (_ : i < k), ∀ (h : i < s.size), Lx.inRun s[i] = true) (fun n => s.size - (intOf n).toNat)
  case atStart => exact ⟨0, Nat.zero_le _, rfl, fun i hi => by omega⟩
  case round =>
    obtain ⟨k, hk, rfl, hall⟩ := hrel
    have Hall := Lib.hid hall
    clear hall
    by_cases hlt : k < s.size
    · go_wp2_with (go_at_call 50; refine (inRun_any s[k] _).mono ?_; rintro e w' ⟨rfl, rfl⟩)
      · have hb : Lx.inRun s[k] = true := by assumption
        go_round
        case rel => exact ⟨k + 1, by omega, by go_num, fun i hi h => by
          by_cases e : i = k
          · subst e; exact hb
          · exact Hall.out i (by omega) h⟩
        case measure => simp [intOf]; omega
      · have hb : Lx.inRun s[k] = false := by assumption
        go_ret
        exact ⟨ret_int (by rw [span_at _ s k hk Hall.out (fun _ => hb)]), rfl⟩
    · go_wp2_with (go_at_call 50; refine (inRun_any s[k] _).mono ?_; rintro e w' ⟨rfl, rfl⟩)
      go_ret
      exact ⟨ret_int (by rw [span_at _ s k hk Hall.out (fun h => absurd h hlt)]), rfl⟩

set_option maxHeartbeats 400000 in
theorem span_isDigit (s : ByteArray) (w : World) (hs : s.size ≤ maxLen) : Calls Tryd.prog 49 #[.string s, .func (.func 53) #[] #[]] w fun e w' => e = .returned (.int .i64 (Lx.span Lx.digit s.data.toList)) ∧ w = w' := by
  unfold maxLen at hs
  go_enter Tryd.func49, Tryd.ntmps49
  go_wp2
  go_loop [5] (fun n => ∃ k : Nat, k ≤ s.size ∧ n = .int .i64 k ∧ ∀ i (_ : i < k), ∀ (h : i < s.size), Lx.digit s[i] = true) (fun n => s.size - (intOf n).toNat)
  case atStart => exact ⟨0, Nat.zero_le _, rfl, fun i hi => by omega⟩
  case round =>
    obtain ⟨k, hk, rfl, hall⟩ := hrel
    have Hall := Lib.hid hall
    clear hall
    by_cases hlt : k < s.size
    · go_wp2_with (go_at_call 53; refine (isDigit_any s[k] _).mono ?_; rintro e w' ⟨rfl, rfl⟩)
      · have hb : Lx.digit s[k] = true := by assumption
        go_round
        case rel => exact ⟨k + 1, by omega, by go_num, fun i hi h => by
          by_cases e : i = k
          · subst e; exact hb
          · exact Hall.out i (by omega) h⟩
        case measure => simp [intOf]; omega
      · have hb : Lx.digit s[k] = false := by assumption
        go_ret
        exact ⟨ret_int (by rw [span_at _ s k hk Hall.out (fun _ => hb)]), rfl⟩
    · go_wp2_with (go_at_call 53; refine (isDigit_any s[k] _).mono ?_; rintro e w' ⟨rfl, rfl⟩)
      go_ret
      exact ⟨ret_int (by rw [span_at _ s k hk Hall.out (fun h => absurd h hlt)]), rfl⟩

set_option maxHeartbeats 400000 in
theorem span_isPrintable (s : ByteArray) (w : World) (hs : s.size ≤ maxLen) : Calls Tryd.prog 49 #[.string s, .func (.func 128) #[] #[]] w fun e w' => e = .returned (.int .i64 (Lx.span Lx.printable s.data.toList)) ∧ w = w' := by
  unfold maxLen at hs
  go_enter Tryd.func49, Tryd.ntmps49
  go_wp2
  go_loop [5] (fun n => ∃ k : Nat, k ≤ s.size ∧ n = .int .i64 k ∧ ∀ i (_ : i < k), ∀ (h : i < s.size), Lx.printable s[i] = true) (fun n => s.size - (intOf n).toNat)
  case atStart => exact ⟨0, Nat.zero_le _, rfl, fun i hi => by omega⟩
  case round =>
    obtain ⟨k, hk, rfl, hall⟩ := hrel
    have Hall := Lib.hid hall
    clear hall
    by_cases hlt : k < s.size
    · go_wp2_with (go_at_call 128; refine (isPrintable_any s[k] _).mono ?_; rintro e w' ⟨rfl, rfl⟩)
      · have hb : Lx.printable s[k] = true := by assumption
        go_round
        case rel => exact ⟨k + 1, by omega, by go_num, fun i hi h => by
          by_cases e : i = k
          · subst e; exact hb
          · exact Hall.out i (by omega) h⟩
        case measure => simp [intOf]; omega
      · have hb : Lx.printable s[k] = false := by assumption
        go_ret
        exact ⟨ret_int (by rw [span_at _ s k hk Hall.out (fun _ => hb)]), rfl⟩
    · go_wp2_with (go_at_call 128; refine (isPrintable_any s[k] _).mono ?_; rintro e w' ⟨rfl, rfl⟩)
      go_ret
      exact ⟨ret_int (by rw [span_at _ s k hk Hall.out (fun h => absurd h hlt)]), rfl⟩

theorem named_eq (lo hi c : UInt8) : Lx.named lo hi c = (decide ((lo.toNat : Int) ≤ c.toNat ∧ (c.toNat : Int) ≤ hi.toNat) || Lx.digit c || ((c.toNat : Int) == 95)) := by
  have e : (lo ≤ c && c ≤ hi) = decide ((lo.toNat : Int) ≤ c.toNat ∧ (c.toNat : Int) ≤ hi.toNat) := by
    rw [Bool.eq_iff_iff]; simp [UInt8.le_iff_toNat_le]
  unfold Lx.named
  rw [← e, byte_eq c 95]
  rfl

theorem nameByte1_any (c lo hi : UInt8) (a b : Nat) (w : World) (ha : w.cell? ⟨a, 0, none⟩ = some (.int .u8 lo.toNat)) (hb : w.cell? ⟨b, 0, none⟩ = some (.int .u8 hi.toNat)) :
    Calls Tryd.prog 123 #[.int .u8 c.toNat, .pointer (some ⟨a, 0, none⟩), .pointer (some ⟨b, 0, none⟩)] w fun e w' => e = .returned (.bool (Lx.named lo hi c)) ∧ w = w' := by
  go_enter Tryd.func123, Tryd.ntmps123
  go_wp2_with (first
    | (go_at_call 53; refine (isDigit_any c _).mono ?_; rintro e w' ⟨rfl, rfl⟩))
  all_goals go_ret
  all_goals exact ⟨ret_bool (by rw [named_eq, Bool.eq_iff_iff]; simp [*]; try omega), rfl⟩
end Go.Proofs.YtadicempblgmhaaDoor
