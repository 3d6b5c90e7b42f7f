/-
  What the small functions of package lex return: bytes, spans.
-/
import Derived.Test.YtadicempblgmhaaGreatDoorSpec
import Derived.Test.YtadicempblgmhaaGreatDoorProg
import Derived.Deep.QuietTactic
import Derived.BigQuiet
import Derived.Lib.Hide
import Derived.WalkLawsBesides
import Derived.WalkSpells
import Derived.Deep.LoopGhost
import Derived.Lib.Strings
import Derived.Test.YtadicempblgmhaaGreatDoorShelf
namespace Go.Proofs.YtadicempblgmhaaGreatDoor
open Go.RowKit

theorem ret_bool {a b : Bool} (h : a = b) : Ending.returned (.bool a) = .returned (.bool b) := by rw [h]
theorem ret_int {k : IntKind} {a b : Int} (h : a = b) : Ending.returned (.int k a) = .returned (.int k b) := by rw [h]

theorem digit_eq (c : UInt8) : Lx.digit c = decide (48 ≤ (c.toNat : Int) ∧ (c.toNat : Int) ≤ 57) := by
  rw [Bool.eq_iff_iff]; simp [Lx.digit, UInt8.le_iff_toNat_le]; omega
theorem letter_eq (c : UInt8) : Lx.letter c = decide ((97 ≤ (c.toNat : Int) ∧ (c.toNat : Int) ≤ 122) ∨ (65 ≤ (c.toNat : Int) ∧ (c.toNat : Int) ≤ 90)) := by
  rw [Bool.eq_iff_iff]; simp [Lx.letter, UInt8.le_iff_toNat_le]; omega
theorem printable_eq (c : UInt8) : Lx.printable c = decide (32 ≤ (c.toNat : Int) ∧ (c.toNat : Int) ≤ 126) := by
  rw [Bool.eq_iff_iff]; simp [Lx.printable, UInt8.le_iff_toNat_le]; omega
theorem byte_eq (c d : UInt8) : (c == d) = ((c.toNat : Int) == (d.toNat : Int)) := by
  rw [Bool.eq_iff_iff]; simp; constructor
  · intro h; rw [h]
  · intro h; exact UInt8.toNat_inj.1 (by omega)

theorem isDigit_any (c : UInt8) (w : World) : Calls Tryz.prog 81 #[.int .u8 c.toNat] w fun e w' => e = .returned (.bool (Lx.digit c)) ∧ w = w' := by
  go_enter Tryz.func81, Tryz.ntmps81
  go_wp2
  all_goals go_ret
  all_goals exact ⟨ret_bool (by rw [digit_eq, Bool.eq_iff_iff]; simp; omega), rfl⟩

theorem isLetter_any (c : UInt8) (w : World) : Calls Tryz.prog 80 #[.int .u8 c.toNat] w fun e w' => e = .returned (.bool (Lx.letter c)) ∧ w = w' := by
  go_enter Tryz.func80, Tryz.ntmps80
  go_wp2
  all_goals go_ret
  all_goals exact ⟨ret_bool (by rw [letter_eq, Bool.eq_iff_iff]; simp; omega), rfl⟩

theorem isPrintable_any (c : UInt8) (w : World) : Calls Tryz.prog 86 #[.int .u8 c.toNat] w fun e w' => e = .returned (.bool (Lx.printable c)) ∧ w = w' := by
  go_enter Tryz.func86, Tryz.ntmps86
  go_wp2
  all_goals go_ret
  all_goals exact ⟨ret_bool (by rw [printable_eq, Bool.eq_iff_iff]; simp; omega), rfl⟩

theorem inRun_any (c : UInt8) (w : World) : Calls Tryz.prog 83 #[.int .u8 c.toNat] w fun e w' => e = .returned (.bool (Lx.inRun c)) ∧ w = w' := by
  go_enter Tryz.func83, Tryz.ntmps83
  go_wp2_with (first
    | (go_at_call 80; refine (isLetter_any c _).mono ?_; rintro e w' ⟨rfl, rfl⟩)
    | (go_at_call 81; refine (isDigit_any c _).mono ?_; rintro e w' ⟨rfl, rfl⟩))
  all_goals go_ret
  all_goals exact ⟨ret_bool (by unfold Lx.inRun; simp [*, byte_eq]), rfl⟩

theorem span_at (p : UInt8 → Bool) (s : ByteArray) (k : Nat) (hk : k ≤ s.size) (h : ∀ i (_ : i < k), ∀ (h : i < s.size), p s[i] = true) (hs : ∀ (h : k < s.size), p s[k] = false) : Lx.span p s.data.toList = k :=
  Lx.span_eq p _ k (by simpa using hk) (fun i hi => h i hi (by omega)) (fun hl => hs (by simpa using hl))

set_option maxHeartbeats 400000 in
theorem span_inRun (s : ByteArray) (w : World) (hs : s.size ≤ maxLen) : Calls Tryz.prog 82 #[.string s, .func (.func 83) #[] #[]] w fun e w' => e = .returned (.int .i64 (Lx.span Lx.inRun s.data.toList)) ∧ w = w' := by
  unfold maxLen at hs
  go_enter Tryz.func82, Tryz.ntmps82
  go_wp2
  go_loop [5] (fun n => ∃ k : Nat, k ≤ s.size ∧ n = .int .i64 k ∧ ∀ i (_ : i < k), ∀ (h : i < s.size), Lx.inRun s[i] = true) (fun n => s.size - (intOf n).toNat)
  case atStart => exact ⟨0, Nat.zero_le _, rfl, fun i hi => by omega⟩
  case round =>
    obtain ⟨k, hk, rfl, hall⟩ := hrel
    have Hall := Lib.hid hall
    clear hall
    by_cases hlt : k < s.size
    · go_wp2_with (go_at_call 83; refine (inRun_any s[k] _).mono ?_; rintro e w' ⟨rfl, rfl⟩)
      · have hb : Lx.inRun s[k] = true := by assumption
        go_round
        case rel => exact ⟨k + 1, by omega, by go_num, fun i hi h => by
          by_cases e : i = k
          · subst e; exact hb
          · exact Hall.out i (by omega) h⟩
        case measure => simp [intOf]; omega
      · have hb : Lx.inRun s[k] = false := by assumption
        go_ret
        exact ⟨ret_int (by rw [span_at _ s k hk Hall.out (fun _ => hb)]), rfl⟩
    · go_wp2_with (go_at_call 83; refine (inRun_any s[k] _).mono ?_; rintro e w' ⟨rfl, rfl⟩)
      go_ret
      exact ⟨ret_int (by rw [span_at _ s k hk Hall.out (fun h => absurd h hlt)]), rfl⟩

set_option maxHeartbeats 400000 in
theorem span_isDigit (s : ByteArray) (w : World) (hs : s.size ≤ maxLen) : Calls Tryz.prog 82 #[.string s, .func (.func 81) #[] #[]] w fun e w' => e = .returned (.int .i64 (Lx.span Lx.digit s.data.toList)) ∧ w = w' := by
  unfold maxLen at hs
  go_enter Tryz.func82, Tryz.ntmps82
  go_wp2
  go_loop [5] (fun n => ∃ k : Nat, k ≤ s.size ∧ n = .int .i64 k ∧ ∀ i (_ : i < k), ∀ (h : i < s.size), Lx.digit s[i] = true) (fun n => s.size - (intOf n).toNat)
  case atStart => exact ⟨0, Nat.zero_le _, rfl, fun i hi => by omega⟩
  case round =>
    obtain ⟨k, hk, rfl, hall⟩ := hrel
    have Hall := Lib.hid hall
    clear hall
    by_cases hlt : k < s.size
    · go_wp2_with (go_at_call 81; refine (isDigit_any s[k] _).mono ?_; rintro e w' ⟨rfl, rfl⟩)
      · have hb : Lx.digit s[k] = true := by assumption
        go_round
        case rel => exact ⟨k + 1, by omega, by go_num, fun i hi h => by
          by_cases e : i = k
          · subst e; exact hb
          · exact Hall.out i (by omega) h⟩
        case measure => simp [intOf]; omega
      · have hb : Lx.digit s[k] = false := by assumption
        go_ret
        exact ⟨ret_int (by rw [span_at _ s k hk Hall.out (fun _ => hb)]), rfl⟩
    · go_wp2_with (go_at_call 81; refine (isDigit_any s[k] _).mono ?_; rintro e w' ⟨rfl, rfl⟩)
      go_ret
      exact ⟨ret_int (by rw [span_at _ s k hk Hall.out (fun h => absurd h hlt)]), rfl⟩

set_option maxHeartbeats 400000 in
theorem span_isPrintable (s : ByteArray) (w : World) (hs : s.size ≤ maxLen) : Calls Tryz.prog 82 #[.string s, .func (.func 86) #[] #[]] w fun e w' => e = .returned (.int .i64 (Lx.span Lx.printable s.data.toList)) ∧ w = w' := by
  unfold maxLen at hs
  go_enter Tryz.func82, Tryz.ntmps82
  go_wp2
  go_loop [5] (fun n => ∃ k : Nat, k ≤ s.size ∧ n = .int .i64 k ∧ ∀ i (_ : i < k), ∀ (h : i < s.size), Lx.printable s[i] = true) (fun n => s.size - (intOf n).toNat)
  case atStart => exact ⟨0, Nat.zero_le _, rfl, fun i hi => by omega⟩
  case round =>
    obtain ⟨k, hk, rfl, hall⟩ := hrel
    have Hall := Lib.hid hall
    clear hall
    by_cases hlt : k < s.size
    · go_wp2_with (go_at_call 86; refine (isPrintable_any s[k] _).mono ?_; rintro e w' ⟨rfl, rfl⟩)
      · have hb : Lx.printable s[k] = true := by assumption
        go_round
        case rel => exact ⟨k + 1, by omega, by go_num, fun i hi h => by
          by_cases e : i = k
          · subst e; exact hb
          · exact Hall.out i (by omega) h⟩
        case measure => simp [intOf]; omega
      · have hb : Lx.printable s[k] = false := by assumption
        go_ret
        exact ⟨ret_int (by rw [span_at _ s k hk Hall.out (fun _ => hb)]), rfl⟩
    · go_wp2_with (go_at_call 86; refine (isPrintable_any s[k] _).mono ?_; rintro e w' ⟨rfl, rfl⟩)
      go_ret
      exact ⟨ret_int (by rw [span_at _ s k hk Hall.out (fun h => absurd h hlt)]), rfl⟩

theorem named_eq (lo hi c : UInt8) : Lx.named lo hi c = (decide ((lo.toNat : Int) ≤ c.toNat ∧ (c.toNat : Int) ≤ hi.toNat) || Lx.digit c || ((c.toNat : Int) == 95)) := by
  have e : (lo ≤ c && c ≤ hi) = decide ((lo.toNat : Int) ≤ c.toNat ∧ (c.toNat : Int) ≤ hi.toNat) := by
    rw [Bool.eq_iff_iff]; simp [UInt8.le_iff_toNat_le]
  unfold Lx.named
  rw [← e, byte_eq c 95]
  rfl

theorem nameByte1_any (c lo hi : UInt8) (a b : Nat) (w : World) (ha : w.cell? ⟨a, 0, none⟩ = some (.int .u8 lo.toNat)) (hb : w.cell? ⟨b, 0, none⟩ = some (.int .u8 hi.toNat)) :
    Calls Tryz.prog 116 #[.int .u8 c.toNat, .pointer (some ⟨a, 0, none⟩), .pointer (some ⟨b, 0, none⟩)] w fun e w' => e = .returned (.bool (Lx.named lo hi c)) ∧ w = w' := by
  go_enter Tryz.func116, Tryz.ntmps116
  go_wp2_with (first
    | (go_at_call 81; refine (isDigit_any c _).mono ?_; rintro e w' ⟨rfl, rfl⟩))
  all_goals go_ret
  all_goals exact ⟨ret_bool (by rw [named_eq, Bool.eq_iff_iff]; simp [*]; try omega), rfl⟩
end Go.Proofs.YtadicempblgmhaaGreatDoor
namespace Go.Proofs.YtadicempblgmhaaGreatDoor
open Go.RowKit

set_option maxHeartbeats 400000 in
theorem span_named (s : ByteArray) (lo hi : UInt8) (a b : Nat) (w : World) (hs : s.size ≤ maxLen) (ha : w.cell? ⟨a, 0, none⟩ = some (.int .u8 lo.toNat)) (hb : w.cell? ⟨b, 0, none⟩ = some (.int .u8 hi.toNat)) : Calls Tryz.prog 82 #[.string s, .func (.func 116) #[] #[.pointer (some ⟨a, 0, none⟩), .pointer (some ⟨b, 0, none⟩)]] w fun e w' => e = .returned (.int .i64 (Lx.span (Lx.named lo hi) s.data.toList)) ∧ w = w' := by
  unfold maxLen at hs
  go_enter Tryz.func82, Tryz.ntmps82
  go_wp2
  go_loop [5] (fun n => ∃ k : Nat, k ≤ s.size ∧ n = .int .i64 k ∧ ∀ i (_ : i < k), ∀ (h : i < s.size), (Lx.named lo hi) s[i] = true) (fun n => s.size - (intOf n).toNat)
  case atStart => exact ⟨0, Nat.zero_le _, rfl, fun i hi => by omega⟩
  case round =>
    obtain ⟨k, hk, rfl, hall⟩ := hrel
    have Hall := Lib.hid hall
    clear hall
    by_cases hlt : k < s.size
    · go_wp2_with (go_at_call 116; refine (nameByte1_any s[k] lo hi a b _ ha hb).mono ?_; rintro e w' ⟨rfl, rfl⟩)
      · have hbb : (Lx.named lo hi) s[k] = true := by assumption
        go_round
        case rel => exact ⟨k + 1, by omega, by go_num, fun i hi h => by
          by_cases e : i = k
          · subst e; exact hbb
          · exact Hall.out i (by omega) h⟩
        case measure => simp [intOf]; omega
      · have hbb : (Lx.named lo hi) s[k] = false := by assumption
        go_ret
        exact ⟨ret_int (by rw [span_at _ s k hk Hall.out (fun _ => hbb)]), rfl⟩
    · go_wp2_with (go_at_call 116; refine (nameByte1_any s[k] lo hi a b _ ha hb).mono ?_; rintro e w' ⟨rfl, rfl⟩)
      go_ret
      exact ⟨ret_int (by rw [span_at _ s k hk Hall.out (fun h => absurd h hlt)]), rfl⟩

theorem nameByte_any (lo hi : UInt8) (w : World) : Calls Tryz.prog 114 #[.int .u8 lo.toNat, .int .u8 hi.toNat] w fun e w' =>
    e = .returned (.func (.func 116) #[] #[.pointer (some ⟨w.heap.size, 0, none⟩), .pointer (some ⟨w.heap.size + 1, 0, none⟩)]) ∧
    w' = (w.alloc (.cells #[.int .u8 lo.toNat] 5)).alloc (.cells #[.int .u8 hi.toNat] 5) := by
  have hmf : ∀ (fn : Fn) (first cap : Array Value) (w : World), (Instr.makeFunc fn first cap).run Tryz.prog w = .ok (.func fn first cap) w := fun _ _ _ _ => rfl
  go_enter Tryz.func114, Tryz.ntmps114
  go_wp2
  go_ret
  exact ⟨rfl, rfl⟩

/-- The list of signs lies in the variable. -/
def Signs (w : World) : Prop := ∃ a : Addr, w.cell? ⟨3, 0, none⟩ = some (.slice (some a) 22 22) ∧ ∀ i (h : i < Lx.signs.length), w.cell? (a.add i) = some (.string ⟨(Lx.signs[i]).toArray⟩)

theorem Signs.keep {w w' : World} (h : Signs w) (hk : ∀ (p : Addr) (v : Value), w.cell? p = some v → w'.cell? p = some v) : Signs w' := by
  obtain ⟨a, h1, h2⟩ := h
  exact ⟨a, hk _ _ h1, fun i hi => hk _ _ (h2 i hi)⟩
theorem kept_below {w w' : World} {B : Nat} (hb : Below B w w') (hB : w.heap.size ≤ B) : ∀ (p : Addr) (v : Value), w.cell? p = some v → w'.cell? p = some v :=
  fun p v h => (hb.cell (p := p) (by have := World.block_lt_of_cell? w _ h; omega)).trans h
theorem Signs.below {w w' : World} {B : Nat} (h : Signs w) (hb : Below B w w') (hB : w.heap.size ≤ B) : Signs w' := h.keep (kept_below hb hB)

/-- What the package-level variables hold. -/
structure Env (w : World) : Prop where
  signs : Signs w
  maxLen : ∃ m, w.cell? ⟨1, 0, none⟩ = some (.int .i64 m)
theorem Env.keep {w w' : World} (h : Env w) (hk : ∀ (p : Addr) (v : Value), w.cell? p = some v → w'.cell? p = some v) : Env w' :=
  ⟨h.signs.keep hk, by obtain ⟨m, hm⟩ := h.maxLen; exact ⟨m, hk _ _ hm⟩⟩
theorem Env.below {w w' : World} {B : Nat} (h : Env w) (hb : Below B w w') (hB : w.heap.size ≤ B) : Env w' := h.keep (kept_below hb hB)
theorem Env.alloc {w : World} (h : Env w) (o : Obj) : Env (w.alloc o) := h.below (B := w.heap.size) ((Below.refl _ _).alloc (Nat.le_refl _) o) (Nat.le_refl _)

theorem Env.drewN {w : World} (h : Env w) (n : Nat) : Env (w.drewN n) := h.keep (fun _ _ hv => hv)
theorem Env.drew {w : World} (h : Env w) : Env w.drew := h.keep (fun _ _ hv => hv)
theorem contains_any (s sub : ByteArray) (w : World) (hs : s.size < 4294967281) (hE : Env w) :
    Calls Tryz.prog 113 #[.string s, .string sub] w fun e w' => e = .returned (.bool (Lib.contains s.data.toList sub.data.toList)) ∧ w = w' := by
  obtain ⟨m, hm⟩ := hE.maxLen
  exact (Tryz.strings_Contains s sub m w hs hm).mono fun e w' ⟨he, hw⟩ => ⟨he, hw.symm⟩

theorem toList_drop_take (s : ByteArray) (a b : Nat) : (s.extract a b).toList = (s.data.toList.drop a).take (b - a) := by
  rw [Lib.toList_data, Lib.extract_data]
theorem toList_take (s : ByteArray) (b : Nat) : (s.extract 0 b).toList = s.data.toList.take b := by rw [toList_drop_take]; rfl

theorem longest_found (l : List UInt8) (n : Nat) (h1 : 1 ≤ n) (h2 : n ≤ 2) (hn : n ≤ l.length) (hin : l.take n ∈ Lx.signs) (hnot : n = 1 → 2 ≤ l.length → l.take 2 ∉ Lx.signs) : Lx.longest l = l.take n := by
  unfold Lx.longest
  by_cases e : n = 2
  · subst e; rw [if_pos ⟨hn, hin⟩]
  · obtain rfl : n = 1 := by omega
    rw [if_neg (fun h => hnot rfl h.1 h.2), if_pos ⟨hn, hin⟩]
theorem longest_none (l : List UInt8) (h : ∀ n, 1 ≤ n → n ≤ 2 → n ≤ l.length → l.take n ∉ Lx.signs) : Lx.longest l = [] := by
  unfold Lx.longest
  rw [if_neg (fun hh => h 2 (by omega) (by omega) hh.1 hh.2), if_neg (fun hh => h 1 (by omega) (by omega) hh.1 hh.2)]

set_option maxHeartbeats 400000 in
theorem longestSign_any (s : ByteArray) (w : World) (hs : s.size ≤ maxLen) (hS : Signs w) : Calls Tryz.prog 84 #[.string s] w fun e w' =>
    e = .returned (.string ⟨(Lx.longest s.data.toList).toArray⟩) ∧ w = w' := by
  unfold maxLen at hs
  obtain ⟨ad, hg, hc⟩ := hS
  have HC := Lib.hid hc
  clear hc
  obtain ⟨M, hM, hM2, hMs, hMx⟩ : ∃ M : Nat, M = min 2 s.size ∧ M ≤ 2 ∧ M ≤ s.size ∧ (∀ n, n ≤ 2 → n ≤ s.size → n ≤ M) := ⟨_, rfl, by omega, by omega, by omega⟩
  have HM := Lib.hid hM
  have HMx := Lib.hid hMx
  clear hM hMx
  by_cases h2 : (2 : Int) ≤ s.size
  all_goals
    go_enter Tryz.func84, Tryz.ntmps84
    go_wp2
    go_step3
    go_wp2
    go_step3
    go_wp2
    go_loopg [3, 4] M (fun g v3 v4 wx => g ≤ M ∧ v4 = .int .i64 g ∧ v3 = .string ⟨#[]⟩ ∧ Aside (∀ n, g < n → n ≤ 2 → n ≤ s.size → s.data.toList.take n ∉ Lx.signs) ∧ w = wx)
    case atStart => exact ⟨Nat.le_refl _, by rw [HM.out]; go_num, rfl, fun n h1 h2 h3 => absurd (HMx.out n h2 h3) (by omega), rfl⟩
    case round =>
      obtain ⟨hgM, rfl, rfl, HN, rfl⟩ := hrel
      cases gk with
      | zero =>
        have hfin : Lx.longest s.data.toList = [] := longest_none _ fun n h1 h2 h3 => HN.out n (by omega) h2 (by simpa using h3)
        have HF := Lib.hid hfin
        clear hfin
        have h0 : ¬ (0 : Int) < ((0 : Nat) : Int) := by simp
        go_wp2
        go_ret
        exact ⟨by rw [HF.out]; rfl, rfl⟩
      | succ g =>
        go_wp2
        go_loopg [3, 16] 22 (fun j v3 v16 wx => ∃ k : Nat, k + j = 22 ∧ v3 = .string ⟨#[]⟩ ∧ v16 = .int .i64 k ∧ Aside (∀ i (_ : i < k) (h : i < Lx.signs.length), Lx.signs[i] ≠ s.data.toList.take (g + 1)) ∧ w = wx)
        case atStart => exact ⟨0, rfl, rfl, rfl, fun i hi => absurd hi (by omega), rfl⟩
        case round =>
          obtain ⟨k, hkj, rfl, rfl, HK, rfl⟩ := hrel
          cases gk with
          | zero =>
            obtain rfl : k = 22 := by omega
            go_wp2
            go_roundg g
            case measure => omega
            case rel => exact ⟨by omega, by go_num, rfl, fun n h1 h2 h3 => by
              by_cases e : n = g + 1
              · subst e
                intro hin
                obtain ⟨i, hi, he⟩ := List.getElem_of_mem hin
                exact HK.out i (by simpa [Lx.signs] using hi) hi he
              · exact HN.out n (by omega) h2 h3, rfl⟩
          | succ j =>
            have hk22 : k < 22 := by omega
            obtain ⟨sg, hsg⟩ : ∃ sg, sg = Lx.signs[k]'(by simpa [Lx.signs] using hk22) := ⟨_, rfl⟩
            have hck : w.cell? (ad.add k) = some (.string ⟨sg.toArray⟩) := by rw [hsg]; exact HC.out k _
            have hgs : g + 1 ≤ s.data.toList.length := by simp; omega
            have HGS := Lib.hid hgs
            have HSG := Lib.hid hsg
            clear hsg hgs
            go_wp2
            · have he : (sg == (s.extract 0 (g + 1)).toList) = true := by assumption
              rw [beq_iff_eq, toList_take] at he
              have hfin : Lx.longest s.data.toList = sg := by
                rw [he]
                refine longest_found _ (g + 1) (by omega) (by omega) HGS.out ?_ (fun h1 h2 => HN.out 2 (by omega) (by omega) (by simpa using h2))
                rw [← he, HSG.out]; exact List.getElem_mem _
              rw [Exit.noGoto_ret]
              go_ret
              exact ⟨by rw [hfin]; rfl, rfl⟩
            · have he : (sg == (s.extract 0 (g + 1)).toList) = false := by assumption
              go_roundg j
              case measure => omega
              case rel => exact ⟨k + 1, by omega, rfl, by go_num, fun i hi h => by
                by_cases e : i = k
                · subst e
                  intro hh
                  rw [← HSG.out] at hh
                  rw [beq_eq_false_iff_ne, toList_take] at he
                  exact he hh
                · exact HK.out i (by omega) h, rfl⟩
end Go.Proofs.YtadicempblgmhaaGreatDoor
namespace Go.Proofs.YtadicempblgmhaaGreatDoor
open Go.RowKit

theorem numTo_snoc (l : List UInt8) (c : UInt8) (n : Int) : Lx.numTo n (l ++ [c]) = (Lx.numTo n l).bind fun m => if 1099511627776 < 10 * m + ((c.toNat : Int) - 48) then none else some (10 * m + ((c.toNat : Int) - 48)) := by
  induction l generalizing n with
  | nil => simp only [List.nil_append, Lx.numTo, Option.bind]
  | cons d r ih =>
    simp only [List.cons_append, Lx.numTo]
    split
    · rfl
    · exact ih _
theorem numTo_none (l r : List UInt8) (n : Int) (h : Lx.numTo n l = none) : Lx.numTo n (l ++ r) = none := by
  induction l generalizing n with
  | nil => simp [Lx.numTo] at h
  | cons d l ih =>
    simp only [List.cons_append, Lx.numTo] at h ⊢
    split
    · rfl
    · rename_i hh
      rw [if_neg hh] at h
      exact ih _ h
/-- Of digits alone the number so far is not negative and not too great. -/
theorem numTo_range (l : List UInt8) (n m : Int) (hd : l.all Lx.digit = true) (h : Lx.numTo n l = some m) (h0 : 0 ≤ n) (h1 : n ≤ 1099511627776) : 0 ≤ m ∧ m ≤ 1099511627776 := by
  induction l generalizing n with
  | nil => simp [Lx.numTo] at h; omega
  | cons d l ih =>
    simp only [List.all_cons, Bool.and_eq_true] at hd
    simp only [Lx.numTo] at h
    split at h
    · cases h
    · have := hd.1
      rw [digit_eq] at this
      simp at this
      exact ih _ hd.2 h (by omega) (by omega)

theorem take_snoc (s : ByteArray) (k : Nat) (h : k < s.size) : s.data.toList.take (k + 1) = s.data.toList.take k ++ [s[k]] := by
  rw [List.take_succ_eq_append_getElem (by simpa using h)]; rfl

set_option maxHeartbeats 400000 in
theorem number_any (s : ByteArray) (w : World) (hs : s.size ≤ maxLen) (h1 : 0 < s.size) :
    Calls Tryz.prog 103 #[.string s] w fun e w' => e = .returned (.tuple #[.int .i64 (Lx.number s.data.toList).1, .int .i64 (Lx.number s.data.toList).2]) ∧ w = w' := by
  unfold maxLen at hs
  by_cases hsp : Lx.span Lx.digit s.data.toList < s.size
  · have hfin : Lx.number s.data.toList = (0, 2) := by unfold Lx.number; rw [if_pos (.inl (by simpa using hsp))]
    have HF := Lib.hid hfin
    clear hfin
    go_enter Tryz.func103, Tryz.ntmps103
    go_wp2_with (go_at_call 82; refine (span_isDigit s _ (by unfold maxLen; omega)).mono ?_; rintro e w' ⟨rfl, rfl⟩)
    go_ret2
    exact ⟨by rw [HF.out]; rfl, rfl⟩
  · have hall : s.data.toList.all Lx.digit = true := (Lx.span_all _ _).1 (by have := Lx.span_le Lx.digit s.data.toList; simp at this ⊢; omega)
    have Hall := Lib.hid hall
    have hhead : s.data.toList.head? = some s[0] := by
      rw [List.head?_eq_getElem?, List.getElem?_eq_getElem (by simpa using h1)]; rfl
    have HH := Lib.hid hhead
    have hspn : (Lx.span Lx.digit s.data.toList : Int) = s.size := by have := Lx.span_le Lx.digit s.data.toList; simp at this; omega
    have Hspn := Lib.hid hspn
    clear hall hhead hspn
    by_cases hz : (1 : Int) < s.size ∧ ((s[0].toNat : Int) == 48) = true
    · have hfin : Lx.number s.data.toList = (0, 2) := by
        unfold Lx.number
        rw [if_pos (.inr ⟨by simp; omega, by rw [HH.out]; congr 1; exact UInt8.toNat_inj.1 (by have := hz.2; simp at this; simp; omega)⟩)]
      have HF := Lib.hid hfin
      clear hfin
      obtain ⟨hz1, hz2⟩ := hz
      go_enter Tryz.func103, Tryz.ntmps103
      go_wp2_with (go_at_call 82; refine (span_isDigit s _ (by unfold maxLen; omega)).mono ?_; rintro e w' ⟨rfl, rfl⟩; rw [Hspn.out])
      go_ret2
      exact ⟨by rw [HF.out]; rfl, rfl⟩
    · have hno : ¬ (Lx.span Lx.digit s.data.toList < s.data.toList.length ∨ (1 < s.data.toList.length ∧ s.data.toList.head? = some 48)) := by
        rintro (h | ⟨h2, h3⟩)
        · exact hsp (by simpa using h)
        · apply hz
          rw [HH.out] at h3
          simp at h2 h3
          exact ⟨by omega, by rw [h3]; rfl⟩
      have hf1 : Lx.numTo 0 s.data.toList = none → Lx.number s.data.toList = (0, 3) := fun h => by
        unfold Lx.number; rw [if_neg hno, h]
      have hf2 : ∀ n, Lx.numTo 0 s.data.toList = some n → Lx.number s.data.toList = (n, 0) := fun n h => by
        unfold Lx.number; rw [if_neg hno, h]
      have H1 := Lib.hid hf1
      have H2 := Lib.hid hf2
      clear hf1 hf2 hno
      have hz3 : (1 : Int) < s.size → ((s[0].toNat : Int) == 48) = false := fun h1 => by
        rw [Bool.eq_false_iff]; exact fun h => hz ⟨h1, h⟩
      clear hz
      by_cases hz1 : (1 : Int) < s.size
      · have hz2 := hz3 hz1
        clear hz3
        go_enter Tryz.func103, Tryz.ntmps103
        go_wp2_with (go_at_call 82; refine (span_isDigit s _ (by unfold maxLen; omega)).mono ?_; rintro e w' ⟨rfl, rfl⟩; rw [Hspn.out])
        go_loop [4, 5] (fun n i => ∃ (k : Nat) (m : Int), k ≤ s.size ∧ i = .int .i64 k ∧ n = .int .i64 m ∧ Hid (Lx.numTo 0 (s.data.toList.take k) = some m) ∧ 0 ≤ m ∧ m ≤ 1099511627776) (fun _ i => s.size - (intOf i).toNat)
        case atStart => exact ⟨0, 0, Nat.zero_le _, rfl, rfl, rfl, by omega, by omega⟩
        case round =>
          obtain ⟨k, m, hk, rfl, rfl, HM, hm0, hm1⟩ := hrel
          by_cases hlt : k < s.size
          · have hdk : 48 ≤ (s[k].toNat : Int) ∧ (s[k].toNat : Int) ≤ 57 := by
              have := List.all_eq_true.1 Hall.out s[k] (List.getElem_mem (l := s.data.toList) (by simpa using hlt))
              rw [digit_eq] at this; simpa using this
            obtain ⟨hd0, hd1⟩ := hdk
            have hsn := numTo_snoc (s.data.toList.take k) s[k] 0
            rw [← take_snoc s k hlt, HM.out] at hsn
            have HSN := Lib.hid hsn
            clear hsn
            go_wp2
            · have hb : 1099511627776 < 10 * m + ((s[k].toNat : Int) - 48) := by assumption
              have hnone : Lx.numTo 0 s.data.toList = none := by
                have h1 := HSN.out
                simp only [Option.bind, hb, if_true] at h1
                have := numTo_none _ (s.data.toList.drop (k + 1)) 0 h1
                rwa [List.take_append_drop] at this
              go_ret2
              exact ⟨by rw [H1.out hnone]; rfl, rfl⟩
            · have hb : 10 * m + ((s[k].toNat : Int) - 48) ≤ 1099511627776 := by assumption
              go_round
              case rel => exact ⟨k + 1, _, by omega, by go_num, rfl, by
                have h1 := HSN.out
                simp only [Option.bind, Int.not_lt.2 hb, if_false] at h1
                exact h1, by omega, hb⟩
              case measure => simp [intOf]; omega
          · obtain rfl : k = s.size := by omega
            have hsome : Lx.numTo 0 s.data.toList = some m := by
              have := HM.out
              rwa [List.take_of_length_le (by simp)] at this
            have HFF := Lib.hid (H2.out m hsome)
            clear hsome
            go_wp2
            go_ret2
            exact ⟨by rw [HFF.out]; rfl, rfl⟩
      · have HZ3 := Lib.hid hz3
        clear hz3
        go_enter Tryz.func103, Tryz.ntmps103
        go_wp2_with (go_at_call 82; refine (span_isDigit s _ (by unfold maxLen; omega)).mono ?_; rintro e w' ⟨rfl, rfl⟩; rw [Hspn.out])
        go_loop [4, 5] (fun n i => ∃ (k : Nat) (m : Int), k ≤ s.size ∧ i = .int .i64 k ∧ n = .int .i64 m ∧ Hid (Lx.numTo 0 (s.data.toList.take k) = some m) ∧ 0 ≤ m ∧ m ≤ 1099511627776) (fun _ i => s.size - (intOf i).toNat)
        case atStart => exact ⟨0, 0, Nat.zero_le _, rfl, rfl, rfl, by omega, by omega⟩
        case round =>
          obtain ⟨k, m, hk, rfl, rfl, HM, hm0, hm1⟩ := hrel
          by_cases hlt : k < s.size
          · have hdk : 48 ≤ (s[k].toNat : Int) ∧ (s[k].toNat : Int) ≤ 57 := by
              have := List.all_eq_true.1 Hall.out s[k] (List.getElem_mem (l := s.data.toList) (by simpa using hlt))
              rw [digit_eq] at this; simpa using this
            obtain ⟨hd0, hd1⟩ := hdk
            have hsn := numTo_snoc (s.data.toList.take k) s[k] 0
            rw [← take_snoc s k hlt, HM.out] at hsn
            have HSN := Lib.hid hsn
            clear hsn
            go_wp2
            · have hb : 1099511627776 < 10 * m + ((s[k].toNat : Int) - 48) := by assumption
              have hnone : Lx.numTo 0 s.data.toList = none := by
                have h1 := HSN.out
                simp only [Option.bind, hb, if_true] at h1
                have := numTo_none _ (s.data.toList.drop (k + 1)) 0 h1
                rwa [List.take_append_drop] at this
              go_ret2
              exact ⟨by rw [H1.out hnone]; rfl, rfl⟩
            · have hb : 10 * m + ((s[k].toNat : Int) - 48) ≤ 1099511627776 := by assumption
              go_round
              case rel => exact ⟨k + 1, _, by omega, by go_num, rfl, by
                have h1 := HSN.out
                simp only [Option.bind, Int.not_lt.2 hb, if_false] at h1
                exact h1, by omega, hb⟩
              case measure => simp [intOf]; omega
          · obtain rfl : k = s.size := by omega
            have hsome : Lx.numTo 0 s.data.toList = some m := by
              have := HM.out
              rwa [List.take_of_length_le (by simp)] at this
            have HFF := Lib.hid (H2.out m hsome)
            clear hsome
            go_wp2
            go_ret2
            exact ⟨by rw [HFF.out]; rfl, rfl⟩

theorem of_list {s : ByteArray} {l : List UInt8} (h : s.data.toList = l) : s = ⟨l.toArray⟩ := by subst h; exact (Lib.mk_data s).symm
theorem beq_no (s : ByteArray) (l : List UInt8) (h : s.data.toList ≠ l) : (s.toList == l) = false := by
  rw [beq_eq_false_iff_ne, Lib.toList_data]; exact h

set_option maxRecDepth 100000 in
set_option maxHeartbeats 1000000 in
theorem wordShape_fixed (s : ByteArray) (w : World) (h : s.data.toList ∈ Lx.capitals ∨ s.data.toList ∈ Lx.smalls) :
    Calls Tryz.prog 102 #[.string s] w fun e w' => e = .returned (.tuple #[.int .i64 (Lx.wordShape s.data.toList).1, .int .i64 (Lx.wordShape s.data.toList).2]) ∧ w = w' := by
  simp only [Lx.capitals, Lx.smalls, List.mem_cons, List.mem_nil_iff, or_false] at h
  rcases h with (h | h | h | h | h) | (h | h | h | h | h) <;> obtain rfl := of_list h <;> clear h
  all_goals
    go_enter Tryz.func102, Tryz.ntmps102
    go_wp2_with fail
    go_ret2
    exact ⟨by rfl, rfl⟩

set_option maxRecDepth 100000 in
set_option maxHeartbeats 1000000 in
theorem wordShape_other (s : ByteArray) (w : World) (hs : s.size ≤ 1000000) (hE : Env w) (h1 : s.data.toList ∉ Lx.capitals) (h2 : s.data.toList ∉ Lx.smalls) :
    Calls Tryz.prog 102 #[.string s] w fun e w' => e = .returned (.tuple #[.int .i64 (Lx.wordShape s.data.toList).1, .int .i64 (Lx.wordShape s.data.toList).2]) ∧ Below w.heap.size w w' := by
  have g1 := h1; have g2 := h2
  simp only [Lx.capitals, Lx.smalls, List.mem_cons, List.mem_nil_iff, or_false, not_or] at g1 g2
  obtain ⟨a1, a2, a3, a4, a5⟩ := g1
  obtain ⟨b1, b2, b3, b4, b5⟩ := g2
  replace a1 := beq_no _ _ a1; replace a2 := beq_no _ _ a2; replace a3 := beq_no _ _ a3; replace a4 := beq_no _ _ a4; replace a5 := beq_no _ _ a5
  replace b1 := beq_no _ _ b1; replace b2 := beq_no _ _ b2; replace b3 := beq_no _ _ b3; replace b4 := beq_no _ _ b4; replace b5 := beq_no _ _ b5
  have cK : Calls Tryz.prog 113 #[.string ⟨Lx.kwText.toArray⟩, .string (⟨#[32]⟩ ++ s ++ ⟨#[32]⟩)] w fun e w' => e = .returned (.bool (Lib.contains Lx.kwText (32 :: (s.data.toList ++ [32])))) ∧ w = w' := by
    have := contains_any ⟨Lx.kwText.toArray⟩ (⟨#[32]⟩ ++ s ++ ⟨#[32]⟩) w (by decide) hE
    rw [show ((⟨#[32]⟩ ++ s ++ ⟨#[32]⟩ : ByteArray)).data.toList = 32 :: (s.data.toList ++ [32]) from by simp] at this
    exact this
  have hsp : Lx.wordShape s.data.toList = if Lib.contains Lx.kwText (32 :: (s.data.toList ++ [32])) then (3, 0) else if !(s.data.toList.all (Lx.named 97 122)) && !(s.data.toList.all (Lx.named 65 90)) then (0, 2)
      else if 20 < s.data.toList.length then (0, 3) else if s.data.toList.all (Lx.named 97 122) then (1, 0) else (2, 0) := by
    unfold Lx.wordShape; rw [if_neg h1, if_neg h2]
  have hq1 : ((Lx.span (Lx.named 97 122) s.data.toList : Int) == s.size) = s.data.toList.all (Lx.named 97 122) := by
    rw [Bool.eq_iff_iff, ← Lx.span_all]; simp; omega
  have hq2 : ((Lx.span (Lx.named 65 90) s.data.toList : Int) == s.size) = s.data.toList.all (Lx.named 65 90) := by
    rw [Bool.eq_iff_iff, ← Lx.span_all]; simp; omega
  have hlen : s.data.toList.length = s.size := by simp
  rw [hlen] at hsp
  clear hlen
  generalize Lib.contains Lx.kwText (32 :: (s.data.toList ++ [32])) = bk at cK hsp
  generalize s.data.toList.all (Lx.named 97 122) = b1' at hq1 hsp
  generalize s.data.toList.all (Lx.named 65 90) = b2' at hq2 hsp
  have HSP := Lib.hid hsp
  have CK := Lib.hid cK
  clear hsp cK h1 h2
  cases bk with
  | true =>
    go_enter Tryz.func102, Tryz.ntmps102
    go_wp2_with (go_at_call 113; refine CK.out.mono ?_; rintro e w' ⟨rfl, rfl⟩)
    go_ret2
    exact ⟨by rw [HSP.out]; rfl, Below.refl _ _⟩
  | false =>
    have N1 := fun w => nameByte_any 97 122 w
    have N2 := fun w => nameByte_any 65 90 w
    have NN1 := Lib.hid N1
    have NN2 := Lib.hid N2
    clear N1 N2
    go_enter Tryz.func102, Tryz.ntmps102
    go_wp2_with (go_at_call 113; refine CK.out.mono ?_; rintro e w' ⟨rfl, rfl⟩)
    refine (NN1.out _).mono ?_
    rintro e w1 ⟨rfl, rfl⟩
    go_wp2_with fail
    refine (span_named s 97 122 _ _ _ (by unfold maxLen; omega) (by go_simp) (by go_simp)).mono ?_
    rintro e w1 ⟨rfl, rfl⟩
    have H1 : Hid (((Lx.span (Lx.named 97 122) s.data.toList : Int) == s.size) = b1') := hq1
    go_wp2_with fail
    clear hq1
    refine (NN2.out _).mono ?_
    rintro e w1 ⟨rfl, rfl⟩
    go_wp2_with fail
    refine (span_named s 65 90 _ _ _ (by unfold maxLen; omega) (by go_simp) (by go_simp)).mono ?_
    rintro e w1 ⟨rfl, rfl⟩
    cases b1' <;> cases b2'
    · go_wp2
      go_ret2
      exact ⟨by rw [HSP.out]; rfl, (((((Below.refl _ _).alloc (Nat.le_refl _) _).alloc (by simp) _).alloc (by simp; omega) _).alloc (by simp; omega) _)⟩
    all_goals
      by_cases hl : (20 : Int) < s.size
      · go_wp2
        go_ret2
        exact ⟨by rw [HSP.out, if_pos (show 20 < s.size by omega)]; rfl, (((((Below.refl _ _).alloc (Nat.le_refl _) _).alloc (by simp) _).alloc (by simp; omega) _).alloc (by simp; omega) _)⟩
      · go_wp2
        go_ret2
        exact ⟨by rw [HSP.out, if_neg (show ¬ 20 < s.size by omega)]; rfl, (((((Below.refl _ _).alloc (Nat.le_refl _) _).alloc (by simp) _).alloc (by simp; omega) _).alloc (by simp; omega) _)⟩
end Go.Proofs.YtadicempblgmhaaGreatDoor
namespace Go.Proofs.YtadicempblgmhaaGreatDoor
open Go.RowKit

theorem wordShape_any (s : ByteArray) (w : World) (hs : s.size ≤ 1000000) (hE : Env w) :
    Calls Tryz.prog 102 #[.string s] w fun e w' => e = .returned (.tuple #[.int .i64 (Lx.wordShape s.data.toList).1, .int .i64 (Lx.wordShape s.data.toList).2]) ∧ Below w.heap.size w w' := by
  by_cases h : s.data.toList ∈ Lx.capitals ∨ s.data.toList ∈ Lx.smalls
  · exact (wordShape_fixed s w h).mono fun e w' ⟨he, hw⟩ => ⟨he, hw ▸ Below.refl _ _⟩
  · exact wordShape_other s w hs hE (fun hh => h (.inl hh)) (fun hh => h (.inr hh))

set_option maxRecDepth 100000 in
set_option maxHeartbeats 1000000 in
theorem Shape_any (s : ByteArray) (w : World) (hs : s.size ≤ 1000000) (hE : Env w) :
    Calls Tryz.prog 79 #[.string s] w fun e w' => e = .returned (.tuple #[.int .i64 (Lx.shape s.data.toList).1, .int .i64 (Lx.shape s.data.toList).2]) ∧ Below w.heap.size w w' := by
  by_cases h0 : s.size = 0
  · obtain rfl : s = ⟨#[]⟩ := of_list (l := []) (List.eq_nil_of_length_eq_zero (by simpa using h0))
    go_enter Tryz.func79, Tryz.ntmps79
    go_wp2_with fail
    go_ret2
    exact ⟨rfl, Below.refl _ _⟩
  · have hne : s.toList.isEmpty = false := by
      rw [Lib.toList_data]
      cases h : s.data.toList with
      | nil => exact absurd (by have := congrArg List.length h; simpa using this) h0
      | cons => rfl
    have hpos : (0 : Int) < s.size := by omega
    have hps : 0 < s.size := by omega
    obtain ⟨tl, hl⟩ : ∃ tl, s.data.toList = s[0] :: tl := by
      refine ⟨s.data.toList.tail, ?_⟩
      have : s.data.toList ≠ [] := fun h => by rw [Lib.toList_data, h] at hne; cases hne
      rw [← List.cons_head_tail this]
      congr 1
      rw [List.head_eq_getElem]; rfl
    have hsp : Lx.shape s.data.toList = if s.data.toList.all Lx.inRun && Lx.letter s[0] then Lx.wordShape s.data.toList
        else if s.data.toList.all Lx.inRun && Lx.digit s[0] then (if (Lx.number s.data.toList).2 = 0 then (4, 0) else (0, (Lx.number s.data.toList).2))
        else if Lx.longest s.data.toList = s.data.toList then (5, 0) else (0, 2) := by
      rw [hl]; rfl
    have hq : ((Lx.span Lx.inRun s.data.toList : Int) == s.size) = s.data.toList.all Lx.inRun := by
      rw [Bool.eq_iff_iff, ← Lx.span_all]; simp; omega
    have hlo : (Lx.longest s.data.toList == s.toList) = decide (Lx.longest s.data.toList = s.data.toList) := by
      rw [Lib.toList_data, Bool.eq_iff_iff]; simp
    clear hl
    generalize s.data.toList.all Lx.inRun = bw at hq hsp
    have cL := isLetter_any s[0] w
    have cD := isDigit_any s[0] w
    generalize Lx.letter s[0] = bl at cL hsp
    generalize Lx.digit s[0] = bd at cD hsp
    have CL := Lib.hid cL
    have CD := Lib.hid cD
    clear cL cD
    have CW := Lib.hid (wordShape_any s w hs hE)
    have CN := Lib.hid (number_any s w (by unfold maxLen; omega) (by omega))
    have CS := Lib.hid (longestSign_any s w (by unfold maxLen; omega) hE.signs)
    have HSP := Lib.hid hsp
    have HLO := Lib.hid hlo
    clear hsp hlo
    generalize Lx.longest s.data.toList = lo at CS HSP HLO
    generalize Lx.number s.data.toList = nu at CN HSP
    cases bw <;> cases bl <;> cases bd
    all_goals
      go_enter Tryz.func79, Tryz.ntmps79
      go_wp2_with (first
        | (go_at_call 82; refine (span_inRun s _ (by unfold maxLen; omega)).mono ?_; rintro e w1 ⟨rfl, rfl⟩)
        | (go_at_call 80; refine CL.out.mono ?_; rintro e w1 ⟨rfl, rfl⟩)
        | (go_at_call 81; refine CD.out.mono ?_; rintro e w1 ⟨rfl, rfl⟩)
        | (go_at_call 102; refine CW.out.mono ?_; rintro e w1 ⟨rfl, hb⟩)
        | (go_at_call 103; refine CN.out.mono ?_; rintro e w1 ⟨rfl, rfl⟩)
        | (go_at_call 84; refine CS.out.mono ?_; rintro e w1 ⟨rfl, rfl⟩))
    all_goals first
      | (have h : (lo == s.toList) = true := by assumption
         have e : lo = s.data.toList := by
           have := HLO.out
           rw [h] at this
           simpa using this.symm
         go_ret2
         exact ⟨by rw [HSP.out, if_neg (by decide), if_neg (by decide), if_pos e]; rfl, Below.refl _ _⟩)
      | (have h : (lo == s.toList) = false := by assumption
         have e : ¬ lo = s.data.toList := by
           have := HLO.out
           rw [h] at this
           simpa using this.symm
         go_ret2
         exact ⟨by rw [HSP.out, if_neg (by decide), if_neg (by decide), if_neg e]; rfl, Below.refl _ _⟩)
      | (go_ret2
         exact ⟨by rw [HSP.out, if_pos (by decide)]; rfl, hb⟩)
      | (have h : (nu.2 != 0) = true := by assumption
         have e : ¬ nu.2 = 0 := by simpa using h
         go_ret2
         exact ⟨by rw [HSP.out, if_neg (by decide), if_pos (by decide), if_neg e]; rfl, Below.refl _ _⟩)
      | (have h : (nu.2 != 0) = false := by assumption
         have e : nu.2 = 0 := by simpa using h
         go_ret2
         exact ⟨by rw [HSP.out, if_neg (by decide), if_pos (by decide), if_pos e]; rfl, Below.refl _ _⟩)

theorem number_err (l : List UInt8) (h : (Lx.number l).2 ≠ 0) : (Lx.number l).1 = 0 := by
  unfold Lx.number at h ⊢
  split
  · rfl
  · rename_i hh
    rw [if_neg hh] at h
    split
    · rfl
    · rename_i e; rw [e] at h; exact absurd rfl h
theorem wordShape_err (l : List UInt8) (h : (Lx.wordShape l).2 ≠ 0) : (Lx.wordShape l).1 = 0 := by
  revert h
  unfold Lx.wordShape
  repeat' split
  all_goals simp
theorem shape_err (l : List UInt8) (h : (Lx.shape l).2 ≠ 0) : (Lx.shape l).1 = 0 := by
  revert h
  unfold Lx.shape
  cases l with
  | nil => simp
  | cons c r =>
    dsimp only
    split
    · exact wordShape_err _
    · repeat' split
      all_goals simp

end Go.Proofs.YtadicempblgmhaaGreatDoor
