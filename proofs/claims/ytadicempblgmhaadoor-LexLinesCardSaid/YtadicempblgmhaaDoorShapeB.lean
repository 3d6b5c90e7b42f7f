/-
  What spans of names, signs, numbers return in package lex.
-/
import Derived.Test.YtadicempblgmhaaDoorShapeA
import Derived.Deep.LoopGhost
import Derived.Lib.Strings
import Derived.Test.YtadicempblgmhaaDoorShelf
namespace Go.Proofs.YtadicempblgmhaaDoor
open Go.RowKit

set_option maxHeartbeats 400000 in
theorem span_named (s : ByteArray) (lo hi : UInt8) (a b : Nat) (w : World) (hs : s.size ≤ maxLen) (ha : w.cell? ⟨a, 0, none⟩ = some (.int .u8 lo.toNat)) (hb : w.cell? ⟨b, 0, none⟩ = some (.int .u8 hi.toNat)) : Calls Tryd.prog 49 #[.string s, .func (.func 123) #[] #[.pointer (some ⟨a, 0, none⟩), .pointer (some ⟨b, 0, none⟩)]] w fun e w' => e = .returned (.int .i64 (Lx.span (Lx.named lo hi) s.data.toList)) ∧ w = w' := by
  unfold maxLen at hs
  go_enter Tryd.func49, Tryd.ntmps49
  go_wp2
  go_loop [5] (fun n => ∃ k : Nat, k ≤ s.size ∧ n = .int .i64 k ∧ ∀ i (_ : i < k), ∀ (h : i < s.size), (Lx.named lo hi) s[i] = true) (fun n => s.size - (intOf n).toNat)
  case atStart => exact ⟨0, Nat.zero_le _, rfl, fun i hi => by omega⟩
  case round =>
    obtain ⟨k, hk, rfl, hall⟩ := hrel
    have Hall := Lib.hid hall
    clear hall
    by_cases hlt : k < s.size
    · go_wp2_with (go_at_call 123; refine (nameByte1_any s[k] lo hi a b _ ha hb).mono ?_; rintro e w' ⟨rfl, rfl⟩)
      · have hbb : (Lx.named lo hi) s[k] = true := by assumption
        go_round
        case rel => exact ⟨k + 1, by omega, by go_num, fun i hi h => by
          by_cases e : i = k
          · subst e; exact hbb
          · exact Hall.out i (by omega) h⟩
        case measure => simp [intOf]; omega
      · have hbb : (Lx.named lo hi) s[k] = false := by assumption
        go_ret
        exact ⟨ret_int (by rw [span_at _ s k hk Hall.out (fun _ => hbb)]), rfl⟩
    · go_wp2_with (go_at_call 123; refine (nameByte1_any s[k] lo hi a b _ ha hb).mono ?_; rintro e w' ⟨rfl, rfl⟩)
      go_ret
      exact ⟨ret_int (by rw [span_at _ s k hk Hall.out (fun h => absurd h hlt)]), rfl⟩

theorem nameByte_any (lo hi : UInt8) (w : World) : Calls Tryd.prog 98 #[.int .u8 lo.toNat, .int .u8 hi.toNat] w fun e w' =>
    e = .returned (.func (.func 123) #[] #[.pointer (some ⟨w.heap.size, 0, none⟩), .pointer (some ⟨w.heap.size + 1, 0, none⟩)]) ∧
    w' = (w.alloc (.cells #[.int .u8 lo.toNat] 5)).alloc (.cells #[.int .u8 hi.toNat] 5) := by
  have hmf : ∀ (fn : Fn) (first cap : Array Value) (w : World), (Instr.makeFunc fn first cap).run Tryd.prog w = .ok (.func fn first cap) w := fun _ _ _ _ => rfl
  go_enter Tryd.func98, Tryd.ntmps98
  go_wp2
  go_ret
  exact ⟨rfl, rfl⟩

/-- The list of signs lies in the variable. -/
def Signs (w : World) : Prop := ∃ a : Addr, w.cell? ⟨0, 0, none⟩ = some (.slice (some a) 22 22) ∧ ∀ i (h : i < Lx.signs.length), w.cell? (a.add i) = some (.string ⟨(Lx.signs[i]).toArray⟩)

theorem Signs.keep {w w' : World} (h : Signs w) (hk : ∀ (p : Addr) (v : Value), w.cell? p = some v → w'.cell? p = some v) : Signs w' := by
  obtain ⟨a, h1, h2⟩ := h
  exact ⟨a, hk _ _ h1, fun i hi => hk _ _ (h2 i hi)⟩
theorem kept_below {w w' : World} {B : Nat} (hb : Below B w w') (hB : w.heap.size ≤ B) : ∀ (p : Addr) (v : Value), w.cell? p = some v → w'.cell? p = some v :=
  fun p v h => (hb.cell (p := p) (by have := World.block_lt_of_cell? w _ h; omega)).trans h
theorem Signs.below {w w' : World} {B : Nat} (h : Signs w) (hb : Below B w w') (hB : w.heap.size ≤ B) : Signs w' := h.keep (kept_below hb hB)

/-- What the package-level variables hold. -/
structure Env (w : World) : Prop where
  signs : Signs w
  maxLen : ∃ m, w.cell? ⟨3, 0, none⟩ = some (.int .i64 m)
theorem Env.keep {w w' : World} (h : Env w) (hk : ∀ (p : Addr) (v : Value), w.cell? p = some v → w'.cell? p = some v) : Env w' :=
  ⟨h.signs.keep hk, by obtain ⟨m, hm⟩ := h.maxLen; exact ⟨m, hk _ _ hm⟩⟩
theorem Env.below {w w' : World} {B : Nat} (h : Env w) (hb : Below B w w') (hB : w.heap.size ≤ B) : Env w' := h.keep (kept_below hb hB)
theorem Env.alloc {w : World} (h : Env w) (o : Obj) : Env (w.alloc o) := h.below (B := w.heap.size) ((Below.refl _ _).alloc (Nat.le_refl _) o) (Nat.le_refl _)

theorem Env.drewN {w : World} (h : Env w) (n : Nat) : Env (w.drewN n) := h.keep (fun _ _ hv => hv)
theorem Env.drew {w : World} (h : Env w) : Env w.drew := h.keep (fun _ _ hv => hv)
theorem contains_any (s sub : ByteArray) (w : World) (hs : s.size < 4294967281) (hE : Env w) :
    Calls Tryd.prog 97 #[.string s, .string sub] w fun e w' => e = .returned (.bool (Lib.contains s.data.toList sub.data.toList)) ∧ w = w' := by
  obtain ⟨m, hm⟩ := hE.maxLen
  exact (Tryd.strings_Contains s sub m w hs hm).mono fun e w' ⟨he, hw⟩ => ⟨he, hw.symm⟩

theorem toList_drop_take (s : ByteArray) (a b : Nat) : (s.extract a b).toList = (s.data.toList.drop a).take (b - a) := by
  rw [Lib.toList_data, Lib.extract_data]
theorem toList_take (s : ByteArray) (b : Nat) : (s.extract 0 b).toList = s.data.toList.take b := by rw [toList_drop_take]; rfl

theorem longest_found (l : List UInt8) (n : Nat) (h1 : 1 ≤ n) (h2 : n ≤ 2) (hn : n ≤ l.length) (hin : l.take n ∈ Lx.signs) (hnot : n = 1 → 2 ≤ l.length → l.take 2 ∉ Lx.signs) : Lx.longest l = l.take n := by
  unfold Lx.longest
  by_cases e : n = 2
  · subst e; rw [if_pos ⟨hn, hin⟩]
  · obtain rfl : n = 1 := by omega
    rw [if_neg (fun h => hnot rfl h.1 h.2), if_pos ⟨hn, hin⟩]
theorem longest_none (l : List UInt8) (h : ∀ n, 1 ≤ n → n ≤ 2 → n ≤ l.length → l.take n ∉ Lx.signs) : Lx.longest l = [] := by
  unfold Lx.longest
  rw [if_neg (fun hh => h 2 (by omega) (by omega) hh.1 hh.2), if_neg (fun hh => h 1 (by omega) (by omega) hh.1 hh.2)]

set_option maxHeartbeats 400000 in
theorem longestSign_any (s : ByteArray) (w : World) (hs : s.size ≤ maxLen) (hS : Signs w) : Calls Tryd.prog 55 #[.string s] w fun e w' =>
    e = .returned (.string ⟨(Lx.longest s.data.toList).toArray⟩) ∧ w = w' := by
  unfold maxLen at hs
  obtain ⟨ad, hg, hc⟩ := hS
  have HC := Lib.hid hc
  clear hc
  obtain ⟨M, hM, hM2, hMs, hMx⟩ : ∃ M : Nat, M = min 2 s.size ∧ M ≤ 2 ∧ M ≤ s.size ∧ (∀ n, n ≤ 2 → n ≤ s.size → n ≤ M) := ⟨_, rfl, by omega, by omega, by omega⟩
  have HM := Lib.hid hM
  have HMx := Lib.hid hMx
  clear hM hMx
  by_cases h2 : (2 : Int) ≤ s.size
  all_goals
    go_enter Tryd.func55, Tryd.ntmps55
    go_wp2
    go_step3
    go_wp2
    go_step3
    go_wp2
    go_loopg [3, 4] M (fun g v3 v4 wx => g ≤ M ∧ v4 = .int .i64 g ∧ v3 = .string ⟨#[]⟩ ∧ Aside (∀ n, g < n → n ≤ 2 → n ≤ s.size → s.data.toList.take n ∉ Lx.signs) ∧ w = wx)
    case atStart => exact ⟨Nat.le_refl _, by rw [HM.out]; go_num, rfl, fun n h1 h2 h3 => absurd (HMx.out n h2 h3) (by omega), rfl⟩
    case round =>
      obtain ⟨hgM, rfl, rfl, HN, rfl⟩ := hrel
      cases gk with
      | zero =>
        have hfin : Lx.longest s.data.toList = [] := longest_none _ fun n h1 h2 h3 => HN.out n (by omega) h2 (by simpa using h3)
        have HF := Lib.hid hfin
        clear hfin
        have h0 : ¬ (0 : Int) < ((0 : Nat) : Int) := by simp
        go_wp2
        go_ret
        exact ⟨by rw [HF.out]; rfl, rfl⟩
      | succ g =>
        go_wp2
        go_loopg [3, 16] 22 (fun j v3 v16 wx => ∃ k : Nat, k + j = 22 ∧ v3 = .string ⟨#[]⟩ ∧ v16 = .int .i64 k ∧ Aside (∀ i (_ : i < k) (h : i < Lx.signs.length), Lx.signs[i] ≠ s.data.toList.take (g + 1)) ∧ w = wx)
        case atStart => exact ⟨0, rfl, rfl, rfl, fun i hi => absurd hi (by omega), rfl⟩
        case round =>
          obtain ⟨k, hkj, rfl, rfl, HK, rfl⟩ := hrel
          cases gk with
          | zero =>
            obtain rfl : k = 22 := by omega
            go_wp2
            go_roundg g
            case measure => omega
            case rel => exact ⟨by omega, by go_num, rfl, fun n h1 h2 h3 => by
              by_cases e : n = g + 1
              · subst e
                intro hin
                obtain ⟨i, hi, he⟩ := List.getElem_of_mem hin
                exact HK.out i (by simpa [Lx.signs] using hi) hi he
              · exact HN.out n (by omega) h2 h3, rfl⟩
          | succ j =>
            have hk22 : k < 22 := by omega
            obtain ⟨sg, hsg⟩ : ∃ sg, sg = Lx.signs[k]'(by simpa [Lx.signs] using hk22) := ⟨_, rfl⟩
            have hck : w.cell? (ad.add k) = some (.string ⟨sg.toArray⟩) := by rw [hsg]; exact HC.out k _
            have hgs : g + 1 ≤ s.data.toList.length := by simp; omega
            have HGS := Lib.hid hgs
            have HSG := Lib.hid hsg
            clear hsg hgs
            go_wp2
            · have he : (sg == (s.extract 0 (g + 1)).toList) = true := by assumption
              rw [beq_iff_eq, toList_take] at he
              have hfin : Lx.longest s.data.toList = sg := by
                rw [he]
                refine longest_found _ (g + 1) (by omega) (by omega) HGS.out ?_ (fun h1 h2 => HN.out 2 (by omega) (by omega) (by simpa using h2))
                rw [← he, HSG.out]; exact List.getElem_mem _
              rw [Exit.noGoto_ret]
              go_ret
              exact ⟨by rw [hfin]; rfl, rfl⟩
            · have he : (sg == (s.extract 0 (g + 1)).toList) = false := by assumption
              go_roundg j
              case measure => omega
              case rel => exact ⟨k + 1, by omega, rfl, by go_num, fun i hi h => by
                by_cases e : i = k
                · subst e
                  intro hh
                  rw [← HSG.out] at hh
                  rw [beq_eq_false_iff_ne, toList_take] at he
                  exact he hh
                · exact HK.out i (by omega) h, rfl⟩
end Go.Proofs.YtadicempblgmhaaDoor
