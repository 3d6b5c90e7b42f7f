/-
  The reference's bare line, by contract: it is the program's.
-/
import Derived.Test.YtadicempblgmhaaGreatDoorStripQ
import Derived.Test.YtadicempblgmhaaGreatDoorRefG
namespace Go.Proofs.YtadicempblgmhaaGreatDoor
open Go.RowKit Go.Shelf

namespace Lx
theorem dash_at (s : ByteArray) (k : Nat) (h : k + 1 < s.size) : dash (s.data.toList.drop k) = (decide ((s[k].toNat : Int) = 45) && decide ((s[k + 1].toNat : Int) = 45)) := by
  have hl : s.data.toList.length = s.size := by simp
  have e : s.data.toList.drop k = s[k] :: s[k + 1] :: s.data.toList.drop (k + 2) := by
    rw [List.drop_eq_getElem_cons (by omega), List.drop_eq_getElem_cons (by omega)]
    rfl
  rw [e]
  generalize s[k] = a
  generalize s[k + 1] = b
  have h1 : ∀ y : UInt8, (45 == y) = decide ((y.toNat : Int) = 45) := by
    intro y
    by_cases hy : y = 45
    · subst hy; rfl
    · have : ¬ ((y.toNat : Int) = 45) := fun h => hy (UInt8.toNat_inj.1 (by simp; omega))
      rw [decide_eq_false this]
      exact beq_false_of_ne (fun e => hy e.symm)
  unfold dash
  rw [show [45, 45].isPrefixOf (a :: b :: s.data.toList.drop (k + 2)) = ((45 == a) && ((45 == b) && true)) from rfl, Bool.and_true, h1, h1]
theorem dash_short (l : List UInt8) (h : l.length < 2) : dash l = false := by
  match l, h with
  | [], _ => rfl
  | [a], _ => simp [dash, List.isPrefixOf]
  | _ :: _ :: _, h => simp at h; omega
/-- Up to k no comment begins; or the text has been cut. -/
def Cutting (s t : ByteArray) (k : Nat) : Prop :=
  (t = s ∧ ∀ i, i < k → dash (s.data.toList.drop i) = false) ∨ (t.data.toList = cut s.data.toList ∧ t.size ≤ k)
theorem Cutting.fin {s t : ByteArray} {k : Nat} (h : Cutting s t k) (hk : t.size ≤ k + 1) : t.data.toList = cut s.data.toList := by
  rcases h with ⟨rfl, h⟩ | ⟨h, _⟩
  · rw [cut_same]
    intro i
    rcases Nat.lt_or_ge i k with hi | hi
    · exact h i hi
    · apply dash_short
      have hl : t.data.toList.length = t.size := by simp
      rw [List.length_drop]
      omega
  · exact h
theorem Cutting.more {s t : ByteArray} {k : Nat} (h : Cutting s t k) (hk : k + 1 < t.size) (hd : dash (t.data.toList.drop k) = false) : Cutting s t (k + 1) := by
  rcases h with ⟨rfl, h⟩ | ⟨_, h⟩
  · refine .inl ⟨rfl, fun i hi => ?_⟩
    rcases Nat.lt_or_ge i k with h1 | h1
    · exact h i h1
    · obtain rfl : i = k := by omega
      exact hd
  · omega
theorem Cutting.stop {s t : ByteArray} {k : Nat} (h : Cutting s t k) (hk : k + 1 < t.size) (hd : dash (t.data.toList.drop k) = true) : Cutting s (t.extract 0 k) (k + 1) := by
  rcases h with ⟨rfl, h⟩ | ⟨_, h⟩
  · refine .inr ⟨?_, by rw [ByteArray.size_extract]; omega⟩
    have hl : t.data.toList.length = t.size := by simp
    have hc : cut (t.data.toList.drop k) = [] := by
      generalize t.data.toList.drop k = d at hd
      cases d with
      | nil => rfl
      | cons a b => rw [cut, if_pos (by exact hd)]
    rw [cut_skip k t.data.toList (by omega) h, hc, List.append_nil, Lib.extract_data, List.drop_zero, Nat.sub_zero]
  · omega
theorem trimR_blank (a : List UInt8) : trimR (a ++ [32]) = trimR a := by
  rw [trimR_append, if_pos (by decide)]
theorem last_cut (t : ByteArray) (h : 0 < t.size) : t.data.toList = (t.extract 0 (t.size - 1)).data.toList ++ [t[t.size - 1]] := by
  have hl : t.data.toList.length = t.size := by simp
  rw [Lib.extract_data, List.drop_zero, Nat.sub_zero]
  conv => lhs; rw [← List.take_append_drop (t.size - 1) t.data.toList]
  rw [List.drop_eq_getElem_cons (by omega), List.drop_of_length_le (by omega)]
  rfl
end Lx

set_option maxRecDepth 100000 in
set_option maxHeartbeats 2000000 in
theorem bare_any (s : ByteArray) (w : World) (hs : s.size ≤ 1000000) :
    Calls Tryz.prog 24 #[.string s] w fun e w' => e = .returned (.string ⟨(Lx.bareL s.data.toList).toArray⟩) ∧ w = w' := by
  go_enter Tryz.func24, Tryz.ntmps24
  go_wp2_with fail
  go_loopw [0, 3] (fun v i wr => ∃ (t : ByteArray) (k : Nat), v = .string t ∧ i = .int .i64 k ∧ w = wr ∧ k ≤ s.size ∧ t.size ≤ s.size ∧ Hid (Lx.Cutting s t k)) (fun _ i _ => s.size - (intOf i).toNat)
  case atStart => exact ⟨s, 0, rfl, rfl, rfl, Nat.zero_le _, Nat.le_refl _, .inl ⟨rfl, fun i hi => absurd hi (Nat.not_lt_zero _)⟩⟩
  case round =>
    obtain ⟨t, k, rfl, rfl, rfl, hk, ht, HC⟩ := hrel
    have hw1 : IntKind.i64.wrap ((k : Int) + 1) = (k : Int) + 1 := IntWalk.i64_in _ (by omega)
    by_cases hlt : k + 1 < t.size
    · have hltI : (k : Int) + 1 < t.size := by omega
      have hk0 : (0 : Int) ≤ k := by omega
      have hk1 : (k : Int) < t.size := by omega
      have hk2 : (k : Int) ≤ t.size := by omega
      have hd := Lx.dash_at t k hlt
      have HD := Lib.hid hd
      clear hd
      by_cases h1 : (t[k].toNat : Int) = 45
      · by_cases h2 : (t[k + 1].toNat : Int) = 45
        · have HN := Lib.hid (HC.out.stop hlt (by rw [HD.out, decide_eq_true h1, decide_eq_true h2]; rfl))
          have hz : (t.extract 0 k).size ≤ s.size := by rw [ByteArray.size_extract]; omega
          go_wp2_with fail
          go_roundw
          case rel => exact ⟨_, k + 1, rfl, by go_num, by trivial, by omega, hz, HN.out⟩
          case measure => simp [intOf]; omega
        · have HN := Lib.hid (HC.out.more hlt (by rw [HD.out, decide_eq_false h2, Bool.and_false]))
          go_wp2_with fail
          go_roundw
          case rel => exact ⟨t, k + 1, rfl, by go_num, by trivial, by omega, ht, HN.out⟩
          case measure => simp [intOf]; omega
      · have HN := Lib.hid (HC.out.more hlt (by rw [HD.out, decide_eq_false h1, Bool.false_and]))
        go_wp2_with fail
        go_roundw
        case rel => exact ⟨t, k + 1, rfl, by go_num, by trivial, by omega, ht, HN.out⟩
        case measure => simp [intOf]; omega
    · have hltI : ¬ (k : Int) + 1 < t.size := by omega
      have hfin := HC.out.fin (by omega)
      have hb : Lx.trimR t.data.toList = Lx.bareL s.data.toList := by rw [hfin]; rfl
      have HB := Lib.hid hb
      clear hfin hb HC
      go_wp2_with fail
      go_loopw [0] (fun v wr => ∃ t : ByteArray, v = .string t ∧ w = wr ∧ t.size ≤ s.size ∧ Hid (Lx.trimR t.data.toList = Lx.bareL s.data.toList)) (fun v _ => Lib.strSize v)
      case atStart => exact ⟨t, rfl, rfl, ht, HB.out⟩
      case round =>
        obtain ⟨t, rfl, rfl, ht, HB⟩ := hrel
        by_cases h0 : (0 : Int) < t.size
        · have hw : IntKind.i64.wrap ((t.size : Int) - 1) = (t.size : Int) - 1 := IntWalk.i64_in _ (by omega)
          have hlast := Lx.last_cut t (by omega)
          have hk0 : (0 : Int) ≤ (t.size : Int) - 1 := by omega
          have hk1 : (t.size : Int) - 1 < t.size := by omega
          have hk2 : (t.size : Int) - 1 ≤ t.size := by omega
          have hnat : ((t.size : Int) - 1).toNat = t.size - 1 := by omega
          have hlt : t.size - 1 < t.size := by omega
          by_cases h32 : (t[t.size - 1].toNat : Int) = 32
          · have HN : Hid (Lx.trimR (t.extract 0 (t.size - 1)).data.toList = Lx.bareL s.data.toList) := by
              have := HB.out
              have e : t[t.size - 1] = 32 := UInt8.toNat_inj.1 (by simp; omega)
              rw [hlast, e, Lx.trimR_blank] at this
              exact this
            have hz : (t.extract 0 (t.size - 1)).size = t.size - 1 := by rw [ByteArray.size_extract]; omega
            have HZ := Lib.hid hz
            clear hlast hz
            go_wp2_with fail
            go_roundw
            case rel => exact ⟨_, rfl, by trivial, by rw [HZ.out]; omega, HN.out⟩
            case measure => simp [Lib.strSize, HZ.out]; omega
          · have HF : Hid (t.data.toList = Lx.bareL s.data.toList) := by
              have h := Lx.trimR_last (t.extract 0 (t.size - 1)).data.toList t[t.size - 1] (fun e => h32 (by rw [e]; rfl))
              rw [← hlast] at h
              have := HB.out
              rw [h] at this
              exact this
            clear hlast
            go_wp2_with fail
            go_ret
            exact ⟨by rw [← HF.out, Lib.mk_data]; rfl, rfl⟩
        · have HF : Hid (t.data.toList = Lx.bareL s.data.toList) := by
            have hl : t.data.toList.length = t.size := by simp
            have hz : t.data.toList = [] := List.eq_nil_of_length_eq_zero (by omega)
            have := HB.out
            rw [hz] at this ⊢
            exact this
          go_wp2_with fail
          go_ret
          exact ⟨by rw [← HF.out, Lib.mk_data]; rfl, rfl⟩
end Go.Proofs.YtadicempblgmhaaGreatDoor
