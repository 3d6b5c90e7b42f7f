/-
  What number, wordShape, Shape and Value return in package lex.
-/
import Derived.Test.YtadicempblgmhaaDoorShapeB
namespace Go.Proofs.YtadicempblgmhaaDoor
open Go.RowKit

theorem numTo_snoc (l : List UInt8) (c : UInt8) (n : Int) : Lx.numTo n (l ++ [c]) = (Lx.numTo n l).bind fun m => if 1099511627776 < 10 * m + ((c.toNat : Int) - 48) then none else some (10 * m + ((c.toNat : Int) - 48)) := by
  induction l generalizing n with
  | nil => simp only [List.nil_append, Lx.numTo, Option.bind]
  | cons d r ih =>
    simp only [List.cons_append, Lx.numTo]
    split
    · rfl
    · exact ih _
theorem numTo_none (l r : List UInt8) (n : Int) (h : Lx.numTo n l = none) : Lx.numTo n (l ++ r) = none := by
  induction l generalizing n with
  | nil => simp [Lx.numTo] at h
  | cons d l ih =>
    simp only [List.cons_append, Lx.numTo] at h ⊢
    split
    · rfl
    · rename_i hh
      rw [if_neg hh] at h
      exact ih _ h
/-- Of digits alone the number so far is not negative and not too great. -/
theorem numTo_range (l : List UInt8) (n m : Int) (hd : l.all Lx.digit = true) (h : Lx.numTo n l = some m) (h0 : 0 ≤ n) (h1 : n ≤ 1099511627776) : 0 ≤ m ∧ m ≤ 1099511627776 := by
  induction l generalizing n with
  | nil => simp [Lx.numTo] at h; omega
  | cons d l ih =>
    simp only [List.all_cons, Bool.and_eq_true] at hd
    simp only [Lx.numTo] at h
    split at h
    · cases h
    · have := hd.1
      rw [digit_eq] at this
      simp at this
      exact ih _ hd.2 h (by omega) (by omega)

theorem take_snoc (s : ByteArray) (k : Nat) (h : k < s.size) : s.data.toList.take (k + 1) = s.data.toList.take k ++ [s[k]] := by
  rw [List.take_succ_eq_append_getElem (by simpa using h)]; rfl

set_option maxHeartbeats 400000 in
theorem number_any (s : ByteArray) (w : World) (hs : s.size ≤ maxLen) (h1 : 0 < s.size) :
    Calls Tryd.prog 54 #[.string s] w fun e w' => e = .returned (.tuple #[.int .i64 (Lx.number s.data.toList).1, .int .i64 (Lx.number s.data.toList).2]) ∧ w = w' := by
  unfold maxLen at hs
  by_cases hsp : Lx.span Lx.digit s.data.toList < s.size
  · have hfin : Lx.number s.data.toList = (0, 2) := by unfold Lx.number; rw [if_pos (.inl (by simpa using hsp))]
    have HF := Lib.hid hfin
    clear hfin
    go_enter Tryd.func54, Tryd.ntmps54
    go_wp2_with (go_at_call 49; refine (span_isDigit s _ (by unfold maxLen; omega)).mono ?_; rintro e w' ⟨rfl, rfl⟩)
    go_ret2
    exact ⟨by rw [HF.out]; rfl, rfl⟩
  · have hall : s.data.toList.all Lx.digit = true := (Lx.span_all _ _).1 (by have := Lx.span_le Lx.digit s.data.toList; simp at this ⊢; omega)
    have Hall := Lib.hid hall
    have hhead : s.data.toList.head? = some s[0] := by
      rw [List.head?_eq_getElem?, List.getElem?_eq_getElem (by simpa using h1)]; rfl
    have HH := Lib.hid hhead
    have hspn : (Lx.span Lx.digit s.data.toList : Int) = s.size := by have := Lx.span_le Lx.digit s.data.toList; simp at this; omega
    have Hspn := Lib.hid hspn
    clear hall hhead hspn
    by_cases hz : (1 : Int) < s.size ∧ ((s[0].toNat : Int) == 48) = true
    · have hfin : Lx.number s.data.toList = (0, 2) := by
        unfold Lx.number
        rw [if_pos (.inr ⟨by simp; omega, by rw [HH.out]; congr 1; exact UInt8.toNat_inj.1 (by have := hz.2; simp at this; simp; omega)⟩)]
      have HF := Lib.hid hfin
      clear hfin
      obtain ⟨hz1, hz2⟩ := hz
      go_enter Tryd.func54, Tryd.ntmps54
      go_wp2_with (go_at_call 49; refine (span_isDigit s _ (by unfold maxLen; omega)).mono ?_; rintro e w' ⟨rfl, rfl⟩; rw [Hspn.out])
      go_ret2
      exact ⟨by rw [HF.out]; rfl, rfl⟩
    · have hno : ¬ (Lx.span Lx.digit s.data.toList < s.data.toList.length ∨ (1 < s.data.toList.length ∧ s.data.toList.head? = some 48)) := by
        rintro (h | ⟨h2, h3⟩)
        · exact hsp (by simpa using h)
        · apply hz
          rw [HH.out] at h3
          simp at h2 h3
          exact ⟨by omega, by rw [h3]; rfl⟩
      have hf1 : Lx.numTo 0 s.data.toList = none → Lx.number s.data.toList = (0, 3) := fun h => by
        unfold Lx.number; rw [if_neg hno, h]
      have hf2 : ∀ n, Lx.numTo 0 s.data.toList = some n → Lx.number s.data.toList = (n, 0) := fun n h => by
        unfold Lx.number; rw [if_neg hno, h]
      have H1 := Lib.hid hf1
      have H2 := Lib.hid hf2
      clear hf1 hf2 hno
      have hz3 : (1 : Int) < s.size → ((s[0].toNat : Int) == 48) = false := fun h1 => by
        rw [Bool.eq_false_iff]; exact fun h => hz ⟨h1, h⟩
      clear hz
      by_cases hz1 : (1 : Int) < s.size
      · have hz2 := hz3 hz1
        clear hz3
        go_enter Tryd.func54, Tryd.ntmps54
        go_wp2_with (go_at_call 49; refine (span_isDigit s _ (by unfold maxLen; omega)).mono ?_; rintro e w' ⟨rfl, rfl⟩; rw [Hspn.out])
        go_loop [4, 5] (fun n i => ∃ (k : Nat) (m : Int), k ≤ s.size ∧ i = .int .i64 k ∧ n = .int .i64 m ∧ Hid (Lx.numTo 0 (s.data.toList.take k) = some m) ∧ 0 ≤ m ∧ m ≤ 1099511627776) (fun _ i => s.size - (intOf i).toNat)
        case atStart => exact ⟨0, 0, Nat.zero_le _, rfl, rfl, rfl, by omega, by omega⟩
        case round =>
          obtain ⟨k, m, hk, rfl, rfl, HM, hm0, hm1⟩ := hrel
          by_cases hlt : k < s.size
          · have hdk : 48 ≤ (s[k].toNat : Int) ∧ (s[k].toNat : Int) ≤ 57 := by
              have := List.all_eq_true.1 Hall.out s[k] (List.getElem_mem (l := s.data.toList) (by simpa using hlt))
              rw [digit_eq] at this; simpa using this
            obtain ⟨hd0, hd1⟩ := hdk
            have hsn := numTo_snoc (s.data.toList.take k) s[k] 0
            rw [← take_snoc s k hlt, HM.out] at hsn
            have HSN := Lib.hid hsn
            clear hsn
            go_wp2
            · have hb : 1099511627776 < 10 * m + ((s[k].toNat : Int) - 48) := by assumption
              have hnone : Lx.numTo 0 s.data.toList = none := by
                have h1 := HSN.out
                simp only [Option.bind, hb, if_true] at h1
                have := numTo_none _ (s.data.toList.drop (k + 1)) 0 h1
                rwa [List.take_append_drop] at this
              go_ret2
              exact ⟨by rw [H1.out hnone]; rfl, rfl⟩
            · have hb : 10 * m + ((s[k].toNat : Int) - 48) ≤ 1099511627776 := by assumption
              go_round
              case rel => exact ⟨k + 1, _, by omega, by go_num, rfl, by
                have h1 := HSN.out
                simp only [Option.bind, Int.not_lt.2 hb, if_false] at h1
                exact h1, by omega, hb⟩
              case measure => simp [intOf]; omega
          · obtain rfl : k = s.size := by omega
            have hsome : Lx.numTo 0 s.data.toList = some m := by
              have := HM.out
              rwa [List.take_of_length_le (by simp)] at this
            have HFF := Lib.hid (H2.out m hsome)
            clear hsome
            go_wp2
            go_ret2
            exact ⟨by rw [HFF.out]; rfl, rfl⟩
      · have HZ3 := Lib.hid hz3
        clear hz3
        go_enter Tryd.func54, Tryd.ntmps54
        go_wp2_with (go_at_call 49; refine (span_isDigit s _ (by unfold maxLen; omega)).mono ?_; rintro e w' ⟨rfl, rfl⟩; rw [Hspn.out])
        go_loop [4, 5] (fun n i => ∃ (k : Nat) (m : Int), k ≤ s.size ∧ i = .int .i64 k ∧ n = .int .i64 m ∧ Hid (Lx.numTo 0 (s.data.toList.take k) = some m) ∧ 0 ≤ m ∧ m ≤ 1099511627776) (fun _ i => s.size - (intOf i).toNat)
        case atStart => exact ⟨0, 0, Nat.zero_le _, rfl, rfl, rfl, by omega, by omega⟩
        case round =>
          obtain ⟨k, m, hk, rfl, rfl, HM, hm0, hm1⟩ := hrel
          by_cases hlt : k < s.size
          · have hdk : 48 ≤ (s[k].toNat : Int) ∧ (s[k].toNat : Int) ≤ 57 := by
              have := List.all_eq_true.1 Hall.out s[k] (List.getElem_mem (l := s.data.toList) (by simpa using hlt))
              rw [digit_eq] at this; simpa using this
            obtain ⟨hd0, hd1⟩ := hdk
            have hsn := numTo_snoc (s.data.toList.take k) s[k] 0
            rw [← take_snoc s k hlt, HM.out] at hsn
            have HSN := Lib.hid hsn
            clear hsn
            go_wp2
            · have hb : 1099511627776 < 10 * m + ((s[k].toNat : Int) - 48) := by assumption
              have hnone : Lx.numTo 0 s.data.toList = none := by
                have h1 := HSN.out
                simp only [Option.bind, hb, if_true] at h1
                have := numTo_none _ (s.data.toList.drop (k + 1)) 0 h1
                rwa [List.take_append_drop] at this
              go_ret2
              exact ⟨by rw [H1.out hnone]; rfl, rfl⟩
            · have hb : 10 * m + ((s[k].toNat : Int) - 48) ≤ 1099511627776 := by assumption
              go_round
              case rel => exact ⟨k + 1, _, by omega, by go_num, rfl, by
                have h1 := HSN.out
                simp only [Option.bind, Int.not_lt.2 hb, if_false] at h1
                exact h1, by omega, hb⟩
              case measure => simp [intOf]; omega
          · obtain rfl : k = s.size := by omega
            have hsome : Lx.numTo 0 s.data.toList = some m := by
              have := HM.out
              rwa [List.take_of_length_le (by simp)] at this
            have HFF := Lib.hid (H2.out m hsome)
            clear hsome
            go_wp2
            go_ret2
            exact ⟨by rw [HFF.out]; rfl, rfl⟩

theorem of_list {s : ByteArray} {l : List UInt8} (h : s.data.toList = l) : s = ⟨l.toArray⟩ := by subst h; exact (Lib.mk_data s).symm
theorem beq_no (s : ByteArray) (l : List UInt8) (h : s.data.toList ≠ l) : (s.toList == l) = false := by
  rw [beq_eq_false_iff_ne, Lib.toList_data]; exact h

set_option maxRecDepth 100000 in
set_option maxHeartbeats 1000000 in
theorem wordShape_fixed (s : ByteArray) (w : World) (h : s.data.toList ∈ Lx.capitals ∨ s.data.toList ∈ Lx.smalls) :
    Calls Tryd.prog 52 #[.string s] w fun e w' => e = .returned (.tuple #[.int .i64 (Lx.wordShape s.data.toList).1, .int .i64 (Lx.wordShape s.data.toList).2]) ∧ w = w' := by
  simp only [Lx.capitals, Lx.smalls, List.mem_cons, List.mem_nil_iff, or_false] at h
  rcases h with (h | h | h | h | h) | (h | h | h | h | h) <;> obtain rfl := of_list h <;> clear h
  all_goals
    go_enter Tryd.func52, Tryd.ntmps52
    go_wp2_with fail
    go_ret2
    exact ⟨by rfl, rfl⟩

set_option maxRecDepth 100000 in
set_option maxHeartbeats 1000000 in
theorem wordShape_other (s : ByteArray) (w : World) (hs : s.size ≤ 1000000) (hE : Env w) (h1 : s.data.toList ∉ Lx.capitals) (h2 : s.data.toList ∉ Lx.smalls) :
    Calls Tryd.prog 52 #[.string s] w fun e w' => e = .returned (.tuple #[.int .i64 (Lx.wordShape s.data.toList).1, .int .i64 (Lx.wordShape s.data.toList).2]) ∧ Below w.heap.size w w' := by
  have g1 := h1; have g2 := h2
  simp only [Lx.capitals, Lx.smalls, List.mem_cons, List.mem_nil_iff, or_false, not_or] at g1 g2
  obtain ⟨a1, a2, a3, a4, a5⟩ := g1
  obtain ⟨b1, b2, b3, b4, b5⟩ := g2
  replace a1 := beq_no _ _ a1; replace a2 := beq_no _ _ a2; replace a3 := beq_no _ _ a3; replace a4 := beq_no _ _ a4; replace a5 := beq_no _ _ a5
  replace b1 := beq_no _ _ b1; replace b2 := beq_no _ _ b2; replace b3 := beq_no _ _ b3; replace b4 := beq_no _ _ b4; replace b5 := beq_no _ _ b5
  have cK : Calls Tryd.prog 97 #[.string ⟨Lx.kwText.toArray⟩, .string (⟨#[32]⟩ ++ s ++ ⟨#[32]⟩)] w fun e w' => e = .returned (.bool (Lib.contains Lx.kwText (32 :: (s.data.toList ++ [32])))) ∧ w = w' := by
    have := contains_any ⟨Lx.kwText.toArray⟩ (⟨#[32]⟩ ++ s ++ ⟨#[32]⟩) w (by decide) hE
    rw [show ((⟨#[32]⟩ ++ s ++ ⟨#[32]⟩ : ByteArray)).data.toList = 32 :: (s.data.toList ++ [32]) from by simp] at this
    exact this
  have hsp : Lx.wordShape s.data.toList = if Lib.contains Lx.kwText (32 :: (s.data.toList ++ [32])) then (3, 0) else if !(s.data.toList.all (Lx.named 97 122)) && !(s.data.toList.all (Lx.named 65 90)) then (0, 2)
      else if 20 < s.data.toList.length then (0, 3) else if s.data.toList.all (Lx.named 97 122) then (1, 0) else (2, 0) := by
    unfold Lx.wordShape; rw [if_neg h1, if_neg h2]
  have hq1 : ((Lx.span (Lx.named 97 122) s.data.toList : Int) == s.size) = s.data.toList.all (Lx.named 97 122) := by
    rw [Bool.eq_iff_iff, ← Lx.span_all]; simp; omega
  have hq2 : ((Lx.span (Lx.named 65 90) s.data.toList : Int) == s.size) = s.data.toList.all (Lx.named 65 90) := by
    rw [Bool.eq_iff_iff, ← Lx.span_all]; simp; omega
  have hlen : s.data.toList.length = s.size := by simp
  rw [hlen] at hsp
  clear hlen
  generalize Lib.contains Lx.kwText (32 :: (s.data.toList ++ [32])) = bk at cK hsp
  generalize s.data.toList.all (Lx.named 97 122) = b1' at hq1 hsp
  generalize s.data.toList.all (Lx.named 65 90) = b2' at hq2 hsp
  have HSP := Lib.hid hsp
  have CK := Lib.hid cK
  clear hsp cK h1 h2
  cases bk with
  | true =>
    go_enter Tryd.func52, Tryd.ntmps52
    go_wp2_with (go_at_call 97; refine CK.out.mono ?_; rintro e w' ⟨rfl, rfl⟩)
    go_ret2
    exact ⟨by rw [HSP.out]; rfl, Below.refl _ _⟩
  | false =>
    have N1 := fun w => nameByte_any 97 122 w
    have N2 := fun w => nameByte_any 65 90 w
    have NN1 := Lib.hid N1
    have NN2 := Lib.hid N2
    clear N1 N2
    go_enter Tryd.func52, Tryd.ntmps52
    go_wp2_with (go_at_call 97; refine CK.out.mono ?_; rintro e w' ⟨rfl, rfl⟩)
    refine (NN1.out _).mono ?_
    rintro e w1 ⟨rfl, rfl⟩
    go_wp2_with fail
    refine (span_named s 97 122 _ _ _ (by unfold maxLen; omega) (by go_simp) (by go_simp)).mono ?_
    rintro e w1 ⟨rfl, rfl⟩
    have H1 : Hid (((Lx.span (Lx.named 97 122) s.data.toList : Int) == s.size) = b1') := hq1
    go_wp2_with fail
    clear hq1
    refine (NN2.out _).mono ?_
    rintro e w1 ⟨rfl, rfl⟩
    go_wp2_with fail
    refine (span_named s 65 90 _ _ _ (by unfold maxLen; omega) (by go_simp) (by go_simp)).mono ?_
    rintro e w1 ⟨rfl, rfl⟩
    cases b1' <;> cases b2'
    · go_wp2
      go_ret2
      exact ⟨by rw [HSP.out]; rfl, (((((Below.refl _ _).alloc (Nat.le_refl _) _).alloc (by simp) _).alloc (by simp; omega) _).alloc (by simp; omega) _)⟩
    all_goals
      by_cases hl : (20 : Int) < s.size
      · go_wp2
        go_ret2
        exact ⟨by rw [HSP.out, if_pos (show 20 < s.size by omega)]; rfl, (((((Below.refl _ _).alloc (Nat.le_refl _) _).alloc (by simp) _).alloc (by simp; omega) _).alloc (by simp; omega) _)⟩
      · go_wp2
        go_ret2
        exact ⟨by rw [HSP.out, if_neg (show ¬ 20 < s.size by omega)]; rfl, (((((Below.refl _ _).alloc (Nat.le_refl _) _).alloc (by simp) _).alloc (by simp; omega) _).alloc (by simp; omega) _)⟩
end Go.Proofs.YtadicempblgmhaaDoor
