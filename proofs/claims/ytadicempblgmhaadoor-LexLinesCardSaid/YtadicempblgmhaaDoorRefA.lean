/-
  The words, numbers and signs of the reference, as plain functions, are those of the program.
-/
import Derived.Test.YtadicempblgmhaaDoorKeys
namespace Go.Proofs.YtadicempblgmhaaDoor
namespace Lx

theorem contains_iff (s sub : List UInt8) (hne : sub ≠ []) : Lib.contains s sub = true ↔ ∃ j, sub.isPrefixOf (s.drop j) = true := by
  unfold Lib.contains
  rw [decide_eq_true_eq]
  rcases Lib.index_spec s sub with ⟨h1, h2⟩ | ⟨i, h1, h2, h3, h4⟩
  · rw [h1]
    refine ⟨fun h => absurd h (by decide), ?_⟩
    rintro ⟨j, hj⟩
    by_cases hjl : j ≤ s.length
    · have := h2 j hjl
      simp only [Lib.occAt] at this
      rw [this] at hj
      cases hj
    · rw [List.drop_eq_nil_of_le (by omega)] at hj
      cases sub with
      | nil => exact absurd rfl hne
      | cons a t => simp [List.isPrefixOf] at hj
  · rw [h1]
    refine ⟨fun _ => ⟨i, h3⟩, fun _ => by omega⟩

theorem prefix_sep {x : UInt8} : ∀ (l k t r : List UInt8), x ∉ l → x ∉ k → l ++ x :: t = k ++ x :: r → l = k
  | [], [], _, _, _, _, _ => rfl
  | [], b :: k, _, _, _, hk, h => by
    simp at h
    exact absurd (h.1 ▸ List.mem_cons_self) hk
  | a :: l, [], _, _, hl, _, h => by
    simp at h
    exact absurd (h.1 ▸ List.mem_cons_self) hl
  | a :: l, b :: k, t, r, hl, hk, h => by
    simp at h
    simp only [List.mem_cons, not_or] at hl hk
    rw [h.1, prefix_sep l k t r hl.2 hk.2 h.2]

def sep (ks : List (List UInt8)) : List UInt8 := 32 :: ks.flatMap (· ++ [32])

theorem sep_contains (l : List UInt8) (hl : (32 : UInt8) ∉ l) : ∀ (ks : List (List UInt8)), (∀ k ∈ ks, (32 : UInt8) ∉ k) → ((∃ j, (32 :: (l ++ [32])).isPrefixOf ((sep ks).drop j) = true) ↔ l ∈ ks)
  | [], _ => by
    simp only [List.not_mem_nil, iff_false, not_exists]
    intro j hj
    have := (List.isPrefixOf_iff_prefix.1 hj).length_le
    simp [sep] at this
    omega
  | k :: ks, hk => by
    have ih := sep_contains l hl ks (fun x hx => hk x (List.mem_cons_of_mem _ hx))
    have hk0 := hk k List.mem_cons_self
    have hs : sep (k :: ks) = 32 :: (k ++ sep ks) := by simp [sep]
    constructor
    · rintro ⟨j, hj⟩
      rw [hs] at hj
      rw [List.isPrefixOf_iff_prefix] at hj
      cases j with
      | zero =>
        obtain ⟨t, ht⟩ := hj
        simp [sep] at ht
        exact prefix_sep l k t _ hl hk0 ht ▸ List.mem_cons_self
      | succ j =>
        rw [List.drop_succ_cons] at hj
        by_cases hjk : j < k.length
        · obtain ⟨t, ht⟩ := hj
          rw [List.drop_append_of_le_length (by omega), List.drop_eq_getElem_cons hjk, List.cons_append, List.cons_append] at ht
          injection ht with h1 h2
          exact absurd (h1 ▸ List.getElem_mem hjk) hk0
        · rw [List.drop_append, List.drop_eq_nil_of_le (by omega), List.nil_append] at hj
          exact List.mem_cons_of_mem _ (ih.1 ⟨_, List.isPrefixOf_iff_prefix.2 hj⟩)
    · intro h
      rcases List.mem_cons.1 h with rfl | h
      · refine ⟨0, List.isPrefixOf_iff_prefix.2 ⟨ks.flatMap (· ++ [32]), ?_⟩⟩
        simp [sep]
      · obtain ⟨j, hj⟩ := ih.2 h
        refine ⟨j + (k.length + 1), ?_⟩
        rw [hs, Nat.add_comm j, ← List.drop_drop]
        rw [show List.drop (k.length + 1) (32 :: (k ++ sep ks)) = sep ks from by simp]
        exact hj

theorem kw_sep : kwText = sep keywords := by decide +kernel
theorem kw_solid : ∀ k ∈ keywords, (32 : UInt8) ∉ k := by decide +kernel
theorem kw_iff (l : List UInt8) (hl : (32 : UInt8) ∉ l) : Lib.contains kwText (32 :: (l ++ [32])) = true ↔ l ∈ keywords := by
  rw [contains_iff _ _ (by simp), kw_sep, sep_contains l hl _ kw_solid]

def lower (c : UInt8) : Bool := 97 ≤ c && c ≤ 122
def upper (c : UInt8) : Bool := 65 ≤ c && c ≤ 90

theorem named_lower (c : UInt8) (h : inRun c = true) : named 97 122 c = !upper c := by
  unfold inRun letter at h
  unfold named upper
  revert h
  cases hd : digit c
  · by_cases h1 : 97 ≤ c <;> by_cases h2 : c ≤ 122 <;> by_cases h3 : 65 ≤ c <;> by_cases h4 : c ≤ 90 <;> by_cases h5 : c = 95 <;> simp [h1, h2, h3, h4, h5] <;> simp only [UInt8.le_iff_toNat_le] at h1 h2 h3 h4 <;> simp at h1 h2 h3 h4 <;> omega
  · unfold digit at hd
    simp only [Bool.and_eq_true, decide_eq_true_eq, UInt8.le_iff_toNat_le] at hd
    simp [UInt8.le_iff_toNat_le] at hd ⊢
    omega
theorem named_upper (c : UInt8) (h : inRun c = true) : named 65 90 c = !lower c := by
  unfold inRun letter at h
  unfold named lower
  revert h
  cases hd : digit c
  · by_cases h1 : 97 ≤ c <;> by_cases h2 : c ≤ 122 <;> by_cases h3 : 65 ≤ c <;> by_cases h4 : c ≤ 90 <;> by_cases h5 : c = 95 <;> simp [h1, h2, h3, h4, h5] <;> simp only [UInt8.le_iff_toNat_le] at h1 h2 h3 h4 <;> simp at h1 h2 h3 h4 <;> omega
  · unfold digit at hd
    simp only [Bool.and_eq_true, decide_eq_true_eq, UInt8.le_iff_toNat_le] at hd
    simp [UInt8.le_iff_toNat_le] at hd ⊢
    omega

theorem all_lower : ∀ (l : List UInt8), l.all inRun = true → l.all (named 97 122) = !l.any upper
  | [], _ => rfl
  | c :: r, h => by
    simp only [List.all_cons, Bool.and_eq_true] at h
    simp only [List.all_cons, List.any_cons, named_lower c h.1, all_lower r h.2, Bool.not_or]
theorem all_upper : ∀ (l : List UInt8), l.all inRun = true → l.all (named 65 90) = !l.any lower
  | [], _ => rfl
  | c :: r, h => by
    simp only [List.all_cons, Bool.and_eq_true] at h
    simp only [List.all_cons, List.any_cons, named_upper c h.1, all_upper r h.2, Bool.not_or]

/-- The reference's kind of a word. -/
def refWord (l : List UInt8) : Int × Int :=
  if l ∈ keywords ∨ l ∈ capitals then (3, 0)
  else if l ∈ smalls then (0, 4)
  else if l.any lower && l.any upper then (0, 2)
  else if 20 < l.length then (0, 3)
  else if l.any lower then (1, 0)
  else (2, 0)

theorem smalls_apart : ∀ k ∈ smalls, k ∉ keywords ∧ k ∉ capitals := by decide +kernel
theorem inRun_solid : inRun 32 = false := by decide

theorem refWord_eq (c : UInt8) (r : List UInt8) (h : (c :: r).all inRun = true) (hc : letter c = true) : refWord (c :: r) = wordShape (c :: r) := by
  have h32 : (32 : UInt8) ∉ c :: r := by
    intro hm
    have := List.all_eq_true.1 h _ hm
    rw [inRun_solid] at this
    cases this
  have hlu : ((c :: r).any lower || (c :: r).any upper) = true := by
    simp only [List.any_cons]
    have : (lower c || upper c) = true := hc
    rw [Bool.or_eq_true] at this
    rcases this with h | h <;> simp [h]
  unfold refWord wordShape
  simp only [kw_iff _ h32, all_lower _ h, all_upper _ h, Bool.not_not]
  generalize hl : c :: r = l at *
  generalize l.any lower = lo at *
  generalize l.any upper = up at *
  by_cases h1 : l ∈ capitals
  · simp [h1]
  · by_cases h2 : l ∈ smalls
    · have := (smalls_apart l h2).1
      simp [h1, h2, this]
    · by_cases h3 : l ∈ keywords
      · simp [h1, h2, h3]
      · simp only [h1, h2, h3, or_self, if_false]
        cases lo <;> cases up <;> simp at hlu ⊢

/-- The reference's number. -/
def refNumber (l : List UInt8) : Int × Int :=
  if l.all digit = false then (0, 2)
  else if l.head? = some 48 ∧ 1 < l.length then (0, 2)
  else match numTo 0 l with
    | none => (0, 3)
    | some n => (n, 0)

theorem refNumber_eq (l : List UInt8) : refNumber l = number l := by
  unfold refNumber number
  have h1 := span_all digit l
  have h2 := span_le digit l
  by_cases h : l.all digit = true
  · have h3 : ¬ span digit l < l.length := by rw [h1.2 h]; omega
    rw [if_neg (by simp [h])]
    by_cases h4 : l.head? = some 48 ∧ 1 < l.length
    · rw [if_pos h4, if_pos (.inr ⟨h4.2, h4.1⟩)]
    · rw [if_neg h4, if_neg (by rintro (hh | hh); exact h3 hh; exact h4 ⟨hh.2, hh.1⟩)]
      cases numTo 0 l <;> rfl
  · have h3 : span digit l < l.length := by
      rcases Nat.lt_or_ge (span digit l) l.length with hh | hh
      · exact hh
      · exact absurd (h1.1 (by omega)) h
    rw [if_pos (by simpa using h), if_pos (.inl h3)]

/-- The reference's kind of a text. -/
def refShape (l : List UInt8) : Int × Int :=
  if l ∈ signs then (5, 0)
  else match l with
    | [] => (0, 2)
    | c :: r =>
      if span inRun (c :: r) < (c :: r).length ∨ c = 95 then (0, 2)
      else if digit c then (if (refNumber (c :: r)).2 ≠ 0 then (0, (refNumber (c :: r)).2) else (4, 0))
      else refWord (c :: r)

theorem signs_shape : ∀ x ∈ signs, shape x = (5, 0) := by decide +kernel
theorem longest_in (l : List UInt8) (h : longest l = l) (hne : l ≠ []) : l ∈ signs := by
  unfold longest at h
  split at h
  · rename_i hh; exact h ▸ hh.2
  · split at h
    · rename_i hh; exact h ▸ hh.2
    · exact absurd h.symm hne

theorem refShape_eq (l : List UInt8) : refShape l = shape l := by
  unfold refShape
  by_cases hs : l ∈ signs
  · rw [if_pos hs, signs_shape l hs]
  · rw [if_neg hs]
    cases l with
    | nil => rfl
    | cons c r =>
      dsimp only
      have h1 := span_all inRun (c :: r)
      have h2 := span_le inRun (c :: r)
      have hl : ¬ longest (c :: r) = c :: r := fun h => hs (longest_in _ h (by simp))
      unfold shape
      dsimp only
      rw [if_neg hl]
      by_cases ha : (c :: r).all inRun = true
      · have hlt : ¬ span inRun (c :: r) < (c :: r).length := by rw [h1.2 ha]; omega
        have hc : inRun c = true := by simp only [List.all_cons, Bool.and_eq_true] at ha; exact ha.1
        by_cases hlc : letter c = true
        · have hnd : digit c = false := by
            unfold letter at hlc
            simp [UInt8.le_iff_toNat_le] at hlc
            simp [digit, UInt8.le_iff_toNat_le]
            omega
          have hn95 : ¬ c = 95 := by rintro rfl; simp [letter] at hlc
          rw [if_neg (by rintro (hh | hh); exact hlt hh; exact hn95 hh), if_neg (by simp [hnd]), if_pos (by simp [ha, hlc] at *), refWord_eq c r ha hlc]
        · by_cases hdc : digit c = true
          · have hn95 : ¬ c = 95 := by rintro rfl; simp [digit] at hdc
            rw [if_neg (by rintro (hh | hh); exact hlt hh; exact hn95 hh), if_pos hdc, if_neg (c := ((c :: r).all inRun && letter c) = true) (by simp [hlc]), if_pos (c := ((c :: r).all inRun && digit c) = true) (by rw [ha, hdc]; rfl), refNumber_eq]
            by_cases he : (number (c :: r)).2 = 0
            · simp [he]
            · simp [he]
          · have h95 : c = 95 := by
              unfold inRun at hc
              simp [hlc, hdc] at hc
              exact hc
            rw [if_pos (.inr h95), if_neg (by simp [hlc]), if_neg (by simp [hdc])]
      · have hlt : span inRun (c :: r) < (c :: r).length := by
          rcases Nat.lt_or_ge (span inRun (c :: r)) (c :: r).length with hh | hh
          · exact hh
          · exact absurd (h1.1 (by omega)) ha
        rw [if_pos (.inl hlt), if_neg (by intro h; exact ha (by simp only [Bool.and_eq_true] at h; exact h.1)), if_neg (by intro h; exact ha (by simp only [Bool.and_eq_true] at h; exact h.1))]
end Lx
end Go.Proofs.YtadicempblgmhaaDoor
