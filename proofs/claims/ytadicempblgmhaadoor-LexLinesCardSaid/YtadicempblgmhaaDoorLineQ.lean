/-
  What is read of lines has their numbers; tokens that stand in a text are at places of it. Plain functions.
-/
import Derived.Test.YtadicempblgmhaaDoorPatchA
import Derived.Test.YtadicempblgmhaaDoorStripR
namespace Go.Proofs.YtadicempblgmhaaDoor
namespace Lx

/-- Tokens that stand in a text are at places of it, in their order. -/
theorem stands_left (S : List UInt8) : ∀ (k : Nat) (l : List Tok), Stands S 0 l → k ≤ S.length + 1 → Stands S k (leftOf S l (List.range k))
  | 0, l, h, _ => h
  | k + 1, l, h, hk => by
    have ih := stands_left S k l h (by omega)
    rw [List.range_succ, leftOf_snoc]
    generalize leftOf S l (List.range k) = m at *
    have hstop : ∀ (m : List Tok), Stands S (k + 1) m → m.dropWhile (atPlace S k) = m := by
      intro m hm
      cases m with
      | nil => rfl
      | cons t ts =>
        obtain ⟨o, h1, h2, h3, _, _, _, h7, h8, _⟩ := hm
        rw [List.dropWhile_cons_of_neg]
        unfold atPlace
        intro e
        simp only [Bool.and_eq_true, beq_iff_eq] at e
        have hp : place S o = place S k := Prod.ext (by omega) (by omega)
        have := place_inj S (by omega) (by omega) hp
        omega
    cases m with
    | nil => trivial
    | cons t ts =>
      have ih0 := ih
      obtain ⟨o, h1, h2, h3, h4, h5, h6, h7, h8, h9⟩ := ih
      have hpos : 1 ≤ t.text.length := by
        cases hh : t.text with
        | nil => exact absurd hh h3
        | cons a b => simp
      by_cases ho : o = k
      · subst ho
        rw [List.dropWhile_cons_of_pos (by unfold atPlace; simp [h7, h8])]
        have h9' : Stands S (o + 1) ts := h9.mono (by omega)
        rw [hstop ts h9']
        exact h9'
      · have hm : Stands S (k + 1) (t :: ts) := ⟨o, by omega, h2, h3, h4, h5, h6, h7, h8, h9⟩
        rw [hstop _ hm]
        exact hm
theorem stands_placed (S : List UInt8) (l : List Tok) (h : Stands S 0 l) : placed l S = true := by
  have := stands_left S (S.length + 1) l h (Nat.le_refl _)
  unfold placed
  rw [List.isEmpty_iff]
  generalize leftOf S l (List.range (S.length + 1)) = m at *
  cases m with
  | nil => rfl
  | cons t ts =>
    obtain ⟨o, h1, h2, _⟩ := this
    omega

theorem take_line (r : Red) (x : List UInt8) (line col : Int) : (r.take x line col).2 = false → (r.take x line col).1.line = line := by
  unfold Red.take
  split
  · split
    · intro _; rfl
    · intro h; cases h
  · split
    · intro _; rfl
    · intro h; cases h
theorem takes_line (line : Int) : ∀ (xs : List (Nat × List UInt8)) (q : Red), (takes q line xs).2 = false → (takes q line xs).1.line = line
  | [], q, h => by cases h
  | x :: xs, q, h => by
    simp only [takes] at h ⊢
    cases hk : (q.take x.2 line ((x.1 : Int) + 1)).2 with
    | true =>
      rw [hk] at h
      exact takes_line line xs _ h
    | false =>
      simp only [Bool.false_eq_true, if_false]
      exact take_line _ _ _ _ hk

/-- The tokens of a line have its number. -/
theorem takes_lines (line : Int) : ∀ (xs : List (Nat × List UInt8)) (q : Red), (takes q line xs).2 = true → ∃ new, (takes q line xs).1.toks = q.toks ++ new ∧ ∀ t ∈ new, t.line = line
  | [], q, _ => ⟨[], by simp [takes], by simp⟩
  | x :: xs, q, h => by
    simp only [takes] at h ⊢
    cases hk : (q.take x.2 line ((x.1 : Int) + 1)).2 with
    | false => rw [hk] at h; simp at h
    | true =>
      rw [hk] at h
      simp only [if_true] at h ⊢
      obtain ⟨new, e1, e2⟩ := takes_lines line xs _ h
      have ht : ∃ one, (q.take x.2 line ((x.1 : Int) + 1)).1.toks = q.toks ++ one ∧ ∀ t ∈ one, t.line = line := by
        unfold Red.take at hk ⊢
        split
        · rename_i h1
          rw [if_pos h1] at hk
          split
          · rename_i h2; rw [if_pos h2] at hk; cases hk
          · exact ⟨[], by simp, by simp⟩
        · rename_i h1
          rw [if_neg h1] at hk
          split
          · rename_i h2; rw [if_pos h2] at hk; cases hk
          · exact ⟨_, rfl, by simp⟩
      obtain ⟨one, o1, o2⟩ := ht
      refine ⟨one ++ new, by rw [e1, o1, List.append_assoc], fun t ht => ?_⟩
      rcases List.mem_append.1 ht with h | h
      · exact o2 t h
      · exact e2 t h
theorem readLs_lines : ∀ (ls : List (List UInt8)) (n : Int) (q : Red), q.err = 0 → (readLs q n ls).err = 0 → ∃ new, (readLs q n ls).toks = q.toks ++ new ∧ ∀ t ∈ new, n ≤ t.line ∧ t.line < n + ls.length
  | [], n, q, _, _ => ⟨[], by simp [readLs], by simp⟩
  | x :: xs, n, q, h0, h => by
    simp only [readLs] at h ⊢
    cases hk : (takes q n (runs x)).2 with
    | false =>
      rw [hk] at h
      exact absurd h (takes_false n _ q hk)
    | true =>
      rw [hk] at h
      simp only [if_true] at h ⊢
      obtain ⟨one, o1, o2⟩ := takes_lines n _ q hk
      have he : (takes q n (runs x)).1.err = 0 := by
        have : ∀ (xs : List (Nat × List UInt8)) (q : Red), q.err = 0 → (takes q n xs).2 = true → (takes q n xs).1.err = 0 := by
          intro xs
          induction xs with
          | nil => intro q h _; exact h
          | cons x xs ih =>
            intro q h hk
            simp only [takes] at hk ⊢
            cases hk2 : (q.take x.2 n ((x.1 : Int) + 1)).2 with
            | false => rw [hk2] at hk; simp at hk
            | true =>
              rw [hk2] at hk
              simp only [if_true] at hk ⊢
              refine ih _ ?_ hk
              unfold Red.take at hk2 ⊢
              split
              · rename_i h1
                rw [if_pos h1] at hk2
                split
                · rename_i h2; rw [if_pos h2] at hk2; cases hk2
                · exact h
              · rename_i h1
                rw [if_neg h1] at hk2
                split
                · rename_i h2; rw [if_pos h2] at hk2; cases hk2
                · exact h
        exact this _ _ h0 hk
      obtain ⟨new, e1, e2⟩ := readLs_lines xs (n + 1) _ he h
      refine ⟨one ++ new, by rw [e1, o1, List.append_assoc], fun t ht => ?_⟩
      rcases List.mem_append.1 ht with h | h
      · have := o2 t h
        simp only [List.length_cons]
        omega
      · have := e2 t h
        simp only [List.length_cons]
        omega
end Lx
end Go.Proofs.YtadicempblgmhaaDoor
