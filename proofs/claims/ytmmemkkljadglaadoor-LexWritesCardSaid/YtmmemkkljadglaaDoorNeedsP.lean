/-
  Two right tokens, one behind the other, are read back exactly if nothing is needed between them. Plain functions.
-/
import Derived.Test.YtmmemkkljadglaaDoorTight
import Derived.Test.YtmmemkkljadglaaDoorRefH
namespace Go.Proofs.YtmmemkkljadglaaDoor
namespace Lx

theorem refRead_prefix : ∀ (n : Nat) (line col : Int) (out : Red) (l : List UInt8), out.err = 0 → (refRead n line col out l).err = 0 → out.toks <+: (refRead n line col out l).toks
  | 0, _, _, _, _, _, _ => by simp [refRead]
  | n + 1, _, _, _, [], _, _ => by simp [refRead]
  | n + 1, line, col, out, c :: r, h, e => by
    have ih := refRead_prefix n
    unfold refRead at e ⊢
    split at e
    · rename_i h1
      rw [if_pos h1]
      exact ih _ _ _ _ h e
    · rename_i h1
      rw [if_neg h1]
      split at e
      · rename_i h2
        rw [if_pos h2]
        exact ih _ _ _ _ h e
      · rename_i h2
        rw [if_neg h2]
        split at e
        · rename_i h3
          rw [if_pos h3]
          split at e
          · simp at e
          · rename_i h4
            rw [if_neg h4]
            exact ih _ _ _ _ (by exact h) e
        · rename_i h3
          rw [if_neg h3]
          split at e
          · rename_i h4
            exact absurd e h4
          · rename_i h4
            rw [if_neg h4]
            exact (List.prefix_append _ _).trans (ih _ _ _ _ (by exact h) e)

theorem signs_dash : ∀ x ∈ signs, x.head? = some 45 → x = [45] := by decide +kernel
theorem right_dash {l : List UInt8} (h : (shape l).2 = 0) (hd : l.head? = some 45) : l = [45] := by
  rcases shape_cases l h with hs | ⟨_, c, r, hl0, hl⟩
  · exact signs_dash l hs hd
  · rw [hl0] at hd
    have hc : c = 45 := by simpa using hd
    rw [hc] at hl
    have h0 : (letter 45 || digit 45) = false := by decide
    rw [h0] at hl
    cases hl
theorem right_head {l : List UInt8} (h : (shape l).2 = 0) : ∃ c r, l = c :: r ∧ c ≠ 10 ∧ c ≠ 32 := by
  rcases shape_cases l h with hs | ⟨_, c, r, rfl, hl⟩
  · obtain ⟨h1, _, _, h4, _⟩ := signs_form l hs
    cases l with
    | nil => exact absurd rfl h1
    | cons c r => exact ⟨c, r, rfl, (h4 c rfl).2.2.2⟩
  · refine ⟨c, r, rfl, ?_, ?_⟩
    · rintro rfl
      revert hl
      decide
    · rintro rfl
      revert hl
      decide

theorem two_read {a b : Tok} (ha : right a = true) (hb : right b = true) : needs a b = false ↔ ((readLines (a.text ++ b.text) 1).err = 0 ∧ kinds (readLines (a.text ++ b.text) 1).toks = kinds [a, b]) := by
  have hsa := right_shape ha
  have hsb := right_shape hb
  rw [← refRead_lines]
  constructor
  · intro h
    have e : textFrom needs none [a, b] = a.text ++ b.text := by simp [textFrom, h]
    have hr := textFrom_read needs (fun _ _ _ _ h => h) [a, b] none (a.text ++ b.text).length 1 1 {} (by simp [ha, hb]) (by rw [e]; exact Nat.le_refl _)
    rw [e] at hr
    exact ⟨hr.1, by simpa [kinds] using hr.2.1⟩
  · rintro ⟨h1, h2⟩
    rw [needs_iff ha hb]
    obtain ⟨c, r, hc, h10, h32⟩ := right_head hsa.1
    by_cases hp : [45, 45].isPrefixOf (a.text ++ b.text) = true
    · exfalso
      obtain ⟨d, e, hd, _, _⟩ := right_head hsb.1
      have hc45 : c = 45 := by
        rw [hc] at hp
        simp only [List.cons_append, List.isPrefixOf, Bool.and_eq_true, beq_iff_eq] at hp
        exact hp.1.symm
      have ea : a.text = [45] := right_dash hsa.1 (by rw [hc, hc45]; rfl)
      have hd45 : d = 45 := by
        rw [ea, hd] at hp
        simp [List.isPrefixOf] at hp
        exact hp.symm
      have eb : b.text = [45] := right_dash hsb.1 (by rw [hd, hd45]; rfl)
      rw [ea, eb] at h2
      have hz : (refRead ([45] ++ [45] : List UInt8).length 1 1 {} ([45] ++ [45])).toks = [] := by decide +kernel
      rw [hz] at h2
      simp [kinds] at h2
    · have hp' : [45, 45].isPrefixOf (a.text ++ b.text) = false := by rw [Bool.eq_false_iff]; exact hp
      generalize hfin : refRead (a.text ++ b.text).length 1 1 {} (a.text ++ b.text) = fin at *
      obtain ⟨_, _, _, q4⟩ := refRead_at (a.text ++ b.text).length 1 1 {} (a.text ++ b.text) c (r ++ b.text) (by rw [hc]; rfl) (Nat.le_refl _) fin hfin
      obtain ⟨e1, e2⟩ := q4 h10 h32 hp'
      by_cases hs : (shape (refRun (a.text ++ b.text))).2 = 0
      · obtain ⟨m, _, hr⟩ := e2 hs
        have hpre : [(⟨(shape (refRun (a.text ++ b.text))).1, refRun (a.text ++ b.text), 1, 1⟩ : Tok)] <+: fin.toks := by
          rw [← hr] at h1 ⊢
          exact refRead_prefix m _ _ _ _ rfl h1
        obtain ⟨rest, hrest⟩ := hpre
        rw [← hrest] at h2
        simp [kinds] at h2
        exact apart_of_run a.text b.text hsa.1 h2.1.2 hp'
      · have := e1 hs
        rw [this] at h1
        exact absurd h1 hs
end Lx
end Go.Proofs.YtmmemkkljadglaaDoor
