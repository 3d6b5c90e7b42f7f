/-
  For every text, LexTightest returns true: the tightest text of its tokens is not longer, and has the same tokens.
-/
import Derived.Test.YtadicempblgmhaaGreatDoorLawB
import Derived.Test.YtadicempblgmhaaGreatDoorSame
namespace Go.Proofs.YtadicempblgmhaaGreatDoor
open Go.RowKit Go.Shelf

namespace Lx
theorem stands_right {S : List UInt8} : ∀ (l : List Tok) (b : Nat), Stands S b l → l.all right = true
  | [], _, _ => rfl
  | t :: r, b, h => by
    obtain ⟨o, _, _, _, _, h5, _, _, _, h9⟩ := h
    simp only [List.all_cons, Bool.and_eq_true]
    exact ⟨by simp [right, h5], stands_right r _ h9⟩
theorem err_toks : ∀ (n : Nat) (line col : Int) (out : Red) (l : List UInt8), out.err = 0 → (refRead n line col out l).err ≠ 0 → (refRead n line col out l).toks = []
  | 0, _, _, _, _, h, e => absurd (by simpa [refRead] using h) e
  | n + 1, _, _, _, [], h, e => absurd (by simpa [refRead] using h) e
  | n + 1, line, col, out, c :: r, h, e => by
    have ih := err_toks n
    unfold refRead at e ⊢
    split at e
    · rename_i h1
      rw [if_pos h1]
      exact ih _ _ _ _ h e
    · rename_i h1
      rw [if_neg h1]
      split at e
      · rename_i h2
        rw [if_pos h2]
        exact ih _ _ _ _ h e
      · rename_i h2
        rw [if_neg h2]
        split at e
        · rename_i h3
          rw [if_pos h3]
          split at e
          · rename_i h4
            rw [if_pos h4]
          · rename_i h4
            rw [if_neg h4]
            exact ih _ _ _ _ h e
        · rename_i h3
          rw [if_neg h3]
          split at e
          · rename_i h4
            rw [if_pos h4]
          · rename_i h4
            rw [if_neg h4]
            exact ih _ _ _ _ h e
theorem readText_err (S : List UInt8) (h : (readText S).err ≠ 0) : (readText S).toks = [] := by
  unfold readText at h ⊢
  split at h
  · rename_i h1; rw [if_pos h1]
  · rename_i h1
    rw [if_neg h1]
    split at h
    · rename_i h2; rw [if_pos h2]
    · rename_i h2
      rw [if_neg h2, ← refRead_text]
      rw [← refRead_text] at h
      exact err_toks _ _ _ _ _ rfl h
theorem readText_small (l : List UInt8) (h : l.length ≤ 6000) : readText l = readLines l 1 := by
  have := readLines_count l 1
  unfold readText
  rw [if_neg (by omega), if_neg (by omega)]

/-- The tightest text of a text's tokens: no error, not longer, the same tokens. -/
theorem tightest (S : List UInt8) (hS : S.length ≤ 6000) (h : (readText S).err = 0) :
    written needs (readText S).toks = (textOf needs (readText S).toks, 0) ∧ (textOf needs (readText S).toks).length ≤ S.length ∧ (readText (textOf needs (readText S).toks)).err = 0 ∧ kinds (readText S).toks = kinds (readText (textOf needs (readText S).toks)).toks := by
  have hst := readText_stands S h
  have hr := stands_right _ _ hst
  have hc := readLines_count S 1
  rw [← readText_small S hS] at hc
  have hle := tight_le S _ 0 none hst (Nat.zero_le _) (fun p e => by cases e)
  rw [Nat.add_zero] at hle
  have hle2 : (textOf needs (readText S).toks).length ≤ S.length := hle
  have hrd := textFrom_read needs (fun _ _ _ _ h => h) (readText S).toks none (textOf needs (readText S).toks).length 1 1 {} hr (Nat.le_refl _)
  have e1 : readText (textOf needs (readText S).toks) = refRead (textOf needs (readText S).toks).length 1 1 {} (textOf needs (readText S).toks) := by
    rw [readText_small _ (by omega), refRead_text]
  refine ⟨?_, hle2, ?_, ?_⟩
  · unfold written
    rw [if_neg (by omega), if_neg (by rw [hr]; exact Bool.noConfusion), if_neg (by omega)]
  · rw [e1]; exact hrd.1
  · rw [e1]
    have := hrd.2.1
    simp [kinds] at this
    simp only [kinds]
    exact this.symm
end Lx

end Go.Proofs.YtadicempblgmhaaGreatDoor
