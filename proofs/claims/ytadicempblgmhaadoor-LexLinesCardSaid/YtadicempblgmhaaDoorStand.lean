/-
  Places and offsets undo each other, and tokens stand at their places. Plain functions.
-/
import Derived.Test.YtadicempblgmhaaDoorRefB
import Derived.Test.YtadicempblgmhaaDoorEdit
namespace Go.Proofs.YtadicempblgmhaaDoor
namespace Lx

def plt (p q : Nat × Nat) : Prop := p.1 < q.1 ∨ (p.1 = q.1 ∧ p.2 < q.2)
theorem plt_step (p : Nat × Nat) (c : UInt8) : plt p (pstep p c) := by
  unfold pstep plt
  split
  · left; show p.1 < p.1 + 1; omega
  · right; exact ⟨rfl, by show p.2 < p.2 + 1; omega⟩
theorem plt_trans {p q r : Nat × Nat} (h : plt p q) (k : plt q r) : plt p r := by
  unfold plt at *
  omega
theorem plt_irrefl {p : Nat × Nat} (h : plt p p) : False := by
  unfold plt at h
  omega
theorem place_lt (l : List UInt8) (j : Nat) : ∀ k, j < k → k ≤ l.length → plt (place l j) (place l k)
  | 0, h, _ => absurd h (Nat.not_lt_zero _)
  | k + 1, h, hl => by
    have hs := place_succ l k (by omega)
    have h1 : plt (place l k) (place l (k + 1)) := hs ▸ plt_step _ _
    rcases Nat.lt_or_ge j k with hj | hj
    · exact plt_trans (place_lt l j k hj (by omega)) h1
    · obtain rfl : j = k := by omega
      exact h1
theorem place_inj (l : List UInt8) {j k : Nat} (hj : j ≤ l.length) (hk : k ≤ l.length) (h : place l j = place l k) : j = k := by
  rcases Nat.lt_trichotomy j k with h1 | h1 | h1
  · exact (plt_irrefl (h ▸ place_lt l j k h1 hk)).elim
  · exact h1
  · exact (plt_irrefl (h ▸ place_lt l k j h1 hj)).elim

theorem offset_place (l : List UInt8) (k : Nat) (hk : k ≤ l.length) : offset l (((place l k).1 : Int), ((place l k).2 : Int)) = ((k : Int), 0) := by
  unfold offset
  have h : (List.range (l.length + 1)).find? (fun j => (((place l j).1 : Int) == ((place l k).1 : Int)) && (((place l j).2 : Int) == ((place l k).2 : Int))) = some k := by
    rw [List.find?_range_eq_some]
    refine ⟨by simp, by simp; omega, fun j hj => ?_⟩
    by_cases hh : place l j = place l k
    · have := place_inj l (by omega) hk hh
      omega
    · simp only [Bool.not_eq_eq_eq_not, Bool.not_true, Bool.and_eq_false_iff, beq_eq_false_iff_ne]
      by_cases h1 : (place l j).1 = (place l k).1
      · right
        intro h2
        exact hh (Prod.ext h1 (by omega))
      · left
        omega
  rw [h]

/-- Tokens stand in a text, one behind the other, from an offset on. -/
def Stands (S : List UInt8) : Nat → List Tok → Prop
  | _, [] => True
  | b, t :: ts => ∃ o, b ≤ o ∧ o + t.text.length ≤ S.length ∧ t.text ≠ [] ∧ refRun (S.drop o) = t.text ∧ shape t.text = (t.kind, 0) ∧ [45, 45].isPrefixOf (S.drop o) = false ∧ ((place S o).1 : Int) = t.line ∧ ((place S o).2 : Int) = t.col ∧ Stands S (o + t.text.length) ts

theorem Stands.mono {S : List UInt8} {a b : Nat} {l : List Tok} (h : Stands S b l) (hab : a ≤ b) : Stands S a l := by
  cases l with
  | nil => trivial
  | cons t ts =>
    obtain ⟨o, h1, h2⟩ := h
    exact ⟨o, by omega, h2⟩

theorem place_run (S : List UInt8) (b : Nat) : ∀ k, b + k ≤ S.length → (10 : UInt8) ∉ (S.drop b).take k → place S (b + k) = ((place S b).1, (place S b).2 + k)
  | 0, _, _ => rfl
  | k + 1, h, hn => by
    have hlt : k < (S.drop b).length := by rw [List.length_drop]; omega
    rw [List.take_succ_eq_append_getElem hlt, List.mem_append, not_or] at hn
    have ih := place_run S b k (by omega) hn.1
    rw [show b + (k + 1) = (b + k) + 1 from by omega, place_succ S (b + k) (by omega), ih]
    have : S[b + k] ≠ 10 := by
      intro hh
      apply hn.2
      rw [List.getElem_drop, hh]
      simp
    unfold pstep
    rw [if_neg this]
    rfl

theorem refNote_solid (l : List UInt8) : (10 : UInt8) ∉ refNote l := by
  induction l with
  | nil => simp [refNote]
  | cons c r ih =>
    by_cases h : c = 10
    · subst h; rw [refNote_nl]; simp
    · rw [refNote_cons c r h, List.mem_cons, not_or]
      exact ⟨fun e => h e.symm, ih⟩
theorem span_solid (p : UInt8 → Bool) (hp : p 10 = false) (l : List UInt8) : (10 : UInt8) ∉ l.take (span p l) := by
  intro h
  have := span_take p l _ h
  rw [hp] at this
  cases this
theorem refRun_take (l : List UInt8) : refRun l = l.take (refRun l).length := by
  unfold refRun
  split
  · rfl
  · split
    · have := span_le inRun (by assumption :: by assumption)
      rw [List.length_take]
      congr 1
      omega
    · exact longest_take _
theorem refRun_solid (l : List UInt8) : (10 : UInt8) ∉ refRun l := by
  unfold refRun
  split
  · simp
  · split
    · exact span_solid inRun (by decide) _
    · unfold longest
      split
      · rename_i h; exact signs_solid _ h.2
      · split
        · rename_i h; exact signs_solid _ h.2
        · simp
theorem refRun_ne (l : List UInt8) (h : (shape (refRun l)).2 = 0) : refRun l ≠ [] := by
  intro he
  rw [he] at h
  simp [shape] at h

theorem refRead_stands (S : List UInt8) : ∀ (n : Nat) (line col : Int) (out : Red) (l : List UInt8) (b : Nat), l.length ≤ n → l = S.drop b → b ≤ S.length → ((place S b).1 : Int) = line → ((place S b).2 : Int) = col →
    out.err = 0 → (refRead n line col out l).err = 0 → ∃ new, (refRead n line col out l).toks = out.toks ++ new ∧ Stands S b new
  | 0, line, col, out, l, b, _, _, _, _, _, _, _ => ⟨[], by simp [refRead], trivial⟩
  | n + 1, line, col, out, [], b, _, _, _, _, _, _, _ => ⟨[], by simp [refRead], trivial⟩
  | n + 1, line, col, out, c :: r, b, hn, hl, hb, h1, h2, h0, he => by
    have ih := refRead_stands S n
    simp only [List.length_cons] at hn
    have hlen : r.length + 1 = S.length - b := by
      have := congrArg List.length hl
      rw [List.length_drop] at this
      simpa using this
    have hlt : b < S.length := by omega
    have hcr : S[b] = c ∧ S.drop (b + 1) = r := by
      have hl' := hl
      rw [List.drop_eq_getElem_cons hlt] at hl'
      injection hl' with e1 e2
      exact ⟨e1.symm, e2.symm⟩
    have hstep := place_succ S b hlt
    rw [hcr.1] at hstep
    unfold refRead at he ⊢
    by_cases h10 : c = 10
    · rw [if_pos h10] at he ⊢
      obtain ⟨new, e1, e2⟩ := ih (line + 1) 1 out r (b + 1) (by omega) hcr.2.symm (by omega) (by rw [hstep]; unfold pstep; rw [if_pos h10]; dsimp only; omega) (by rw [hstep]; unfold pstep; rw [if_pos h10]; rfl) h0 he
      exact ⟨new, e1, e2.mono (by omega)⟩
    rw [if_neg h10] at he ⊢
    by_cases h32 : c = 32
    · rw [if_pos h32] at he ⊢
      obtain ⟨new, e1, e2⟩ := ih line (col + 1) out r (b + 1) (by omega) hcr.2.symm (by omega) (by rw [hstep]; unfold pstep; rw [if_neg h10]; exact h1) (by rw [hstep]; unfold pstep; rw [if_neg h10]; dsimp only; omega) h0 he
      exact ⟨new, e1, e2.mono (by omega)⟩
    rw [if_neg h32] at he ⊢
    have adv : ∀ k, k ≤ (c :: r).length → (10 : UInt8) ∉ (c :: r).take k → b + k ≤ S.length ∧ (c :: r).drop k = S.drop (b + k) ∧ place S (b + k) = ((place S b).1, (place S b).2 + k) := by
      intro k hk hno
      have hbk : b + k ≤ S.length := by simp only [List.length_cons] at hk; omega
      refine ⟨hbk, by rw [hl, List.drop_drop], place_run S b k hbk (by rw [← hl]; exact hno)⟩
    split at he
    · rename_i hm
      rw [if_pos hm]
      split at he
      · simp at he
      · rename_i hs
        rw [if_neg hs]
        have hle := (hd_prefix (c :: r)).length_le
        have htk : (c :: r).take (refNote (c :: r)).length = refNote (c :: r) := by
          rw [← take_hd _ _ (Nat.le_refl _), List.take_length]
        obtain ⟨a1, a2, a3⟩ := adv _ hle (by rw [htk]; exact refNote_solid _)
        obtain ⟨new, e1, e2⟩ := ih line (col + (refNote (c :: r)).length) { out with notes := out.notes ++ [⟨6, refNote (c :: r), line, col⟩] } _ (b + (refNote (c :: r)).length)
          (by rw [List.length_drop, refNote_cons c r h10]; simp only [List.length_cons]; omega) a2 a1 (by rw [a3]; exact h1) (by rw [a3]; dsimp only; omega) h0 he
        exact ⟨new, e1, e2.mono (by omega)⟩
    · rename_i hm
      rw [if_neg hm]
      split at he
      · rename_i hh
        exact absurd he hh
      · rename_i hs
        rw [if_neg hs]
        have hs0 : (shape (refRun (c :: r))).2 = 0 := Decidable.not_not.1 hs
        have hne := refRun_ne _ hs0
        have htk := refRun_take (c :: r)
        have hle : (refRun (c :: r)).length ≤ (c :: r).length := by
          have := congrArg List.length htk
          rw [List.length_take] at this
          omega
        have hpos : 1 ≤ (refRun (c :: r)).length := by
          cases hh : refRun (c :: r) with
          | nil => exact absurd hh hne
          | cons a b => simp
        obtain ⟨a1, a2, a3⟩ := adv _ hle (by rw [← htk]; exact refRun_solid _)
        obtain ⟨new, e1, e2⟩ := ih line (col + (refRun (c :: r)).length) { out with toks := out.toks ++ [⟨(shape (refRun (c :: r))).1, refRun (c :: r), line, col⟩] } _ (b + (refRun (c :: r)).length)
          (by rw [List.length_drop]; simp only [List.length_cons]; omega) a2 a1 (by rw [a3]; exact h1) (by rw [a3]; dsimp only; omega) h0 he
        refine ⟨⟨(shape (refRun (c :: r))).1, refRun (c :: r), line, col⟩ :: new, by rw [e1]; simp, b, Nat.le_refl _, a1, hne, by rw [← hl], Prod.ext rfl hs0, by rw [← hl]; exact Bool.eq_false_iff.2 hm, h1, h2, e2⟩

theorem readText_stands (S : List UInt8) (h : (readText S).err = 0) : Stands S 0 (readText S).toks := by
  unfold readText at h ⊢
  split at h
  · simp at h
  · rename_i h1
    rw [if_neg h1]
    split at h
    · simp at h
    · rename_i h2
      rw [if_neg h2]
      rw [← refRead_text] at h ⊢
      obtain ⟨new, e1, e2⟩ := refRead_stands S S.length 1 1 {} S 0 (Nat.le_refl _) rfl (Nat.zero_le _) rfl rfl rfl h
      rw [e1]
      exact e2
end Lx
end Go.Proofs.YtadicempblgmhaaDoor
