/-
  A line without its comment: up to the first two signs - that stand behind each other. Plain functions.
-/
import Derived.Test.YtadicempblgmhaaDoorIter
import Derived.Lib.TrimByte
import Derived.Lib.Join
namespace Go.Proofs.YtadicempblgmhaaDoor

namespace Lx
/-- A text up to the first two signs - that stand behind each other. -/
def cut : List UInt8 → List UInt8
  | [] => []
  | c :: r => if [45, 45].isPrefixOf (c :: r) then [] else c :: cut r

/-- A line up to the first of its runs that is a comment. -/
def without (l : List UInt8) : List UInt8 :=
  match (runs l).find? (fun x => [45, 45].isPrefixOf x.2) with
  | some x => l.take x.1
  | none => l

theorem cut_skip : ∀ (n : Nat) (d : List UInt8), n ≤ d.length → (∀ i, i < n → [45, 45].isPrefixOf (d.drop i) = false) → cut d = d.take n ++ cut (d.drop n)
  | 0, d, _, _ => by simp
  | n + 1, [], h, _ => by simp at h
  | n + 1, c :: r, h, hn => by
    have h0 := hn 0 (by omega)
    rw [List.drop_zero] at h0
    rw [cut, if_neg (by rw [h0]; simp), List.take_succ_cons, List.drop_succ_cons, List.cons_append,
      cut_skip n r (by simpa using h) (fun i hi => by have := hn (i + 1) (by omega); rwa [List.drop_succ_cons] at this)]

theorem dash_head {l : List UInt8} (h : [45, 45].isPrefixOf l = true) : l.head? = some 45 := by
  match l, h with
  | [], h => simp [List.isPrefixOf] at h
  | a :: r, h =>
    have : 45 = a := by
      cases r <;> simp [List.isPrefixOf] at h
      exact h.1
    simp [this]
theorem dash_not {l : List UInt8} (h : l.head? ≠ some 45) : [45, 45].isPrefixOf l = false := by
  cases e : [45, 45].isPrefixOf l
  · rfl
  · exact absurd (dash_head e) h

theorem signs_second : ∀ s ∈ signs, s[1]? ≠ some 45 := by decide

/-- Within a run that is no comment no comment begins. -/
theorem run_free (d : List UInt8) (h : [45, 45].isPrefixOf d = false) (i : Nat) (hi : i < runLength d) : [45, 45].isPrefixOf (d.drop i) = false := by
  cases i with
  | zero => rw [List.drop_zero]; exact h
  | succ i =>
    apply dash_not
    rw [List.head?_drop]
    match d, h, hi with
    | c :: r, h, hi =>
      unfold runLength at hi
      dsimp only at hi
      rw [if_neg (by rw [h]; simp)] at hi
      split at hi
      · have hs := span_take inRun (c :: r)
        intro e
        have hlt : i + 1 < (c :: r).length := by
          rcases Nat.lt_or_ge (i + 1) (c :: r).length with g | g
          · exact g
          · rw [List.getElem?_eq_none g] at e; cases e
        have hm : (45 : UInt8) ∈ (c :: r).take (span inRun (c :: r)) := by
          rw [List.mem_iff_getElem?]
          exact ⟨i + 1, by rw [List.getElem?_take, if_pos hi]; exact e⟩
        have := hs _ hm
        revert this
        decide
      · have hl : (longest (c :: r)).length = 2 ∧ longest (c :: r) = (c :: r).take 2 ∧ (c :: r).take 2 ∈ signs := by
          revert hi
          unfold longest
          split
          · rename_i g
            intro _
            exact ⟨by rw [List.length_take]; omega, rfl, g.2⟩
          · split
            · intro hi; simp at hi
            · intro hi; simp at hi
        have hi1 : i = 0 := by omega
        subst hi1
        have := signs_second _ hl.2.2
        rw [List.getElem?_take, if_pos (by omega)] at this
        exact this

theorem without_from (l : List UInt8) : ∀ (n k : Nat), l.length - k ≤ n → k ≤ l.length →
    (match (runsAt l k).find? (fun x => [45, 45].isPrefixOf x.2) with
      | some x => l.take x.1
      | none => l) = l.take k ++ cut (l.drop k)
  | 0, k, h, hk => by
    have : k = l.length := by omega
    subst this
    rw [runsAt_end _ _ (Nat.le_refl _)]
    simp [cut]
  | n + 1, k, h, hk => by
    rcases Nat.lt_or_ge k l.length with hlt | hge
    · rw [runsAt_step _ _ hlt]
      have hd : l.drop k = l[k] :: l.drop (k + 1) := List.drop_eq_getElem_cons hlt
      have hle := runLength_le (l.drop k)
      have hp : 1 ≤ runLength (l.drop k) := by rw [hd]; exact runLength_pos _ _
      rw [List.length_drop] at hle
      cases hc : [45, 45].isPrefixOf (l.drop k) with
      | true =>
        have h45 := dash_head hc
        have hk45 : l[k] = 45 := by rw [hd, List.head?_cons] at h45; exact Option.some.inj h45
        have hN : runLength (l.drop k) = (l.drop k).length := by
          unfold runLength
          rw [hd] at hc ⊢
          dsimp only
          rw [if_pos hc]
        rw [if_neg (by rw [hk45]; decide), List.cons_append, List.find?_cons, hN, List.take_length, hc]
        have : cut (l.drop k) = [] := by rw [hd] at hc ⊢; rw [cut, if_pos hc]
        rw [this, List.append_nil]
      | false =>
        have hnp : [45, 45].isPrefixOf ((l.drop k).take (runLength (l.drop k))) = false := by
          cases e : [45, 45].isPrefixOf ((l.drop k).take (runLength (l.drop k)))
          · rfl
          · rw [List.isPrefixOf_iff_prefix] at e
            have := e.trans (List.take_prefix _ _)
            rw [← List.isPrefixOf_iff_prefix, hc] at this
            exact this.symm
        have ih := without_from l n (k + runLength (l.drop k)) (by omega) (by omega)
        have hcs := cut_skip (runLength (l.drop k)) (l.drop k) (by rw [List.length_drop]; omega) (fun i hi => run_free _ hc i hi)
        rw [hcs, ← List.append_assoc, ← List.take_add, List.drop_drop, ← ih]
        by_cases h32 : l[k] = 32
        · rw [if_pos h32, List.nil_append]
        · rw [if_neg h32, List.cons_append, List.nil_append, List.find?_cons, hnp]
    · have : k = l.length := by omega
      subst this
      rw [runsAt_end _ _ (Nat.le_refl _)]
      simp [cut]

theorem without_cut (l : List UInt8) : without l = cut l := by
  have := without_from l l.length 0 (by omega) (Nat.zero_le _)
  rw [runsAt_zero] at this
  simpa [without] using this

/-- A line without its comment, and without blanks at its end. -/
def bareL (l : List UInt8) : List UInt8 := Lib.trimRightB (cut l) 32
/-- A text, without its comments. -/
def strip (t : List UInt8) : List UInt8 := Lib.join ((lines t).map bareL) [10]
end Lx
end Go.Proofs.YtadicempblgmhaaDoor
