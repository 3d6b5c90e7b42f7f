/-
  A text without its comments is read as the same tokens at the same places. Plain functions.
-/
import Derived.Test.YtadicempblgmhaaDoorStripQ
import Derived.Test.YtadicempblgmhaaDoorPlaceP
namespace Go.Proofs.YtadicempblgmhaaDoor
namespace Lx
theorem lines_solid : ∀ (l : List UInt8), ∀ x ∈ lines l, (10 : UInt8) ∉ x
  | [], x, hx => by
    rw [show lines [] = [[]] from rfl] at hx
    simp at hx
    subst hx
    simp
  | c :: r, x, hx => by
    by_cases h : c = 10
    · rw [lines, if_pos h] at hx
      rcases List.mem_cons.1 hx with rfl | hx
      · simp
      · exact lines_solid r x hx
    · obtain ⟨tl, h1, _⟩ := lines_hd r
      have ih := lines_solid r
      rw [lines, if_neg h, h1] at hx
      rw [h1] at ih
      rcases List.mem_cons.1 hx with rfl | hx
      · rw [List.mem_cons, not_or]
        exact ⟨fun e => h e.symm, ih _ (by simp)⟩
      · exact ih x (by simp [hx])

theorem lines_join : ∀ (ls : List (List UInt8)), ls ≠ [] → (∀ x ∈ ls, (10 : UInt8) ∉ x) → lines (Lib.join ls [10]) = ls
  | [], h, _ => absurd rfl h
  | [x], _, h => by
    rw [Lib.join_one]
    exact lines_none x (fun c hc e => h x (by simp) (e ▸ hc))
  | x :: y :: r, _, h => by
    have ih := lines_join (y :: r) (by simp) (fun z hz => h z (by simp [hz]))
    have e : Lib.join (x :: y :: r) [10] = x ++ 10 :: Lib.join (y :: r) [10] := by
      rw [Lib.join_cons, Lib.join_cons, Lib.joinTail, List.map_cons, List.flatten_cons]
      rfl
    rw [e, lines_cat, ih, lines_none x (fun c hc e => h x (by simp) (e ▸ hc))]
    rfl

theorem bare_solid (l : List UInt8) (h : (10 : UInt8) ∉ l) : (10 : UInt8) ∉ bareL l := fun hh => h ((bareL_prefix l).subset hh)
theorem lines_strip (S : List UInt8) : lines (strip S) = (lines S).map bareL := by
  unfold strip
  refine lines_join _ (by simp [lines_ne]) (fun x hx => ?_)
  obtain ⟨y, hy, rfl⟩ := List.mem_map.1 hx
  exact bare_solid y (lines_solid S y hy)
theorem strip_idem (S : List UInt8) : strip (strip S) = strip S := by
  show Lib.join ((lines (strip S)).map bareL) [10] = Lib.join ((lines S).map bareL) [10]
  rw [lines_strip, List.map_map]
  congr 1
  apply List.map_congr_left
  intro x _
  exact bareL_idem x

theorem join_length : ∀ (ls : List (List UInt8)), ls ≠ [] → (Lib.join ls [10]).length + 1 = ls.foldr (fun x n => x.length + 1 + n) 0
  | [], h => absurd rfl h
  | [x], _ => by rw [Lib.join_one]; simp
  | x :: y :: r, _ => by
    have ih := join_length (y :: r) (by simp)
    have e : Lib.join (x :: y :: r) [10] = x ++ 10 :: Lib.join (y :: r) [10] := by
      rw [Lib.join_cons, Lib.join_cons, Lib.joinTail, List.map_cons, List.flatten_cons]
      rfl
    rw [e, List.foldr_cons, ← ih]
    simp only [List.length_append, List.length_cons]
    omega
theorem join_le : ∀ (ls ms : List (List UInt8)), ls.length = ms.length → (∀ (i : Nat) (h1 : i < ls.length) (h2 : i < ms.length), ls[i].length ≤ ms[i].length) → ls.foldr (fun x n => x.length + 1 + n) 0 ≤ ms.foldr (fun x n => x.length + 1 + n) 0
  | [], _, _, _ => by simp
  | x :: ls, [], h, _ => by simp at h
  | x :: ls, y :: ms, h, hi => by
    have ih := join_le ls ms (by simpa using h) (fun i h1 h2 => by have := hi (i + 1) (by simpa using h1) (by simpa using h2); rwa [List.getElem_cons_succ, List.getElem_cons_succ] at this)
    have := hi 0 (by simp) (by simp)
    simp only [List.foldr_cons, List.getElem_cons_zero] at this ⊢
    omega
theorem lines_total : ∀ l : List UInt8, (lines l).foldr (fun x n => x.length + 1 + n) 0 = l.length + 1
  | [] => rfl
  | c :: r => by
    have ih := lines_total r
    by_cases h : c = 10
    · rw [lines, if_pos h, List.foldr_cons, ih]
      simp only [List.length_nil, List.length_cons]
      omega
    · obtain ⟨tl, h1, _⟩ := lines_hd r
      rw [lines, if_neg h]
      rw [h1] at ih ⊢
      simp only [List.foldr_cons, List.length_cons] at ih ⊢
      omega
theorem strip_length (S : List UInt8) : (strip S).length ≤ S.length := by
  have h1 := join_length ((lines S).map bareL) (by simp [lines_ne])
  have h2 := join_le ((lines S).map bareL) (lines S) (by simp) (fun i h1 h2 => by rw [List.getElem_map]; exact (bareL_prefix _).length_le)
  rw [lines_total] at h2
  unfold strip
  omega

theorem takes_false (line : Int) : ∀ (xs : List (Nat × List UInt8)) (q : Red), (takes q line xs).2 = false → (takes q line xs).1.err ≠ 0
  | [], q, h => by cases h
  | x :: xs, q, h => by
    simp only [takes] at h ⊢
    cases hk : (q.take x.2 line ((x.1 : Int) + 1)).2 with
    | true =>
      rw [hk] at h
      exact takes_false line xs _ h
    | false =>
      simp only [Bool.false_eq_true, if_false]
      unfold Red.take at hk ⊢
      split
      · split
        · simp
        · rename_i h1 h2; rw [if_pos h1, if_neg h2] at hk; cases hk
      · split
        · rename_i h1 h2; exact h2
        · rename_i h1 h2; rw [if_neg h1, if_neg h2] at hk; cases hk

/-- The same tokens, no comments. -/
structure Bare (q p : Red) : Prop where
  toks : p.toks = q.toks
  notes : p.notes = []
  e0 : q.err = 0
  e1 : p.err = 0 ∧ p.line = 0 ∧ p.col = 0

theorem takes_bare (line : Int) : ∀ (xs : List (Nat × List UInt8)) (q p : Red), Bare q p → (takes q line xs).2 = true →
    (takes p line (xs.filter fun x => !dash x.2)).2 = true ∧ Bare (takes q line xs).1 (takes p line (xs.filter fun x => !dash x.2)).1
  | [], q, p, h, _ => ⟨rfl, h⟩
  | x :: xs, q, p, h, hk => by
    simp only [takes] at hk ⊢
    cases hd : dash x.2 with
    | true =>
      rw [List.filter_cons_of_neg (by rw [hd]; decide)]
      have hq : q.take x.2 line ((x.1 : Int) + 1) = if span printable x.2 < x.2.length then ({ line := line, col := (x.1 : Int) + 1 + span printable x.2, err := 2 }, false) else ({ q with notes := q.notes ++ [⟨6, x.2, line, (x.1 : Int) + 1⟩] }, true) := by
        unfold Red.take; rw [if_pos (by exact hd)]
      rw [hq] at hk ⊢
      by_cases hs : span printable x.2 < x.2.length
      · rw [if_pos hs] at hk
        simp at hk
      · rw [if_neg hs] at hk ⊢
        exact takes_bare line xs _ p ⟨h.toks, h.notes, h.e0, h.e1⟩ hk
    | false =>
      rw [List.filter_cons_of_pos (by rw [hd]; rfl)]
      simp only [takes]
      have e : ∀ r : Red, r.take x.2 line ((x.1 : Int) + 1) = if (shape x.2).2 ≠ 0 then ({ line := line, col := (x.1 : Int) + 1, err := (shape x.2).2 }, false) else ({ r with toks := r.toks ++ [⟨(shape x.2).1, x.2, line, (x.1 : Int) + 1⟩] }, true) := fun r => by
        unfold Red.take; rw [if_neg (by show ¬ (dash x.2 = true); rw [hd]; decide)]
      rw [e q] at hk ⊢
      rw [e p]
      by_cases hs : (shape x.2).2 ≠ 0
      · rw [if_pos hs] at hk; simp at hk
      · rw [if_neg hs] at hk ⊢
        rw [if_neg hs]
        exact takes_bare line xs _ _ ⟨by simp [h.toks], h.notes, h.e0, h.e1⟩ hk

theorem readLs_bare : ∀ (ls : List (List UInt8)) (line : Int) (q p : Red), Bare q p → (readLs q line ls).err = 0 → Bare (readLs q line ls) (readLs p line (ls.map bareL))
  | [], line, q, p, h, _ => h
  | x :: xs, line, q, p, h, he => by
    simp only [List.map_cons, readLs] at he ⊢
    cases hk : (takes q line (runs x)).2 with
    | false =>
      rw [hk] at he
      exact absurd he (takes_false line _ q hk)
    | true =>
      rw [hk] at he
      obtain ⟨k1, k2⟩ := takes_bare line (runs x) q p h hk
      have hr : runs (bareL x) = (runs x).filter fun x => !dash x.2 := by
        unfold runs
        have hl := (bareL_prefix x).length_le
        rw [runsFrom_fuel _ x.length _ _ (Nat.le_refl _) hl, runs_bare x.length x.length 0 x (Nat.le_refl _) (Nat.le_refl _)]
      rw [hr, k1]
      exact readLs_bare xs (line + 1) _ _ k2 he

/-- Without its comments a text is read as the same tokens at the same places. -/
theorem strip_read (S : List UInt8) (h : (readText S).err = 0) : readText (strip S) = { toks := (readText S).toks } := by
  have hl := strip_length S
  unfold readText at h ⊢
  split at h
  · simp at h
  · rename_i h1
    rw [if_neg h1]
    split at h
    · simp at h
    · rename_i h2
      rw [if_neg h2]
      have hb := readLs_bare (lines S) 1 {} {} ⟨rfl, rfl, rfl, rfl, rfl, rfl⟩ h
      rw [← lines_strip] at hb
      have ht : (readLines (strip S) 1).toks = (readLines S 1).toks := hb.toks
      rw [if_neg (by omega), if_neg (by rw [ht]; exact h2)]
      have e1 := hb.notes
      obtain ⟨e2, e3, e4⟩ := hb.e1
      have e5 := hb.toks
      unfold readLines
      generalize readLs {} 1 (lines (strip S)) = p at *
      obtain ⟨pt, pn, pl, pc, pe⟩ := p
      simp only at e1 e2 e3 e4 e5
      subst e1 e2 e3 e4 e5
      rfl
end Lx
end Go.Proofs.YtadicempblgmhaaDoor
