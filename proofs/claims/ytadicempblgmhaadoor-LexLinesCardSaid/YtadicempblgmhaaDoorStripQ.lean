/-
  The runs of a line without its comment are its runs but the comment. Plain functions.
-/
import Derived.Test.YtadicempblgmhaaDoorStripP
import Derived.Test.YtadicempblgmhaaDoorTight
import Derived.Test.YtadicempblgmhaaDoorShift
namespace Go.Proofs.YtadicempblgmhaaDoor
namespace Lx
abbrev dash (l : List UInt8) : Bool := [45, 45].isPrefixOf l
abbrev trimR (l : List UInt8) : List UInt8 := Lib.trimRightB l 32

theorem trimR_nil : trimR [] = [] := rfl
theorem trimR_append (a b : List UInt8) : trimR (a ++ b) = if trimR b = [] then trimR a else a ++ trimR b := by
  unfold trimR Lib.trimRightB
  rw [List.reverse_append, List.dropWhile_append]
  by_cases h : (b.reverse.dropWhile (· == 32)).isEmpty = true
  · rw [if_pos h, if_pos (by rw [List.isEmpty_iff] at h; rw [h]; rfl)]
  · rw [if_neg h, if_neg (by intro e; apply h; rw [List.isEmpty_iff]; simpa using e)]
    simp
theorem trimR_prefix (l : List UInt8) : trimR l <+: l := by
  have h := List.dropWhile_suffix (· == (32 : UInt8)) (l := l.reverse)
  have := List.reverse_prefix.2 h
  rwa [List.reverse_reverse] at this
theorem trimR_last (l : List UInt8) (c : UInt8) (h : c ≠ 32) : trimR (l ++ [c]) = l ++ [c] := by
  rw [trimR_append]
  have : trimR [c] = [c] := by
    unfold trimR Lib.trimRightB
    have : (c == 32) = false := by simpa using h
    simp [this]
  rw [this, if_neg (by simp)]
theorem trimR_idem (l : List UInt8) : trimR (trimR l) = trimR l := by
  rcases List.eq_nil_or_concat (trimR l) with h | ⟨a, c, h⟩
  · rw [h]; rfl
  · have hc : c ≠ 32 := by
      have hd := List.head?_dropWhile_not (fun x => x == (32 : UInt8)) l.reverse
      have : (l.reverse.dropWhile (· == 32)).head? = some c := by
        have e : l.reverse.dropWhile (· == 32) = (trimR l).reverse := by unfold trimR Lib.trimRightB; rw [List.reverse_reverse]
        rw [e, h]
        simp
      rw [this] at hd
      simpa using hd
    rw [h, List.concat_eq_append, trimR_last a c hc]

theorem cut_prefix : ∀ l : List UInt8, cut l <+: l
  | [] => List.prefix_rfl
  | c :: r => by
    unfold cut
    split
    · exact List.nil_prefix
    · exact List.prefix_cons_inj _ |>.2 (cut_prefix r)
/-- No comment begins in what stands ahead of the first one. -/
theorem cut_free : ∀ (l : List UInt8) (i : Nat), dash ((cut l).drop i) = false
  | [], i => by simp [cut, dash]
  | c :: r, i => by
    unfold cut
    split
    · simp [dash]
    · rename_i h
      cases i with
      | zero =>
        rw [List.drop_zero]
        cases e : dash (c :: cut r)
        · rfl
        · exfalso
          apply h
          unfold dash at e
          rw [List.isPrefixOf_iff_prefix] at e ⊢
          exact e.trans ((List.prefix_cons_inj _).2 (cut_prefix r))
      | succ i => rw [List.drop_succ_cons]; exact cut_free r i
theorem cut_same (l : List UInt8) (h : ∀ i, dash (l.drop i) = false) : cut l = l := by
  have := cut_skip l.length l (Nat.le_refl _) (fun i _ => h i)
  rw [List.drop_length, List.take_length] at this
  rw [this]
  simp [cut]
theorem dash_prefix {a b : List UInt8} (h : a <+: b) (hb : dash b = false) : dash a = false := by
  cases e : dash a
  · rfl
  · unfold dash at e hb
    rw [List.isPrefixOf_iff_prefix] at e
    have := e.trans h
    rw [← List.isPrefixOf_iff_prefix, hb] at this
    exact this.symm
theorem prefix_drop {a b : List UInt8} (h : a <+: b) (i : Nat) : a.drop i <+: b.drop i := by
  obtain ⟨t, rfl⟩ := h
  rcases Nat.le_total i a.length with hi | hi
  · rw [List.drop_append_of_le_length hi]; exact List.prefix_append _ _
  · rw [List.drop_of_length_le hi]; exact List.nil_prefix
theorem bareL_free (l : List UInt8) (i : Nat) : dash ((bareL l).drop i) = false :=
  dash_prefix (prefix_drop (trimR_prefix (cut l)) i) (cut_free l i)
theorem bareL_idem (l : List UInt8) : bareL (bareL l) = bareL l := by
  show trimR (cut (bareL l)) = _
  rw [cut_same _ (bareL_free l)]
  exact trimR_idem (cut l)
theorem bareL_prefix (l : List UInt8) : bareL l <+: l := (trimR_prefix _).trans (cut_prefix l)

/-- A run stays one where it stands ahead of what was behind it, or of nothing. -/
theorem runLength_same (c : UInt8) (r y : List UInt8) (hd : dash (c :: r) = false) (hy : ∀ e, y.head? = some e → ((c :: r).drop (runLength (c :: r))).head? = some e) :
    dash ((c :: r).take (runLength (c :: r)) ++ y) = false ∧ runLength ((c :: r).take (runLength (c :: r)) ++ y) = runLength (c :: r) := by
  have hle := runLength_le (c :: r)
  have hp := runLength_pos c r
  obtain ⟨k, hk⟩ : ∃ k, runLength (c :: r) = k + 1 := ⟨runLength (c :: r) - 1, by omega⟩
  have hr : runLength (c :: r) = if letter c || digit c then span inRun (c :: r) else max 1 (longest (c :: r)).length := by
    unfold runLength; dsimp only; rw [if_neg (by show ¬ (dash (c :: r) = true); rw [hd]; decide)]
  have htk : (c :: r).take (runLength (c :: r)) ++ y = c :: (r.take k ++ y) := by rw [hk]; rfl
  have hpre : dash (c :: (r.take k ++ y)) = false := by
    cases e : dash (c :: (r.take k ++ y))
    · rfl
    · exfalso
      unfold dash at e
      have h1 : c = 45 := by
        cases hh : r.take k ++ y <;> rw [hh] at e <;> simp [List.isPrefixOf] at e
        exact e.1.symm
      have h2 : (r.take k ++ y).head? = some 45 := by
        cases hh : r.take k ++ y with
        | nil => rw [hh] at e; simp [List.isPrefixOf] at e
        | cons a b => rw [hh] at e; simp [List.isPrefixOf] at e; simp [e.2]
      have h3 : r.head? = some 45 := by
        cases k with
        | zero =>
          rw [List.take_zero, List.nil_append] at h2
          have := hy 45 h2
          rw [hk] at this
          simpa using this
        | succ k =>
          cases r with
          | nil => rw [hk] at hle; simp at hle
          | cons a b => simpa using h2
      cases r with
      | nil => simp at h3
      | cons a b =>
        simp at h3
        unfold dash at hd
        rw [h1, h3] at hd
        simp [List.isPrefixOf] at hd
  rw [htk]
  refine ⟨hpre, ?_⟩
  have hr2 : runLength (c :: (r.take k ++ y)) = if letter c || digit c then span inRun (c :: (r.take k ++ y)) else max 1 (longest (c :: (r.take k ++ y))).length := by
    unfold runLength; dsimp only; rw [if_neg (by show ¬ (dash (c :: (r.take k ++ y)) = true); rw [hpre]; decide)]
  rw [hr2]
  by_cases hl : (letter c || digit c) = true
  · rw [if_pos hl] at hr ⊢
    have hall : ((c :: r).take (span inRun (c :: r))).all inRun = true := by
      rw [List.all_eq_true]; exact span_take inRun (c :: r)
    rw [← hr, hk] at hall
    rw [show c :: (r.take k ++ y) = (c :: r).take (k + 1) ++ y from rfl, span_append inRun _ y hall, hk, List.length_take]
    have hy0 : span inRun y = 0 := by
      rw [span_zero]
      intro e he
      have h1 := hy e he
      rw [hr] at h1
      have : ∀ (l : List UInt8), ∀ e, (l.drop (span inRun l)).head? = some e → inRun e = false := by
        intro l
        induction l with
        | nil => intro e h; simp [span] at h
        | cons a b ih =>
          intro e h
          simp only [span] at h
          by_cases ha : inRun a = true
          · rw [if_pos ha, List.drop_succ_cons] at h; exact ih e h
          · rw [if_neg ha, List.drop_zero] at h
            simp at h
            rw [← h]
            simpa using ha
      exact this _ e h1
    rw [hy0, Nat.add_zero, Nat.min_eq_left (by rw [← hk]; exact hle)]
  · rw [if_neg hl] at hr ⊢
    rw [hk]
    cases k with
    | zero =>
      rw [List.take_zero, List.nil_append]
      have h1 : (longest (c :: r)).length ≤ 1 := by omega
      have h2 : ¬ (2 ≤ (c :: r).length ∧ (c :: r).take 2 ∈ signs) := by
        intro h
        unfold longest at h1
        rw [if_pos h, List.length_take] at h1
        omega
      have h3 : ¬ (2 ≤ (c :: y).length ∧ (c :: y).take 2 ∈ signs) := by
        rintro ⟨g1, g2⟩
        apply h2
        cases y with
        | nil => simp at g1
        | cons e y =>
          have := hy e rfl
          rw [hk] at this
          cases r with
          | nil => simp at this
          | cons a b =>
            simp at this
            subst this
            exact ⟨by simp, by simpa using g2⟩
      have : (longest (c :: y)).length ≤ 1 := by
        unfold longest
        rw [if_neg h3]
        split
        · rw [List.length_take]; omega
        · simp
      omega
    | succ k =>
      have h1 : 2 ≤ (longest (c :: r)).length := by omega
      have h2 : 2 ≤ (c :: r).length ∧ (c :: r).take 2 ∈ signs := by
        unfold longest at h1
        split at h1
        · rename_i h; exact h
        · split at h1
          · rw [List.length_take] at h1; omega
          · simp at h1
      have h3 : (longest (c :: r)).length = 2 := by
        unfold longest; rw [if_pos h2, List.length_take]; omega
      have hk0 : k = 0 := by omega
      subst hk0
      cases r with
      | nil => simp at h2
      | cons a b =>
        have h4 : 2 ≤ (c :: (List.take (0 + 1) (a :: b) ++ y)).length ∧ (c :: (List.take (0 + 1) (a :: b) ++ y)).take 2 ∈ signs := ⟨by simp, by simpa using h2.2⟩
        unfold longest
        rw [if_pos h4, List.length_take]
        simp

theorem run_last (c : UInt8) (r : List UInt8) (hd : dash (c :: r) = false) (h32 : c ≠ 32) : trimR ((c :: r).take (runLength (c :: r))) = (c :: r).take (runLength (c :: r)) := by
  have hle := runLength_le (c :: r)
  have hp := runLength_pos c r
  obtain ⟨k, hk⟩ : ∃ k, runLength (c :: r) = k + 1 := ⟨runLength (c :: r) - 1, by omega⟩
  have hkl : k < (c :: r).length := by omega
  rw [hk, List.take_succ_eq_append_getElem hkl]
  apply trimR_last
  cases k with
  | zero => simpa using h32
  | succ k =>
    have hr : runLength (c :: r) = if letter c || digit c then span inRun (c :: r) else max 1 (longest (c :: r)).length := by
      unfold runLength; dsimp only; rw [if_neg (by show ¬ (dash (c :: r) = true); rw [hd]; decide)]
    by_cases hl : (letter c || digit c) = true
    · rw [if_pos hl] at hr
      have hm : (c :: r)[k + 1] ∈ (c :: r).take (span inRun (c :: r)) := by
        rw [← hr, hk, List.mem_take_iff_getElem]
        exact ⟨k + 1, by omega, rfl⟩
      have := span_take inRun _ _ hm
      intro e
      rw [e] at this
      revert this
      decide
    · rw [if_neg hl] at hr
      have h1 : 2 ≤ (longest (c :: r)).length := by omega
      have h2 : 2 ≤ (c :: r).length ∧ (c :: r).take 2 ∈ signs := by
        unfold longest at h1
        split at h1
        · rename_i h; exact h
        · split at h1
          · rw [List.length_take] at h1; omega
          · simp at h1
      have h3 : (longest (c :: r)).length = 2 := by
        unfold longest; rw [if_pos h2, List.length_take]; omega
      have hk0 : k = 0 := by omega
      subst hk0
      have hs : ∀ s ∈ signs, s[1]? ≠ some 32 := by decide
      have := hs _ h2.2
      rw [List.getElem?_take, if_pos (by omega), List.getElem?_eq_getElem h2.1] at this
      intro e
      exact this (by rw [← e])

/-- The runs of a line without its comment are its runs but the comment. -/
theorem runs_bare : ∀ (m n k : Nat) (d : List UInt8), d.length ≤ m → d.length ≤ n → runsFrom n k (bareL d) = (runsFrom n k d).filter (fun x => !dash x.2)
  | _, n, k, [], _, _ => by
    have h : bareL [] = [] := rfl
    rw [h]
    cases n <;> simp [runsFrom]
  | m + 1, n, k, c :: r, hm, hn => by
    have hle := runLength_le (c :: r)
    have hp := runLength_pos c r
    simp only [List.length_cons] at hm
    have hN := runsFrom_cons n k c r hn
    have hfuel : ∀ (l : List UInt8) (a : Nat), l.length ≤ n → runsFrom n a l = runsFrom l.length a l := fun l a h => runsFrom_fuel _ _ _ _ h (Nat.le_refl _)
    cases hd : dash (c :: r) with
    | true =>
      have hc : c = 45 := Option.some.inj (dash_head hd)
      have hl : runLength (c :: r) = (c :: r).length := by
        unfold runLength; dsimp only; rw [if_pos (by exact hd)]
      have hb : bareL (c :: r) = [] := by
        unfold bareL
        rw [cut, if_pos (by exact hd)]
        rfl
      rw [hb, hN, hl, List.take_length, List.drop_length, if_neg (by rw [hc]; decide)]
      have : (!dash (c :: r)) = false := by rw [hd]; rfl
      cases n <;> simp [runsFrom, this]
    | false =>
      have hcut : cut (c :: r) = (c :: r).take (runLength (c :: r)) ++ cut ((c :: r).drop (runLength (c :: r))) :=
        cut_skip _ _ hle (fun i hi => run_free _ hd i hi)
      have hb : bareL (c :: r) = if bareL ((c :: r).drop (runLength (c :: r))) = [] then trimR ((c :: r).take (runLength (c :: r))) else (c :: r).take (runLength (c :: r)) ++ bareL ((c :: r).drop (runLength (c :: r))) := by
        show trimR (cut (c :: r)) = _
        rw [hcut, trimR_append]
        rfl
      have hdl : ((c :: r).drop (runLength (c :: r))).length ≤ m := by rw [List.length_drop]; simp only [List.length_cons]; omega
      have hDl : ((c :: r).drop (runLength (c :: r))).length + runLength (c :: r) = (c :: r).length := by rw [List.length_drop]; omega
      have ih := runs_bare m n (k + runLength (c :: r)) ((c :: r).drop (runLength (c :: r))) hdl (by omega)
      rw [← hfuel _ _ (by omega)] at hN
      have hnp : dash ((c :: r).take (runLength (c :: r))) = false := dash_prefix (List.take_prefix _ _) hd
      have hsame := fun y => runLength_same c r y hd
      have hlast := run_last c r hd
      have h32r : c = 32 → runLength (c :: r) = 1 := by
        rintro rfl
        unfold runLength
        have : longest (32 :: r) = [] := by
          unfold longest
          rw [if_neg (by rintro ⟨_, hh⟩; cases r with
            | nil => simp [signs] at hh
            | cons a b => simp [signs] at hh), if_neg (by simp [signs])]
        simp [this, letter, digit]
      have hxl : ((c :: r).take (runLength (c :: r))).length = runLength (c :: r) := by rw [List.length_take]; omega
      obtain ⟨x', hx'⟩ : ∃ x', (c :: r).take (runLength (c :: r)) = c :: x' := by
        rw [show runLength (c :: r) = (runLength (c :: r) - 1) + 1 from by omega]
        exact ⟨_, rfl⟩
      generalize (c :: r).drop (runLength (c :: r)) = D at *
      generalize (c :: r).take (runLength (c :: r)) = x at *
      subst hx'
      generalize runLength (c :: r) = N at *
      have hfl : (runsFrom n k (c :: r)).filter (fun x => !dash x.2) = (if c = 32 then [] else [(k, c :: x')]) ++ (runsFrom n (k + N) D).filter (fun x => !dash x.2) := by
        rw [hN, List.filter_append]
        congr 1
        split
        · rfl
        · simp [hnp]
      rw [hfl, ← ih, hb]
      have hbl : (bareL D).length ≤ D.length := (bareL_prefix D).length_le
      have hz : ∀ a, runsFrom n a [] = [] := fun a => by cases n <;> rfl
      have step : ∀ y, y.length + N ≤ n → (∀ e, y.head? = some e → D.head? = some e) → runsFrom n k (c :: x' ++ y) = (if c = 32 then [] else [(k, c :: x')]) ++ runsFrom n (k + N) y := by
        intro y hy1 hy2
        obtain ⟨_, s2⟩ := hsame y hy2
        rw [List.cons_append] at s2 ⊢
        have e1 : (c :: (x' ++ y)).length ≤ n := by
          simp only [List.length_cons, List.length_append] at hxl ⊢
          omega
        rw [runsFrom_cons n k c _ e1, s2]
        have e2 : (c :: (x' ++ y)).take N = c :: x' := by rw [← List.cons_append, List.take_left' hxl]
        have e3 : (c :: (x' ++ y)).drop N = y := by rw [← List.cons_append, List.drop_left' hxl]
        rw [e2, e3, ← hfuel y _ (by omega)]
      by_cases he : bareL D = []
      · rw [if_pos he, he, hz, List.append_nil]
        by_cases h32 : c = 32
        · have h1 := h32r h32
          rw [if_pos h32]
          have hx0 : x' = [] := by
            cases x' with
            | nil => rfl
            | cons a b => simp at hxl; omega
          rw [hx0, h32]
          exact hz k
        · rw [if_neg h32, hlast h32]
          have := step [] (by simp only [List.length_nil]; omega) (fun e h => by simp at h)
          rw [List.append_nil, if_neg h32, hz, List.append_nil] at this
          exact this
      · rw [if_neg he]
        refine step (bareL D) (by omega) (fun e h => ?_)
        obtain ⟨t, ht⟩ := bareL_prefix D
        cases hbd : bareL D with
        | nil => exact absurd hbd he
        | cons a b =>
          rw [hbd] at h ht
          rw [← ht]
          simpa using h
end Lx
end Go.Proofs.YtadicempblgmhaaDoor
