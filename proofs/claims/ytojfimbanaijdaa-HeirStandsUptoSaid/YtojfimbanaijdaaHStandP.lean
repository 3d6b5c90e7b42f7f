/-
  Of a valid system: the order, the levels and the ancestors' order stand as they should. Plain functions.
-/
import Derived.Test.YtojfimbanaijdaaHCountP
namespace Go.Proofs.Ytojfimbanaijdaa
namespace Hr
/-- Each name stands behind its parents. -/
def Stand (L : List (Nm × Nm)) (l : List Nm) : Prop := ∀ i (h : i < l.length), ∀ p ∈ parents L l[i], p ∈ l.take i
theorem Stand.reach {L : List (Nm × Nm)} {l : List Nm} (hS : Stand L l) {c a : Nm} (h : Reach L c a) : ∀ i (hi : i < l.length), l[i] = c → a ∈ l.take (i + 1) := by
  induction h with
  | refl c =>
    intro i hi e
    rw [List.take_succ_eq_append_getElem hi, e]
    simp
  | @step d p a hp _ ih =>
    intro i hi e
    subst e
    have h1 := hS i hi p hp
    obtain ⟨j, hj, hje⟩ := List.getElem_of_mem h1
    rw [List.length_take] at hj
    have h2 := ih j (by omega) (by rw [← hje, List.getElem_take])
    obtain ⟨k, hk, hke⟩ := List.getElem_of_mem h2
    rw [List.length_take] at hk
    rw [← hke, List.getElem_take]
    have h3 : (l.take (i + 1))[k]'(by rw [List.length_take]; omega) = l[k] := List.getElem_take
    rw [← h3]
    exact List.getElem_mem _
/-- Of two places of a list that stands so: none ahead is a descendant of one behind. -/
theorem Stand.ahead {L : List (Nm × Nm)} {l : List Nm} (hS : Stand L l) (hn : l.Nodup) {x y : Nat} (hx : x < l.length) (hyx : y < x) : l[x] ≠ l[y] ∧ isUp L l[y] l[x] = false := by
  have hne : l[x] ≠ l[y] := fun e => List.pairwise_iff_getElem.1 hn y x (by omega) hx hyx e.symm
  refine ⟨hne, ?_⟩
  cases hu : isUp L l[y] l[x] with
  | false => rfl
  | true =>
    have h1 := hS.reach ((isUp_iff _ _ _).1 hu) y (by omega) rfl
    obtain ⟨k, hk, hke⟩ := List.getElem_of_mem h1
    rw [List.length_take] at hk
    rw [List.getElem_take] at hke
    exact absurd hke (List.pairwise_iff_getElem.1 hn k x (by omega) hx (by omega))
theorem at_le {l : List Nm} {i : Nat} (hi : i < l.length) : atI l l[i] ≤ i ∧ 0 ≤ atI l l[i] := by
  have h0 := (atI_nonneg l l[i]).2 (List.getElem_mem hi)
  refine ⟨?_, h0⟩
  unfold atI idxI at *
  cases h : l.findIdx? (· == l[i]) with
  | none => rw [h] at h0; simp at h0
  | some k =>
    have := (List.findIdx?_eq_some_iff_getElem.1 h)
    obtain ⟨hk, -, hmin⟩ := this
    dsimp only
    rcases Nat.lt_or_ge i k with hlt | hge
    · have := hmin i hlt
      simp at this
    · omega
theorem at_some {l : List Nm} {s : Nm} (h : s ∈ l) : ∃ k, ∃ hk : k < l.length, atI l s = k ∧ l[k] = s := by
  have h0 := (atI_nonneg l s).2 h
  unfold atI idxI at *
  cases hf : l.findIdx? (· == s) with
  | none => rw [hf] at h0; simp at h0
  | some k =>
    obtain ⟨hk, he, -⟩ := List.findIdx?_eq_some_iff_getElem.1 hf
    exact ⟨k, hk, rfl, by simpa using he⟩
/-- In a list that stands so a descendant is not ahead of its ancestor. -/
theorem Stand.at {L : List (Nm × Nm)} {l : List Nm} (hS : Stand L l) {c a : Nm} (hc : c ∈ l) (h : isUp L c a = true) : ¬ atI l c < atI l a := by
  obtain ⟨k, hk, he, hkc⟩ := at_some hc
  have h1 := hS.reach ((isUp_iff _ _ _).1 h) k hk hkc
  obtain ⟨j, hj, hje⟩ := List.getElem_of_mem h1
  rw [List.length_take] at hj
  rw [List.getElem_take] at hje
  have h2 := (at_le (l := l) (i := j) (by omega)).1
  rw [hje] at h2
  omega

/-- The ancestors. -/
theorem above_stand {S : List Cls} (hV : Valid S) (c : Nm) : Stand (links S) (above (links S) c) := ord_above hV.acyc c
theorem above_last (L : List (Nm × Nm)) (c : Nm) : ∃ l, above L c = l ++ [c] := by
  unfold above visited
  show ∃ l, (visit L (L.length + 1) ⟨fun _ => none, [], false⟩ c).order = l ++ [c]
  unfold visit
  exact ⟨_, rfl⟩

theorem perm_at : ∀ (l : List Nm) (i : Nat) (h : i < l.length), (l[i] :: l.eraseIdx i).Perm l
  | x :: l, 0, _ => .refl _
  | x :: l, i + 1, h => (List.Perm.swap x _ _).trans ((perm_at l i (by simpa using h)).cons x)
/-- The order. -/
theorem orderFrom_perm (L : List (Nm × Nm)) (hA : Acyc L) : ∀ (n : Nat) (R : List Nm), R.length = n → (orderFrom L R.length R).Perm R
  | 0, R, h => by
    have : R = [] := List.length_eq_zero_iff.1 h
    subst this
    exact .refl _
  | n + 1, R, h => by
    obtain ⟨i, hi⟩ := free_some L hA R (fun e => by rw [e] at h; cases h)
    obtain ⟨hlt, he, hl⟩ := order_step L R i hi
    rw [he]
    refine (List.Perm.cons _ (orderFrom_perm L hA n (R.eraseIdx i) (by omega))).trans ?_
    exact perm_at R _ hlt
theorem orderFrom_stand (L : List (Nm × Nm)) (hA : Acyc L) : ∀ (n : Nat) (R : List Nm), R.length = n → ∀ i (hi : i < (orderFrom L R.length R).length), ∀ p ∈ parents L (orderFrom L R.length R)[i], p ∈ R → p ∈ (orderFrom L R.length R).take i
  | 0, R, h, i, hi => by
    have : R = [] := List.length_eq_zero_iff.1 h
    subst this
    unfold orderFrom at hi
    simp at hi
  | n + 1, R, h, i, hi => by
    obtain ⟨k, hk⟩ := free_some L hA R (fun e => by rw [e] at h; cases h)
    obtain ⟨hlt, he, hl⟩ := order_step L R k hk
    have hfree : free L R R[k] = true := (List.findIdx?_eq_some_iff_getElem.1 hk).2.1
    have ih := orderFrom_stand L hA n (R.eraseIdx k) (by omega)
    have hperm := orderFrom_perm L hA n (R.eraseIdx k) (by omega)
    generalize orderFrom L R.length R = O at *
    generalize orderFrom L (R.eraseIdx k).length (R.eraseIdx k) = O2 at *
    subst he
    intro p hp hpR
    have hno : ∀ q ∈ parents L R[k], q ∉ R := fun q hq hqR => by
      unfold free at hfree
      rw [List.all_eq_true] at hfree
      have := hfree q hq
      simp at this
      exact this hqR
    cases i with
    | zero => exact absurd hpR (hno p (by simpa using hp))
    | succ i =>
      simp only [List.getElem_cons_succ] at hp
      simp only [List.length_cons] at hi
      rw [List.take_succ_cons]
      have hmem : p = R[k] ∨ p ∈ R.eraseIdx k := by
        have := (perm_at R _ hlt).mem_iff.2 hpR
        simpa using this
      rcases hmem with rfl | hm
      · simp
      · exact List.mem_cons_of_mem _ (ih i (by omega) p hp hm)
theorem order_perm {S : List Cls} (hV : Valid S) : (order S).Perm (S.map (·.name)) := by
  unfold order
  have h1 : S.length = (isort (S.map (·.name))).length := by rw [(isort_perm _).length_eq, List.length_map]
  rw [h1]
  exact (orderFrom_perm (links S) hV.acyc _ _ rfl).trans (isort_perm _)
theorem order_stand {S : List Cls} (hV : Valid S) : Stand (links S) (order S) := by
  intro i hi p hp
  have h1 : S.length = (isort (S.map (·.name))).length := by rw [(isort_perm _).length_eq, List.length_map]
  have key := orderFrom_stand (links S) hV.acyc _ (isort (S.map (·.name))) rfl
  rw [← h1] at key
  exact key i hi p hp ((isort_perm _).mem_iff.2 (hV.up hp))

/-- The levels of what is left. -/
def LevelsOk (L : List (Nm × Nm)) (R : List Nm) (V : List (List Nm)) : Prop :=
  (V.map List.length).sum = R.length ∧ (∀ s, s ∈ R ↔ ∃ l ∈ V, s ∈ l) ∧
  (∀ i (hi : i < V.length), ∀ s ∈ V[i], (∀ p ∈ parents L s, p ∈ R → ∃ j, ∃ hj : j < i, p ∈ V[j]) ∧ (0 < i → ∃ p ∈ parents L s, ∃ hj : i - 1 < V.length, p ∈ V[i - 1])) ∧
  (∀ i j (hi : i < V.length) (hj : j < V.length), ∀ s, s ∈ V[i] → s ∈ V[j] → i = j)
theorem filter_two (f : Nm → Bool) (R : List Nm) : (R.filter f).length + (R.filter fun c => !(R.filter f).contains c).length = R.length := by
  have h1 : (R.filter fun c => !(R.filter f).contains c) = R.filter (fun c => !f c) := by
    refine List.filter_congr fun c hc => ?_
    congr 1
    cases hf : f c with
    | true => exact List.contains_iff_mem.2 (List.mem_filter.2 ⟨hc, hf⟩)
    | false =>
      cases hx : (R.filter f).contains c with
      | false => rfl
      | true =>
        have := (List.mem_filter.1 (List.contains_iff_mem.1 hx)).2
        rw [hf] at this
        cases this
  rw [h1]
  clear h1
  induction R with
  | nil => rfl
  | cons a r ih =>
    cases hf : f a <;> simp [hf] <;> omega
theorem levels_none (L : List (Nm × Nm)) : LevelsOk L [] [] := ⟨rfl, fun s => by simp, fun i hi => by simp at hi, fun i j hi => by simp at hi⟩
theorem levelsFrom_ok (L : List (Nm × Nm)) (hA : Acyc L) : ∀ (n : Nat) (R : List Nm), R.length ≤ n → LevelsOk L R (levelsFrom L n R)
  | 0, R, h => by
    have : R = [] := List.length_eq_zero_iff.1 (by omega)
    subst this
    exact levels_none L
  | n + 1, R, h => by
    by_cases hR : R = []
    · subst hR
      unfold levelsFrom
      rw [if_pos rfl]
      exact levels_none L
    · have he : levelsFrom L (n + 1) R = R.filter (free L R) :: levelsFrom L n (R.filter fun c => !(R.filter (free L R)).contains c) := by
        conv => lhs; unfold levelsFrom
        rw [if_neg hR]
      have hlen := filter_two (free L R) R
      have hpos : 0 < (R.filter (free L R)).length := by
        obtain ⟨c, hc, hf⟩ := free_ex L hA R hR
        exact List.length_pos_iff.2 (List.ne_nil_of_mem (List.mem_filter.2 ⟨hc, hf⟩))
      have ih := levelsFrom_ok L hA n (R.filter fun c => !(R.filter (free L R)).contains c) (by omega)
      rw [he]
      have hmF : ∀ s, s ∈ R.filter (free L R) ↔ s ∈ R ∧ ∀ p ∈ parents L s, p ∉ R := fun s => by
        rw [List.mem_filter]
        unfold free
        rw [List.all_eq_true]
        simp
      have hmR : ∀ s, s ∈ (R.filter fun c => !(R.filter (free L R)).contains c) ↔ s ∈ R ∧ s ∉ R.filter (free L R) := fun s => by
        rw [List.mem_filter]
        simp only [Bool.not_eq_true', List.contains_eq_mem, decide_eq_false_iff_not]
      generalize (R.filter fun c => !(R.filter (free L R)).contains c) = R' at *
      generalize R.filter (free L R) = F at *
      generalize levelsFrom L n R' = V at *
      obtain ⟨s1, s2, s3, s4⟩ := ih
      have hin : ∀ {i : Nat} (hi : i < V.length) {s : Nm}, s ∈ V[i] → s ∈ R' := fun hi s hs => (s2 s).2 ⟨_, List.getElem_mem hi, hs⟩
      refine ⟨?_, fun s => ?_, ?_, ?_⟩
      · rw [List.map_cons, List.sum_cons, s1]
        exact hlen
      · constructor
        · intro hs
          by_cases hF : s ∈ F
          · exact ⟨F, by simp, hF⟩
          · obtain ⟨l, hl, hsl⟩ := (s2 s).1 ((hmR s).2 ⟨hs, hF⟩)
            exact ⟨l, by simp [hl], hsl⟩
        · rintro ⟨l, hl, hsl⟩
          rcases List.mem_cons.1 hl with rfl | hl
          · exact ((hmF s).1 hsl).1
          · exact ((hmR s).1 ((s2 s).2 ⟨l, hl, hsl⟩)).1
      · intro i hi s hs
        cases i with
        | zero =>
          refine ⟨fun p hp hpR => absurd hpR (((hmF s).1 hs).2 p hp), fun h0 => absurd h0 (by omega)⟩
        | succ i =>
          simp only [List.length_cons] at hi
          have hi' : i < V.length := by omega
          have hs' : s ∈ V[i] := by simpa using hs
          obtain ⟨t1, t2⟩ := s3 i hi' s hs'
          have hsR := (hmR s).1 (hin hi' hs')
          refine ⟨fun p hp hpR => ?_, fun _ => ?_⟩
          · by_cases hF : p ∈ F
            · exact ⟨0, by omega, by simpa using hF⟩
            · obtain ⟨j, hj, hpj⟩ := t1 p hp ((hmR p).2 ⟨hpR, hF⟩)
              exact ⟨j + 1, by omega, by simpa using hpj⟩
          · by_cases h0 : 0 < i
            · obtain ⟨p, hp, hj, hpj⟩ := t2 h0
              refine ⟨p, hp, by simp only [List.length_cons]; omega, ?_⟩
              have e : i + 1 - 1 = (i - 1) + 1 := by omega
              simp only [e, List.getElem_cons_succ]
              exact hpj
            · have hnf : ¬ ∀ p ∈ parents L s, p ∉ R := fun hn => hsR.2 ((hmF s).2 ⟨hsR.1, hn⟩)
              have : ∃ p, p ∈ parents L s ∧ p ∈ R := Classical.byContradiction fun hn => hnf fun p hp hpR => hn ⟨p, hp, hpR⟩
              obtain ⟨p, hp, hpR⟩ := this
              refine ⟨p, hp, by simp only [List.length_cons]; omega, ?_⟩
              have hi0 : i = 0 := by omega
              subst hi0
              show p ∈ F
              by_cases hF : p ∈ F
              · exact hF
              · obtain ⟨j, hj, -⟩ := t1 p hp ((hmR p).2 ⟨hpR, hF⟩)
                omega
      · intro i j hi hj s hs hs2
        simp only [List.length_cons] at hi hj
        cases i with
        | zero =>
          cases j with
          | zero => rfl
          | succ j =>
            have h2 : s ∈ V[j]'(by omega) := by simpa using hs2
            exact absurd hs ((hmR s).1 (hin _ h2)).2
        | succ i =>
          have h1 : s ∈ V[i]'(by omega) := by simpa using hs
          cases j with
          | zero => exact absurd hs2 ((hmR s).1 (hin _ h1)).2
          | succ j =>
            have h2 : s ∈ V[j]'(by omega) := by simpa using hs2
            rw [s4 i j (by omega) (by omega) s h1 h2]
theorem levels_ok {S : List Cls} (hV : Valid S) : LevelsOk (links S) (isort (S.map (·.name))) (levels S) := by
  unfold levels
  refine levelsFrom_ok (links S) hV.acyc _ _ ?_
  rw [(isort_perm _).length_eq, List.length_map]
  exact Nat.le_refl _

/-- The number of a name's level, from one on; 0 if it has none. -/
def lvlNo (V : List (List Nm)) (s : Nm) : Int := idxI (V.findIdx? fun l => l.contains s) + 1
theorem lvlNo_at {L : List (Nm × Nm)} {R : List Nm} {V : List (List Nm)} (h : LevelsOk L R V) {i : Nat} (hi : i < V.length) {s : Nm} (hs : s ∈ V[i]) : lvlNo V s = i + 1 := by
  unfold lvlNo idxI
  cases hf : V.findIdx? fun l => l.contains s with
  | none =>
    rw [List.findIdx?_eq_none_iff] at hf
    have := hf V[i] (List.getElem_mem hi)
    rw [List.contains_iff_mem.2 hs] at this
    cases this
  | some k =>
    obtain ⟨hk, he, -⟩ := List.findIdx?_eq_some_iff_getElem.1 hf
    have := h.2.2.2 k i hk hi s (List.contains_iff_mem.1 he) hs
    subst this
    rfl
theorem max_le : ∀ (l : List Int) (a m : Int), a ≤ m → (∀ x ∈ l, x ≤ m) → l.foldl max a ≤ m
  | [], _, _, h, _ => h
  | x :: l, a, m, h, hl => max_le l (max a x) m (by have := hl x (by simp); omega) (fun y hy => hl y (by simp [hy]))
theorem le_max : ∀ (l : List Int) (a : Int), a ≤ l.foldl max a ∧ ∀ x ∈ l, x ≤ l.foldl max a
  | [], a => ⟨Int.le_refl _, fun x hx => by cases hx⟩
  | x :: l, a => by
    obtain ⟨h1, h2⟩ := le_max l (max a x)
    refine ⟨?_, fun y hy => ?_⟩
    · rw [List.foldl_cons]; omega
    · rw [List.foldl_cons]
      rcases List.mem_cons.1 hy with rfl | hy
      · omega
      · exact h2 y hy
/-- A class's level is one more than the greatest of its parents. -/
theorem level_up {S : List Cls} (hV : Valid S) (i : Nat) (hi : i < S.length) : lvlNo (levels S) S[i].name = (S[i].ups.map (lvlNo (levels S))).foldl max 0 + 1 := by
  have hok := levels_ok hV
  have hmem : S[i].name ∈ S.map (·.name) := List.mem_map.2 ⟨_, List.getElem_mem hi, rfl⟩
  obtain ⟨l, hl, hsl⟩ := (hok.2.1 S[i].name).1 ((isort_perm _).mem_iff.2 hmem)
  obtain ⟨k, hk, rfl⟩ := List.getElem_of_mem hl
  have hp := parents_eq hV i hi
  obtain ⟨t1, t2⟩ := hok.2.2.1 k hk _ hsl
  rw [hp] at t1 t2
  rw [lvlNo_at hok hk hsl]
  have hup : ∀ p ∈ S[i].ups, p ∈ isort (S.map (·.name)) := fun p h => (isort_perm _).mem_iff.2 (hV.up (by rw [hp]; exact h))
  have h1 : (S[i].ups.map (lvlNo (levels S))).foldl max 0 ≤ k := max_le _ _ _ (by omega) (fun x hx => by
    obtain ⟨p, hpu, rfl⟩ := List.mem_map.1 hx
    obtain ⟨j, hj, hpj⟩ := t1 p hpu (hup p hpu)
    rw [lvlNo_at hok (by omega) hpj]
    omega)
  have h2 : (k : Int) ≤ (S[i].ups.map (lvlNo (levels S))).foldl max 0 := by
    by_cases h0 : 0 < k
    · obtain ⟨p, hpu, hj, hpj⟩ := t2 h0
      have := (le_max (S[i].ups.map (lvlNo (levels S))) 0).2 _ (List.mem_map.2 ⟨p, hpu, rfl⟩)
      rw [lvlNo_at hok hj hpj] at this
      omega
    · have := (le_max (S[i].ups.map (lvlNo (levels S))) 0).1
      omega
  omega
/-- The levels' numbers of the names that have been met. -/
def lvlMap (V : List (List Nm)) (l : List Nm) : Nm → Option Int := fun s => if s ∈ l then some (lvlNo V s) else none
theorem lvlMap_nil (V : List (List Nm)) : lvlMap V [] = fun _ => none := by
  funext s
  unfold lvlMap
  simp
theorem lvlMap_snoc (V : List (List Nm)) (l : List Nm) (s : Nm) {n : Int} (h : lvlNo V s = n) : upd (lvlMap V l) s n = lvlMap V (l ++ [s]) := by
  subst h
  funext t
  unfold upd lvlMap
  by_cases e : t = s
  · subst e; simp
  · simp [e]
theorem lvlMap_get (V : List (List Nm)) (l : List Nm) (s : Nm) (h : s ∈ l) : (lvlMap V l s).getD 0 = lvlNo V s := by
  unfold lvlMap
  rw [if_pos h]
  rfl
theorem levelsFrom_len (L : List (Nm × Nm)) : ∀ (n : Nat) (R : List Nm), (levelsFrom L n R).length ≤ n
  | 0, _ => by unfold levelsFrom; simp
  | n + 1, R => by
    unfold levelsFrom
    split
    · simp
    · have := levelsFrom_len L n (R.filter fun c => !(R.filter (free L R)).contains c)
      simp only [List.length_cons]
      omega
theorem lvlNo_le (V : List (List Nm)) (s : Nm) : 0 ≤ lvlNo V s ∧ lvlNo V s ≤ V.length := by
  unfold lvlNo idxI
  cases h : V.findIdx? fun l => l.contains s with
  | none => simp
  | some k =>
    obtain ⟨hk, -⟩ := List.findIdx?_eq_some_iff_getElem.1 h
    dsimp only
    omega
theorem most_le (V : List (List Nm)) (l : List Nm) : 0 ≤ (l.map (lvlNo V)).foldl max 0 ∧ (l.map (lvlNo V)).foldl max 0 ≤ V.length := by
  refine ⟨(le_max _ _).1, max_le _ _ _ (by omega) (fun x hx => ?_)⟩
  obtain ⟨p, _, rfl⟩ := List.mem_map.1 hx
  exact (lvlNo_le V p).2
theorem most_step (V : List (List Nm)) (l : List Nm) {p : Nat} (hp : p < l.length) : ((l.take (p + 1)).map (lvlNo V)).foldl max 0 = max (((l.take p).map (lvlNo V)).foldl max 0) (lvlNo V l[p]) := by
  rw [List.take_succ_eq_append_getElem hp, List.map_append, List.foldl_append]
  rfl
theorem flat_step (V : List (List Nm)) {k : Nat} (hk : k < V.length) : (V.take (k + 1)).flatten = (V.take k).flatten ++ V[k] ∧ ((V.take (k + 1)).map List.length).sum = ((V.take k).map List.length).sum + V[k].length := by
  rw [List.take_succ_eq_append_getElem hk]
  refine ⟨?_, ?_⟩
  · rw [List.flatten_append, List.flatten_cons, List.flatten_nil, List.append_nil]
  · rw [List.map_append, List.sum_append, List.map_cons, List.map_nil, List.sum_cons, List.sum_nil, Nat.add_zero]
theorem levels_all {S : List Cls} (hV : Valid S) : ((levels S).map List.length).sum = S.length ∧ (levels S).length ≤ S.length ∧ (∀ s, s ∈ (levels S).flatten ↔ s ∈ S.map (·.name)) := by
  have h := levels_ok hV
  refine ⟨?_, levelsFrom_len _ _ _, fun s => ?_⟩
  · rw [h.1, (isort_perm _).length_eq, List.length_map]
  · rw [List.mem_flatten, ← h.2.1, (isort_perm _).mem_iff]
theorem sum_take (V : List (List Nm)) (k : Nat) : ((V.take k).map List.length).sum ≤ (V.map List.length).sum := by
  have h := List.take_append_drop k V
  have h2 : (V.map List.length).sum = ((V.take k).map List.length).sum + ((V.drop k).map List.length).sum := by
    rw [← List.sum_append, ← List.map_append, h]
  omega
end Hr
end Go.Proofs.Ytojfimbanaijdaa
