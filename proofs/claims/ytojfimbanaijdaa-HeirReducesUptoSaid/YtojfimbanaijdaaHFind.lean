/-
  What the search of steps finds: all ancestors, each with a way; where the walk meets a ring, a ring is found. Plain functions.
-/
import Derived.Test.YtojfimbanaijdaaHReach
namespace Go.Proofs.Ytojfimbanaijdaa
namespace Hr
/-- What the search finds is closed, and has what lies in the queue. -/
theorem search_closed (L : List (Nm × Nm)) : ∀ (n : Nat) (seen : List Nm) (q : List (Nm × List Nm)), pot L seen q.length < n →
    (∀ x ∈ q, x.1 ∈ seen ∨ ∃ y ∈ search L n seen q, y.1 = x.1) ∧ (∀ y ∈ search L n seen q, ∀ p ∈ parents L y.1, p ∈ seen ∨ ∃ z ∈ search L n seen q, z.1 = p)
  | 0, _, _, h => by omega
  | n + 1, seen, [], _ => by rw [search_nil]; simp
  | n + 1, seen, x :: q, h => by
    by_cases hx : x.1 ∈ seen
    · rw [search_old L n seen x q hx]
      obtain ⟨h1, h2⟩ := search_closed L n seen q (pot_old L seen _ n h)
      refine ⟨fun y hy => ?_, h2⟩
      rcases List.mem_cons.1 hy with rfl | hy
      · exact .inl hx
      · exact h1 y hy
    · rw [search_new L n seen x q hx]
      obtain ⟨h1, h2⟩ := search_closed L n (x.1 :: seen) (q ++ (isort (parents L x.1)).map fun p => (p, x.1 :: x.2)) (by
        rw [List.length_append, List.length_map]
        exact pot_new L seen x.1 q.length n hx h)
      generalize search L n (x.1 :: seen) (q ++ (isort (parents L x.1)).map fun p => (p, x.1 :: x.2)) = R at *
      have key : ∀ p, (p ∈ x.1 :: seen ∨ ∃ y ∈ R, y.1 = p) → p ∈ seen ∨ ∃ y ∈ x :: R, y.1 = p := by
        rintro p (hp | ⟨y, hy, he⟩)
        · rcases List.mem_cons.1 hp with hp | hp
          · exact .inr ⟨x, by simp, hp.symm⟩
          · exact .inl hp
        · exact .inr ⟨y, by simp [hy], he⟩
      refine ⟨fun y hy => ?_, fun y hy p hp => ?_⟩
      · rcases List.mem_cons.1 hy with rfl | hy
        · exact .inr ⟨y, by simp, rfl⟩
        · exact key _ (h1 y (List.mem_append.2 (.inl hy)))
      · rcases List.mem_cons.1 hy with rfl | hy
        · exact key _ (h1 (p, y.1 :: y.2) (List.mem_append.2 (.inr (List.mem_map.2 ⟨p, (isort_perm _).mem_iff.2 hp, rfl⟩))))
        · exact key _ (h2 y hy p hp)
theorem steps_has (L : List (Nm × Nm)) {c a : Nm} (h : Reach L c a) : ∃ x ∈ steps L c, x.1 = a := by
  obtain ⟨h1, h2⟩ := search_closed L (L.length + 2) [] [(c, [])] (pot_le L)
  have h1 := h1 (c, []) (by simp)
  change ([] : List Nm).Mem c ∨ ∃ y ∈ steps L c, y.1 = c at h1
  have h2 : ∀ y ∈ steps L c, ∀ p ∈ parents L y.1, p ∈ ([] : List Nm) ∨ ∃ z ∈ steps L c, z.1 = p := h2
  have h0 : ∃ y ∈ steps L c, y.1 = c := by
    rcases h1 with h | h
    · cases h
    · exact h
  clear h1
  have key : ∀ d, Reach L d a → (∃ y ∈ steps L c, y.1 = d) → ∃ x ∈ steps L c, x.1 = a := by
    intro d hd
    induction hd with
    | refl => exact fun h => h
    | @step d p a hp _ ih =>
      rintro ⟨y, hy, rfl⟩
      refine ih h ?_
      rcases h2 y hy p hp with h | h
      · cases h
      · exact h
  exact key c h h0
/-- A way: each name is a parent of the one ahead of it. The first name of the list is the last one of the way. -/
def Back (L : List (Nm × Nm)) (c : Nm) : Nm → List Nm → Prop
  | s, [] => s = c
  | s, d :: r => s ∈ parents L d ∧ Back L c d r
theorem search_back (L : List (Nm × Nm)) (c : Nm) : ∀ (n : Nat) (seen : List Nm) (q : List (Nm × List Nm)), (∀ x ∈ q, Back L c x.1 x.2) → ∀ x ∈ search L n seen q, Back L c x.1 x.2
  | 0, _, _, _, x, h => by unfold search at h; cases h
  | n + 1, seen, [], _, x, h => by rw [search_nil] at h; cases h
  | n + 1, seen, y :: q, hq, x, h => by
    by_cases hy : y.1 ∈ seen
    · rw [search_old L n seen y q hy] at h
      exact search_back L c n seen q (fun z hz => hq z (by simp [hz])) x h
    · rw [search_new L n seen y q hy] at h
      rcases List.mem_cons.1 h with rfl | h
      · exact hq x (by simp)
      · refine search_back L c n _ _ (fun z hz => ?_) x h
        rcases List.mem_append.1 hz with hz | hz
        · exact hq z (by simp [hz])
        · obtain ⟨p, hp, rfl⟩ := List.mem_map.1 hz
          exact ⟨(isort_perm _).mem_iff.1 hp, hq y (by simp)⟩
theorem steps_back (L : List (Nm × Nm)) (c : Nm) : ∀ x ∈ steps L c, Back L c x.1 x.2 :=
  search_back L c _ _ _ (fun x hx => by rw [List.mem_singleton.1 hx]; rfl)
theorem Back.reach {L : List (Nm × Nm)} {c : Nm} : ∀ {r : List Nm} {s : Nm}, Back L c s r → Reach L c s
  | [], s, h => by rw [show s = c from h]; exact .refl c
  | d :: r, s, h => (Back.reach h.2).trans (.one h.1)

/-- There is a ring. -/
def Cyc (L : List (Nm × Nm)) : Prop := ∃ c p, p ∈ parents L c ∧ Reach L p c
theorem visit_cyc (L : List (Nm × Nm)) : ∀ (n : Nat) (w : Walk) (c : Nm), fresh L w.col < n → (∀ g, w.col g = some false → ∃ p ∈ parents L g, Reach L p c) → (w.ring = true → Cyc L) → (visit L n w c).ring = true → Cyc L
  | 0, w, c, h, _, hr, hx => by omega
  | n + 1, w, c, h, hg, hr, hx => by
    unfold visit at hx
    split at hx
    · rename_i h0
      obtain ⟨p, hp, hq⟩ := hg c h0
      exact ⟨c, p, hp, hq⟩
    · exact hr hx
    · rename_i h0
      have key : ∀ (l : List Nm) (w' : Walk), (l ≠ [] → fresh L w'.col < n) → (∀ p ∈ l, p ∈ parents L c) → (∀ g, w'.col g = some false → ∃ p ∈ parents L g, Reach L p c ∨ g = c) → (w'.ring = true → Cyc L) → (l.foldl (visit L n) w').ring = true → Cyc L := by
        intro l
        induction l with
        | nil => exact fun w' _ _ _ hr hx => hr hx
        | cons p r ih =>
          intro w' hf hl hg hr hx
          rw [List.foldl_cons] at hx
          have hp := hl p (by simp)
          have hcm := visit_came L n w' p (hf (by simp))
          refine ih _ (fun _ => fresh_later L hcm.went.later (hf (by simp))) (fun q hq => hl q (by simp [hq])) (fun g hgg => hg g ((hcm.went.grey g).1 hgg)) (fun hr' => ?_) hx
          refine visit_cyc L n w' p (hf (by simp)) (fun g hgg => ?_) hr hr'
          obtain ⟨q, hq, h | h⟩ := hg g hgg
          · exact ⟨q, hq, h.trans (.one hp)⟩
          · subst h; exact ⟨p, hp, .refl p⟩
      by_cases hpe : parents L c = []
      · rw [hpe] at hx
        exact hr hx
      · refine key (parents L c) { w with col := upd w.col c false } (fun hp => fresh_step L w c n h0 h hp) (fun p hp => hp) (fun g hgg => ?_) hr hx
        by_cases e : g = c
        · subst e
          obtain ⟨p, r, hpr⟩ := List.exists_cons_of_ne_nil hpe
          exact ⟨p, by rw [hpr]; simp, .inr rfl⟩
        · dsimp only at hgg
          rw [upd_other _ _ e] at hgg
          obtain ⟨p, hp, hq⟩ := hg g hgg
          exact ⟨p, hp, .inl hq⟩
theorem visited_cyc (L : List (Nm × Nm)) (l : List Nm) (h : (visited L l).ring = true) : Cyc L := by
  have key : ∀ (l : List Nm) (w : Walk), (∀ g, w.col g ≠ some false) → (w.ring = true → Cyc L) → (l.foldl (visit L (L.length + 1)) w).ring = true → Cyc L := by
    intro l
    induction l with
    | nil => exact fun w _ hr hx => hr hx
    | cons c r ih =>
      intro w hg hr hx
      rw [List.foldl_cons] at hx
      have hf : fresh L w.col < L.length + 1 := Nat.lt_succ_of_le (fresh_le L _)
      refine ih _ (fun g hgg => hg g (((visit_came L _ w c hf).went.grey g).1 hgg)) (fun hr' => ?_) hx
      exact visit_cyc L _ w c hf (fun g hgg => absurd hgg (hg g)) hr hr'
  exact key l start (fun g h => by unfold start at h; cases h) (fun h => by unfold start at h; cases h) h
theorem Cyc.not_acyc {L : List (Nm × Nm)} (h : Cyc L) (hA : Acyc L) : False := by
  obtain ⟨c, p, hp, hr⟩ := h
  obtain ⟨r, hrk⟩ := hA
  have h1 := hrk c p hp
  rcases hr.lt hrk with h | h
  · rw [h] at h1; omega
  · omega
theorem source_of (L : List (Nm × Nm)) {c p : Nm} (hp : p ∈ parents L c) : c ∈ sources L := by
  have h1 : c ∈ L.map (·.1) := List.mem_map.2 ⟨_, parents_mem L c p hp, rfl⟩
  unfold sources
  rw [(isort_perm _).mem_iff, List.mem_eraseDups]
  exact h1
theorem ringFrom_some (L : List (Nm × Nm)) (c : Nm) : ∀ (l : List (Nm × List Nm)) (b : Option (Nm × List Nm)), (b.isSome = true ∨ ∃ x ∈ l, c ∈ parents L x.1) → (ringFrom L c b l).isSome = true
  | [], b, h => by
    rcases h with h | ⟨x, hx, _⟩
    · unfold ringFrom; exact h
    · cases hx
  | x :: r, b, h => by
    unfold ringFrom
    cases b with
    | some b =>
      dsimp only
      split
      · rfl
      · exact ringFrom_some L c r _ (.inl (by split <;> rfl))
    | none =>
      dsimp only
      refine ringFrom_some L c r _ ?_
      rcases h with h | ⟨y, hy, hc⟩
      · cases h
      · rcases List.mem_cons.1 hy with rfl | hy
        · left
          rw [if_pos (List.contains_iff_mem.2 hc)]
          rfl
        · exact .inr ⟨y, hy, hc⟩
theorem fold_some (L : List (Nm × Nm)) : ∀ (l : List Nm) (b : Option (Nm × List Nm)), (b.isSome = true ∨ ∃ c ∈ l, ∃ x ∈ steps L c, c ∈ parents L x.1) → (l.foldl (fun b c => ringFrom L c b (steps L c)) b).isSome = true
  | [], b, h => by
    rcases h with h | ⟨x, hx, _⟩
    · exact h
    · cases hx
  | c :: r, b, h => by
    rw [List.foldl_cons]
    refine fold_some L r _ ?_
    rcases h with h | ⟨d, hd, x, hx, hp⟩
    · exact .inl (ringFrom_some L c _ b (.inl h))
    · rcases List.mem_cons.1 hd with rfl | hd
      · exact .inl (ringFrom_some L d _ b (.inr ⟨x, hx, hp⟩))
      · exact .inr ⟨d, hd, x, hx, hp⟩
theorem Cyc.last {L : List (Nm × Nm)} {c : Nm} : ∀ {p : Nm}, Reach L p c → p ≠ c → ∃ y, Reach L p y ∧ c ∈ parents L y := by
  intro p h
  induction h with
  | refl => exact fun h => absurd rfl h
  | @step d p c hp hr ih =>
    intro _
    by_cases e : p = c
    · subst e; exact ⟨d, .refl d, hp⟩
    · obtain ⟨y, hy, hc⟩ := ih e
      exact ⟨y, .step hp hy, hc⟩
theorem ring_best (L : List (Nm × Nm)) (h : (visited L (sources L)).ring = true) : ((sources L).foldl (fun b c => ringFrom L c b (steps L c)) none).isSome = true := by
  obtain ⟨c, p, hp, hr⟩ := visited_cyc L _ h
  refine fold_some L _ _ (.inr ⟨c, source_of L hp, ?_⟩)
  by_cases e : p = c
  · subst e
    obtain ⟨x, hx, he⟩ := steps_has L (.refl p)
    exact ⟨x, hx, by rw [he]; exact hp⟩
  · obtain ⟨y, hy, hc⟩ := Cyc.last hr e
    obtain ⟨x, hx, he⟩ := steps_has L (Reach.step hp hy)
    exact ⟨x, hx, by rw [he]; exact hc⟩
end Hr
end Go.Proofs.Ytojfimbanaijdaa
