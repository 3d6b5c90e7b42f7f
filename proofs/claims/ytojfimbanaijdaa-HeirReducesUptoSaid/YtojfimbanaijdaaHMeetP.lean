/-
  Of a valid system: the classes of the links; the lowest common ancestors.
-/
import Derived.Test.YtojfimbanaijdaaHLawA
namespace Go.Proofs.Ytojfimbanaijdaa
namespace Hr
theorem links_mem (S : List Cls) {c p : Nm} (h : (c, p) ∈ links S) : ∃ x ∈ S, x.name = c ∧ p ∈ x.ups := by
  have key : ∀ k, (c, p) ∈ linksTo S k → ∃ x ∈ S, x.name = c ∧ p ∈ x.ups := by
    intro k
    induction k with
    | zero => intro h; simp [linksTo] at h
    | succ k ih =>
      intro h
      simp only [linksTo, List.mem_append] at h
      rcases h with h | h
      · exact ih h
      · split at h
        · rename_i y hy
          unfold linksAt at h
          split at h
          · simp only [List.mem_map] at h
            obtain ⟨q, hq, e⟩ := h
            cases e
            exact ⟨y, List.mem_of_getElem? hy, rfl, hq⟩
          · simp at h
        · simp at h
  exact key _ h
theorem Valid.up {S : List Cls} (hV : Valid S) {c p : Nm} (h : p ∈ parents (links S) c) : p ∈ S.map (·.name) := by
  obtain ⟨x, hx, rfl, hp⟩ := links_mem S (parents_mem _ _ _ h)
  obtain ⟨i, hi, rfl⟩ := List.getElem_of_mem hx
  have h := hV.hup i hi
  rw [List.any_eq_false] at h
  have h2 := h p hp
  cases hf : firstAt S p with
  | none => rw [hf] at h2; simp at h2
  | some k =>
    unfold firstAt at hf
    obtain ⟨hk, he, -⟩ := List.findIdx?_eq_some_iff_getElem.1 hf
    exact List.mem_map.2 ⟨S[k], List.getElem_mem hk, by simpa using he⟩
theorem Valid.reach {S : List Cls} (hV : Valid S) {c a : Nm} (h : Reach (links S) c a) (hc : c ∈ S.map (·.name)) : a ∈ S.map (·.name) := by
  induction h with
  | refl => exact hc
  | step hp _ ih => exact ih (hV.up hp)

theorem above_nodup (L : List (Nm × Nm)) (c : Nm) : (above L c).Nodup := visited_nodup L [c]
theorem mem_least (L : List (Nm × Nm)) (a b x : Nm) : x ∈ least L a b ↔ Reach L a x ∧ Reach L b x ∧ ∀ o, Reach L a o → Reach L b o → o ≠ x → ¬ Reach L o x := by
  unfold least
  simp only [(isort_perm _).mem_iff, List.mem_filter, mem_above, isUp_iff, Bool.not_eq_true', List.any_eq_false, Bool.and_eq_true, bne_iff_ne, ne_eq, not_and]
  constructor
  · rintro ⟨⟨h1, h2⟩, h3⟩
    exact ⟨h1, h2, fun o ha hb hne => by
      have := h3 o ⟨ha, hb⟩ hne
      simpa [isUp_iff] using this⟩
  · rintro ⟨h1, h2, h3⟩
    exact ⟨⟨h1, h2⟩, fun o ho hne => by
      have := h3 o ho.1 ho.2 hne
      simpa [isUp_iff] using this⟩
theorem least_nodup (L : List (Nm × Nm)) (a b : Nm) : (least L a b).Nodup := by
  unfold least
  rw [(isort_perm _).nodup_iff]
  exact ((above_nodup L a).filter _).filter _
theorem least_apart (L : List (Nm × Nm)) (a b : Nm) (i j : Nat) (hi : i < (least L a b).length) (hj : j < (least L a b).length) (hne : i ≠ j) : isUp L (least L a b)[i] (least L a b)[j] = false := by
  have h1 := (mem_least L a b _).1 (List.getElem_mem hi)
  have h2 := (mem_least L a b _).1 (List.getElem_mem hj)
  have h3 : (least L a b)[i] ≠ (least L a b)[j] := fun e => hne ((List.getElem_inj (least_nodup L a b)).1 e)
  have := h2.2.2 _ h1.1 h1.2.1 h3
  rw [← isUp_iff] at this
  simpa using this
theorem top_of (r : Nm → Nat) : ∀ l : List Nm, l ≠ [] → ∃ m ∈ l, ∀ y ∈ l, r y ≤ r m
  | [], h => (h rfl).elim
  | [x], _ => ⟨x, by simp, fun y hy => by simp at hy; subst hy; exact Nat.le_refl _⟩
  | x :: z :: l, _ => by
    obtain ⟨m, hm, h⟩ := top_of r (z :: l) (by simp)
    by_cases hx : r x ≤ r m
    · exact ⟨m, List.mem_cons_of_mem _ hm, fun y hy => by
        rcases List.mem_cons.1 hy with rfl | hy
        · exact hx
        · exact h y hy⟩
    · exact ⟨x, by simp, fun y hy => by
        rcases List.mem_cons.1 hy with rfl | hy
        · exact Nat.le_refl _
        · have := h y hy
          omega⟩
theorem least_low {L : List (Nm × Nm)} (hA : Acyc L) (a b c : Nm) : (∃ m ∈ least L a b, Reach L m c) ↔ Reach L a c ∧ Reach L b c := by
  constructor
  · rintro ⟨m, hm, h⟩
    obtain ⟨h1, h2, -⟩ := (mem_least L a b m).1 hm
    exact ⟨h1.trans h, h2.trans h⟩
  · rintro ⟨h1, h2⟩
    obtain ⟨r, hr⟩ := hA
    have hc : c ∈ (above L a).filter fun o => isUp L b o && isUp L o c := by
      simp only [List.mem_filter, mem_above, Bool.and_eq_true, isUp_iff]
      exact ⟨h1, h2, .refl c⟩
    obtain ⟨m, hm, htop⟩ := top_of r _ (List.ne_nil_of_mem hc)
    simp only [List.mem_filter, mem_above, Bool.and_eq_true, isUp_iff] at hm htop
    refine ⟨m, (mem_least L a b m).2 ⟨hm.1, hm.2.1, fun o ha hb hne ho => ?_⟩, hm.2.2⟩
    have := htop o ⟨ha, hb, ho.trans hm.2.2⟩
    rcases ho.lt hr with e | e
    · exact hne e.symm
    · omega
theorem least_above {L : List (Nm × Nm)} (hA : Acyc L) {a b : Nm} (h : Reach L a b) : least L a b = [b] := by
  have hb : b ∈ least L a b := (mem_least L a b b).2 ⟨h, .refl b, fun o _ hbo hne ho => hne (Reach.anti hA ho hbo)⟩
  have hall : ∀ x ∈ least L a b, x = b := fun x hx => by
    obtain ⟨h1, h2, h3⟩ := (mem_least L a b x).1 hx
    by_cases e : b = x
    · exact e.symm
    · exact (h3 b h (.refl b) e h2).elim
  have hn := least_nodup L a b
  generalize least L a b = M at *
  match M, hb, hall, hn with
  | [x], _, hall, _ => rw [hall x (by simp)]
  | x :: y :: r, _, hall, hn =>
    have e1 := hall x (by simp)
    have e2 := hall y (by simp)
    rw [e1, e2] at hn
    simp at hn
end Hr
end Go.Proofs.Ytojfimbanaijdaa
