/-
  Of a valid system without some of its links: it is valid; its links; and without the needless ones the ancestors are the same. Plain functions.
-/
import Derived.Test.YtojfimbanaijdaaHBest
namespace Go.Proofs.Ytojfimbanaijdaa
namespace Hr
/-- A class without some links. -/
def lessC (gone : List (Nm × Nm)) (c : Cls) : Cls := ⟨c.name, c.ups.filter fun p => !gone.contains (c.name, p)⟩
def less (S : List Cls) (gone : List (Nm × Nm)) : List Cls := S.map (lessC gone)
theorem less_first (S : List Cls) (gone : List (Nm × Nm)) (s : Nm) : firstAt (less S gone) s = firstAt S s := by
  unfold firstAt less
  rw [List.findIdx?_map]
  rfl
theorem less_block (gone : List (Nm × Nm)) (c : Cls) : block (lessC gone c) = (block c).filter fun x => !gone.contains x := by
  unfold block lessC
  dsimp only
  rw [List.filter_map]
  rfl
theorem links_flat {S : List Cls} (h : ∀ i (hi : i < S.length), firstAt S S[i].name = some i) : links S = S.flatMap block := by
  have key : ∀ k, k ≤ S.length → linksTo S k = (S.take k).flatMap block := by
    intro k
    induction k with
    | zero => intro _; simp [linksTo]
    | succ k ih =>
      intro hk
      rw [linksTo, ih (by omega), List.getElem?_eq_getElem (by omega : k < S.length), List.take_succ_eq_append_getElem (by omega : k < S.length), List.flatMap_append]
      congr 1
      show linksAt S k S[k] = _
      unfold linksAt
      rw [if_pos (h k (by omega))]
      simp [block]
  unfold links
  rw [key S.length (Nat.le_refl _), List.take_length]
theorem less_links {S : List Cls} (hV : Valid S) (gone : List (Nm × Nm)) : links (less S gone) = (links S).filter fun x => !gone.contains x := by
  rw [links_flat (S := less S gone) (fun i hi => ?_), links_flat (fun i hi => (hV.hal i hi).2)]
  · unfold less
    generalize S = T
    induction T with
    | nil => rfl
    | cons c r ih =>
      simp only [List.map_cons, List.flatMap_cons, List.filter_append]
      rw [ih, less_block]
  · have hi' : i < S.length := by simpa [less] using hi
    rw [less_first]
    have e : (less S gone)[i].name = S[i].name := by simp [less, lessC]
    rw [e]
    exact (hV.hal i hi').2
theorem side_sub {L M : List (Nm × Nm)} (hM : Side M) (hLM : ∀ x ∈ L, x ∈ M) {c p : Nm} (h : p ∈ parents L c) : p ∈ parents M c := hM _ _ (hLM _ (parents_mem L c p h))
theorem Reach.sub {L M : List (Nm × Nm)} (hLM : ∀ c p, p ∈ parents L c → p ∈ parents M c) {c a : Nm} (h : Reach L c a) : Reach M c a := by
  induction h with
  | refl => exact .refl _
  | step hp _ ih => exact .step (hLM _ _ hp) ih
theorem no_ring {L : List (Nm × Nm)} (hA : Acyc L) : (visited L (sources L)).ring = false := by
  cases h : (visited L (sources L)).ring with
  | false => rfl
  | true => exact ((visited_cyc L _ h).not_acyc hA).elim
theorem less_alone (gone : List (Nm × Nm)) {c : Cls} (h : alone c = 0) : alone (lessC gone c) = 0 := by
  unfold alone at h ⊢
  split at h
  · cases h
  · rename_i h4
    split at h
    · cases h
    · rename_i hn
      split at h
      · cases h
      · rename_i hr
        have hl : (lessC gone c).ups.length ≤ c.ups.length := List.length_filter_le _ _
        rw [if_neg (show ¬ 4 < (lessC gone c).ups.length by omega), if_neg (show ¬ isName (lessC gone c).name = false from hn), if_neg]
        intro hx
        refine hr ?_
        unfold repeats at hx ⊢
        simp only [Bool.not_eq_true', decide_eq_false_iff_not] at hx ⊢
        intro hnd
        exact hx (hnd.sublist List.filter_sublist)
theorem less_valid {S : List Cls} (hV : Valid S) (gone : List (Nm × Nm)) : Valid (less S gone) := by
  have hl := less_links hV gone
  have hlen : (less S gone).length = S.length := by simp [less]
  have hat : ∀ i (hi : i < (less S gone).length), (less S gone)[i] = lessC gone (S[i]'(by omega)) := fun i hi => by simp [less]
  refine ⟨by rw [hlen]; exact hV.h24, fun i hi => ?_, fun i hi => ?_, ?_, ?_⟩
  · rw [hat i hi, less_first]
    exact ⟨less_alone gone (hV.hal i (by omega)).1, (hV.hal i (by omega)).2⟩
  · rw [hat i hi]
    have h := hV.hup i (by omega)
    rw [List.any_eq_false] at h ⊢
    intro p hp
    rw [less_first]
    exact h p (List.mem_filter.1 hp).1
  · refine no_ring ?_
    obtain ⟨r, hr⟩ := hV.acyc
    exact ⟨r, fun c p hp => hr c p (side_sub (links_side S) (fun x hx => by rw [hl] at hx; exact (List.mem_filter.1 hx).1) hp)⟩
  · rw [hl]
    exact Nat.le_trans (List.length_filter_le _ _) hV.hL
/-- Without one link. -/
theorem less_one {S : List Cls} (hV : Valid S) (x : Nm × Nm) : links (less S [x]) = (links S).filter fun y => y != x := by
  rw [less_links hV]
  refine List.filter_congr fun y _ => ?_
  by_cases e : y = x <;> simp [e]
theorem mem_needless {S : List Cls} (hV : Valid S) {x : Nm × Nm} (hx : x ∈ links S) : x ∈ needless (links S) ↔ isUp (links (less S [x])) x.1 x.2 = true := by
  unfold needless
  rw [List.mem_filter, less_one hV]
  exact ⟨fun h => h.2, fun h => ⟨hx, h⟩⟩
/-- Each link is bridged by links that are not needless. -/
theorem bridge {S : List Cls} (hV : Valid S) : ∀ (n : Nat) (r : Nm → Nat), (∀ c, ∀ p ∈ parents (links S) c, r p < r c) → ∀ c p, p ∈ parents (links S) c → r c - r p ≤ n → Reach (links (less S (needless (links S)))) c p
  | 0, r, hr, c, p, hp, hn => by
    have := hr c p hp
    omega
  | n + 1, r, hr, c, p, hp, hn => by
    have hin := parents_mem _ _ _ hp
    by_cases hx : (c, p) ∈ needless (links S)
    · have h1 := (isUp_iff _ _ _).1 ((mem_needless hV hin).1 hx)
      have hne : ∀ d q, q ∈ parents (links (less S [(c, p)])) d → (d, q) ≠ (c, p) ∧ q ∈ parents (links S) d := fun d q hq => by
        have h2 := parents_mem _ _ _ hq
        rw [less_one hV, List.mem_filter] at h2
        exact ⟨by simpa using h2.2, links_side S _ _ h2.1⟩
      have hmono : ∀ {d a : Nm}, Reach (links (less S [(c, p)])) d a → r a ≤ r d := fun h => by
        induction h with
        | refl => exact Nat.le_refl _
        | step hq _ ih => have := hr _ _ (hne _ _ hq).2; omega
      have key : ∀ d a, Reach (links (less S [(c, p)])) d a → a = p → (d = c ∨ r d < r c) → Reach (links (less S (needless (links S)))) d a := by
        intro d a h
        induction h with
        | refl => exact fun _ _ => .refl _
        | @step d q a hq hrest ih =>
          intro e hd
          subst e
          obtain ⟨h3, h4⟩ := hne d q hq
          have h5 := hr d q h4
          have h6 := hmono hrest
          have h7 : a = q ∨ r a < r q := by
            by_cases e2 : a = q
            · exact .inl e2
            · right
              rcases Nat.lt_or_ge (r a) (r q) with h | h
              · exact h
              · exfalso
                cases hrest with
                | refl => exact e2 rfl
                | step hq2 hr2 =>
                  have := hr _ _ (hne _ _ hq2).2
                  have := hmono hr2
                  omega
          have hspan : r d - r q ≤ n := by
            rcases hd with hd | hd
            · subst hd
              rcases h7 with h7 | h7
              · subst h7
                exact absurd rfl h3
              · omega
            · omega
          exact (bridge hV n r hr d q h4 hspan).trans (ih rfl (.inr (by
            rcases hd with hd | hd
            · rw [← hd]; exact h5
            · omega)))
      exact key c p h1 rfl (.inl rfl)
    · refine .one (links_side _ _ _ ?_)
      rw [less_links hV, List.mem_filter]
      exact ⟨hin, by simpa using hx⟩
theorem reduces {S : List Cls} (hV : Valid S) (c a : Nm) : isUp (links (less S (needless (links S)))) c a = isUp (links S) c a := by
  rw [Bool.eq_iff_iff, isUp_iff, isUp_iff]
  constructor
  · exact Reach.sub (fun d q hq => side_sub (links_side S) (fun x hx => by rw [less_links hV] at hx; exact (List.mem_filter.1 hx).1) hq)
  · intro h
    obtain ⟨r, hr⟩ := hV.acyc
    induction h with
    | refl => exact .refl _
    | step hp _ ih => exact (bridge hV _ r hr _ _ hp (Nat.le_refl _)).trans ih
end Hr
end Go.Proofs.Ytojfimbanaijdaa
