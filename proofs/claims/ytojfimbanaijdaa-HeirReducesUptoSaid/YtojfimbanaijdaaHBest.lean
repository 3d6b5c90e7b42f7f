/-
  The search of steps finds shortest ways, the shorter ones first; the ring that is found is a shortest one. Plain functions.
-/
import Derived.Test.YtojfimbanaijdaaHCountP
import Derived.Test.YtojfimbanaijdaaHCheckW
namespace Go.Proofs.Ytojfimbanaijdaa
namespace Hr
/-- There is a way of just so many steps. -/
def Dist (L : List (Nm × Nm)) (c : Nm) : Nat → Nm → Prop
  | 0, a => a = c
  | n + 1, a => ∃ d, Dist L c n d ∧ a ∈ parents L d
abbrev lvl (x y : Nm × List Nm) : Prop := x.2.length ≤ y.2.length

theorem search_best (L : List (Nm × Nm)) (c : Nm) : ∀ (n : Nat) (seen : List Nm) (q : List (Nm × List Nm)) (k : Nat),
    (∀ x ∈ q, k ≤ x.2.length ∧ x.2.length ≤ k + 1) → q.Pairwise lvl →
    (∀ m d, m < k → Dist L c m d → d ∈ seen) → (∀ d, Dist L c k d → d ∈ seen ∨ ∃ x ∈ q, x.1 = d ∧ x.2.length = k) →
    (∀ d ∈ seen, ∀ p ∈ parents L d, p ∈ seen ∨ ∃ x ∈ q, x.1 = p) →
    (∀ x ∈ search L n seen q, k ≤ x.2.length ∧ ∀ m, Dist L c m x.1 → x.2.length ≤ m) ∧ (search L n seen q).Pairwise lvl
  | 0, _, _, _, _, _, _, _, _ => by unfold search; simp
  | n + 1, seen, [], _, _, _, _, _, _ => by rw [search_nil]; simp
  | n + 1, seen, x :: q, k, h1, h2, h3, h4, h5 => by
    obtain ⟨hq, h2'⟩ := List.pairwise_cons.1 h2
    by_cases hx : x.1 ∈ seen
    · rw [search_old L n seen x q hx]
      refine search_best L c n seen q k (fun y hy => h1 y (by simp [hy])) h2' h3 (fun d hd => ?_) (fun d hd p hp => ?_)
      · rcases h4 d hd with h | ⟨y, hy, e, hl⟩
        · exact .inl h
        · rcases List.mem_cons.1 hy with rfl | hy
          · exact .inl (e ▸ hx)
          · exact .inr ⟨y, hy, e, hl⟩
      · rcases h5 d hd p hp with h | ⟨y, hy, e⟩
        · exact .inl h
        · rcases List.mem_cons.1 hy with rfl | hy
          · exact .inl (e ▸ hx)
          · exact .inr ⟨y, hy, e⟩
    · rw [search_new L n seen x q hx]
      have hx1 := h1 x (by simp)
      have near : ∀ m d, m < x.2.length → Dist L c m d → d ∈ seen := by
        intro m d hm hd
        by_cases hmk : m < k
        · exact h3 m d hmk hd
        · have hmk' : m = k := by omega
          subst hmk'
          rcases h4 d hd with h | ⟨y, hy, e, hl⟩
          · exact h
          · rcases List.mem_cons.1 hy with rfl | hy
            · omega
            · have h9 : x.2.length ≤ y.2.length := hq y hy
              omega
      have here : ∀ d, Dist L c x.2.length d → d ∈ seen ∨ ∃ y ∈ x :: q, y.1 = d ∧ y.2.length = x.2.length := by
        intro d hd
        by_cases hk : x.2.length = k
        · rw [hk] at hd
          obtain h | ⟨y, hy, e, hl⟩ := h4 d hd
          · exact .inl h
          · exact .inr ⟨y, hy, e, by omega⟩
        · have hk1 : x.2.length = k + 1 := by omega
          rw [hk1] at hd
          obtain ⟨d', hd', hp⟩ := hd
          have hs := near k d' (by omega) hd'
          rcases h5 d' hs d hp with h | ⟨y, hy, e⟩
          · exact .inl h
          · refine .inr ⟨y, hy, e, ?_⟩
            rcases List.mem_cons.1 hy with rfl | hy
            · rfl
            · have h8 : x.2.length ≤ y.2.length := hq y hy
              have h9 := h1 y (by simp [hy])
              omega
      have next : ∀ y ∈ (isort (parents L x.1)).map fun p => (p, x.1 :: x.2), y.2.length = x.2.length + 1 := by
        intro y hy
        obtain ⟨p, _, rfl⟩ := List.mem_map.1 hy
        rfl
      have old : ∀ y ∈ q, x.2.length ≤ y.2.length ∧ y.2.length ≤ x.2.length + 1 := fun y hy => by
        have h8 : x.2.length ≤ y.2.length := hq y hy
        have h9 := h1 y (by simp [hy])
        omega
      obtain ⟨r1, r2⟩ := search_best L c n (x.1 :: seen) (q ++ (isort (parents L x.1)).map fun p => (p, x.1 :: x.2)) x.2.length
        (fun y hy => by
          rcases List.mem_append.1 hy with hy | hy
          · exact old y hy
          · rw [next y hy]; omega)
        (by
          rw [List.pairwise_append]
          refine ⟨h2', ?_, fun y hy z hz => ?_⟩
          · rw [List.pairwise_map]
            exact List.pairwise_iff_forall_sublist.2 (fun _ => Nat.le_refl _)
          · have h8 := next z hz
            have h9 := (old y hy).2
            show y.2.length ≤ z.2.length
            omega)
        (fun m d hm hd => by simp [near m d hm hd])
        (fun d hd => by
          rcases here d hd with h | ⟨y, hy, e, hl⟩
          · exact .inl (by simp [h])
          · rcases List.mem_cons.1 hy with rfl | hy
            · exact .inl (by simp [e])
            · exact .inr ⟨y, by simp [hy], e, hl⟩)
        (fun d hd p hp => by
          rcases List.mem_cons.1 hd with rfl | hd
          · exact .inr ⟨(p, x.1 :: x.2), by
              refine List.mem_append.2 (.inr (List.mem_map.2 ⟨p, (isort_perm _).mem_iff.2 hp, rfl⟩)), rfl⟩
          · rcases h5 d hd p hp with h | ⟨y, hy, e⟩
            · exact .inl (by simp [h])
            · rcases List.mem_cons.1 hy with rfl | hy
              · exact .inl (by simp [e])
              · exact .inr ⟨y, by simp [hy], e⟩)
      refine ⟨fun y hy => ?_, List.pairwise_cons.2 ⟨fun y hy => (r1 y hy).1, r2⟩⟩
      rcases List.mem_cons.1 hy with rfl | hy
      · refine ⟨hx1.1, fun m hm => ?_⟩
        rcases Nat.lt_or_ge m y.2.length with h | h
        · exact absurd (near m _ h hm) hx
        · exact h
      · have h9 := r1 y hy
        exact ⟨by omega, h9.2⟩
theorem steps_best (L : List (Nm × Nm)) (c : Nm) : (∀ x ∈ steps L c, ∀ m, Dist L c m x.1 → x.2.length ≤ m) ∧ (steps L c).Pairwise lvl := by
  obtain ⟨h1, h2⟩ := search_best L c (L.length + 2) [] [(c, [])] 0 (fun x hx => by rw [List.mem_singleton.1 hx]; simp) (by simp) (fun m d hm => by omega)
    (fun d hd => .inr ⟨(c, []), by simp, hd.symm, rfl⟩) (fun d hd => by cases hd)
  exact ⟨fun x hx => (h1 x hx).2, h2⟩

theorem ringFrom_le (L : List (Nm × Nm)) (c : Nm) (r : Nm × List Nm) : ∀ (l : List (Nm × List Nm)) (b : Option (Nm × List Nm)), l.Pairwise lvl → ringFrom L c b l = some r →
    (∀ y, b = some y → r.2.length ≤ y.2.length) ∧ (∀ x ∈ l, c ∈ parents L x.1 → r.2.length ≤ x.2.length) ∧ (b = some r ∨ (r ∈ l ∧ c ∈ parents L r.1))
  | [], b, _, h => by
    unfold ringFrom at h
    subst h
    exact ⟨fun y hy => (by cases hy; exact Nat.le_refl _), fun x hx => (by cases hx), .inl rfl⟩
  | x :: l, none, hp, h => by
    obtain ⟨hx, hp'⟩ := List.pairwise_cons.1 hp
    unfold ringFrom at h
    dsimp only at h
    by_cases hc : (parents L x.1).contains c = true
    · rw [if_pos hc] at h
      obtain ⟨i1, i2, i3⟩ := ringFrom_le L c r l (some x) hp' h
      refine ⟨fun y hy => (by cases hy), fun y hy hcy => ?_, .inr ?_⟩
      · rcases List.mem_cons.1 hy with rfl | hy
        · exact i1 _ rfl
        · exact i2 y hy hcy
      · rcases i3 with h | h
        · cases h
          exact ⟨by simp, List.contains_iff_mem.1 hc⟩
        · exact ⟨by simp [h.1], h.2⟩
    · rw [if_neg hc] at h
      obtain ⟨i1, i2, i3⟩ := ringFrom_le L c r l none hp' h
      refine ⟨i1, fun y hy hcy => ?_, .inr ?_⟩
      · rcases List.mem_cons.1 hy with rfl | hy
        · exact absurd (List.contains_iff_mem.2 hcy) hc
        · exact i2 y hy hcy
      · rcases i3 with h | h
        · cases h
        · exact ⟨by simp [h.1], h.2⟩
  | x :: l, some b, hp, h => by
    obtain ⟨hx, hp'⟩ := List.pairwise_cons.1 hp
    unfold ringFrom at h
    dsimp only at h
    by_cases hb : b.2.length ≤ x.2.length
    · rw [if_pos hb] at h
      cases h
      refine ⟨fun y hy => (by cases hy; exact Nat.le_refl _), fun y hy _ => ?_, .inl rfl⟩
      rcases List.mem_cons.1 hy with rfl | hy
      · exact hb
      · exact Nat.le_trans hb (hx y hy)
    · rw [if_neg hb] at h
      by_cases hc : (parents L x.1).contains c = true
      · rw [if_pos hc] at h
        obtain ⟨i1, i2, i3⟩ := ringFrom_le L c r l (some x) hp' h
        have i0 := i1 x rfl
        refine ⟨fun y hy => (by cases hy; omega), fun y hy hcy => ?_, .inr ?_⟩
        · rcases List.mem_cons.1 hy with rfl | hy
          · exact i0
          · exact i2 y hy hcy
        · rcases i3 with h | h
          · cases h
            exact ⟨by simp, List.contains_iff_mem.1 hc⟩
          · exact ⟨by simp [h.1], h.2⟩
      · rw [if_neg hc] at h
        obtain ⟨i1, i2, i3⟩ := ringFrom_le L c r l (some b) hp' h
        refine ⟨i1, fun y hy hcy => ?_, ?_⟩
        · rcases List.mem_cons.1 hy with rfl | hy
          · exact absurd (List.contains_iff_mem.2 hcy) hc
          · exact i2 y hy hcy
        · rcases i3 with h | h
          · exact .inl h
          · exact .inr ⟨by simp [h.1], h.2⟩
theorem fold_le (L : List (Nm × Nm)) (r : Nm × List Nm) : ∀ (l : List Nm) (b : Option (Nm × List Nm)), l.foldl (fun b c => ringFrom L c b (steps L c)) b = some r →
    (∀ y, b = some y → r.2.length ≤ y.2.length) ∧ (∀ c ∈ l, ∀ x ∈ steps L c, c ∈ parents L x.1 → r.2.length ≤ x.2.length) ∧ (b = some r ∨ ∃ c ∈ l, r ∈ steps L c ∧ c ∈ parents L r.1)
  | [], b, h => by
    change b = some r at h
    subst h
    exact ⟨fun y hy => (by cases hy; exact Nat.le_refl _), fun x hx => (by cases hx), .inl rfl⟩
  | c :: l, b, h => by
    rw [List.foldl_cons] at h
    obtain ⟨i1, i2, i3⟩ := fold_le L r l _ h
    have key : ∀ z, ringFrom L c b (steps L c) = some z → _ := fun z hz => ringFrom_le L c z (steps L c) b (steps_best L c).2 hz
    refine ⟨fun y hy => ?_, fun d hd x hx hp => ?_, ?_⟩
    · obtain ⟨z, hz⟩ := Option.isSome_iff_exists.1 (ringFrom_some L c (steps L c) b (.inl (by rw [hy]; rfl)))
      have h1 := (key z hz).1 y hy
      have h2 := i1 z hz
      omega
    · rcases List.mem_cons.1 hd with rfl | hd
      · obtain ⟨z, hz⟩ := Option.isSome_iff_exists.1 (ringFrom_some L d (steps L d) b (.inr ⟨x, hx, hp⟩))
        have h1 := (key z hz).2.1 x hx hp
        have h2 := i1 z hz
        omega
      · exact i2 d hd x hx hp
    · rcases i3 with h | ⟨d, hd, hr⟩
      · rcases (key r h).2.2 with h | h
        · exact .inl h
        · exact .inr ⟨c, by simp, h⟩
      · exact .inr ⟨d, by simp [hd], hr⟩

theorem Back.dist {L : List (Nm × Nm)} {c : Nm} : ∀ {r : List Nm} {s : Nm}, Back L c s r → Dist L c r.length s
  | [], _, h => h
  | d :: _, _, h => ⟨d, h.2.dist, h.1⟩
theorem Back.mem {L : List (Nm × Nm)} {c : Nm} : ∀ {r : List Nm} {d : Nm}, Back L c d r → ∀ s ∈ d :: r, ∃ m, m ≤ r.length ∧ Dist L c m s
  | [], d, h, s, hs => ⟨0, Nat.le_refl _, by rw [List.mem_singleton.1 hs]; exact h⟩
  | e :: r, d, h, s, hs => by
    rcases List.mem_cons.1 hs with rfl | hs
    · exact ⟨_, Nat.le_refl _, h.dist⟩
    · obtain ⟨m, hm, hd⟩ := Back.mem h.2 s hs
      exact ⟨m, by simp only [List.length_cons]; omega, hd⟩
theorem Back.nodup {L : List (Nm × Nm)} {c : Nm} : ∀ {r : List Nm} {s : Nm}, Back L c s r → (∀ m, Dist L c m s → r.length ≤ m) → (s :: r).Nodup
  | [], _, _, _ => by simp
  | d :: r, s, h, hm => by
    have h1 := Back.nodup h.2 (fun m hd => by
      have := hm (m + 1) ⟨d, hd, h.1⟩
      simp only [List.length_cons] at this
      omega)
    refine List.nodup_cons.2 ⟨fun hs => ?_, h1⟩
    obtain ⟨m, hl, hd⟩ := Back.mem h.2 s hs
    have := hm m hd
    simp only [List.length_cons] at this
    omega
theorem Dist.reach {L : List (Nm × Nm)} {c : Nm} : ∀ {n : Nat} {a : Nm}, Dist L c n a → Reach L c a
  | 0, a, h => by rw [show a = c from h]; exact .refl c
  | n + 1, _, ⟨_, hd, hp⟩ => (Dist.reach hd).trans (.one hp)

theorem chain_snoc {L : List (Nm × Nm)} {l : List Nm} {d s : Nm} (h : chain L l) (hd : ∀ hne : 0 < l.length, l[l.length - 1] = d) (hl : (d, s) ∈ L) : chain L (l ++ [s]) := by
  intro j hj
  simp only [List.length_append, List.length_cons, List.length_nil] at hj
  by_cases h1 : j + 1 < l.length
  · rw [List.getElem_append_left (by omega), List.getElem_append_left h1]
    exact h j h1
  · have hj2 : j = l.length - 1 := by omega
    subst hj2
    rw [List.getElem_append_left (by omega), List.getElem_append_right (by omega), hd (by omega)]
    simpa using hl
theorem way_last (x : Nm × List Nm) (h : 0 < (wayOf x).length) : (wayOf x)[(wayOf x).length - 1] = x.1 := by
  unfold wayOf
  rw [List.getElem_reverse]
  simp
theorem way_len (x : Nm × List Nm) : (wayOf x).length = x.2.length + 1 := by unfold wayOf; simp
theorem Back.chain {L : List (Nm × Nm)} {c : Nm} : ∀ {r : List Nm} {s : Nm}, Back L c s r → Hr.chain L (wayOf (s, r))
  | [], _, _ => fun j hj => by rw [way_len] at hj; simp at hj
  | d :: r, s, h => by
    have e : wayOf (s, d :: r) = wayOf (d, r) ++ [s] := by unfold wayOf; simp
    rw [e]
    exact chain_snoc (Back.chain h.2) (fun hne => way_last (d, r) hne) (parents_mem L d s h.1)
theorem Back.first {L : List (Nm × Nm)} {c : Nm} : ∀ {r : List Nm} {s : Nm}, Back L c s r → (wayOf (s, r)).headD [] = c
  | [], _, h => h
  | d :: r, s, h => by
    have e : wayOf (s, d :: r) = wayOf (d, r) ++ [s] := by unfold wayOf; simp
    have h2 := Back.first h.2
    rw [e]
    cases hw : wayOf (d, r) with
    | nil => have := way_len (d, r); rw [hw] at this; simp at this
    | cons a q => rw [hw] at h2; exact h2
theorem headD_zero {l : List Nm} {c : Nm} (h : l.headD [] = c) (hp : 0 < l.length) : l[0] = c := by
  cases l with
  | nil => simp at hp
  | cons a q => exact h
theorem wayOf_isWay {L : List (Nm × Nm)} {c : Nm} {x : Nm × List Nm} (h : Back L c x.1 x.2) : isWay L c x.1 (wayOf x) := by
  have hp : 0 < (wayOf x).length := by rw [way_len]; omega
  exact ⟨hp, headD_zero h.first hp, way_last x hp, h.chain⟩

/-- Links whose classes stand side by side. -/
def Side (L : List (Nm × Nm)) : Prop := ∀ c p, (c, p) ∈ L → p ∈ parents L c
theorem chain_dist {L : List (Nm × Nm)} (hL : Side L) {ns : List Nm} {c : Nm} (h : chain L ns) (h0 : ns.headD [] = c) : ∀ j (hj : j < ns.length), Dist L c j ns[j]
  | 0, hj => headD_zero h0 hj
  | j + 1, hj => ⟨ns[j], chain_dist hL h h0 j (by omega), hL _ _ (h j hj)⟩
theorem isWay.dist {L : List (Nm × Nm)} (hL : Side L) {c a : Nm} {ns : List Nm} (h : isWay L c a ns) : Dist L c (ns.length - 1) a := by
  obtain ⟨hp, h0, h1, hc⟩ := h
  have := chain_dist hL hc (c := c) (by
    cases ns with
    | nil => simp at hp
    | cons a q => exact h0) (ns.length - 1) (by omega)
  rw [h1] at this
  exact this
/-- The way is a shortest one, and there is none exactly if the one is no ancestor of the other one. -/
theorem way_best {L : List (Nm × Nm)} {c a : Nm} {w : List Nm} (h : way L c a = some w) : isWay L c a w ∧ ∀ m, Dist L c m a → w.length ≤ m + 1 := by
  unfold way at h
  obtain ⟨x, hx, rfl⟩ := Option.map_eq_some_iff.1 h
  have hm := List.mem_of_find?_eq_some hx
  have he : x.1 = a := by simpa using List.find?_some hx
  subst he
  refine ⟨wayOf_isWay (steps_back L c x hm), fun m hd => ?_⟩
  have := (steps_best L c).1 x hm m hd
  rw [way_len]
  omega
theorem way_some {L : List (Nm × Nm)} {c a : Nm} : (way L c a).isSome = true ↔ Reach L c a := by
  unfold way
  rw [Option.isSome_map, List.find?_isSome]
  constructor
  · rintro ⟨x, hx, he⟩
    have he : x.1 = a := by simpa using he
    subst he
    exact (steps_back L c x hx).reach
  · intro h
    obtain ⟨x, hx, he⟩ := steps_has L h
    exact ⟨x, hx, by simpa using he⟩

/-- The list is a ring. -/
def isRing (L : List (Nm × Nm)) (ns : List Nm) : Prop := ns ≠ [] ∧ ns.Nodup ∧ chain L (ns ++ [ns.headD []])
theorem ring_is {L : List (Nm × Nm)} {rg : List Nm} (h : ring L = some rg) : isRing L rg := by
  unfold ring at h
  split at h
  · obtain ⟨r, hr, rfl⟩ := Option.map_eq_some_iff.1 h
    rcases (fold_le L r _ _ hr).2.2 with h | ⟨c, _, hs, hp⟩
    · cases h
    · have hb := steps_back L c r hs
      refine ⟨fun h => ?_, ?_, ?_⟩
      · have := way_len r; rw [h] at this; simp at this
      · unfold wayOf
        rw [(List.reverse_perm _).nodup_iff]
        exact hb.nodup ((steps_best L c).1 r hs)
      · rw [hb.first]
        exact chain_snoc hb.chain (fun hne => way_last r hne) (parents_mem L r.1 c hp)
  · cases h
/-- Of every list that is a ring: there is one that is found, and it is no longer. -/
theorem isRing.found {L : List (Nm × Nm)} (hL : Side L) {ns : List Nm} (h : isRing L ns) : ∃ rg, ring L = some rg ∧ rg.length ≤ ns.length := by
  obtain ⟨hne, -, hc⟩ := h
  have hp : 0 < ns.length := List.length_pos_iff.2 hne
  generalize hcd : ns.headD [] = c at hc
  have hlast : (ns[ns.length - 1], c) ∈ L := by
    have h1 := hc (ns.length - 1) (by simp; omega)
    rw [List.getElem_append_left (by omega), List.getElem_append_right (by omega)] at h1
    simpa using h1
  have hch : chain L ns := fun j hj => by
    have h1 := hc j (by simp; omega)
    rwa [List.getElem_append_left (by omega), List.getElem_append_left hj] at h1
  have hd := chain_dist hL hch hcd (ns.length - 1) (by omega)
  generalize ns[ns.length - 1] = y at hlast hd
  have hy := hL _ _ hlast
  obtain ⟨x, hx, hxe⟩ := steps_has L hd.reach
  have hxl := (steps_best L c).1 x hx (ns.length - 1) (by rw [hxe]; exact hd)
  have hcyc : Cyc L := ⟨y, c, hy, hd.reach⟩
  have hv : (visited L (sources L)).ring = true := by
    cases hr : (visited L (sources L)).ring with
    | true => rfl
    | false => exact (hcyc.not_acyc (acyc_of_ring L hr)).elim
  obtain ⟨r, hr⟩ := Option.isSome_iff_exists.1 (ring_best L hv)
  refine ⟨wayOf r, ?_, ?_⟩
  · unfold ring
    rw [if_pos hv, hr]
    rfl
  · have hcs : c ∈ sources L := by
      have h2 : ∃ p, p ∈ parents L c := by
        by_cases h1 : 1 < ns.length
        · have h3 := hch 0 h1
          rw [headD_zero hcd hp] at h3
          exact ⟨_, hL _ _ h3⟩
        · have : ns.length = 1 := by omega
          rw [this] at hd
          have e : y = c := hd
          rw [e] at hy
          exact ⟨c, hy⟩
      obtain ⟨p, hp⟩ := h2
      exact source_of L hp
    have := (fold_le L r _ _ hr).2.1 c hcs x hx (by rw [hxe]; exact hy)
    rw [way_len]
    omega

/-- Of whatever system: the links of a class stand side by side. -/
theorem linksTo_src (S : List Cls) : ∀ (k : Nat) (x : Nm × Nm), x ∈ linksTo S k → ∃ j, j < k ∧ firstAt S x.1 = some j ∧ ∃ c, S[j]? = some c ∧ c.name = x.1 ∧ x.2 ∈ c.ups
  | 0, x, h => by simp [linksTo] at h
  | k + 1, x, h => by
    simp only [linksTo, List.mem_append] at h
    rcases h with h | h
    · obtain ⟨j, hj, r⟩ := linksTo_src S k x h
      exact ⟨j, by omega, r⟩
    · split at h
      · rename_i y hy
        unfold linksAt at h
        split at h
        · rename_i hf
          obtain ⟨p, hp, rfl⟩ := List.mem_map.1 h
          exact ⟨k, by omega, hf, y, hy, rfl, hp⟩
        · cases h
      · cases h
theorem linksTo_cut (S : List Cls) (i : Nat) (c : Cls) (hc : S[i]? = some c) (hf : firstAt S c.name = some i) : ∀ k, i < k → ∃ B, linksTo S k = linksTo S i ++ ((c.ups.map fun p => (c.name, p)) ++ B) ∧ ∀ y ∈ B, y.1 ≠ c.name
  | 0, h => by omega
  | k + 1, h => by
    by_cases hk : i = k
    · subst hk
      refine ⟨[], ?_, fun y hy => by cases hy⟩
      simp only [linksTo, hc]
      unfold linksAt
      rw [if_pos hf, List.append_nil]
    · obtain ⟨B, hB, hn⟩ := linksTo_cut S i c hc hf k (by omega)
      refine ⟨B ++ (match S[k]? with | some c => linksAt S k c | none => []), ?_, fun y hy => ?_⟩
      · show linksTo S k ++ _ = _
        rw [hB]
        simp only [List.append_assoc]
        rfl
      · rcases List.mem_append.1 hy with hy | hy
        · exact hn y hy
        · split at hy
          · rename_i d hd
            unfold linksAt at hy
            split at hy
            · rename_i hfd
              obtain ⟨p, _, rfl⟩ := List.mem_map.1 hy
              intro e
              dsimp only at e
              rw [e, hf] at hfd
              cases hfd
              exact hk rfl
            · cases hy
          · cases hy
theorem links_side (S : List Cls) : Side (links S) := by
  intro c p h
  obtain ⟨i, hi, hf, x, hx, rfl, hp⟩ := linksTo_src S S.length (c, p) h
  dsimp only at hp hf
  obtain ⟨B, hB, hn⟩ := linksTo_cut S i x hx hf S.length hi
  have hA : ∀ y ∈ linksTo S i, y.1 ≠ x.name := by
    intro y hy e
    obtain ⟨j, hj, hfj, -⟩ := linksTo_src S i y hy
    rw [e, hf] at hfj
    cases hfj
    omega
  unfold links
  rw [hB, parents_block _ B x.name x.ups hA hn]
  exact hp
/-- A ring has no more names than the system has classes. -/
theorem isRing.small {S : List Cls} {ns : List Nm} (h : isRing (links S) ns) : ns.length ≤ S.length := by
  obtain ⟨-, hnd, hc⟩ := h
  have := nodup_le ns (S.map (·.name)) hnd (fun x hx => by
    obtain ⟨j, hj, rfl⟩ := List.getElem_of_mem hx
    have h1 := hc j (by simp; omega)
    rw [List.getElem_append_left hj] at h1
    obtain ⟨y, hy, e, -⟩ := links_mem S h1
    exact List.mem_map.2 ⟨y, hy, e⟩)
  simpa using this
theorem links_total (S : List Cls) : (links S).length ≤ (S.map fun c => c.ups.length).sum := by
  have key : ∀ k, k ≤ S.length → (linksTo S k).length ≤ ((S.take k).map fun c => c.ups.length).sum := by
    intro k
    induction k with
    | zero => intro _; simp [linksTo]
    | succ k ih =>
      intro hk
      have h1 := ih (by omega)
      have hs : S[k]? = some S[k] := List.getElem?_eq_getElem (by omega)
      have e : linksTo S (k + 1) = linksTo S k ++ linksAt S k S[k] := by
        unfold linksTo
        rw [hs]
        cases k <;> rfl
      have h2 : (linksAt S k S[k]).length ≤ S[k].ups.length := by
        unfold linksAt
        split <;> simp
      rw [e, List.length_append, List.take_succ_eq_append_getElem (by omega), List.map_append, List.sum_append, List.map_cons, List.map_nil, List.sum_cons, List.sum_nil]
      omega
  have := key S.length (Nat.le_refl _)
  rwa [List.take_length] at this
/-- What Check says of rings. -/
theorem check_of_ring {S : List Cls} {rg : List Nm} (h : ring (links S) = some rg) : (check S).1 ≠ 0 := fun h0 => by
  have := ((check_zero S).1 h0).hno
  rw [← ring_none_iff, h] at this
  cases this
theorem ring_of_check {S : List Cls} (h : (check S).1 = 7) : ∃ rg, ring (links S) = some rg ∧ (check S).2 = rg.headD [] := by
  unfold check at h ⊢
  split at h
  · cases h
  · rename_i h24
    rw [if_neg h24]
    split at h
    · rename_i i hi
      exfalso
      unfold err1 at h
      split at h
      · split at h
        · rename_i c _ _
          unfold alone at h
          split at h
          · cases h
          · split at h
            · cases h
            · split at h <;> cases h
        · split at h <;> cases h
      · cases h
    · split at h
      · cases h
      · split at h
        · rename_i r hr
          exact ⟨r, hr, by simp⟩
        · cases h
end Hr
end Go.Proofs.Ytojfimbanaijdaa
