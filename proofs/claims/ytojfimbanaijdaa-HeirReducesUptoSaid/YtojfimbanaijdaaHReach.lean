/-
  Ancestors: what the walk has done is what can be come to; without a ring parents come first. Plain functions.
-/
import Derived.Test.YtojfimbanaijdaaHSearchP
namespace Go.Proofs.Ytojfimbanaijdaa
namespace Hr
/-- a is an ancestor of c, or c itself. -/
inductive Reach (L : List (Nm × Nm)) : Nm → Nm → Prop
  | refl (c : Nm) : Reach L c c
  | step {c p a : Nm} : p ∈ parents L c → Reach L p a → Reach L c a
theorem Reach.trans {L : List (Nm × Nm)} {a b c : Nm} (h : Reach L a b) (k : Reach L b c) : Reach L a c := by
  induction h with
  | refl => exact k
  | step hp _ ih => exact .step hp (ih k)
theorem Reach.one {L : List (Nm × Nm)} {c p : Nm} (h : p ∈ parents L c) : Reach L c p := .step h (.refl p)

def OrdOk (L : List (Nm × Nm)) (w : Walk) : Prop := ∀ i (h : i < w.order.length), ∀ p ∈ parents L w.order[i], p ∈ w.order.take i
def MemOk (w : Walk) : Prop := ∀ s, s ∈ w.order ↔ w.col s = some true
def UpOk (L : List (Nm × Nm)) (w : Walk) : Prop := ∀ s, w.col s = some true → ∀ p ∈ parents L s, w.col p ≠ none
/-- What a visit leaves behind. -/
structure Went (L : List (Nm × Nm)) (w w' : Walk) : Prop where
  grey : ∀ s, w'.col s = some false ↔ w.col s = some false
  black : ∀ s, w.col s = some true → w'.col s = some true
  up : UpOk L w → UpOk L w'
  mem : MemOk w → MemOk w'
  ring : w.ring = true → w'.ring = true
  more : ∃ r, w'.order = w.order ++ r ∧ (∀ s ∈ r, w.col s = none ∧ w'.col s = some true) ∧ r.Nodup
  ord : w'.ring = false → OrdOk L w → MemOk w → OrdOk L w'
theorem Went.later {L : List (Nm × Nm)} {w w' : Walk} (h : Went L w w') : Later w w' := fun s hs => by
  cases hc : w.col s with
  | none => rfl
  | some b =>
    cases b with
    | false => rw [(h.grey s).2 hc] at hs; cases hs
    | true => rw [h.black s hc] at hs; cases hs
theorem Went.refl (L : List (Nm × Nm)) (w : Walk) : Went L w w :=
  ⟨fun _ => Iff.rfl, fun _ h => h, fun h => h, fun h => h, fun h => h, ⟨[], by simp, by simp, by simp⟩, fun _ h _ => h⟩
theorem Went.trans {L : List (Nm × Nm)} {x y z : Walk} (h : Went L x y) (k : Went L y z) : Went L x z := by
  refine ⟨fun s => (k.grey s).trans (h.grey s), fun s hs => k.black s (h.black s hs), fun hx => k.up (h.up hx), fun hx => k.mem (h.mem hx), fun hr => k.ring (h.ring hr), ?_, fun hr hx hm => ?_⟩
  · obtain ⟨r, h1, h2, h3⟩ := h.more
    obtain ⟨r', k1, k2, k3⟩ := k.more
    refine ⟨r ++ r', by rw [k1, h1, List.append_assoc], fun s hs => ?_, ?_⟩
    · rcases List.mem_append.1 hs with hs | hs
      · exact ⟨(h2 s hs).1, k.black s (h2 s hs).2⟩
      · exact ⟨h.later s (k2 s hs).1, (k2 s hs).2⟩
    · rw [List.nodup_append]
      refine ⟨h3, k3, fun a ha b hb e => ?_⟩
      subst e
      have h4 := (h2 a ha).2
      rw [(k2 a hb).1] at h4
      cases h4
  · refine k.ord hr (h.ord ?_ hx hm) (h.mem hm)
    cases hy : y.ring with
    | false => rfl
    | true => rw [k.ring hy] at hr; cases hr

/-- A visit of c: c has a colour then; if there is no ring, it is done. -/
structure Came (L : List (Nm × Nm)) (w w' : Walk) (c : Nm) : Prop where
  went : Went L w w'
  some : w'.col c ≠ none
  done : w'.ring = false → w'.col c = Option.some true
theorem foldl_went {L : List (Nm × Nm)} {n : Nat} {f : Walk → Nm → Walk} (hf : ∀ w c, fresh L w.col < n → Came L w (f w c) c) : ∀ (l : List Nm) (w : Walk), (l ≠ [] → fresh L w.col < n) → Went L w (l.foldl f w) ∧ (∀ c ∈ l, (l.foldl f w).col c ≠ none) ∧ ((l.foldl f w).ring = false → ∀ c ∈ l, (l.foldl f w).col c = some true)
  | [], w, _ => ⟨Went.refl L w, fun c h => by simp at h, fun _ c h => by simp at h⟩
  | c :: r, w, hn => by
    have h1 := hf w c (hn (by simp))
    have h2 := foldl_went hf r (f w c) (fun _ => fresh_later L h1.went.later (hn (by simp)))
    rw [List.foldl_cons]
    refine ⟨h1.went.trans h2.1, fun d hd => ?_, fun hr d hd => ?_⟩
    · rcases List.mem_cons.1 hd with rfl | hd
      · exact fun e => h1.some (h2.1.later _ e)
      · exact h2.2.1 d hd
    · rcases List.mem_cons.1 hd with rfl | hd
      · refine h2.1.black _ (h1.done ?_)
        cases hy : (f w d).ring with
        | false => rfl
        | true => rw [h2.1.ring hy] at hr; cases hr
      · exact h2.2.2 hr d hd
theorem visit_came (L : List (Nm × Nm)) : ∀ (n : Nat) (w : Walk) (c : Nm), fresh L w.col < n → Came L w (visit L n w c) c
  | 0, w, c, h => by omega
  | n + 1, w, c, h => by
    unfold visit
    split
    · rename_i h0
      refine ⟨⟨fun _ => Iff.rfl, fun _ h => h, fun h => h, fun h => h, fun _ => rfl, ⟨[], by simp, by simp, by simp⟩, fun h => by cases h⟩, by dsimp only; rw [h0]; simp, fun h => by cases h⟩
    · rename_i h0
      exact ⟨Went.refl L w, by rw [h0]; simp, fun _ => h0⟩
    · rename_i h0
      obtain ⟨hw, hs, hd⟩ := foldl_went (L := L) (n := n) (fun w c h => visit_came L n w c h) (parents L c) { w with col := upd w.col c false } (fun hp => fresh_step L w c n h0 h hp)
      generalize (parents L c).foldl (visit L n) { w with col := upd w.col c false } = w1 at *
      dsimp only
      have hcne : ∀ s, w.col s ≠ none → s ≠ c := fun s hs e => hs (by rw [e]; exact h0)
      have h1c : w1.col c = some false := (hw.grey c).2 (upd_same _ _ _)
      have hmem0 : MemOk w → MemOk { w with col := upd w.col c false } := fun hm s => by
        by_cases e : s = c
        · subst e
          refine (hm s).trans ?_
          dsimp only
          rw [upd_same, h0]
          simp
        · refine (hm s).trans ?_
          dsimp only
          rw [upd_other _ _ e]
      refine ⟨⟨fun s => ?_, fun s hs => ?_, fun hu s hb p hp => ?_, fun hm s => ?_, fun hr => hw.ring hr, ?_, fun hr ho hm i hi => ?_⟩, by dsimp only; rw [upd_same]; simp, fun _ => by dsimp only; rw [upd_same]⟩
      · dsimp only
        by_cases e : s = c
        · subst e; rw [upd_same, h0]; simp
        · rw [upd_other _ _ e, hw.grey s]; dsimp only; rw [upd_other _ _ e]
      · have e := hcne s (by rw [hs]; simp)
        dsimp only
        rw [upd_other _ _ e]
        exact hw.black s (by dsimp only; rw [upd_other _ _ e]; exact hs)
      · intro hpn
        have hpn1 : w1.col p = none := upd_later w1.col c true p hpn
        by_cases e : s = c
        · subst e; exact hs p hp hpn1
        · dsimp only at hb
          rw [upd_other _ _ e] at hb
          refine hw.up ?_ s hb p hp hpn1
          intro s' hb' p' hp' hn'
          have e' : s' ≠ c := fun e => by subst e; dsimp only at hb'; rw [upd_same] at hb'; cases hb'
          dsimp only at hb' hn'
          rw [upd_other _ _ e'] at hb'
          exact hu s' hb' p' hp' (upd_later _ c false p' hn')
      · dsimp only
        by_cases e : s = c
        · subst e; rw [upd_same]; simp
        · rw [upd_other _ _ e, ← hw.mem (hmem0 hm) s]
          simp [e]
      · obtain ⟨r, h1, h2, h3⟩ := hw.more
        dsimp only at h1 h2
        refine ⟨r ++ [c], by rw [h1, List.append_assoc], fun s hs => ?_, ?_⟩
        · rcases List.mem_append.1 hs with hs | hs
          · have hn := (h2 s hs).1
            have e : s ≠ c := fun e => by rw [e, upd_same] at hn; cases hn
            dsimp only
            rw [upd_other _ _ e] at hn ⊢
            exact ⟨hn, (h2 s hs).2⟩
          · dsimp only
            rw [List.mem_singleton.1 hs, upd_same]
            exact ⟨h0, rfl⟩
        · rw [List.nodup_append]
          refine ⟨h3, by simp, fun a ha b hb e => ?_⟩
          rw [List.mem_singleton] at hb
          have hn := (h2 a ha).1
          rw [e, hb, upd_same] at hn
          cases hn
      · have ho1 := hw.ord hr ho (hmem0 hm)
        have hm1 := hw.mem (hmem0 hm)
        dsimp only at hi ⊢
        rw [List.length_append, List.length_singleton] at hi
        by_cases hi1 : i < w1.order.length
        · intro p hp
          rw [List.getElem_append_left hi1] at hp
          rw [List.take_append_of_le_length (Nat.le_of_lt hi1)]
          exact ho1 i hi1 p hp
        · obtain rfl : i = w1.order.length := by omega
          intro p hp
          rw [List.getElem_append_right (Nat.le_refl _)] at hp
          simp only [Nat.sub_self, List.getElem_cons_zero] at hp
          rw [List.take_append_of_le_length (Nat.le_refl _), List.take_length]
          exact (hm1 p).2 (hd hr p hp)
theorem visit_reach (L : List (Nm × Nm)) : ∀ (n : Nat) (w : Walk) (c s : Nm), s ∈ (visit L n w c).order → s ∈ w.order ∨ Reach L c s
  | 0, w, c, s, h => .inl h
  | n + 1, w, c, s, h => by
    unfold visit at h
    split at h
    · exact .inl h
    · exact .inl h
    · have key : ∀ (l : List Nm) (w : Walk), s ∈ (l.foldl (visit L n) w).order → s ∈ w.order ∨ ∃ p ∈ l, Reach L p s := by
        intro l
        induction l with
        | nil => exact fun w h => .inl h
        | cons p r ih =>
          intro w h
          rw [List.foldl_cons] at h
          rcases ih _ h with h | ⟨q, hq, hr⟩
          · rcases visit_reach L n w p s h with h | h
            · exact .inl h
            · exact .inr ⟨p, by simp, h⟩
          · exact .inr ⟨q, by simp [hq], hr⟩
      dsimp only at h
      rcases List.mem_append.1 h with h | h
      · rcases key _ _ h with h | ⟨p, hp, hr⟩
        · exact .inl h
        · exact .inr (.step hp hr)
      · rw [List.mem_singleton.1 h]
        exact .inr (.refl c)

def start : Walk := ⟨fun _ => none, [], false⟩
theorem start_fresh (L : List (Nm × Nm)) (l : List Nm) : l ≠ [] → fresh L start.col < L.length + 1 := fun _ => Nat.lt_succ_of_le (fresh_le L _)
theorem visited_went (L : List (Nm × Nm)) (l : List Nm) : Went L start (visited L l) ∧ (∀ c ∈ l, (visited L l).col c ≠ none) ∧ ((visited L l).ring = false → ∀ c ∈ l, (visited L l).col c = some true) := foldl_went (L := L) (n := L.length + 1) (fun w c h => visit_came L (L.length + 1) w c h) l start (start_fresh L l)
theorem start_mem : MemOk start := fun s => by unfold start; simp
theorem start_up (L : List (Nm × Nm)) : UpOk L start := fun s h => by unfold start at h; cases h
/-- What is done is closed. -/
theorem visited_closed (L : List (Nm × Nm)) (l : List Nm) {c a : Nm} (h : Reach L c a) (hc : c ∈ (visited L l).order) : a ∈ (visited L l).order := by
  have hw := (visited_went L l).1
  have hm := hw.mem start_mem
  have hu := hw.up (start_up L)
  have hg : ∀ s, (visited L l).col s ≠ some false := fun s hs => by have := (hw.grey s).1 hs; unfold start at this; cases this
  induction h with
  | refl => exact hc
  | @step c p a hp _ ih =>
    refine ih ((hm p).2 ?_)
    have h1 := hu c ((hm c).1 hc) p hp
    cases hx : (visited L l).col p with
    | none => exact absurd hx h1
    | some b => cases b with
      | false => exact absurd hx (hg p)
      | true => rfl
theorem visited_has (L : List (Nm × Nm)) (l : List Nm) {c : Nm} (hc : c ∈ l) : c ∈ (visited L l).order := by
  have hw := (visited_went L l).1
  have hm := hw.mem start_mem
  have hg : ∀ s, (visited L l).col s ≠ some false := fun s hs => by have := (hw.grey s).1 hs; unfold start at this; cases this
  refine (hm c).2 ?_
  have h1 := (visited_went L l).2.1 c hc
  cases hx : (visited L l).col c with
  | none => exact absurd hx h1
  | some b => cases b with
    | false => exact absurd hx (hg c)
    | true => rfl
theorem visited_nodup (L : List (Nm × Nm)) (l : List Nm) : (visited L l).order.Nodup := by
  obtain ⟨r, h1, _, h3⟩ := (visited_went L l).1.more
  unfold start at h1
  rw [List.nil_append] at h1
  rw [h1]
  exact h3
theorem mem_above (L : List (Nm × Nm)) (c a : Nm) : a ∈ above L c ↔ Reach L c a := by
  constructor
  · intro h
    rcases visit_reach L (L.length + 1) start c a h with h | h
    · unfold start at h; simp at h
    · exact h
  · intro h
    exact visited_closed L [c] h (visited_has L [c] (by simp))
theorem isUp_iff (L : List (Nm × Nm)) (c a : Nm) : isUp L c a = true ↔ Reach L c a := by
  unfold isUp
  rw [List.contains_iff_mem]
  exact mem_above L c a

/-- No ring: parents come first. -/
def Acyc (L : List (Nm × Nm)) : Prop := ∃ r : Nm → Nat, ∀ c, ∀ p ∈ parents L c, r p < r c
theorem visited_ord (L : List (Nm × Nm)) (l : List Nm) (h : (visited L l).ring = false) : OrdOk L (visited L l) :=
  (visited_went L l).1.ord h (fun i hi => by unfold start at hi; simp at hi) start_mem
theorem acyc_of_ring (L : List (Nm × Nm)) (h : (visited L (sources L)).ring = false) : Acyc L := by
  have ho := visited_ord L _ h
  have hnd := visited_nodup L (sources L)
  refine ⟨fun s => (visited L (sources L)).order.idxOf s, fun c p hp => ?_⟩
  have hc : c ∈ sources L := by
    have h1 : c ∈ L.map (·.1) := List.mem_map.2 ⟨_, parents_mem L c p hp, rfl⟩
    unfold sources
    rw [(isort_perm _).mem_iff, List.mem_eraseDups]
    exact h1
  have hc := visited_has L _ hc
  obtain ⟨i, hi, he⟩ := List.getElem_of_mem hc
  have hq := ho i hi p (by rw [he]; exact hp)
  obtain ⟨j, hj, hje⟩ := List.getElem_of_mem hq
  rw [List.length_take] at hj
  rw [List.getElem_take] at hje
  have h1 : (visited L (sources L)).order.idxOf p = j := by rw [← hje]; exact hnd.idxOf_getElem j (by omega)
  have h2 : (visited L (sources L)).order.idxOf c = i := by rw [← he]; exact hnd.idxOf_getElem i hi
  show (visited L (sources L)).order.idxOf p < (visited L (sources L)).order.idxOf c
  rw [h1, h2]
  omega
theorem Reach.lt {L : List (Nm × Nm)} {r : Nm → Nat} (hr : ∀ c, ∀ p ∈ parents L c, r p < r c) {c a : Nm} (h : Reach L c a) : a = c ∨ r a < r c := by
  induction h with
  | refl => exact .inl rfl
  | @step c p a hp _ ih =>
    have := hr c p hp
    rcases ih with rfl | h
    · exact .inr this
    · exact .inr (by omega)
theorem Reach.anti {L : List (Nm × Nm)} (hA : Acyc L) {c a : Nm} (h : Reach L c a) (k : Reach L a c) : c = a := by
  obtain ⟨r, hr⟩ := hA
  rcases h.lt hr with h | h
  · exact h.symm
  · rcases k.lt hr with k | k
    · exact k
    · omega
end Hr
end Go.Proofs.Ytojfimbanaijdaa
