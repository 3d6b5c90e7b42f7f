/-
  Of a valid system: a class's parents are those of its links; the ways to an ancestor are those from the parents, together.
-/
import Derived.Test.YtojfimbanaijdaaHMeetP
namespace Go.Proofs.Ytojfimbanaijdaa
open Go.RowKit
namespace Hr
def block (c : Cls) : List (Nm × Nm) := c.ups.map fun p => (c.name, p)
theorem linksTo_flat {S : List Cls} (hV : Valid S) : ∀ k, k ≤ S.length → linksTo S k = (S.take k).flatMap block
  | 0, _ => by simp [linksTo]
  | k + 1, h => by
    have hk : k < S.length := h
    rw [linksTo, linksTo_flat hV k (by omega), List.getElem?_eq_getElem hk, List.take_succ_eq_append_getElem hk, List.flatMap_append]
    congr 1
    show linksAt S k S[k] = _
    unfold linksAt
    rw [if_pos (hV.hal k hk).2]
    simp [block]
theorem parents_block (A B : List (Nm × Nm)) (s : Nm) (u : List Nm) (hA : ∀ y ∈ A, y.1 ≠ s) (hB : ∀ y ∈ B, y.1 ≠ s) : parents (A ++ (u.map (fun p => (s, p)) ++ B)) s = u := by
  have hBw : B.takeWhile (fun x => x.1 == s) = [] := by
    cases B with
    | nil => rfl
    | cons y r => rw [List.takeWhile_cons_of_neg (by simpa using hB y (by simp))]
  have hu : (u.map (fun p => (s, p)) ++ B).takeWhile (fun x => x.1 == s) = u.map (fun p => (s, p)) := by
    rw [List.takeWhile_append_of_pos (by intro x hx; obtain ⟨p, _, rfl⟩ := List.mem_map.1 hx; simp), hBw, List.append_nil]
  unfold parents
  cases u with
  | nil =>
    have hn : firstLink (A ++ (([] : List Nm).map (fun p => (s, p)) ++ B)) s = none := by
      unfold firstLink
      rw [List.findIdx?_eq_none_iff]
      intro x hx
      simp only [List.map_nil, List.nil_append, List.mem_append] at hx
      rcases hx with h | h
      · simpa using hA x h
      · simpa using hB x h
    rw [hn]
    simp only [Option.getD_none, List.drop_zero, List.map_nil, List.nil_append]
    cases A with
    | nil => rw [List.nil_append, hBw]; rfl
    | cons y r => rw [List.cons_append, List.takeWhile_cons_of_neg (by simpa using hA y (by simp))]; rfl
  | cons p r =>
    have hs : firstLink (A ++ ((p :: r).map (fun p => (s, p)) ++ B)) s = some A.length := by
      unfold firstLink
      rw [List.findIdx?_eq_some_iff_getElem]
      refine ⟨by simp, by simp, fun j hj => ?_⟩
      rw [List.getElem_append_left hj]
      simpa using hA _ (List.getElem_mem hj)
    rw [hs]
    simp only [Option.getD_some, List.drop_left]
    rw [hu]
    simp [List.map_map, Function.comp_def]
theorem parents_eq {S : List Cls} (hV : Valid S) (i : Nat) (hi : i < S.length) : parents (links S) S[i].name = S[i].ups := by
  have hne : ∀ j (hj : j < S.length), j ≠ i → S[j].name ≠ S[i].name := fun j hj hji e => by
    have h1 := (hV.hal j hj).2
    have h2 := (hV.hal i hi).2
    rw [e, h2] at h1
    injection h1 with h1
    exact hji h1.symm
  have hsplit : links S = (S.take i).flatMap block ++ (S[i].ups.map (fun p => (S[i].name, p)) ++ (S.drop (i + 1)).flatMap block) := by
    unfold links
    rw [linksTo_flat hV _ (Nat.le_refl _), List.take_length]
    conv => lhs; rw [← List.take_append_drop i S, List.drop_eq_getElem_cons hi]
    rw [List.flatMap_append, List.flatMap_cons]
    rfl
  rw [hsplit]
  refine parents_block _ _ _ _ (fun y hy => ?_) (fun y hy => ?_)
  · obtain ⟨c, hc, hy⟩ := List.mem_flatMap.1 hy
    obtain ⟨p, _, rfl⟩ := List.mem_map.1 hy
    obtain ⟨j, hj, rfl⟩ := List.getElem_of_mem hc
    rw [List.getElem_take]
    simp at hj
    exact hne j (by omega) (by omega)
  · obtain ⟨c, hc, hy⟩ := List.mem_flatMap.1 hy
    obtain ⟨p, _, rfl⟩ := List.mem_map.1 hy
    obtain ⟨j, hj, rfl⟩ := List.getElem_of_mem hc
    rw [List.getElem_drop]
    simp at hj
    exact hne _ (by omega) (by omega)

/-- The ways from a class to another one, so many steps at the most. -/
def wayN (L : List (Nm × Nm)) (a : Nm) : Nat → Nm → Int
  | 0, _ => 0
  | k + 1, c => (if c = a then 1 else 0) + ((parents L c).map (wayN L a k)).sum
theorem wayN_still {L : List (Nm × Nm)} {r : Nm → Nat} (hr : ∀ c, ∀ p ∈ parents L c, r p < r c) (a : Nm) : ∀ (k n : Nat) (c : Nm), r c < k → r c < n → wayN L a k c = wayN L a n c
  | k + 1, n + 1, c, h1, h2 => by
    unfold wayN
    congr 2
    exact List.map_congr_left fun p hp => wayN_still hr a k n p (by have := hr c p hp; omega) (by have := hr c p hp; omega)
  | 0, _, c, h1, _ => by omega
  | _ + 1, 0, c, _, h2 => by omega
theorem wayN_nonneg (L : List (Nm × Nm)) (a : Nm) : ∀ (k : Nat) (c : Nm), 0 ≤ wayN L a k c
  | 0, _ => by unfold wayN; omega
  | k + 1, c => by
    unfold wayN
    have : ∀ l : List Nm, 0 ≤ (l.map (wayN L a k)).sum := fun l => by
      induction l with
      | nil => simp
      | cons x l ih => have := wayN_nonneg L a k x; simp only [List.map_cons, List.sum_cons]; omega
    have := this (parents L c)
    split <;> omega
/-- The count of the ways, in an acyclic system. -/
structure Count (L : List (Nm × Nm)) (a : Nm) (N : Nm → Int) : Prop where
  eq : ∀ c, N c = (if c = a then 1 else 0) + ((parents L c).map N).sum
  pos : ∀ c, 0 ≤ N c
theorem count_of {L : List (Nm × Nm)} (hA : Acyc L) (a : Nm) : ∃ N, Count L a N := by
  obtain ⟨r, hr⟩ := hA
  refine ⟨fun c => wayN L a (r c + 1) c, fun c => ?_, fun c => wayN_nonneg L a _ c⟩
  show wayN L a (r c + 1) c = _
  conv => lhs; unfold wayN
  congr 2
  exact List.map_congr_left fun p hp => wayN_still hr a _ _ p (hr c p hp) (by omega)
theorem sum_le {N : Nm → Int} {B : Int} : ∀ l : List Nm, (∀ p ∈ l, N p ≤ B) → (l.map N).sum ≤ l.length * B
  | [], _ => by simp
  | x :: l, h => by
    have h1 := h x (by simp)
    have h2 := sum_le l (fun p hp => h p (by simp [hp]))
    simp only [List.map_cons, List.sum_cons, List.length_cons]
    have e : ((l.length + 1 : Nat) : Int) * B = l.length * B + B := by
      rw [Int.natCast_add, Int.add_mul]; simp
    omega
theorem sum_nonneg {N : Nm → Int} (h0 : ∀ c, 0 ≤ N c) : ∀ l : List Nm, 0 ≤ (l.map N).sum
  | [] => by simp
  | x :: l => by
    have h1 := h0 x
    have h2 := sum_nonneg h0 l
    simp only [List.map_cons, List.sum_cons]
    omega
theorem sum_one {N : Nm → Int} (h0 : ∀ c, 0 ≤ N c) : ∀ l : List Nm, 0 < (l.map N).sum ↔ ∃ p ∈ l, 0 < N p
  | [] => by simp
  | x :: l => by
    have h1 := h0 x
    have h2 := sum_one h0 l
    have h3 := sum_nonneg h0 l
    simp only [List.map_cons, List.sum_cons, List.mem_cons, exists_eq_or_imp]
    rw [← h2]
    omega
theorem Count.reach {L : List (Nm × Nm)} {a : Nm} {N : Nm → Int} (hA : Acyc L) (hN : Count L a N) (c : Nm) : 0 < N c ↔ Reach L c a := by
  obtain ⟨r, hr⟩ := hA
  have key : ∀ n c, r c < n → (0 < N c ↔ Reach L c a) := by
    intro n
    induction n with
    | zero => intro c h; omega
    | succ n ih =>
      intro c hc
      rw [hN.eq c]
      have hs := sum_one hN.pos (parents L c)
      have h0 := sum_nonneg hN.pos (parents L c)
      constructor
      · intro h
        by_cases e : c = a
        · subst e; exact .refl c
        · rw [if_neg e] at h
          obtain ⟨p, hp, hpos⟩ := hs.1 (by omega)
          exact .step hp ((ih p (by have := hr c p hp; omega)).1 hpos)
      · intro h
        cases h with
        | refl => rw [if_pos rfl]; omega
        | step hp h =>
          have := hs.2 ⟨_, hp, (ih _ (by have := hr c _ hp; omega)).2 h⟩
          split <;> omega
  exact key _ c (Nat.lt_succ_self _)

theorem wrap64_add (a b : Int) : wrap64 (wrap64 a + wrap64 b) = wrap64 (a + b) := by
  unfold wrap64
  omega
theorem wrap64_add_l (a b : Int) : wrap64 (wrap64 a + b) = wrap64 (a + b) := by
  unfold wrap64
  omega
theorem waysIn_at {N : Nm → Int} (x : Nm) : ∀ (l : List Nm) (f : Nm → Option Int) (s : Int), (∀ p ∈ l, p ≠ x ∧ (f p).getD 0 = wrap64 (N p)) → (f x).getD 0 = wrap64 s →
    ((l.foldl (waysStep x) f) x).getD 0 = wrap64 (s + (l.map N).sum) ∧ ∀ y, y ≠ x → (l.foldl (waysStep x) f) y = f y
  | [], f, s, _, hx => ⟨by simpa using hx, fun _ _ => rfl⟩
  | p :: l, f, s, h, hx => by
    have h1 := h p (by simp)
    have hx2 : ((waysStep x f p) x).getD 0 = wrap64 (s + N p) := by
      unfold waysStep upd
      simp only [if_true, Option.getD_some]
      rw [hx, h1.2, wrap64_add]
    have hoth : ∀ y, y ≠ x → (waysStep x f p) y = f y := fun y hy => by
      unfold waysStep upd
      simp [hy]
    obtain ⟨e1, e2⟩ := waysIn_at x l (waysStep x f p) (s + N p) (fun q hq => by
      have := h q (by simp [hq])
      exact ⟨this.1, by rw [hoth q this.1]; exact this.2⟩) hx2
    refine ⟨?_, fun y hy => (e2 y hy).trans (hoth y hy)⟩
    rw [List.foldl_cons, e1]
    congr 1
    simp only [List.map_cons, List.sum_cons]
    omega
theorem wrap64_small : wrap64 1 = 1 ∧ wrap64 0 = 0 := ⟨by unfold wrap64; omega, by unfold wrap64; omega⟩
/-- Ways, in wrapped sums, is the count, wrapped. -/
theorem waysW_eq {L : List (Nm × Nm)} (hA : Acyc L) {a : Nm} {N : Nm → Int} (hN : Count L a N) (c : Nm) : waysW L c a = wrap64 (N c) := by
  have hnr : (visited L [c]).ring = false := by
    cases h : (visited L [c]).ring with
    | false => rfl
    | true =>
      obtain ⟨x, p, hp, hx⟩ := visited_cyc L [c] h
      obtain ⟨r, hr⟩ := hA
      have h1 := hr x p hp
      rcases hx.lt hr with e | e
      · subst e; omega
      · omega
  have hord : OrdOk L (visited L [c]) := visited_ord L [c] hnr
  have hnd := above_nodup L c
  have key : ∀ i, i ≤ (above L c).length → (∀ x, x ∈ (above L c).take i → ((((above L c).take i).foldl (fun f x => waysIn L x f) (upd (fun _ => none) a 1)) x).getD 0 = wrap64 (N x)) ∧
      (∀ x, x ∉ (above L c).take i → (((above L c).take i).foldl (fun f x => waysIn L x f) (upd (fun _ => none) a 1)) x = upd (fun _ => none) a 1 x) := by
    intro i
    induction i with
    | zero => intro _; exact ⟨fun x hx => by simp at hx, fun x _ => rfl⟩
    | succ i ih =>
      intro hi
      obtain ⟨h1, h2⟩ := ih (by omega)
      have hi' : i < (above L c).length := hi
      have hnot : (above L c)[i] ∉ (above L c).take i := fun hm => by
        obtain ⟨j, hj, e⟩ := List.getElem_of_mem hm
        rw [List.getElem_take] at e
        simp at hj
        have := (List.getElem_inj hnd).1 e
        omega
      rw [List.take_succ_eq_append_getElem hi', List.foldl_append]
      simp only [List.foldl_cons, List.foldl_nil]
      generalize hf : ((above L c).take i).foldl (fun f x => waysIn L x f) (upd (fun _ => none) a 1) = f at *
      have hpar : ∀ p ∈ parents L (above L c)[i], p ∈ (above L c).take i := fun p hp => hord i hi' p hp
      obtain ⟨e1, e2⟩ := waysIn_at (N := N) (above L c)[i] (parents L (above L c)[i]) f (if (above L c)[i] = a then 1 else 0) (fun p hp => ⟨fun e => hnot (e ▸ hpar p hp), h1 p (hpar p hp)⟩) (by
        rw [h2 _ hnot]
        unfold upd
        split
        · simp [wrap64_small.1]
        · simp [wrap64_small.2])
      refine ⟨fun x hx => ?_, fun x hx => ?_⟩
      · rcases List.mem_append.1 hx with hx | hx
        · have : x ≠ (above L c)[i] := fun e => hnot (e ▸ hx)
          rw [show waysIn L (above L c)[i] f x = f x from e2 x this]
          exact h1 x hx
        · rw [List.mem_singleton.1 hx, hN.eq]
          exact e1
      · simp only [List.mem_append, List.mem_singleton, not_or] at hx
        rw [show waysIn L (above L c)[i] f x = f x from e2 x hx.2]
        exact h2 x hx.1
  have h := (key _ (Nat.le_refl _)).1 c (by rw [List.take_length]; exact (mem_above L c c).2 (.refl c))
  rw [List.take_length] at h
  exact h
theorem nodup_le : ∀ (l m : List Nm), l.Nodup → (∀ x ∈ l, x ∈ m) → l.length ≤ m.length
  | [], _, _, _ => Nat.zero_le _
  | x :: l, m, hn, h => by
    have hx := h x (by simp)
    have hn' := List.nodup_cons.1 hn
    have h1 := nodup_le l (m.erase x) hn'.2 (fun y hy => (List.mem_erase_of_ne (fun e : y = x => hn'.1 (by rw [← e]; exact hy))).2 (h y (by simp [hy])))
    rw [List.length_erase_of_mem hx] at h1
    have h2 := List.length_pos_of_mem hx
    simp only [List.length_cons]
    omega
theorem ord_above {L : List (Nm × Nm)} (hA : Acyc L) (c : Nm) : OrdOk L (visited L [c]) := by
  refine visited_ord L [c] ?_
  cases h : (visited L [c]).ring with
  | false => rfl
  | true =>
    obtain ⟨x, p, hp, hx⟩ := visited_cyc L [c] h
    obtain ⟨r, hr⟩ := hA
    have h1 := hr x p hp
    rcases hx.lt hr with e | e
    · subst e; omega
    · omega
theorem count_le {L : List (Nm × Nm)} (hA : Acyc L) (h4 : ∀ x, (parents L x).length ≤ 4) {a : Nm} {N : Nm → Int} (hN : Count L a N) (c : Nm) : ∀ i (h : i < (above L c).length), N (above L c)[i] ≤ ((5 ^ i : Nat) : Int) := by
  have key : ∀ n i (h : i < (above L c).length), i < n → N (above L c)[i] ≤ ((5 ^ i : Nat) : Int) := by
    intro n
    induction n with
    | zero => intro i _ h; omega
    | succ n ih =>
      intro i h hi
      have hp : ∀ p ∈ parents L (above L c)[i], ∃ j, ∃ hj : j < (above L c).length, j < i ∧ p = (above L c)[j] := fun p hp => by
        obtain ⟨j, hj, e⟩ := List.getElem_of_mem (ord_above hA c i h p hp)
        rw [List.getElem_take] at e
        simp at hj
        exact ⟨j, by omega, by omega, e.symm⟩
      rw [hN.eq]
      cases i with
      | zero =>
        have : parents L (above L c)[0] = [] := by
          cases hq : parents L (above L c)[0] with
          | nil => rfl
          | cons p r =>
            obtain ⟨j, _, hj, _⟩ := hp p (by rw [hq]; simp)
            omega
        rw [this]
        simp
        split <;> omega
      | succ m =>
        have h1 := sum_le (N := N) (B := ((5 ^ m : Nat) : Int)) (parents L (above L c)[m + 1]) (fun p hq => by
          obtain ⟨j, hj, hji, rfl⟩ := hp p hq
          have h2 := ih j hj (by omega)
          have h3 : 5 ^ j ≤ 5 ^ m := Nat.pow_le_pow_right (by omega) (by omega)
          omega)
        have h2 := h4 (above L c)[m + 1]
        have h3 : ((parents L (above L c)[m + 1]).length : Int) * ((5 ^ m : Nat) : Int) ≤ 4 * ((5 ^ m : Nat) : Int) := Int.mul_le_mul_of_nonneg_right (by omega) (Int.natCast_nonneg _)
        have h5 : 1 ≤ 5 ^ m := Nat.one_le_pow _ _ (by omega)
        have h6 : 5 ^ (m + 1) = 5 ^ m * 5 := Nat.pow_succ 5 m
        split <;> omega
  exact fun i h => key (i + 1) i h (by omega)
theorem count_small {S : List Cls} (hV : Valid S) {a : Nm} {N : Nm → Int} (hN : Count (links S) a N) (c : Nm) (hc : c ∈ S.map (·.name)) : N c ≤ 9223372036854775807 := by
  have h4 : ∀ x, (parents (links S) x).length ≤ 4 := fun x => by
    by_cases hx : x ∈ S.map (·.name)
    · obtain ⟨y, hy, rfl⟩ := List.mem_map.1 hx
      obtain ⟨i, hi, rfl⟩ := List.getElem_of_mem hy
      rw [parents_eq hV i hi]
      exact alone_four (hV.hal i hi).1
    · have : parents (links S) x = [] := by
        cases hq : parents (links S) x with
        | nil => rfl
        | cons p r =>
          obtain ⟨y, hy, e, _⟩ := links_mem S (parents_mem _ x p (by rw [hq]; simp))
          exact (hx (List.mem_map.2 ⟨y, hy, e⟩)).elim
      rw [this]
      simp
  obtain ⟨i, hi, e⟩ := List.getElem_of_mem ((mem_above (links S) c c).2 (.refl c))
  have h1 := count_le hV.acyc h4 hN c i hi
  rw [e] at h1
  have h2 := nodup_le _ (S.map (·.name)) (above_nodup (links S) c) (fun x hx => hV.reach ((mem_above _ _ _).1 hx) hc)
  simp only [List.length_map] at h2
  have h3 := hV.h24
  have h5 : 5 ^ i ≤ 5 ^ 23 := Nat.pow_le_pow_right (by omega) (by omega)
  have h6 : (5 : Nat) ^ 23 = 11920928955078125 := by decide
  omega
end Hr
end Go.Proofs.Ytojfimbanaijdaa
