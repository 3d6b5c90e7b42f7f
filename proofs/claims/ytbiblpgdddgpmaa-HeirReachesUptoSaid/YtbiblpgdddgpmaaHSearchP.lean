/-
  The search of steps, round by round. Plain functions.
-/
import Derived.Test.YtbiblpgdddgpmaaHQueue
namespace Go.Proofs.Ytbiblpgdddgpmaa
namespace Hr
/-- What is left to look at: the queue, and the links of classes that have not been come to. -/
def pot (L : List (Nm × Nm)) (seen : List Nm) (q : Nat) : Nat := q + (L.filter fun x => !seen.contains x.1).length
theorem parents_count (L : List (Nm × Nm)) (c : Nm) : (parents L c).length ≤ (L.filter fun x => x.1 == c).length := by
  have h : ∀ l : List (Nm × Nm), (l.takeWhile fun x => x.1 == c).length ≤ (l.filter fun x => x.1 == c).length := by
    intro l
    induction l with
    | nil => simp
    | cons a r ih =>
      by_cases ha : (a.1 == c) = true
      · simp only [List.takeWhile_cons, List.filter_cons, ha, if_true, List.length_cons]
        omega
      · simp [ha]
  unfold parents
  rw [List.length_map]
  refine Nat.le_trans (h _) ?_
  exact ((List.drop_sublist _ L).filter _).length_le
theorem filter_split (L : List (Nm × Nm)) (seen : List Nm) (c : Nm) (hc : c ∉ seen) : (L.filter fun x => !(c :: seen).contains x.1).length + (L.filter fun x => x.1 == c).length = (L.filter fun x => !seen.contains x.1).length := by
  induction L with
  | nil => rfl
  | cons a r ih =>
    by_cases ha : a.1 = c
    · have h1 : (a.1 == c) = true := by simpa using ha
      have h2 : (!(c :: seen).contains a.1) = false := by simp [ha]
      have h3 : (!seen.contains a.1) = true := by simp [ha, hc]
      simp only [List.filter_cons, h1, h2, h3, if_true, Bool.false_eq_true, if_false, List.length_cons]
      omega
    · have h1 : (a.1 == c) = false := by simpa using ha
      by_cases hs : a.1 ∈ seen
      · have h2 : (!(c :: seen).contains a.1) = false := by simp [hs]
        have h3 : (!seen.contains a.1) = false := by simp [hs]
        simp only [List.filter_cons, h1, h2, h3, Bool.false_eq_true, if_false]
        exact ih
      · have h2 : (!(c :: seen).contains a.1) = true := by simp [hs, ha]
        have h3 : (!seen.contains a.1) = true := by simp [hs]
        simp only [List.filter_cons, h1, h2, h3, if_true, Bool.false_eq_true, if_false, List.length_cons]
        omega
theorem pot_new (L : List (Nm × Nm)) (seen : List Nm) (c : Nm) (q n : Nat) (hc : c ∉ seen) (h : pot L seen (q + 1) < n + 1) : pot L (c :: seen) (q + (isort (parents L c)).length) < n := by
  have h1 := filter_split L seen c hc
  have h2 := parents_count L c
  have h3 := (isort_perm (parents L c)).length_eq
  unfold pot at h ⊢
  omega
theorem pot_old (L : List (Nm × Nm)) (seen : List Nm) (q n : Nat) (h : pot L seen (q + 1) < n + 1) : pot L seen q < n := by
  unfold pot at h ⊢
  omega
theorem pot_le (L : List (Nm × Nm)) : pot L [] 1 < L.length + 2 := by
  unfold pot
  have := List.length_filter_le (fun x : Nm × Nm => !([] : List Nm).contains x.1) L
  omega
theorem search_nil (L : List (Nm × Nm)) (n : Nat) (seen : List Nm) : search L n seen [] = [] := by cases n <;> rfl
theorem search_old (L : List (Nm × Nm)) (n : Nat) (seen : List Nm) (x : Nm × List Nm) (q : List (Nm × List Nm)) (h : x.1 ∈ seen) : search L (n + 1) seen (x :: q) = search L n seen q := by
  conv => lhs; unfold search
  rw [if_pos h]
theorem search_new (L : List (Nm × Nm)) (n : Nat) (seen : List Nm) (x : Nm × List Nm) (q : List (Nm × List Nm)) (h : x.1 ∉ seen) : search L (n + 1) seen (x :: q) = x :: search L n (x.1 :: seen) (q ++ (isort (parents L x.1)).map fun p => (p, x.1 :: x.2)) := by
  conv => lhs; unfold search
  rw [if_neg h]
theorem seenF_cons (seen : List Nm) (x : Nm) : upd (seenF seen) x true = seenF (x :: seen) := by
  funext s
  unfold upd seenF
  by_cases h : s = x
  · simp [h]
  · simp [h]
theorem least_ex {q : Nat → Prop} (h : ∃ n, q n) : ∃ n, q n ∧ ∀ m, q m → n ≤ m := by
  obtain ⟨n, hn⟩ := h
  induction n using Nat.strongRecOn with
  | ind n ih =>
    by_cases h : ∃ m, m < n ∧ q m
    · obtain ⟨m, hm, hq⟩ := h
      exact ih m hm hq
    · exact ⟨n, hn, fun m hm => Nat.le_of_not_lt fun hlt => h ⟨m, hlt, hm⟩⟩
theorem least_pick {p : Nat → Prop} (h : ∃ n, p n) : ∃ n, p n ∧ Classical.epsilon (fun n => p n ∧ ∀ m, p m → n ≤ m) = n :=
  ⟨_, (Classical.epsilon_spec (least_ex h)).1, rfl⟩
theorem least_lt {p : Nat → Prop} {m n : Nat} (hp : p m) (hm : m < n) : Classical.epsilon (fun n => p n ∧ ∀ m, p m → n ≤ m) < n :=
  Nat.lt_of_le_of_lt ((Classical.epsilon_spec (least_ex ⟨m, hp⟩)).2 m hp) hm
end Hr
end Go.Proofs.Ytbiblpgdddgpmaa
