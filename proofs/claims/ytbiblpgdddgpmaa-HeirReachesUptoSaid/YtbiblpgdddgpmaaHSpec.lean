/-
  Systems of classes and their parents, as plain functions: links, what a class's parents are, the walk that goes through ancestors.
-/
import Derived.Test.YtbiblpgdddgpmaaHMap
namespace Go.Proofs.Ytbiblpgdddgpmaa
namespace Hr

abbrev Nm := List UInt8
structure Cls where
  name : Nm
  ups : List Nm
  deriving DecidableEq

/-- Where the first class of a name stands. -/
def firstAt (S : List Cls) (s : Nm) : Option Nat := S.findIdx? (fun c => c.name == s)
/-- The links of the class number i. -/
def linksAt (S : List Cls) (i : Nat) (c : Cls) : List (Nm × Nm) := if firstAt S c.name = some i then c.ups.map fun p => (c.name, p) else []
/-- The links of the first k classes. -/
def linksTo (S : List Cls) : Nat → List (Nm × Nm)
  | 0 => []
  | k + 1 => linksTo S k ++ (match S[k]? with | some c => linksAt S k c | none => [])
def links (S : List Cls) : List (Nm × Nm) := linksTo S S.length
/-- Where the links of a name begin. -/
def firstLink (L : List (Nm × Nm)) (s : Nm) : Option Nat := L.findIdx? (fun x => x.1 == s)
/-- The parents of a name, in their order. -/
def parents (L : List (Nm × Nm)) (s : Nm) : List Nm := ((L.drop ((firstLink L s).getD 0)).takeWhile (fun x => x.1 == s)).map (·.2)

/-- The walk: colours (false: begun, true: done), the classes that are done, whether it met one that it had begun with. -/
structure Walk where
  col : Nm → Option Bool
  order : List Nm
  ring : Bool

def visit (L : List (Nm × Nm)) : Nat → Walk → Nm → Walk
  | 0, w, _ => w
  | n + 1, w, c =>
    match w.col c with
    | some false => { w with ring := true }
    | some true => w
    | none =>
      let w1 := (parents L c).foldl (visit L n) { w with col := upd w.col c false }
      { w1 with col := upd w1.col c true, order := w1.order ++ [c] }

theorem takeWhile_mem (p : Nm × Nm → Bool) : ∀ (l : List (Nm × Nm)) (x : Nm × Nm), x ∈ l.takeWhile p → p x = true ∧ x ∈ l
  | [], x, h => by simp at h
  | y :: r, x, h => by
    by_cases hy : p y = true
    · rw [List.takeWhile_cons_of_pos hy] at h
      rcases List.mem_cons.1 h with rfl | h
      · exact ⟨hy, by simp⟩
      · have := takeWhile_mem p r x h
        exact ⟨this.1, by simp [this.2]⟩
    · rw [List.takeWhile_cons_of_neg hy] at h
      simp at h
theorem parents_nil (L : List (Nm × Nm)) (c : Nm) (h : c ∉ L.map (·.1)) : parents L c = [] := by
  cases hp : parents L c with
  | nil => rfl
  | cons a b =>
    exfalso
    apply h
    have ha : a ∈ parents L c := by rw [hp]; simp
    unfold parents at ha
    obtain ⟨x, hx, rfl⟩ := List.mem_map.1 ha
    obtain ⟨h1, h2⟩ := takeWhile_mem _ _ _ hx
    simp only [beq_iff_eq] at h1
    rw [← h1]
    exact List.mem_map.2 ⟨x, List.mem_of_mem_drop h2, rfl⟩
theorem parents_mem (L : List (Nm × Nm)) (c p : Nm) (h : p ∈ parents L c) : (c, p) ∈ L := by
  unfold parents at h
  obtain ⟨x, hx, rfl⟩ := List.mem_map.1 h
  obtain ⟨h1, h2⟩ := takeWhile_mem _ _ _ hx
  have h3 := List.mem_of_mem_drop h2
  simp only [beq_iff_eq] at h1
  rw [← h1]
  exact h3

theorem upd_same {β : Type} (f : Nm → Option β) (c : Nm) (v : β) : upd f c v c = some v := by unfold upd; rw [if_pos rfl]
theorem upd_other {β : Type} (f : Nm → Option β) {c s : Nm} (v : β) (h : s ≠ c) : upd f c v s = f s := by unfold upd; rw [if_neg h]

/-- How many names of a list have no colour. -/
def pale (U : List Nm) (col : Nm → Option Bool) : Nat := (U.filter fun s => (col s).isNone).length
theorem pale_le (U : List Nm) {f g : Nm → Option Bool} (h : ∀ s, g s = none → f s = none) : pale U g ≤ pale U f := by
  unfold pale
  induction U with
  | nil => simp
  | cons x r ih =>
    by_cases hg : g x = none
    · rw [List.filter_cons_of_pos (by simpa using hg), List.filter_cons_of_pos (by simpa using h _ hg)]
      simpa using ih
    · rw [List.filter_cons_of_neg (by simpa using hg)]
      refine Nat.le_trans ih ?_
      by_cases hf : f x = none
      · rw [List.filter_cons_of_pos (by simpa using hf)]; simp
      · rw [List.filter_cons_of_neg (by simpa using hf)]; exact Nat.le_refl _
theorem pale_lt (U : List Nm) {f g : Nm → Option Bool} (h : ∀ s, g s = none → f s = none) {c : Nm} (hc : c ∈ U) (hf : f c = none) (hg : g c ≠ none) : pale U g < pale U f := by
  induction U with
  | nil => simp at hc
  | cons x r ih =>
    have hle := pale_le r h
    unfold pale at hle ih ⊢
    by_cases hx : x = c
    · rw [List.filter_cons_of_neg (by rw [hx]; simpa using hg), List.filter_cons_of_pos (by rw [hx]; simpa using hf)]
      simp only [List.length_cons]
      omega
    · have ih := ih (by
        rcases List.mem_cons.1 hc with h1 | h1
        · exact absurd h1.symm hx
        · exact h1)
      by_cases hg2 : g x = none
      · rw [List.filter_cons_of_pos (by simpa using hg2), List.filter_cons_of_pos (by simpa using h _ hg2)]
        simpa using ih
      · rw [List.filter_cons_of_neg (by simpa using hg2)]
        by_cases hf2 : f x = none
        · rw [List.filter_cons_of_pos (by simpa using hf2)]
          simp only [List.length_cons]
          omega
        · rw [List.filter_cons_of_neg (by simpa using hf2)]
          exact ih
/-- How many links there are whose class has no colour. -/
def fresh (L : List (Nm × Nm)) (col : Nm → Option Bool) : Nat := pale (L.map (·.1)) col
theorem fresh_le (L : List (Nm × Nm)) (col : Nm → Option Bool) : fresh L col ≤ L.length := by
  unfold fresh pale
  refine Nat.le_trans (List.length_filter_le _ _) ?_
  rw [List.length_map]
  exact Nat.le_refl _

/-- Colours stay. -/
def Later (w w' : Walk) : Prop := ∀ s, w'.col s = none → w.col s = none
theorem Later.refl (w : Walk) : Later w w := fun _ h => h
theorem Later.trans {x y z : Walk} (h : Later x y) (k : Later y z) : Later x z := fun s hs => h s (k s hs)
theorem upd_later (f : Nm → Option Bool) (c : Nm) (v : Bool) : ∀ s, upd f c v s = none → f s = none := fun s hs => by
  by_cases h : s = c
  · rw [h, upd_same] at hs; cases hs
  · rwa [upd_other _ _ h] at hs
theorem foldl_later {f : Walk → Nm → Walk} (hf : ∀ w c, Later w (f w c)) : ∀ (l : List Nm) (w : Walk), Later w (l.foldl f w)
  | [], w => Later.refl w
  | c :: r, w => (hf w c).trans (foldl_later hf r (f w c))
theorem visit_later (L : List (Nm × Nm)) : ∀ (n : Nat) (w : Walk) (c : Nm), Later w (visit L n w c)
  | 0, w, _ => Later.refl w
  | n + 1, w, c => by
    unfold visit
    split
    · exact fun _ h => h
    · exact Later.refl w
    · intro s hs
      exact upd_later w.col c false s (foldl_later (fun w c => visit_later L n w c) (parents L c) { w with col := upd w.col c false } s (upd_later _ c true s hs))

/-- What is done, and what has no colour yet. -/
def weight (U : List Nm) (w : Walk) : Nat := w.order.length + pale U w.col
theorem foldl_weight {U : List Nm} {f : Walk → Nm → Walk} (hf : ∀ w c, c ∈ U → weight U (f w c) ≤ weight U w) : ∀ (l : List Nm) (w : Walk), (∀ c ∈ l, c ∈ U) → weight U (l.foldl f w) ≤ weight U w
  | [], _, _ => Nat.le_refl _
  | c :: r, w, h => Nat.le_trans (foldl_weight hf r (f w c) (fun x hx => h x (by simp [hx]))) (hf w c (h c (by simp)))
theorem visit_weight (L : List (Nm × Nm)) (U : List Nm) (hU : ∀ x ∈ L, x.2 ∈ U) : ∀ (n : Nat) (w : Walk) (c : Nm), c ∈ U → weight U (visit L n w c) ≤ weight U w
  | 0, w, _, _ => Nat.le_refl _
  | n + 1, w, c, hc => by
    unfold visit
    split
    · exact Nat.le_refl _
    · exact Nat.le_refl _
    · rename_i h0
      have hfold := foldl_weight (U := U) (f := visit L n) (fun w c hc => visit_weight L U hU n w c hc) (parents L c) { w with col := upd w.col c false } (fun p hp => hU _ (parents_mem L c p hp))
      have hlast := pale_le U (upd_later ((parents L c).foldl (visit L n) { w with col := upd w.col c false }).col c true)
      have hone := pale_lt U (upd_later w.col c false) hc h0 (by rw [upd_same]; simp)
      unfold weight at hfold ⊢
      dsimp only at hfold ⊢
      rw [List.length_append, List.length_singleton]
      omega
/-- Of a class with links no fewer than that one are left behind it. -/
theorem fresh_step (L : List (Nm × Nm)) (w : Walk) (c : Nm) (n : Nat) (h0 : w.col c = none) (hn : fresh L w.col < n + 1) (hp : parents L c ≠ []) : fresh L (upd w.col c false) < n := by
  have hc : c ∈ L.map (·.1) := by
    rcases Classical.em (c ∈ L.map (·.1)) with h | h
    · exact h
    · exact absurd (parents_nil L c h) hp
  have := pale_lt (L.map (·.1)) (upd_later w.col c false) hc h0 (by rw [upd_same]; simp)
  unfold fresh at hn ⊢
  omega
theorem fresh_later (L : List (Nm × Nm)) {w w' : Walk} (h : Later w w') {n : Nat} (hn : fresh L w.col < n) : fresh L w'.col < n := Nat.lt_of_le_of_lt (pale_le _ h) hn

/-- The walk through some names, from the beginning. -/
def visited (L : List (Nm × Nm)) (l : List Nm) : Walk := l.foldl (visit L (L.length + 1)) ⟨fun _ => none, [], false⟩
def above (L : List (Nm × Nm)) (c : Nm) : List Nm := (visited L [c]).order
end Hr
end Go.Proofs.Ytbiblpgdddgpmaa
