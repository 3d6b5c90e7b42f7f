/-
  Systems of classes and their parents, as plain functions: links, what a class's parents are, the walk that goes through ancestors. What package heir's functions return, as plain functions: searches, rings, orders, levels, least ancestors. The first class of a name, the first link of a class, round by round. Plain functions.
-/
import Derived.Test.YtojfimbanaijdaaHMap
namespace Go.Proofs.Ytojfimbanaijdaa
namespace Hr

abbrev Nm := List UInt8
structure Cls where
  name : Nm
  ups : List Nm
  deriving DecidableEq

/-- Where the first class of a name stands. -/
def firstAt (S : List Cls) (s : Nm) : Option Nat := S.findIdx? (fun c => c.name == s)
/-- The links of the class number i. -/
def linksAt (S : List Cls) (i : Nat) (c : Cls) : List (Nm × Nm) := if firstAt S c.name = some i then c.ups.map fun p => (c.name, p) else []
/-- The links of the first k classes. -/
def linksTo (S : List Cls) : Nat → List (Nm × Nm)
  | 0 => []
  | k + 1 => linksTo S k ++ (match S[k]? with | some c => linksAt S k c | none => [])
def links (S : List Cls) : List (Nm × Nm) := linksTo S S.length
/-- Where the links of a name begin. -/
def firstLink (L : List (Nm × Nm)) (s : Nm) : Option Nat := L.findIdx? (fun x => x.1 == s)
/-- The parents of a name, in their order. -/
def parents (L : List (Nm × Nm)) (s : Nm) : List Nm := ((L.drop ((firstLink L s).getD 0)).takeWhile (fun x => x.1 == s)).map (·.2)

/-- The walk: colours (false: begun, true: done), the classes that are done, whether it met one that it had begun with. -/
structure Walk where
  col : Nm → Option Bool
  order : List Nm
  ring : Bool

def visit (L : List (Nm × Nm)) : Nat → Walk → Nm → Walk
  | 0, w, _ => w
  | n + 1, w, c =>
    match w.col c with
    | some false => { w with ring := true }
    | some true => w
    | none =>
      let w1 := (parents L c).foldl (visit L n) { w with col := upd w.col c false }
      { w1 with col := upd w1.col c true, order := w1.order ++ [c] }

theorem takeWhile_mem (p : Nm × Nm → Bool) : ∀ (l : List (Nm × Nm)) (x : Nm × Nm), x ∈ l.takeWhile p → p x = true ∧ x ∈ l
  | [], x, h => by simp at h
  | y :: r, x, h => by
    by_cases hy : p y = true
    · rw [List.takeWhile_cons_of_pos hy] at h
      rcases List.mem_cons.1 h with rfl | h
      · exact ⟨hy, by simp⟩
      · have := takeWhile_mem p r x h
        exact ⟨this.1, by simp [this.2]⟩
    · rw [List.takeWhile_cons_of_neg hy] at h
      simp at h
theorem parents_nil (L : List (Nm × Nm)) (c : Nm) (h : c ∉ L.map (·.1)) : parents L c = [] := by
  cases hp : parents L c with
  | nil => rfl
  | cons a b =>
    exfalso
    apply h
    have ha : a ∈ parents L c := by rw [hp]; simp
    unfold parents at ha
    obtain ⟨x, hx, rfl⟩ := List.mem_map.1 ha
    obtain ⟨h1, h2⟩ := takeWhile_mem _ _ _ hx
    simp only [beq_iff_eq] at h1
    rw [← h1]
    exact List.mem_map.2 ⟨x, List.mem_of_mem_drop h2, rfl⟩
theorem parents_mem (L : List (Nm × Nm)) (c p : Nm) (h : p ∈ parents L c) : (c, p) ∈ L := by
  unfold parents at h
  obtain ⟨x, hx, rfl⟩ := List.mem_map.1 h
  obtain ⟨h1, h2⟩ := takeWhile_mem _ _ _ hx
  have h3 := List.mem_of_mem_drop h2
  simp only [beq_iff_eq] at h1
  rw [← h1]
  exact h3

theorem upd_same {β : Type} (f : Nm → Option β) (c : Nm) (v : β) : upd f c v c = some v := by unfold upd; rw [if_pos rfl]
theorem upd_other {β : Type} (f : Nm → Option β) {c s : Nm} (v : β) (h : s ≠ c) : upd f c v s = f s := by unfold upd; rw [if_neg h]

/-- How many names of a list have no colour. -/
def pale (U : List Nm) (col : Nm → Option Bool) : Nat := (U.filter fun s => (col s).isNone).length
theorem pale_le (U : List Nm) {f g : Nm → Option Bool} (h : ∀ s, g s = none → f s = none) : pale U g ≤ pale U f := by
  unfold pale
  induction U with
  | nil => simp
  | cons x r ih =>
    by_cases hg : g x = none
    · rw [List.filter_cons_of_pos (by simpa using hg), List.filter_cons_of_pos (by simpa using h _ hg)]
      simpa using ih
    · rw [List.filter_cons_of_neg (by simpa using hg)]
      refine Nat.le_trans ih ?_
      by_cases hf : f x = none
      · rw [List.filter_cons_of_pos (by simpa using hf)]; simp
      · rw [List.filter_cons_of_neg (by simpa using hf)]; exact Nat.le_refl _
theorem pale_lt (U : List Nm) {f g : Nm → Option Bool} (h : ∀ s, g s = none → f s = none) {c : Nm} (hc : c ∈ U) (hf : f c = none) (hg : g c ≠ none) : pale U g < pale U f := by
  induction U with
  | nil => simp at hc
  | cons x r ih =>
    have hle := pale_le r h
    unfold pale at hle ih ⊢
    by_cases hx : x = c
    · rw [List.filter_cons_of_neg (by rw [hx]; simpa using hg), List.filter_cons_of_pos (by rw [hx]; simpa using hf)]
      simp only [List.length_cons]
      omega
    · have ih := ih (by
        rcases List.mem_cons.1 hc with h1 | h1
        · exact absurd h1.symm hx
        · exact h1)
      by_cases hg2 : g x = none
      · rw [List.filter_cons_of_pos (by simpa using hg2), List.filter_cons_of_pos (by simpa using h _ hg2)]
        simpa using ih
      · rw [List.filter_cons_of_neg (by simpa using hg2)]
        by_cases hf2 : f x = none
        · rw [List.filter_cons_of_pos (by simpa using hf2)]
          simp only [List.length_cons]
          omega
        · rw [List.filter_cons_of_neg (by simpa using hf2)]
          exact ih
/-- How many links there are whose class has no colour. -/
def fresh (L : List (Nm × Nm)) (col : Nm → Option Bool) : Nat := pale (L.map (·.1)) col
theorem fresh_le (L : List (Nm × Nm)) (col : Nm → Option Bool) : fresh L col ≤ L.length := by
  unfold fresh pale
  refine Nat.le_trans (List.length_filter_le _ _) ?_
  rw [List.length_map]
  exact Nat.le_refl _

/-- Colours stay. -/
def Later (w w' : Walk) : Prop := ∀ s, w'.col s = none → w.col s = none
theorem Later.refl (w : Walk) : Later w w := fun _ h => h
theorem Later.trans {x y z : Walk} (h : Later x y) (k : Later y z) : Later x z := fun s hs => h s (k s hs)
theorem upd_later (f : Nm → Option Bool) (c : Nm) (v : Bool) : ∀ s, upd f c v s = none → f s = none := fun s hs => by
  by_cases h : s = c
  · rw [h, upd_same] at hs; cases hs
  · rwa [upd_other _ _ h] at hs
theorem foldl_later {f : Walk → Nm → Walk} (hf : ∀ w c, Later w (f w c)) : ∀ (l : List Nm) (w : Walk), Later w (l.foldl f w)
  | [], w => Later.refl w
  | c :: r, w => (hf w c).trans (foldl_later hf r (f w c))
theorem visit_later (L : List (Nm × Nm)) : ∀ (n : Nat) (w : Walk) (c : Nm), Later w (visit L n w c)
  | 0, w, _ => Later.refl w
  | n + 1, w, c => by
    unfold visit
    split
    · exact fun _ h => h
    · exact Later.refl w
    · intro s hs
      exact upd_later w.col c false s (foldl_later (fun w c => visit_later L n w c) (parents L c) { w with col := upd w.col c false } s (upd_later _ c true s hs))

/-- What is done, and what has no colour yet. -/
def weight (U : List Nm) (w : Walk) : Nat := w.order.length + pale U w.col
theorem foldl_weight {U : List Nm} {f : Walk → Nm → Walk} (hf : ∀ w c, c ∈ U → weight U (f w c) ≤ weight U w) : ∀ (l : List Nm) (w : Walk), (∀ c ∈ l, c ∈ U) → weight U (l.foldl f w) ≤ weight U w
  | [], _, _ => Nat.le_refl _
  | c :: r, w, h => Nat.le_trans (foldl_weight hf r (f w c) (fun x hx => h x (by simp [hx]))) (hf w c (h c (by simp)))
theorem visit_weight (L : List (Nm × Nm)) (U : List Nm) (hU : ∀ x ∈ L, x.2 ∈ U) : ∀ (n : Nat) (w : Walk) (c : Nm), c ∈ U → weight U (visit L n w c) ≤ weight U w
  | 0, w, _, _ => Nat.le_refl _
  | n + 1, w, c, hc => by
    unfold visit
    split
    · exact Nat.le_refl _
    · exact Nat.le_refl _
    · rename_i h0
      have hfold := foldl_weight (U := U) (f := visit L n) (fun w c hc => visit_weight L U hU n w c hc) (parents L c) { w with col := upd w.col c false } (fun p hp => hU _ (parents_mem L c p hp))
      have hlast := pale_le U (upd_later ((parents L c).foldl (visit L n) { w with col := upd w.col c false }).col c true)
      have hone := pale_lt U (upd_later w.col c false) hc h0 (by rw [upd_same]; simp)
      unfold weight at hfold ⊢
      dsimp only at hfold ⊢
      rw [List.length_append, List.length_singleton]
      omega
/-- Of a class with links no fewer than that one are left behind it. -/
theorem fresh_step (L : List (Nm × Nm)) (w : Walk) (c : Nm) (n : Nat) (h0 : w.col c = none) (hn : fresh L w.col < n + 1) (hp : parents L c ≠ []) : fresh L (upd w.col c false) < n := by
  have hc : c ∈ L.map (·.1) := by
    rcases Classical.em (c ∈ L.map (·.1)) with h | h
    · exact h
    · exact absurd (parents_nil L c h) hp
  have := pale_lt (L.map (·.1)) (upd_later w.col c false) hc h0 (by rw [upd_same]; simp)
  unfold fresh at hn ⊢
  omega
theorem fresh_later (L : List (Nm × Nm)) {w w' : Walk} (h : Later w w') {n : Nat} (hn : fresh L w.col < n) : fresh L w'.col < n := Nat.lt_of_le_of_lt (pale_le _ h) hn

/-- The walk through some names, from the beginning. -/
def visited (L : List (Nm × Nm)) (l : List Nm) : Walk := l.foldl (visit L (L.length + 1)) ⟨fun _ => none, [], false⟩
def above (L : List (Nm × Nm)) (c : Nm) : List Nm := (visited L [c]).order
end Hr
end Go.Proofs.Ytojfimbanaijdaa
namespace Go.Proofs.Ytojfimbanaijdaa
namespace Hr

/-- Names in order. -/
def put1 (x : Nm) : List Nm → List Nm
  | [] => [x]
  | y :: r => if x ≤ y then x :: y :: r else y :: put1 x r
def isort : List Nm → List Nm
  | [] => []
  | x :: r => put1 x (isort r)

/-- The search: each class with its way, the class itself ahead; n: rounds enough. -/
def search (L : List (Nm × Nm)) : Nat → List Nm → List (Nm × List Nm) → List (Nm × List Nm)
  | 0, _, _ => []
  | _ + 1, _, [] => []
  | n + 1, seen, x :: q =>
    if x.1 ∈ seen then search L n seen q
    else x :: search L n (x.1 :: seen) (q ++ (isort (parents L x.1)).map fun p => (p, x.1 :: x.2))
def steps (L : List (Nm × Nm)) (c : Nm) : List (Nm × List Nm) := search L (L.length + 2) [] [(c, [])]
/-- The way up to a step. -/
def wayOf (x : Nm × List Nm) : List Nm := (x.1 :: x.2).reverse
def way (L : List (Nm × Nm)) (c a : Nm) : Option (List Nm) := ((steps L c).find? fun x => x.1 == a).map wayOf

def isUp (L : List (Nm × Nm)) (c a : Nm) : Bool := (above L c).contains a
def sources (L : List (Nm × Nm)) : List Nm := isort ((L.map (·.1)).eraseDups)

/-- One search for a ring: the best step so far. -/
def ringFrom (L : List (Nm × Nm)) (c : Nm) (best : Option (Nm × List Nm)) : List (Nm × List Nm) → Option (Nm × List Nm)
  | [] => best
  | x :: r =>
    match best with
    | some b => if b.2.length ≤ x.2.length then best else ringFrom L c (if (parents L x.1).contains c then some x else best) r
    | none => ringFrom L c (if (parents L x.1).contains c then some x else best) r
def ring (L : List (Nm × Nm)) : Option (List Nm) :=
  if (visited L (sources L)).ring then ((sources L).foldl (fun b c => ringFrom L c b (steps L c)) none).map wayOf else none

def free (L : List (Nm × Nm)) (rest : List Nm) (c : Nm) : Bool := (parents L c).all fun p => !rest.contains p
/-- n: rounds enough. -/
def orderFrom (L : List (Nm × Nm)) : Nat → List Nm → List Nm
  | 0, _ => []
  | n + 1, rest => match rest.find? (free L rest) with
    | some c => c :: orderFrom L n (rest.erase c)
    | none => []
def order (S : List Cls) : List Nm := orderFrom (links S) S.length (isort (S.map (·.name)))
def levelsFrom (L : List (Nm × Nm)) : Nat → List Nm → List (List Nm)
  | 0, _ => []
  | n + 1, rest => if rest = [] then [] else rest.filter (free L rest) :: levelsFrom L n (rest.filter fun c => !(rest.filter (free L rest)).contains c)
def levels (S : List Cls) : List (List Nm) := levelsFrom (links S) S.length (isort (S.map (·.name)))
def least (L : List (Nm × Nm)) (a b : Nm) : List Nm :=
  let common := (above L a).filter fun c => isUp L b c
  isort (common.filter fun c => !common.any fun o => o != c && isUp L o c)
def needless (L : List (Nm × Nm)) : List (Nm × Nm) := L.filter fun x => isUp (L.filter fun y => y != x) x.1 x.2
def touched (S : List Cls) (changed : List Nm) : List Nm := (S.map (·.name)).filter fun c => (above (links S) c).any fun a => changed.contains a
def waysFrom (L : List (Nm × Nm)) (a : Nm) : List Nm → (Nm → Option Int) → (Nm → Option Int)
  | [], f => f
  | x :: r, f => waysFrom L a r ((parents L x).foldl (fun f p => upd f x ((f x).getD 0 + (f p).getD 0)) f)
def ways (L : List (Nm × Nm)) (c a : Nm) : Int := ((waysFrom L a (above L c) (upd (fun _ => none) a 1)) c).getD 0

/-- The chapter's example. -/
def five : List Cls := [⟨[65], []⟩, ⟨[66], [[65]]⟩, ⟨[67], [[65]]⟩, ⟨[68], [[66], [67]]⟩, ⟨[69], [[68], [65]]⟩]
def badFive : List Cls := ⟨[65], [[68]]⟩ :: five.tail
theorem five_links : links five = [([66], [65]), ([67], [65]), ([68], [66]), ([68], [67]), ([69], [68]), ([69], [65])] := by decide +kernel
theorem five_above : above (links five) [69] = [[65], [66], [67], [68], [69]] := by decide +kernel
theorem five_ways : ways (links five) [69] [65] = 3 := by decide +kernel
theorem five_way : way (links five) [69] [65] = some [[69], [65]] := by decide +kernel
theorem five_order : order five = [[65], [66], [67], [68], [69]] := by decide +kernel
theorem five_levels : levels five = [[[65]], [[66], [67]], [[68]], [[69]]] := by decide +kernel
theorem five_least : least (links five) [66] [67] = [[65]] := by decide +kernel
theorem five_least2 : least (links five) [68] [66] = [[66]] := by decide +kernel
theorem five_needless : needless (links five) = [([69], [65])] := by decide +kernel
theorem five_touched : touched five [[67]] = [[67], [68], [69]] := by decide +kernel
theorem five_ring : ring (links five) = none := by decide +kernel
theorem bad_ring : ring (links badFive) = some [[65], [68], [66]] := by decide +kernel
end Hr
end Go.Proofs.Ytojfimbanaijdaa
namespace Go.Proofs.Ytojfimbanaijdaa
namespace Hr
theorem firstAt_take (S : List Cls) (k : Nat) (h : k < S.length) (s : Nm) :
    firstAt (S.take (k + 1)) s = if firstAt (S.take k) s = none ∧ S[k].name = s then some k else firstAt (S.take k) s := by
  unfold firstAt
  rw [List.take_succ_eq_append_getElem h, List.findIdx?_append]
  cases hf : List.findIdx? (fun c => c.name == s) (List.take k S) with
  | some i => simp
  | none =>
    by_cases hs : S[k].name = s
    · simp [hs, Nat.min_eq_left (Nat.le_of_lt h)]
    · simp [hs]
theorem firstLink_take (L : List (Nm × Nm)) (k : Nat) (h : k < L.length) (s : Nm) :
    firstLink (L.take (k + 1)) s = if firstLink (L.take k) s = none ∧ L[k].1 = s then some k else firstLink (L.take k) s := by
  unfold firstLink
  rw [List.take_succ_eq_append_getElem h, List.findIdx?_append]
  cases hf : List.findIdx? (fun c => c.1 == s) (List.take k L) with
  | some i => simp
  | none =>
    by_cases hs : L[k].1 = s
    · simp [hs, Nat.min_eq_left (Nat.le_of_lt h)]
    · simp [hs]
theorem firstAt_upd (S : List Cls) (k : Nat) (h : k < S.length) (hn : firstAt (S.take k) S[k].name = none) :
    upd (fun s => (firstAt (S.take k) s).map Int.ofNat) S[k].name (k : Int) = fun s => (firstAt (S.take (k + 1)) s).map Int.ofNat := by
  funext s
  rw [firstAt_take S k h]
  unfold upd
  by_cases hs : s = S[k].name
  · subst hs
    rw [if_pos rfl, if_pos ⟨hn, rfl⟩]; rfl
  · rw [if_neg hs, if_neg (fun h => hs h.2.symm)]
theorem firstAt_keep (S : List Cls) (k : Nat) (h : k < S.length) (hn : firstAt (S.take k) S[k].name ≠ none) :
    (fun s => (firstAt (S.take k) s).map Int.ofNat) = fun s => (firstAt (S.take (k + 1)) s).map Int.ofNat := by
  funext s
  rw [firstAt_take S k h, if_neg]
  rintro ⟨h1, h2⟩
  rw [h2] at hn
  exact hn h1
theorem firstLink_upd (L : List (Nm × Nm)) (k : Nat) (h : k < L.length) (hn : firstLink (L.take k) L[k].1 = none) :
    upd (fun s => (firstLink (L.take k) s).map Int.ofNat) L[k].1 (k : Int) = fun s => (firstLink (L.take (k + 1)) s).map Int.ofNat := by
  funext s
  rw [firstLink_take L k h]
  unfold upd
  by_cases hs : s = L[k].1
  · subst hs
    rw [if_pos rfl, if_pos ⟨hn, rfl⟩]; rfl
  · rw [if_neg hs, if_neg (fun h => hs h.2.symm)]
theorem firstLink_keep (L : List (Nm × Nm)) (k : Nat) (h : k < L.length) (hn : firstLink (L.take k) L[k].1 ≠ none) :
    (fun s => (firstLink (L.take k) s).map Int.ofNat) = fun s => (firstLink (L.take (k + 1)) s).map Int.ofNat := by
  funext s
  rw [firstLink_take L k h, if_neg]
  rintro ⟨h1, h2⟩
  rw [h2] at hn
  exact hn h1
end Hr
end Go.Proofs.Ytojfimbanaijdaa
