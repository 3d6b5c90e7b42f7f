/-
  The first error of a system, as a plain function, and when there is none.
-/
import Derived.Test.YtojfimbanaijdaaHCheckO
import Derived.Test.YtojfimbanaijdaaHFind
namespace Go.Proofs.Ytojfimbanaijdaa
namespace Hr
/-- The error of the class number i by itself. -/
def err1 (S : List Cls) (i : Nat) : Int :=
  match S[i]? with
  | some c => if alone c ≠ 0 then alone c else if firstAt S c.name = some i then 0 else 6
  | none => 0
def lost (S : List Cls) (c : Cls) : Bool := c.ups.any fun p => ((firstAt S p).map Int.ofNat).isNone
/-- The first error of a system, and the class. -/
def check (S : List Cls) : Int × Nm :=
  if 24 < S.length then (3, [])
  else match (List.range S.length).find? (fun i => err1 S i != 0) with
    | some i => (err1 S i, ((S[i]?).map (·.name)).getD [])
    | none =>
      match S.find? (lost S) with
      | some c => (5, c.name)
      | none =>
        match ring (links S) with
        | some r => (7, r.headD [])
        | none => (0, [])
theorem alone_four {c : Cls} (h : alone c = 0) : c.ups.length ≤ 4 := by
  unfold alone at h
  split at h
  · cases h
  · omega
theorem links_le (S : List Cls) (h : ∀ c ∈ S, c.ups.length ≤ 4) : (links S).length ≤ S.length * 4 := by
  have key : ∀ k, k ≤ S.length → (linksTo S k).length ≤ k * 4 := by
    intro k
    induction k with
    | zero => intro _; unfold linksTo; simp
    | succ k ih =>
      intro hk
      have hlt : k < S.length := by omega
      have h1 := ih (by omega)
      have h2 := h S[k] (List.getElem_mem hlt)
      show (linksTo S k ++ (match S[k]? with | some c => linksAt S k c | none => [])).length ≤ _
      rw [List.getElem?_eq_getElem hlt, List.length_append]
      have h3 : (linksAt S k S[k]).length ≤ 4 := by
        unfold linksAt
        split
        · rw [List.length_map]; exact h2
        · simp
      dsimp only
      omega
  exact key _ (Nat.le_refl _)
theorem err1_at (S : List Cls) (i : Nat) (h : i < S.length) : err1 S i = if alone S[i] ≠ 0 then alone S[i] else if firstAt S S[i].name = some i then 0 else 6 := by
  unfold err1
  rw [List.getElem?_eq_getElem h]
theorem err1_zero (S : List Cls) (i : Nat) (h : i < S.length) (h0 : err1 S i = 0) : alone S[i] = 0 ∧ firstAt S S[i].name = some i := by
  rw [err1_at S i h] at h0
  split at h0
  · rename_i h1; exact absurd h0 h1
  · rename_i h1
    split at h0
    · rename_i h2; exact ⟨by simpa using h1, h2⟩
    · cases h0
theorem ring_none_iff (L : List (Nm × Nm)) : ring L = none ↔ (visited L (sources L)).ring = false := by
  unfold ring
  cases h : (visited L (sources L)).ring with
  | false => simp
  | true =>
    rw [if_pos rfl]
    have := ring_best L h
    simp only [Option.map_eq_none_iff, Bool.true_eq_false, iff_false]
    intro e
    rw [e] at this
    cases this
/-- What Check finds in order: nothing wrong so far. -/
theorem check_first (S : List Cls) (h : S.length ≤ 24) (k : Nat) (hk : k < S.length) (hb : ∀ j, j < k → err1 S j = 0) (he : err1 S k ≠ 0) : check S = (err1 S k, S[k].name) := by
  unfold check
  rw [if_neg (by omega)]
  have : (List.range S.length).find? (fun i => err1 S i != 0) = some k := by
    rw [List.find?_range_eq_some]
    exact ⟨by simpa using he, by simpa using hk, fun j hj => by simp [hb j hj]⟩
  rw [this]
  dsimp only
  rw [List.getElem?_eq_getElem hk]
  rfl
theorem find_none (S : List Cls) (hb : ∀ j, j < S.length → err1 S j = 0) : (List.range S.length).find? (fun i => err1 S i != 0) = none := by
  rw [List.find?_eq_none]
  intro j hj
  simp [hb j (by simpa using hj)]
theorem check_lost (S : List Cls) (h : S.length ≤ 24) (hb : ∀ j, j < S.length → err1 S j = 0) (k : Nat) (hk : k < S.length) (hl : ∀ j (hj : j < S.length), j < k → lost S S[j] = false) (he : lost S S[k] = true) : check S = (5, S[k].name) := by
  unfold check
  rw [if_neg (by omega), find_none S hb]
  have : S.find? (lost S) = some S[k] := by
    rw [List.find?_eq_some_iff_getElem]
    exact ⟨he, k, hk, rfl, fun j hj => by rw [hl j (by omega) hj]; rfl⟩
  dsimp only
  rw [this]
theorem check_ring (S : List Cls) (h : S.length ≤ 24) (hb : ∀ j, j < S.length → err1 S j = 0) (hl : ∀ j (hj : j < S.length), lost S S[j] = false) : check S = match ring (links S) with | some r => (7, r.headD []) | none => (0, []) := by
  unfold check
  rw [if_neg (by omega), find_none S hb]
  have : S.find? (lost S) = none := by
    rw [List.find?_eq_none]
    intro c hc
    obtain ⟨i, hi, rfl⟩ := List.getElem_of_mem hc
    rw [hl i hi]; simp
  dsimp only
  rw [this]
theorem check_zero (S : List Cls) : (check S).1 = 0 ↔ Valid S := by
  constructor
  · intro h0
    have h24 : S.length ≤ 24 := by
      rcases Nat.lt_or_ge 24 S.length with h | h
      · unfold check at h0; rw [if_pos h] at h0; cases h0
      · exact h
    have hb : ∀ j, j < S.length → err1 S j = 0 := by
      intro j
      induction j using Nat.strongRecOn with
      | ind j ih =>
        intro hj
        by_cases he : err1 S j = 0
        · exact he
        · rw [check_first S h24 j hj (fun i hi => ih i hi (by omega)) he] at h0
          exact h0
    have hl : ∀ j (hj : j < S.length), lost S S[j] = false := by
      intro j
      induction j using Nat.strongRecOn with
      | ind j ih =>
        intro hj
        cases he : lost S S[j] with
        | false => rfl
        | true =>
          rw [check_lost S h24 hb j hj (fun i hi hij => ih i hij hi) he] at h0
          cases h0
    rw [check_ring S h24 hb hl] at h0
    refine ⟨h24, fun i hi => err1_zero S i hi (hb i hi), fun i hi => hl i hi, ?_, ?_⟩
    · rw [← ring_none_iff]
      cases hr : ring (links S) with
      | none => rfl
      | some r => rw [hr] at h0; cases h0
    · have := links_le S (fun c hc => by
        obtain ⟨i, hi, rfl⟩ := List.getElem_of_mem hc
        exact alone_four (err1_zero S i hi (hb i hi)).1)
      omega
  · intro hV
    rw [check_ring S hV.h24 (fun j hj => by
      rw [err1_at S j hj, if_neg (by rw [(hV.hal j hj).1]; simp), if_pos (hV.hal j hj).2]) hV.hup, (ring_none_iff _).2 hV.hno]
theorem Valid.acyc {S : List Cls} (h : Valid S) : Acyc (links S) := acyc_of_ring _ h.hno
theorem ring_head {L : List (Nm × Nm)} {r : List Nm} (h : ring L = some r) : ∃ a q, r = a :: q := by
  unfold ring at h
  split at h
  · rw [Option.map_eq_some_iff] at h
    obtain ⟨x, _, rfl⟩ := h
    unfold wayOf
    cases hx : (x.1 :: x.2).reverse with
    | nil => simp at hx
    | cons a q => exact ⟨a, q, rfl⟩
  · cases h
end Hr
end Go.Proofs.Ytojfimbanaijdaa
