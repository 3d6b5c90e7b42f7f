/-
  The first class of a name, the first link of a class, round by round. Plain functions.
-/
import Derived.Test.YtbiblpgdddgpmaaHSpecB
namespace Go.Proofs.Ytbiblpgdddgpmaa
namespace Hr
theorem firstAt_take (S : List Cls) (k : Nat) (h : k < S.length) (s : Nm) :
    firstAt (S.take (k + 1)) s = if firstAt (S.take k) s = none ∧ S[k].name = s then some k else firstAt (S.take k) s := by
  unfold firstAt
  rw [List.take_succ_eq_append_getElem h, List.findIdx?_append]
  cases hf : List.findIdx? (fun c => c.name == s) (List.take k S) with
  | some i => simp
  | none =>
    by_cases hs : S[k].name = s
    · simp [hs, Nat.min_eq_left (Nat.le_of_lt h)]
    · simp [hs]
theorem firstLink_take (L : List (Nm × Nm)) (k : Nat) (h : k < L.length) (s : Nm) :
    firstLink (L.take (k + 1)) s = if firstLink (L.take k) s = none ∧ L[k].1 = s then some k else firstLink (L.take k) s := by
  unfold firstLink
  rw [List.take_succ_eq_append_getElem h, List.findIdx?_append]
  cases hf : List.findIdx? (fun c => c.1 == s) (List.take k L) with
  | some i => simp
  | none =>
    by_cases hs : L[k].1 = s
    · simp [hs, Nat.min_eq_left (Nat.le_of_lt h)]
    · simp [hs]
theorem firstAt_upd (S : List Cls) (k : Nat) (h : k < S.length) (hn : firstAt (S.take k) S[k].name = none) :
    upd (fun s => (firstAt (S.take k) s).map Int.ofNat) S[k].name (k : Int) = fun s => (firstAt (S.take (k + 1)) s).map Int.ofNat := by
  funext s
  rw [firstAt_take S k h]
  unfold upd
  by_cases hs : s = S[k].name
  · subst hs
    rw [if_pos rfl, if_pos ⟨hn, rfl⟩]; rfl
  · rw [if_neg hs, if_neg (fun h => hs h.2.symm)]
theorem firstAt_keep (S : List Cls) (k : Nat) (h : k < S.length) (hn : firstAt (S.take k) S[k].name ≠ none) :
    (fun s => (firstAt (S.take k) s).map Int.ofNat) = fun s => (firstAt (S.take (k + 1)) s).map Int.ofNat := by
  funext s
  rw [firstAt_take S k h, if_neg]
  rintro ⟨h1, h2⟩
  rw [h2] at hn
  exact hn h1
theorem firstLink_upd (L : List (Nm × Nm)) (k : Nat) (h : k < L.length) (hn : firstLink (L.take k) L[k].1 = none) :
    upd (fun s => (firstLink (L.take k) s).map Int.ofNat) L[k].1 (k : Int) = fun s => (firstLink (L.take (k + 1)) s).map Int.ofNat := by
  funext s
  rw [firstLink_take L k h]
  unfold upd
  by_cases hs : s = L[k].1
  · subst hs
    rw [if_pos rfl, if_pos ⟨hn, rfl⟩]; rfl
  · rw [if_neg hs, if_neg (fun h => hs h.2.symm)]
theorem firstLink_keep (L : List (Nm × Nm)) (k : Nat) (h : k < L.length) (hn : firstLink (L.take k) L[k].1 ≠ none) :
    (fun s => (firstLink (L.take k) s).map Int.ofNat) = fun s => (firstLink (L.take (k + 1)) s).map Int.ofNat := by
  funext s
  rw [firstLink_take L k h, if_neg]
  rintro ⟨h1, h2⟩
  rw [h2] at hn
  exact hn h1
end Hr
end Go.Proofs.Ytbiblpgdddgpmaa
