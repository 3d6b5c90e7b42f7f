/-
  What slices.Sorted(maps.Keys(g.first)) returns in package heir: the classes that have links, sorted.
-/
import Derived.Test.YtbiblpgdddgpmaaHKeys
namespace Go.Proofs.Ytbiblpgdddgpmaa
open Go.RowKit Go.Shelf Go.Sort

namespace Hr
theorem isort_of_perm {l l' : List Nm} (h : l.Perm l') : isort l = isort l' :=
  List.Perm.eq_of_pairwise (le := (· ≤ ·)) (fun _ _ _ _ h1 h2 => List.le_antisymm h1 h2) (isort_sorted l) (isort_sorted l') (((isort_perm l).trans h).trans (isort_perm l').symm)
theorem firstLink_some (L : List (Nm × Nm)) (s : Nm) : (firstLink L s).isSome = true ↔ s ∈ L.map (·.1) := by
  unfold firstLink
  rw [List.findIdx?_isSome, List.any_eq_true]
  simp only [beq_iff_eq, List.mem_map]
theorem eraseDups_nodup : ∀ (n : Nat) (l : List Nm), l.length ≤ n → l.eraseDups.Nodup
  | _, [], _ => by simp
  | 0, x :: r, h => by simp at h
  | n + 1, x :: r, h => by
    rw [List.eraseDups_cons]
    refine List.nodup_cons.2 ⟨?_, eraseDups_nodup n _ (Nat.le_trans (List.length_filter_le _ _) (by simpa using h))⟩
    rw [List.mem_eraseDups]
    simp
theorem eraseDups_le : ∀ (n : Nat) (l : List Nm), l.length ≤ n → l.eraseDups.length ≤ l.length
  | _, [], _ => by simp
  | 0, x :: r, h => by simp at h
  | n + 1, x :: r, h => by
    rw [List.eraseDups_cons, List.length_cons, List.length_cons]
    have h1 := List.length_filter_le (fun b => !b == x) r
    have h2 := eraseDups_le n (r.filter fun b => !b == x) (by simp at h; omega)
    omega
end Hr

theorem sources_any (m k : Nat) (L : List (Hr.Nm × Hr.Nm)) (w : World) (hm : MI w m k (fun s => (Hr.firstLink L s).map Int.ofNat)) (hL : L.length ≤ 900000) :
    Calls Try.prog 48 #[.func (.func 82) #[] #[.pointer (some ⟨w.heap.size, 0, none⟩)]] (w.alloc (.cells #[.map (some m)] 58)) fun e w' => ∃ v, e = .returned v ∧
      w'.ownsRow w.heap.size 9 1 v (Hr.sources L).length (nmRow (Hr.sources L)) ∧ Below (w.alloc (.cells #[.map (some m)] 58)).heap.size (w.alloc (.cells #[.map (some m)] 58)) w' := by
  obtain ⟨D, h1, h2, h3⟩ := hm
  have hc : Collected D (fun _ => false) ((L.map (·.1)).eraseDups) := by
    refine ⟨Hr.eraseDups_nodup _ _ (Nat.le_refl _), fun x => ?_⟩
    rw [List.mem_eraseDups, ← Hr.firstLink_some, (h3 x).1]
    simp
  have hp2 := hc.perm h1 (Maps.string_keyed Try.underlying9) Try.underlying9 (fun _ => rfl)
  have hsz : Maps.size D ≤ 1000000 := by
    have h4 := hp2.length_eq
    have h5 := Hr.eraseDups_le _ (L.map (·.1)) (Nat.le_refl _)
    rw [List.length_map] at h5
    obtain ⟨es, rfl⟩ := h2
    have h6 : (strKeys (.map es)).length = Maps.size (.map es) := by simp [strKeys, Maps.size]
    omega
  refine (sortedKeys_any m k D _ w h1 hsz).mono ?_
  rintro e w' ⟨v, ss, rfl, hp, ho, hb⟩
  have he : Hr.isort ss = Hr.sources L := Hr.isort_of_perm (hp.trans hp2.symm)
  rw [he] at ho
  exact ⟨v, rfl, own_base ho (by simp), hb⟩
end Go.Proofs.Ytbiblpgdddgpmaa
