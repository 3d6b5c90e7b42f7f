/-
  What slices.Contains at names and is return, in package heir.
-/
import Derived.Test.YtbiblpgdddgpmaaHName
import Derived.Test.YtbiblpgdddgpmaaShelf
namespace Go.Proofs.Ytbiblpgdddgpmaa
open Go.RowKit Go.Shelf

theorem nm_inj {s t : Hr.Nm} (h : (⟨s.toArray⟩ : ByteArray) = ⟨t.toArray⟩) : s = t := by
  have := congrArg (fun b : ByteArray => b.data.toList) h
  simpa using this
theorem nms_contains (l : List Hr.Nm) (s : Hr.Nm) : Lib.containsS (l.map fun x => (⟨x.toArray⟩ : ByteArray)) ⟨s.toArray⟩ = l.contains s := by
  rw [Bool.eq_iff_iff, Lib.containsS_iff]
  simp only [List.mem_map, List.contains_iff_mem]
  constructor
  · rintro ⟨x, hx, he⟩
    rw [← nm_inj he]; exact hx
  · exact fun h => ⟨s, h, rfl⟩

theorem contains_any (v : Value) (l : List Hr.Nm) (s : Hr.Nm) (w : World) (h : NmsAt w v l) (hl : l.length ≤ 1000000) :
    Calls Try.prog 65 #[v, nm s] w fun e w' => e = .returned (.bool (l.contains s)) ∧ w' = w := by
  obtain ⟨A, c, rfl, h⟩ := h
  by_cases h0 : 0 < l.length
  · obtain ⟨b, o, rfl, hc⟩ := h h0
    have hh := Try.slices_Contains_string b o l.length c (l.map fun x => (⟨x.toArray⟩ : ByteArray)) ⟨s.toArray⟩ w (by simp) (by omega) (fun j hj => by
      rw [List.length_map] at hj
      rw [hc j hj]
      simp [List.getD, hj])
    rw [List.take_of_length_le (by simp), nms_contains] at hh
    exact hh
  · have hl0 : l = [] := List.eq_nil_of_length_eq_zero (by omega)
    subst hl0
    exact Try.slices_Contains_string_empty A c ⟨s.toArray⟩ w

namespace Hr
theorem visited_weight (L : List (Nm × Nm)) (l : List Nm) : (visited L l).order.length ≤ l.length + L.length := by
  have h := foldl_weight (U := l ++ L.map (·.2)) (f := visit L (L.length + 1)) (fun w c hc => visit_weight L _ (fun x hx => List.mem_append.2 (.inr (List.mem_map.2 ⟨x, hx, rfl⟩))) (L.length + 1) w c hc) l ⟨fun _ => none, [], false⟩ (fun s hs => List.mem_append.2 (.inl hs))
  unfold weight at h
  dsimp only at h
  rw [pale_none, List.length_append, List.length_map] at h
  unfold visited
  simp at h ⊢
  omega
theorem above_length (L : List (Nm × Nm)) (c : Nm) : (above L c).length ≤ L.length + 1 := by
  have := visited_weight L [c]
  simp at this
  unfold above
  omega
end Hr

set_option maxRecDepth 100000 in
theorem is_any (A : Option Addr) (cp m k : Nat) (L : List (Hr.Nm × Hr.Nm)) (c a : Hr.Nm) (w : World) (hl : LinksAt w (.slice A L.length cp) L) (hm : MI w m k (fun s => (Hr.firstLink L s).map Int.ofNat)) (hc : c.length ≤ 140737488355328) (hlen : L.length ≤ 900000) :
    Calls Try.prog 39 #[.agg #[.slice A L.length cp, .map (some m)], nm c, nm a] w fun e w' => e = .returned (.bool (Hr.isUp L c a)) ∧ Below w.heap.size w w' := by
  have hB0 : Below w.heap.size w (w.alloc (.cells #[.slice A L.length cp, .map (some m)] 73)) := (Below.refl _ _).alloc (Nat.le_refl _) _
  have hA := above_any A cp m k L c _ (hl.below hB0 (Nat.le_refl _)) (hm.below hB0 hm.lt) hc hlen
  have hal := Hr.above_length L c
  have HA := Lib.hid hA
  have HB0 := Lib.hid hB0
  clear hA hB0
  go_enter Try.func39, Try.ntmps39
  go_wp2_with (first
    | (go_at_call 57; refine HA.out.mono ?_
       rintro e w4 ⟨o, rfl, ho4, hb4⟩
       have HC := Lib.hid (contains_any o (Hr.above L c) a w4 (NmsAt.of_own ho4) (by omega))
       have HBB := Lib.hid hb4
       clear ho4 hb4)
    | (go_at_call 65; refine HC.out.mono ?_
       rintro e w5 ⟨rfl, rfl⟩))
  go_ret
  exact ⟨by unfold Hr.isUp; simp, HB0.out.trans (HBB.out.mono (by simp))⟩
end Go.Proofs.Ytbiblpgdddgpmaa
