/-
  Lines, and the places of offsets: the reference's reckoning is the program's. Plain functions.
-/
import Derived.Test.YtadicempblgmhaaDoorStand
import Derived.Test.YtadicempblgmhaaDoorShift
import Derived.Test.YtadicempblgmhaaDoorOffset
namespace Go.Proofs.YtadicempblgmhaaDoor
namespace Lx

theorem lines_none : ∀ (l : List UInt8), (∀ c ∈ l, c ≠ 10) → lines l = [l]
  | [], _ => rfl
  | c :: r, h => by
    rw [lines, if_neg (h c List.mem_cons_self), lines_none r (fun x hx => h x (List.mem_cons_of_mem _ hx))]

/-- Where the j-th line begins. -/
def lineOff (ls : List (List UInt8)) (j : Nat) : Nat := ((ls.take j).map fun x => x.length + 1).sum
theorem lineOff_zero (ls : List (List UInt8)) : lineOff ls 0 = 0 := by simp [lineOff]
theorem lineOff_cons (x : List UInt8) (ls : List (List UInt8)) (j : Nat) : lineOff (x :: ls) (j + 1) = x.length + 1 + lineOff ls j := by simp [lineOff]
theorem lineOff_succ (ls : List (List UInt8)) (j : Nat) (h : j < ls.length) : lineOff ls (j + 1) = lineOff ls j + (ls[j].length + 1) := by
  unfold lineOff
  rw [List.take_succ_eq_append_getElem h, List.map_append, List.sum_append]
  simp

theorem place_at : ∀ (l : List UInt8) (a b j c : Nat) (x : List UInt8), (lines l)[j]? = some x → c ≤ x.length →
    lineOff (lines l) j + c ≤ l.length ∧ (l.take (lineOff (lines l) j + c)).foldl pstep (a, b) = if j = 0 then (a, b + c) else (a + j, c + 1)
  | [], a, b, 0, c, x, h, hc => by
    have e : lines [] = [[]] := rfl
    rw [e] at h
    simp at h
    subst h
    obtain rfl : c = 0 := by simpa using hc
    simp [lineOff]
  | [], a, b, j + 1, c, x, h, hc => by
    have e : lines [] = [[]] := rfl
    rw [e] at h
    simp at h
  | d :: r, a, b, j, c, x, h, hc => by
    by_cases h10 : d = 10
    · subst h10
      have e : lines (10 :: r) = [] :: lines r := by rw [lines, if_pos rfl]
      rw [e] at h ⊢
      cases j with
      | zero =>
        simp at h
        subst h
        obtain rfl : c = 0 := by simpa using hc
        simp [lineOff]
      | succ j =>
        rw [List.getElem?_cons_succ] at h
        obtain ⟨k1, k2⟩ := place_at r (a + 1) 1 j c x h hc
        have eo : lineOff ([] :: lines r) (j + 1) + c = (lineOff (lines r) j + c) + 1 := by rw [lineOff_cons]; simp; omega
        rw [eo]
        refine ⟨by simp only [List.length_cons]; omega, ?_⟩
        rw [List.take_succ_cons, List.foldl_cons, show pstep (a, b) 10 = (a + 1, 1) from by simp [pstep], k2, if_neg (c := j + 1 = 0) (by omega)]
        split
        · rename_i hj; subst hj; refine Prod.ext ?_ ?_ <;> dsimp only <;> omega
        · refine Prod.ext ?_ ?_ <;> dsimp only <;> omega
    · obtain ⟨tl, hx, _⟩ := lines_hd r
      have e : lines (d :: r) = (d :: refNote r) :: tl := by rw [lines, if_neg h10, hx]
      have ih := place_at r a (b + 1)
      rw [hx] at ih
      rw [e] at h ⊢
      have ep : pstep (a, b) d = (a, b + 1) := by unfold pstep; rw [if_neg h10]
      cases j with
      | zero =>
        simp at h
        subst h
        cases c with
        | zero => simp [lineOff]
        | succ c =>
          obtain ⟨k1, k2⟩ := ih 0 c (refNote r) rfl (by simpa using hc)
          rw [lineOff_zero] at k1 k2 ⊢
          rw [Nat.zero_add] at k1 k2 ⊢
          refine ⟨by simp only [List.length_cons]; omega, ?_⟩
          rw [List.take_succ_cons, List.foldl_cons, ep, k2, if_pos rfl, if_pos rfl]
          refine Prod.ext ?_ ?_ <;> dsimp only <;> omega
      | succ j =>
        rw [List.getElem?_cons_succ] at h
        obtain ⟨k1, k2⟩ := ih (j + 1) c x (by rw [List.getElem?_cons_succ]; exact h) hc
        have eo : lineOff ((d :: refNote r) :: tl) (j + 1) + c = (lineOff (refNote r :: tl) (j + 1) + c) + 1 := by rw [lineOff_cons, lineOff_cons]; simp; omega
        rw [eo]
        refine ⟨by simp only [List.length_cons]; omega, ?_⟩
        rw [List.take_succ_cons, List.foldl_cons, ep, k2, if_neg (by omega), if_neg (by omega)]
theorem place_cover : ∀ (l : List UInt8) (k : Nat), k ≤ l.length → ∃ j c x, (lines l)[j]? = some x ∧ c ≤ x.length ∧ k = lineOff (lines l) j + c
  | l, 0, _ => by
    obtain ⟨tl, hx, _⟩ := lines_hd l
    exact ⟨0, 0, refNote l, by rw [hx]; rfl, Nat.zero_le _, by rw [lineOff_zero]⟩
  | [], k + 1, h => by simp at h
  | d :: r, k + 1, h => by
    obtain ⟨j, c, x, h1, h2, h3⟩ := place_cover r k (by simpa using h)
    by_cases h10 : d = 10
    · subst h10
      have e : lines (10 :: r) = [] :: lines r := by rw [lines, if_pos rfl]
      exact ⟨j + 1, c, x, by rw [e, List.getElem?_cons_succ]; exact h1, h2, by rw [h3, e, lineOff_cons]; simp; omega⟩
    · obtain ⟨tl, hx, _⟩ := lines_hd r
      have e : lines (d :: r) = (d :: refNote r) :: tl := by rw [lines, if_neg h10, hx]
      rw [hx] at h1 h3
      cases j with
      | zero =>
        simp at h1
        subst h1
        rw [lineOff_zero] at h3
        exact ⟨0, c + 1, d :: refNote r, by rw [e]; rfl, by simpa using h2, by rw [lineOff_zero]; omega⟩
      | succ j =>
        rw [List.getElem?_cons_succ] at h1
        rw [lineOff_cons] at h3
        exact ⟨j + 1, c, x, by rw [e, List.getElem?_cons_succ]; exact h1, h2, by rw [e, lineOff_cons, h3]; simp only [List.length_cons]; omega⟩

/-- The reference's offset of a place. -/
def refOffset (l : List UInt8) (pl pc : Int) : Int × Int :=
  if pl < 1 ∨ ((lines l).length : Int) < pl ∨ pc < 1 ∨ ((((lines l)[(pl - 1).toNat]?.getD []).length : Nat) : Int) + 1 < pc then (0, 1) else (pc - 1 + lineOff (lines l) (pl - 1).toNat, 0)
theorem refOffset_eq (s : ByteArray) (pl pc : Int) : refOffset s.data.toList pl pc = offset s.data.toList (pl, pc) := by
  unfold refOffset
  split
  · rename_i hbad
    symm
    refine offset_none s (pl, pc) (fun k hk => ?_)
    rw [Bool.eq_false_iff]
    intro hh
    have hk2 : k ≤ s.data.toList.length := by have := List.mem_range.1 hk; simp; omega
    obtain ⟨j, c, x, h1, h2, h3⟩ := place_cover _ k hk2
    obtain ⟨_, h4⟩ := place_at _ 1 1 j c x h1 h2
    rw [← h3] at h4
    unfold isAt at hh
    simp only [Bool.and_eq_true, beq_iff_eq] at hh
    have hlt : j < (lines s.data.toList).length := (List.getElem?_eq_some_iff.1 h1).1
    have hp : place s.data.toList k = (j + 1, c + 1) := by
      unfold place
      rw [h4]
      split
      · rename_i hj; subst hj; refine Prod.ext ?_ ?_ <;> dsimp only <;> omega
      · refine Prod.ext ?_ ?_ <;> dsimp only <;> omega
    rw [hp] at hh
    simp only at hh
    have e1 : (pl - 1).toNat = j := by omega
    rw [e1, h1] at hbad
    simp only [Option.getD_some] at hbad
    omega
  · rename_i hok
    have hlt : (pl - 1).toNat < (lines s.data.toList).length := by omega
    obtain ⟨x, hx⟩ : ∃ x, (lines s.data.toList)[(pl - 1).toNat]? = some x := ⟨_, List.getElem?_eq_getElem hlt⟩
    rw [hx] at hok
    simp only [Option.getD_some] at hok
    obtain ⟨h3, h4⟩ := place_at s.data.toList 1 1 (pl - 1).toNat (pc - 1).toNat x hx (by omega)
    have hp : place s.data.toList (lineOff (lines s.data.toList) (pl - 1).toNat + (pc - 1).toNat) = ((pl - 1).toNat + 1, (pc - 1).toNat + 1) := by
      unfold place
      rw [h4]
      split
      · rename_i hj; rw [hj]; refine Prod.ext ?_ ?_ <;> dsimp only <;> omega
      · refine Prod.ext ?_ ?_ <;> dsimp only <;> omega
    have := offset_place s.data.toList _ h3
    rw [hp] at this
    have e1 : (((pl - 1).toNat + 1 : Nat) : Int) = pl := by omega
    have e2 : (((pc - 1).toNat + 1 : Nat) : Int) = pc := by omega
    simp only [e1, e2] at this
    rw [this]
    simp only [Prod.mk.injEq, and_true]
    omega
end Lx
end Go.Proofs.YtadicempblgmhaaDoor
