/-
  The reference reads a whole text in one walk; what it reads is what the program reads line by line. Plain functions.
-/
import Derived.Test.YtadicempblgmhaaDoorRefA
import Derived.Test.YtadicempblgmhaaDoorIter
namespace Go.Proofs.YtadicempblgmhaaDoor
namespace Lx

/-- What the reference takes for a token's text. -/
def refRun (l : List UInt8) : List UInt8 :=
  match l with
  | [] => []
  | c :: r => if inRun c then (c :: r).take (span inRun (c :: r)) else longest (c :: r)

/-- The comment with which a text begins: up to the line's end. -/
def refNote (l : List UInt8) : List UInt8 := l.takeWhile (fun c => !(c == 10))

def refRead : Nat → Int → Int → Red → List UInt8 → Red
  | 0, _, _, out, _ => out
  | _ + 1, _, _, out, [] => out
  | n + 1, line, col, out, c :: r =>
    if c = 10 then refRead n (line + 1) 1 out r
    else if c = 32 then refRead n line (col + 1) out r
    else if [45, 45].isPrefixOf (c :: r) then
      if span printable (refNote (c :: r)) < (refNote (c :: r)).length then { line := line, col := col + span printable (refNote (c :: r)), err := 2 }
      else refRead n line (col + (refNote (c :: r)).length) { out with notes := out.notes ++ [⟨6, refNote (c :: r), line, col⟩] } ((c :: r).drop (refNote (c :: r)).length)
    else if (shape (refRun (c :: r))).2 ≠ 0 then { line := line, col := col, err := (shape (refRun (c :: r))).2 }
    else refRead n line (col + (refRun (c :: r)).length) { out with toks := out.toks ++ [⟨(shape (refRun (c :: r))).1, refRun (c :: r), line, col⟩] } ((c :: r).drop (refRun (c :: r)).length)

/-- What the program reads from the middle of a line on. -/
def lineRead (line : Int) (at_ : Nat) (out : Red) (l : List UInt8) : Red :=
  match lines l with
  | [] => out
  | x :: xs => if (takes out line (runsFrom x.length at_ x)).2 then readLs (takes out line (runsFrom x.length at_ x)).1 (line + 1) xs else (takes out line (runsFrom x.length at_ x)).1

theorem refNote_cons (c : UInt8) (r : List UInt8) (h : c ≠ 10) : refNote (c :: r) = c :: refNote r := by
  unfold refNote
  rw [List.takeWhile_cons_of_pos (by simpa using h)]
theorem refNote_nl (r : List UInt8) : refNote (10 :: r) = [] := by
  unfold refNote
  rw [List.takeWhile_cons_of_neg (by decide)]

/-- The lines of a text, and of what is left of it within the first line. -/
theorem lines_hd : ∀ (l : List UInt8), ∃ tl, lines l = refNote l :: tl ∧ ∀ k, k ≤ (refNote l).length → lines (l.drop k) = (refNote l).drop k :: tl
  | [] => ⟨[], rfl, fun k _ => by rw [List.drop_nil]; rw [show refNote [] = [] from rfl, List.drop_nil]; rfl⟩
  | c :: r => by
    by_cases h : c = 10
    · subst h
      refine ⟨lines r, by rw [refNote_nl, lines, if_pos rfl], fun k hk => ?_⟩
      rw [refNote_nl] at hk
      obtain rfl : k = 0 := by simpa using hk
      rw [refNote_nl, List.drop_zero, List.drop_zero, lines, if_pos rfl]
    · obtain ⟨tl, h1, h2⟩ := lines_hd r
      have h3 : lines (c :: r) = (c :: refNote r) :: tl := by rw [lines, if_neg h, h1]
      refine ⟨tl, by rw [h3, refNote_cons c r h], fun k hk => ?_⟩
      rw [refNote_cons c r h] at hk ⊢
      cases k with
      | zero => exact h3
      | succ k => exact h2 k (by simpa using hk)

theorem lineRead_nl (line : Int) (at_ : Nat) (out : Red) (r : List UInt8) : lineRead line at_ out (10 :: r) = lineRead (line + 1) 0 out r := by
  obtain ⟨tl, hx, _⟩ := lines_hd r
  unfold lineRead
  rw [show lines (10 :: r) = [] :: lines r from by rw [lines, if_pos rfl], hx]
  rfl
theorem lineRead_nil (line : Int) (at_ : Nat) (out : Red) : lineRead line at_ out [] = out := rfl

theorem runsFrom_cons (n at_ : Nat) (c : UInt8) (r : List UInt8) (h : (c :: r).length ≤ n) :
    runsFrom n at_ (c :: r) = (if c = 32 then [] else [(at_, (c :: r).take (runLength (c :: r)))]) ++ runsFrom ((c :: r).drop (runLength (c :: r))).length (at_ + runLength (c :: r)) ((c :: r).drop (runLength (c :: r))) := by
  cases n with
  | zero => simp at h
  | succ n =>
    have h1 := runLength_pos c r
    rw [runsFrom, runsFrom_fuel n _ _ _ (by rw [List.length_drop]; simp at h ⊢; omega) (Nat.le_refl _)]

/-- One run of the first line. -/
theorem lineRead_step (line : Int) (at_ : Nat) (out : Red) (c : UInt8) (r : List UInt8) (h10 : c ≠ 10) (h32 : c ≠ 32) :
    lineRead line at_ out (c :: r) = if (out.take ((refNote (c :: r)).take (runLength (refNote (c :: r)))) line ((at_ : Int) + 1)).2 then
      lineRead line (at_ + runLength (refNote (c :: r))) (out.take ((refNote (c :: r)).take (runLength (refNote (c :: r)))) line ((at_ : Int) + 1)).1 ((c :: r).drop (runLength (refNote (c :: r))))
      else (out.take ((refNote (c :: r)).take (runLength (refNote (c :: r)))) line ((at_ : Int) + 1)).1 := by
  obtain ⟨tl, h1, h2⟩ := lines_hd (c :: r)
  have hk := runLength_le (refNote (c :: r))
  have h3 := h2 _ hk
  unfold lineRead
  rw [h1, h3]
  dsimp only
  have hx : refNote (c :: r) = c :: refNote r := refNote_cons c r h10
  have hc : runsFrom (refNote (c :: r)).length at_ (refNote (c :: r)) = (at_, (refNote (c :: r)).take (runLength (refNote (c :: r)))) :: runsFrom ((refNote (c :: r)).drop (runLength (refNote (c :: r)))).length (at_ + runLength (refNote (c :: r))) ((refNote (c :: r)).drop (runLength (refNote (c :: r)))) := by
    rw [hx, runsFrom_cons _ _ _ _ (Nat.le_refl _), if_neg h32]
    rfl
  rw [hc]
  simp only [takes]
  split
  · rfl
  · simp

theorem lineRead_blank (line : Int) (at_ : Nat) (out : Red) (r : List UInt8) : lineRead line at_ out (32 :: r) = lineRead line (at_ + 1) out r := by
  obtain ⟨tl, h1, h2⟩ := lines_hd (32 :: r)
  have hx : refNote (32 :: r) = 32 :: refNote r := refNote_cons 32 r (by decide)
  have h3 := h2 1 (by rw [hx]; simp)
  rw [hx] at h1 h3
  have hk : runLength (32 :: refNote r) = 1 := by
    unfold runLength
    have : longest (32 :: refNote r) = [] := by
      unfold longest
      rw [if_neg (by rintro ⟨_, hh⟩; cases hr : refNote r with
        | nil => simp [hr, signs] at hh
        | cons a b => simp [hr, signs] at hh), if_neg (by simp [signs])]
    simp [this, letter, digit]
  unfold lineRead
  rw [h1, show List.drop 1 (32 :: r) = r from rfl] at *
  rw [h3]
  dsimp only
  rw [runsFrom_cons _ _ _ _ (Nat.le_refl _), if_pos rfl, hk]
  rfl

theorem span_hd (p : UInt8 → Bool) (hp : p 10 = false) : ∀ l, span p (refNote l) = span p l
  | [] => rfl
  | c :: r => by
    by_cases h : c = 10
    · subst h; rw [refNote_nl]; simp [span, hp]
    · rw [refNote_cons c r h]; simp only [span, span_hd p hp r]
theorem hd_prefix : ∀ l, refNote l <+: l := fun l => List.takeWhile_prefix _
theorem take_hd (l : List UInt8) (k : Nat) (h : k ≤ (refNote l).length) : (refNote l).take k = l.take k := by
  obtain ⟨t, ht⟩ := hd_prefix l
  conv => rhs; rw [← ht]
  rw [List.take_append_of_le_length h]
theorem signs_solid : ∀ x ∈ signs, (10 : UInt8) ∉ x := by decide +kernel

/-- Of a text that begins with no comment and no word: the longest sign is that of its first line. -/
theorem longest_hd (l : List UInt8) : longest (refNote l) = longest l := by
  have hl := (hd_prefix l).length_le
  match l with
  | [] => rfl
  | [c] =>
    by_cases h : c = 10
    · subst h; decide
    · rw [refNote_cons c [] h]; rfl
  | c :: d :: r =>
    by_cases h : c = 10
    · subst h
      rw [refNote_nl]
      unfold longest
      rw [if_neg (by simp), if_neg (by simp), if_neg (by rintro ⟨_, hh⟩; exact signs_solid _ hh (by simp)), if_neg (by rintro ⟨_, hh⟩; exact signs_solid _ hh (by simp))]
    · by_cases hd : d = 10
      · subst hd
        rw [refNote_cons c _ h, refNote_nl]
        unfold longest
        rw [if_neg (by simp), if_neg (c := 2 ≤ (c :: 10 :: r).length ∧ _) (by rintro ⟨_, hh⟩; exact signs_solid _ hh (by simp))]
        simp
      · rw [refNote_cons c _ h, refNote_cons d _ hd]
        unfold longest
        simp

theorem shape_byte (c : UInt8) (h : inRun c = false) (hs : [c] ∉ signs) : shape [c] = (0, 2) := by
  unfold shape
  dsimp only
  rw [if_neg (by simp [h]), if_neg (by simp [h]), if_neg]
  intro hh
  exact hs (longest_in _ hh (by simp))
theorem shape_low (r : List UInt8) : shape (95 :: r) = (0, 2) := by
  rw [← refShape_eq]
  unfold refShape
  rw [if_neg (by intro h; simp [signs] at h)]
  dsimp only
  rw [if_pos (.inr rfl)]

theorem signs_long : ∀ x ∈ signs, x ≠ [] := by decide +kernel
theorem longest_take (l : List UInt8) : longest l = l.take (longest l).length := by
  unfold longest
  split
  · rename_i h
    rw [List.length_take, Nat.min_eq_left h.1]
  · split
    · rename_i h
      rw [List.length_take, Nat.min_eq_left h.1]
    · simp

theorem refRead_eq : ∀ (n : Nat) (line : Int) (at_ : Nat) (out : Red) (l : List UInt8), l.length ≤ n → refRead n line ((at_ : Int) + 1) out l = lineRead line at_ out l
  | 0, line, at_, out, l, h => by
    obtain rfl : l = [] := List.eq_nil_of_length_eq_zero (by omega)
    rfl
  | n + 1, line, at_, out, [], _ => rfl
  | n + 1, line, at_, out, c :: r, h => by
    have ih := refRead_eq n
    simp only [List.length_cons] at h
    unfold refRead
    by_cases h10 : c = 10
    · subst h10
      rw [if_pos rfl, lineRead_nl, ← ih _ _ _ _ (by omega)]
      rfl
    rw [if_neg h10]
    by_cases h32 : c = 32
    · subst h32
      rw [if_pos rfl, lineRead_blank, ← ih _ _ _ _ (by omega)]
      congr 1
    rw [if_neg h32, lineRead_step line at_ out c r h10 h32]
    have hx := refNote_cons c r h10
    have hpre := hd_prefix (c :: r)
    have hshift : ∀ k : Nat, ((at_ : Int) + 1 + (k : Int)) = (((at_ + k : Nat) : Int) + 1) := fun k => by omega
    by_cases hm : [45, 45].isPrefixOf (c :: r) = true
    · have hm' : [45, 45].isPrefixOf (refNote (c :: r)) = true := by
        cases r with
        | nil => simp [List.isPrefixOf] at hm
        | cons d r =>
          simp [List.isPrefixOf] at hm
          rw [refNote_cons c _ h10, refNote_cons d r (by rw [← hm.2]; decide)]
          simp [List.isPrefixOf, hm.1, hm.2]
          rw [← hm.1, ← hm.2]
      have hk : runLength (refNote (c :: r)) = (refNote (c :: r)).length := by
        rw [hx] at hm' ⊢
        unfold runLength
        dsimp only
        rw [if_pos hm']
      have hkp : 1 ≤ (refNote (c :: r)).length := by rw [hx]; simp
      rw [if_pos hm, hk, List.take_length]
      unfold Red.take
      rw [if_pos hm']
      by_cases hs : span printable (refNote (c :: r)) < (refNote (c :: r)).length
      · rw [if_pos hs, if_pos hs]
        rfl
      · rw [if_neg hs, if_neg hs, hshift, ih _ _ _ _ (by rw [List.length_drop]; simp only [List.length_cons]; omega)]
        rfl
    have hm' : [45, 45].isPrefixOf (refNote (c :: r)) = false := by
      cases r with
      | nil => rw [hx]; simp [refNote, List.isPrefixOf]
      | cons d r =>
        by_cases hd : d = 10
        · subst hd; rw [hx, refNote_nl]; simp [List.isPrefixOf]
        · rw [hx, refNote_cons d r hd]
          simp only [List.isPrefixOf, Bool.and_true, Bool.not_eq_true] at hm ⊢
          exact hm
    rw [if_neg hm]
    have hnt : ∀ t, [45, 45].isPrefixOf t = false → ∀ (o : Red), o.take t line ((at_ : Int) + 1) = if (shape t).2 ≠ 0 then ({ line := line, col := (at_ : Int) + 1, err := (shape t).2 }, false) else ({ o with toks := o.toks ++ [⟨(shape t).1, t, line, (at_ : Int) + 1⟩] }, true) := by
      intro t ht o
      unfold Red.take
      rw [if_neg (by simp [ht])]
    have hpt : ∀ k, [45, 45].isPrefixOf ((refNote (c :: r)).take k) = false := by
      intro k
      rw [Bool.eq_false_iff] at hm' ⊢
      intro hh
      exact hm' (List.isPrefixOf_iff_prefix.2 ((List.isPrefixOf_iff_prefix.1 hh).trans (List.take_prefix _ _)))
    rw [hnt _ (hpt _)]
    have key : (refRun (c :: r) = (refNote (c :: r)).take (runLength (refNote (c :: r))) ∧ (refRun (c :: r)).length = runLength (refNote (c :: r))) ∨ ((shape (refRun (c :: r))).2 = 2 ∧ (shape ((refNote (c :: r)).take (runLength (refNote (c :: r))))).2 = 2) := by
      by_cases hld : (letter c || digit c) = true
      · left
        have hin : inRun c = true := by unfold inRun; rw [hld]; rfl
        have hk : runLength (refNote (c :: r)) = span inRun (c :: r) := by
          rw [← span_hd inRun (by decide) (c :: r), hx]
          rw [hx] at hm'
          unfold runLength
          dsimp only
          rw [if_neg (by simp [hm']), if_pos hld]
        have hle := span_le inRun (refNote (c :: r))
        rw [span_hd inRun (by decide)] at hle
        unfold refRun
        dsimp only
        rw [if_pos hin, hk, take_hd _ _ hle]
        refine ⟨rfl, ?_⟩
        rw [List.length_take]
        have := span_le inRun (c :: r)
        omega
      · have hk : runLength (refNote (c :: r)) = max 1 (longest (c :: r)).length := by
          rw [← longest_hd (c :: r), hx]
          rw [hx] at hm'
          unfold runLength
          dsimp only
          rw [if_neg (by simp [hm']), if_neg hld]
        by_cases h95 : c = 95
        · subst h95
          right
          have : longest (95 :: r) = [] := by
            unfold longest
            rw [if_neg (by rintro ⟨_, hh⟩; cases r <;> simp [signs] at hh), if_neg (by simp [signs])]
          refine ⟨?_, ?_⟩
          · unfold refRun
            dsimp only
            rw [if_pos (by decide)]
            have h1 := span_pos (p := inRun) (c := 95) (r := r) (by decide)
            obtain ⟨k, hk⟩ : ∃ k, span inRun (95 :: r) = k + 1 := ⟨_, (Nat.sub_add_cancel h1).symm⟩
            rw [hk, List.take_succ_cons, shape_low]
          · rw [hk, this, hx]
            rw [show max 1 (List.length ([] : List UInt8)) = 1 from rfl, List.take_succ_cons, shape_low]
        · have hin : inRun c = false := by
            unfold inRun
            simp at hld
            simp [hld, h95]
          have hrr : refRun (c :: r) = longest (c :: r) := by
            unfold refRun
            dsimp only
            rw [if_neg (by simp [hin])]
          rw [hrr, hk]
          by_cases hl : longest (c :: r) = []
          · right
            rw [hl, hx]
            refine ⟨rfl, ?_⟩
            rw [show max 1 (List.length ([] : List UInt8)) = 1 from rfl, List.take_succ_cons, List.take_zero, shape_byte c hin]
            intro hh
            unfold longest at hl
            split at hl
            · rename_i h2
              exact signs_long _ h2.2 hl
            · rw [if_pos ⟨by simp, by simpa using hh⟩] at hl
              simp at hl
          · left
            have hpos : 1 ≤ (longest (c :: r)).length := by
              cases hh : longest (c :: r) with
              | nil => exact absurd hh hl
              | cons a b => simp
            have hmx : max 1 (longest (c :: r)).length = (longest (c :: r)).length := by omega
            refine ⟨?_, hmx.symm⟩
            rw [hmx]
            have hle : (longest (c :: r)).length ≤ (refNote (c :: r)).length := by rw [← longest_hd]; exact longest_le _
            rw [take_hd _ _ hle]
            exact longest_take _
    rcases key with ⟨k1, k2⟩ | ⟨k1, k2⟩
    · rw [← k1, ← k2]
      by_cases he : (shape (refRun (c :: r))).2 ≠ 0
      · rw [if_pos he, if_pos he]
        rfl
      · have hkp : 1 ≤ (refRun (c :: r)).length := by
          rw [k2, hx]
          exact runLength_pos _ _
        rw [if_neg he, if_neg he, hshift, ih _ _ _ _ (by rw [List.length_drop]; simp only [List.length_cons]; omega)]
        rfl
    · rw [if_pos (by rw [k1]; decide), k1]
      simp [k2]

theorem refRead_text (l : List UInt8) : refRead l.length 1 1 {} l = readLines l 1 := by
  have := refRead_eq l.length 1 0 {} l (Nat.le_refl _)
  rw [show ((0 : Nat) : Int) + 1 = 1 from rfl] at this
  rw [this]
  obtain ⟨tl, h1, _⟩ := lines_hd l
  unfold lineRead readLines
  rw [h1]
  rfl
end Lx
end Go.Proofs.YtadicempblgmhaaDoor
