/-
  Lines are read alike wherever they stand, but for their numbers. Plain functions.
-/
import Derived.Test.YtadicempblgmhaaDoorRefB
namespace Go.Proofs.YtadicempblgmhaaDoor
namespace Lx

def shift (d : Int) (t : Tok) : Tok := { t with line := t.line + d }

/-- One reading is the other one, behind some tokens and comments, its lines moved. -/
structure Moved (d : Int) (A B : List Tok) (q p : Red) : Prop where
  toks : p.toks = A ++ q.toks.map (shift d)
  notes : p.notes = B ++ q.notes.map (shift d)
  e0 : q.err = 0 ∧ q.line = 0 ∧ q.col = 0
  e1 : p.err = 0 ∧ p.line = 0 ∧ p.col = 0

def Missed (d : Int) (q p : Red) : Prop := q.err ≠ 0 ∧ p = { line := q.line + d, col := q.col, err := q.err }

theorem take_moved {d : Int} {A B : List Tok} {q p : Red} (h : Moved d A B q p) (run : List UInt8) (line col : Int) :
    (q.take run line col).2 = (p.take run (line + d) col).2 ∧ ((q.take run line col).2 = true → Moved d A B (q.take run line col).1 (p.take run (line + d) col).1) ∧ ((q.take run line col).2 = false → Missed d (q.take run line col).1 (p.take run (line + d) col).1) := by
  by_cases h1 : [45, 45].isPrefixOf run = true
  · by_cases h2 : span printable run < run.length
    · have e : ∀ (r : Red) (l : Int), r.take run l col = ({ line := l, col := col + span printable run, err := 2 }, false) := fun r l => by
        unfold Red.take; rw [if_pos h1, if_pos h2]
      rw [e, e]
      exact ⟨rfl, fun e => by simp at e, fun _ => ⟨by simp, rfl⟩⟩
    · have e : ∀ (r : Red) (l : Int), r.take run l col = ({ r with notes := r.notes ++ [⟨6, run, l, col⟩] }, true) := fun r l => by
        unfold Red.take; rw [if_pos h1, if_neg h2]
      rw [e, e]
      exact ⟨rfl, fun _ => ⟨h.toks, by simp [h.notes, shift], h.e0, h.e1⟩, fun e => by simp at e⟩
  · by_cases h2 : (shape run).2 ≠ 0
    · have e : ∀ (r : Red) (l : Int), r.take run l col = ({ line := l, col := col, err := (shape run).2 }, false) := fun r l => by
        unfold Red.take; rw [if_neg h1, if_pos h2]
      rw [e, e]
      exact ⟨rfl, fun e => by simp at e, fun _ => ⟨h2, rfl⟩⟩
    · have e : ∀ (r : Red) (l : Int), r.take run l col = ({ r with toks := r.toks ++ [⟨(shape run).1, run, l, col⟩] }, true) := fun r l => by
        unfold Red.take; rw [if_neg h1, if_neg h2]
      rw [e, e]
      exact ⟨rfl, fun _ => ⟨by simp [h.toks, shift], h.notes, h.e0, h.e1⟩, fun e => by simp at e⟩

theorem takes_moved {d : Int} {A B : List Tok} (line : Int) : ∀ (xs : List (Nat × List UInt8)) {q p : Red}, Moved d A B q p →
    (takes q line xs).2 = (takes p (line + d) xs).2 ∧ ((takes q line xs).2 = true → Moved d A B (takes q line xs).1 (takes p (line + d) xs).1) ∧ ((takes q line xs).2 = false → Missed d (takes q line xs).1 (takes p (line + d) xs).1)
  | [], q, p, h => ⟨rfl, fun _ => h, fun e => by cases e⟩
  | x :: xs, q, p, h => by
    obtain ⟨k1, k2, k3⟩ := take_moved h x.2 line ((x.1 : Int) + 1)
    simp only [takes]
    rw [← k1]
    cases hk : (q.take x.2 line ((x.1 : Int) + 1)).2 with
    | true => exact takes_moved line xs (k2 hk)
    | false => exact ⟨rfl, fun e => by simp at e, fun _ => k3 hk⟩

theorem readLs_moved {d : Int} {A B : List Tok} : ∀ (ls : List (List UInt8)) (line : Int) {q p : Red}, Moved d A B q p →
    ((readLs q line ls).err = 0 ∧ Moved d A B (readLs q line ls) (readLs p (line + d) ls)) ∨ Missed d (readLs q line ls) (readLs p (line + d) ls)
  | [], _, _, _, h => .inl ⟨h.e0.1, h⟩
  | x :: xs, line, q, p, h => by
    obtain ⟨k1, k2, k3⟩ := takes_moved line (runs x) h
    simp only [readLs]
    rw [← k1]
    cases hk : (takes q line (runs x)).2 with
    | true =>
      have := readLs_moved xs (line + 1) (k2 hk)
      rw [show line + 1 + d = line + d + 1 from by omega] at this
      simpa using this
    | false => exact .inr (by simpa using k3 hk)

/-- Lines behind lines. -/
theorem readLs_append : ∀ (a b : List (List UInt8)) (line : Int) (q : Red), q.err = 0 → q.line = 0 → q.col = 0 → readLs q line (a ++ b) = if (readLs q line a).err = 0 then readLs (readLs q line a) (line + a.length) b else readLs q line a
  | [], b, line, q, h, _, _ => by
    simp only [List.nil_append, readLs, h, if_true, List.length_nil]
    congr 1
    omega
  | x :: a, b, line, q, h, h1, h2 => by
    have hm : Moved 0 q.toks q.notes {} q := ⟨by simp, by simp, ⟨rfl, rfl, rfl⟩, ⟨h, h1, h2⟩⟩
    obtain ⟨k1, k2, k3⟩ := takes_moved line (runs x) hm
    rw [Int.add_zero] at k1 k2 k3
    by_cases hk : (takes q line (runs x)).2 = true
    · have hmm := k2 (k1.trans hk)
      have e1 : ∀ c, readLs q line (x :: c) = readLs (takes q line (runs x)).1 (line + 1) c := fun c => by rw [readLs, if_pos hk]
      have := readLs_append a b (line + 1) (takes q line (runs x)).1 hmm.e1.1 hmm.e1.2.1 hmm.e1.2.2
      rw [List.cons_append, e1, e1, this, show line + ((x :: a).length : Nat) = line + 1 + (a.length : Nat) from by simp only [List.length_cons]; omega]
    · have hf : (takes q line (runs x)).2 = false := by simpa using hk
      have hmm := k3 (k1.trans hf)
      have he : (takes q line (runs x)).1.err ≠ 0 := by rw [hmm.2]; exact hmm.1
      have e1 : ∀ c, readLs q line (x :: c) = (takes q line (runs x)).1 := fun c => by rw [readLs, if_neg hk]
      rw [List.cons_append, e1, e1, if_neg he]

theorem lines_cat : ∀ (s r : List UInt8), lines (s ++ 10 :: r) = lines s ++ lines r
  | [], r => by
    show lines (10 :: r) = [] :: lines r
    rw [lines, if_pos rfl]
  | c :: s, r => by
    have ih := lines_cat s r
    rw [List.cons_append]
    by_cases h : c = 10
    · subst h
      show lines (10 :: (s ++ 10 :: r)) = lines (10 :: s) ++ lines r
      rw [show lines (10 :: (s ++ 10 :: r)) = [] :: lines (s ++ 10 :: r) from by rw [lines, if_pos rfl], show lines (10 :: s) = [] :: lines s from by rw [lines, if_pos rfl], ih]
      rfl
    · obtain ⟨tl, hx, _⟩ := lines_hd s
      have e : ∀ (t : List UInt8) (y : List UInt8) (ys : List (List UInt8)), lines t = y :: ys → lines (c :: t) = (c :: y) :: ys := fun t y ys ht => by rw [lines, if_neg h, ht]
      rw [e (s ++ 10 :: r) (refNote s) (tl ++ lines r) (by rw [ih, hx]; rfl), e s (refNote s) tl hx]
      rfl
theorem lines_count : ∀ (s : List UInt8), (lines s).length = s.count 10 + 1
  | [] => rfl
  | c :: s => by
    have ih := lines_count s
    by_cases h : c = 10
    · rw [lines, if_pos h, List.length_cons, ih, h]; simp
    · obtain ⟨tl, hx, _⟩ := lines_hd s
      rw [lines, if_neg h]
      rw [hx] at ih ⊢
      simp [h] at ih ⊢
      exact ih

/-- A text, a line feed, and more: the text is read as it is by itself, its lines moved; then the rest. -/
theorem read_cat (s r : List UInt8) (n : Int) (q : Red) (h : q.err = 0) (h1 : q.line = 0) (h2 : q.col = 0) :
    readLs q n (lines (s ++ 10 :: r)) = if (readLines s 1).err = 0 then
        readLs { q with toks := q.toks ++ (readLines s 1).toks.map (shift (n - 1)), notes := q.notes ++ (readLines s 1).notes.map (shift (n - 1)) } (n + (s.count 10 + 1 : Nat)) (lines r)
      else { line := (readLines s 1).line + (n - 1), col := (readLines s 1).col, err := (readLines s 1).err } := by
  have hm : Moved (n - 1) q.toks q.notes {} q := ⟨by simp, by simp, ⟨rfl, rfl, rfl⟩, ⟨h, h1, h2⟩⟩
  have key := readLs_moved (lines s) 1 hm
  rw [show (1 : Int) + (n - 1) = n from by omega] at key
  rw [lines_cat, readLs_append _ _ _ _ h h1 h2, lines_count]
  show _ = if (readLs {} 1 (lines s)).err = 0 then _ else _
  rcases key with ⟨e, k⟩ | k
  · rw [if_pos k.e1.1, if_pos e]
    congr 1
    have := k.toks
    have := k.notes
    obtain ⟨e1, e2, e3⟩ := k.e1
    generalize readLs q n (lines s) = p at *
    cases p
    simp only at *
    subst e1 e2 e3
    simp only [Red.mk.injEq, h, h1, h2, and_true]
    exact ⟨k.toks, k.notes⟩
  · have : (readLs q n (lines s)).err ≠ 0 := by rw [k.2]; exact k.1
    rw [if_neg this, if_neg k.1, k.2]
    rfl
end Lx
end Go.Proofs.YtadicempblgmhaaDoor
