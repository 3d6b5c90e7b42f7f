/-
  Texts of tokens are read as these tokens; the tightest is not longer than a text that has them. Plain functions.
-/
import Derived.Test.YtadicempblgmhaaDoorStand
import Derived.Test.YtadicempblgmhaaDoorWrite
namespace Go.Proofs.YtadicempblgmhaaDoor
namespace Lx

/-- A byte behind a token ends it. -/
def ends (t : List UInt8) (c : UInt8) : Prop := (t.all inRun = true → inRun c = false) ∧ t ++ [c] ∉ signs ∧ t ++ [c] ≠ [45, 45]
def apart (t rest : List UInt8) : Prop := ∀ c, rest.head? = some c → ends t c

theorem signs_form : ∀ x ∈ signs, x ≠ [] ∧ x.length ≤ 2 ∧ x.all inRun = false ∧ (∀ c, x.head? = some c → letter c = false ∧ digit c = false ∧ inRun c = false ∧ c ≠ 10 ∧ c ≠ 32) ∧ x ++ [32] ∉ signs ∧ [45, 45].isPrefixOf x = false := by
  have h : ∀ x ∈ signs, x ≠ [] ∧ x.length ≤ 2 ∧ x.all inRun = false ∧ (x.head?.all fun c => !letter c && !digit c && !inRun c && !(c == 10) && !(c == 32)) = true ∧ x ++ [32] ∉ signs ∧ [45, 45].isPrefixOf x = false := by decide +kernel
  intro x hx
  obtain ⟨h1, h2, h3, h4, h5, h6⟩ := h x hx
  refine ⟨h1, h2, h3, ?_, h5, h6⟩
  intro c hc
  rw [hc] at h4
  simp at h4
  exact ⟨h4.1.1.1.1, h4.1.1.1.2, h4.1.1.2, h4.1.2, h4.2⟩

/-- A token is a sign, or a run that begins with a letter or a digit. -/
theorem shape_cases (l : List UInt8) (h : (shape l).2 = 0) : l ∈ signs ∨ (l.all inRun = true ∧ ∃ c r, l = c :: r ∧ (letter c || digit c) = true) := by
  unfold shape at h
  cases l with
  | nil => simp at h
  | cons c r =>
    dsimp only at h
    split at h
    · rename_i hh
      simp only [Bool.and_eq_true] at hh
      exact .inr ⟨hh.1, c, r, rfl, by rw [hh.2]; rfl⟩
    · split at h
      · rename_i hh
        simp only [Bool.and_eq_true] at hh
        exact .inr ⟨hh.1, c, r, rfl, by rw [hh.2, Bool.or_true]⟩
      · split at h
        · rename_i hh
          exact .inl (longest_in _ hh (by simp))
        · simp at h

theorem span_append (p : UInt8 → Bool) : ∀ (l rest : List UInt8), l.all p = true → span p (l ++ rest) = l.length + span p rest
  | [], rest, _ => by simp
  | c :: r, rest, h => by
    simp only [List.all_cons, Bool.and_eq_true] at h
    rw [List.cons_append, span, if_pos h.1, span_append p r rest h.2, List.length_cons]
    omega
theorem span_zero (p : UInt8 → Bool) (l : List UInt8) : span p l = 0 ↔ ∀ c, l.head? = some c → p c = false := by
  cases l with
  | nil => simp [span]
  | cons c r => simp [span]

theorem longest_append (l rest : List UInt8) (hl : l ∈ signs) (h : ∀ c, rest.head? = some c → l ++ [c] ∉ signs) : longest (l ++ rest) = l := by
  obtain ⟨h1, h2, _⟩ := signs_form l hl
  match l, h1, h2 with
  | [a], _, _ =>
    unfold longest
    cases rest with
    | nil => rw [if_neg (by simp), if_pos ⟨by simp, by simpa using hl⟩]; rfl
    | cons c r =>
      rw [if_neg (by rintro ⟨_, hh⟩; exact h c rfl (by simpa using hh)), if_pos ⟨by simp, by simpa using hl⟩]
      rfl
  | [a, b], _, _ =>
    unfold longest
    rw [if_pos ⟨by simp, by simpa using hl⟩]
    simp
theorem longest_more (l rest : List UInt8) (c : UInt8) (hc : rest.head? = some c) (h : l ++ [c] ∈ signs) (hne : l ≠ []) : longest (l ++ rest) = l ++ [c] := by
  obtain ⟨h1, h2, _⟩ := signs_form _ h
  cases rest with
  | nil => cases hc
  | cons d r =>
    cases hc
    match l, hne with
    | [a], _ =>
      unfold longest
      rw [if_pos ⟨by simp, by simpa using h⟩]
      rfl
    | a :: b :: l, _ => simp at h2

/-- What stands ahead of a byte that ends it is read as it is. -/
theorem refRun_apart (t rest : List UInt8) (h : (shape t).2 = 0) (ha : apart t rest) : refRun (t ++ rest) = t ∧ [45, 45].isPrefixOf (t ++ rest) = false ∧ ∃ c r, t = c :: r ∧ c ≠ 10 ∧ c ≠ 32 := by
  rcases shape_cases t h with hs | ⟨hall, c, r, rfl, hc⟩
  · obtain ⟨h1, h2, h3, h4, h5, h6⟩ := signs_form t hs
    cases t with
    | nil => exact absurd rfl h1
    | cons a t =>
      obtain ⟨_, _, e3, e4, e5⟩ := h4 a rfl
      refine ⟨?_, ?_, a, t, rfl, e4, e5⟩
      · have := longest_append (a :: t) rest hs (fun c hc => (ha c hc).2.1)
        rw [List.cons_append] at this ⊢
        unfold refRun
        dsimp only
        rw [if_neg (by simp [e3]), this]
      · match t, rest with
        | [], [] => exact h6
        | [], d :: rest =>
          have := (ha d rfl).2.2
          simp only [List.cons_append, List.nil_append, List.isPrefixOf, Bool.and_true]
          rw [Bool.eq_false_iff]
          intro hh
          simp only [Bool.and_eq_true, beq_iff_eq] at hh
          exact this (by rw [← hh.1, ← hh.2]; rfl)
        | b :: t, rest =>
          simp only [List.cons_append, List.isPrefixOf] at h6 ⊢
          exact h6
  · have hin : inRun c = true := by unfold inRun; rw [hc]; rfl
    have hsp : span inRun ((c :: r) ++ rest) = (c :: r).length := by
      rw [span_append inRun _ _ hall, (span_zero inRun rest).2 (fun d hd => (ha d hd).1 hall)]
      rfl
    refine ⟨?_, ?_, c, r, rfl, ?_, ?_⟩
    · rw [List.cons_append] at hsp ⊢
      unfold refRun
      dsimp only
      rw [if_pos hin, hsp, ← List.cons_append, List.take_left' rfl]
    · have : c ≠ 45 := by rintro rfl; simp [letter, digit] at hc
      simp only [List.cons_append, List.isPrefixOf, Bool.and_eq_false_iff, beq_eq_false_iff_ne]
      exact .inl (fun e => this e.symm)
    · rintro rfl; simp [letter, digit] at hc
    · rintro rfl; simp [letter, digit] at hc

/-- Two tokens stand without a blank exactly if the second one's first byte ends the first one. -/
theorem run_two (a b : List UInt8) (ha : (shape a).2 = 0) (hb : b ≠ []) : runLength (a ++ b) = a.length ↔ apart a b := by
  obtain ⟨d, e, rfl⟩ : ∃ d e, b = d :: e := by
    cases b with
    | nil => exact absurd rfl hb
    | cons d e => exact ⟨d, e, rfl⟩
  have hap : apart a (d :: e) ↔ ends a d := ⟨fun h => h d rfl, fun h c hc => by cases hc; exact h⟩
  rw [hap]
  rcases shape_cases a ha with hs | ⟨hall, c, r, rfl, hc⟩
  · obtain ⟨h1, h2, h3, h4, h5, h6⟩ := signs_form a hs
    have hall : ¬ a.all inRun = true := by rw [h3]; exact Bool.noConfusion
    cases a with
    | nil => exact absurd rfl h1
    | cons c r =>
      obtain ⟨e1, e2, e3, e4, e5⟩ := h4 c rfl
      rw [List.cons_append]
      unfold runLength
      dsimp only
      rw [if_neg (c := (letter c || digit c) = true) (by rw [e1, e2]; exact Bool.noConfusion), ← List.cons_append]
      by_cases hp : [45, 45].isPrefixOf ((c :: r) ++ d :: e) = true
      · rw [if_pos hp]
        constructor
        · intro hh; simp at hh
        · rintro ⟨_, k2, k3⟩
          exfalso
          cases r with
          | nil =>
            simp only [List.cons_append, List.nil_append, List.isPrefixOf, Bool.and_true, Bool.and_eq_true, beq_iff_eq] at hp
            exact k3 (by rw [← hp.1, ← hp.2]; rfl)
          | cons x r =>
            simp only [List.cons_append, List.isPrefixOf] at hp h6
            rw [hp] at h6
            cases h6
      · rw [if_neg hp]
        constructor
        · intro hh
          refine ⟨fun h => absurd h hall, ?_, ?_⟩
          · intro hin
            rw [longest_more (c :: r) (d :: e) d rfl hin (by simp)] at hh
            simp at hh
          · intro he
            apply hp
            cases r with
            | nil => simp at he; simp [List.isPrefixOf, he.1, he.2]
            | cons x r => simp at he
        · rintro ⟨_, k2, _⟩
          rw [longest_append (c :: r) (d :: e) hs (fun x hx => by cases hx; exact k2)]
          simp
  · have hin : inRun c = true := by unfold inRun; rw [hc]; rfl
    have h45 : ¬ [45, 45].isPrefixOf (c :: (r ++ d :: e)) = true := by
      have : c ≠ 45 := by rintro rfl; simp [letter, digit] at hc
      simp only [List.isPrefixOf, Bool.and_eq_true, beq_iff_eq]
      exact fun hh => this hh.1.symm
    rw [List.cons_append]
    unfold runLength
    dsimp only
    rw [if_neg h45, if_pos hc, ← List.cons_append, span_append inRun _ _ hall]
    constructor
    · intro hh
      have h0 : span inRun (d :: e) = 0 := by omega
      have hd := (span_zero inRun (d :: e)).1 h0 d rfl
      refine ⟨fun _ => hd, ?_, ?_⟩
      · intro hin'
        obtain ⟨_, _, _, k4, _⟩ := signs_form _ hin'
        have := (k4 c (by simp)).2.2.1
        rw [hin] at this
        cases this
      · intro he
        have : c = 45 := by simp at he; exact he.1
        subst this
        simp [letter, digit] at hc
    · rintro ⟨k1, _⟩
      rw [(span_zero inRun (d :: e)).2 (fun x hx => by cases hx; exact k1 hall)]
      rfl

theorem apart_nil (t : List UInt8) : apart t [] := fun c hc => by cases hc
theorem apart_blank (t rest : List UInt8) (h : (shape t).2 = 0) : apart t (32 :: rest) := by
  intro c hc
  cases hc
  refine ⟨fun _ => by decide, ?_, ?_⟩
  · rcases shape_cases t h with hs | ⟨hall, c, r, rfl, hc⟩
    · exact (signs_form t hs).2.2.2.2.1
    · intro hh
      have hin : inRun c = true := by unfold inRun; rw [hc]; rfl
      have := ((signs_form _ hh).2.2.2.1 c (by simp)).2.2.1
      rw [hin] at this
      cases this
  · intro he
    have := congrArg List.getLast? he
    simp at this
theorem apart_more {t b rest : List UInt8} (h : apart t b) (hb : b ≠ []) : apart t (b ++ rest) := by
  cases b with
  | nil => exact absurd rfl hb
  | cons d e => exact fun c hc => h c (by simpa using hc)
theorem apart_less {t b rest : List UInt8} (h : apart t (b ++ rest)) (hb : b ≠ []) : apart t b := by
  cases b with
  | nil => exact absurd rfl hb
  | cons d e => exact fun c hc => h c (by simpa using hc)
theorem right_shape {t : Tok} (h : right t = true) : (shape t.text).2 = 0 ∧ (shape t.text).1 = t.kind := by
  unfold right at h
  simpa using h
theorem shape_ne {l : List UInt8} (h : (shape l).2 = 0) : l ≠ [] := by
  rintro rfl
  simp [shape] at h
theorem needs_iff {a b : Tok} (ha : right a = true) (hb : right b = true) : needs a b = false ↔ apart a.text b.text := by
  unfold needs
  rw [decide_eq_false_iff_not, Decidable.not_not]
  exact run_two _ _ (right_shape ha).1 (shape_ne (right_shape hb).1)

/-- If what is read first of two tokens and more is the first one, no blank is needed. -/
theorem apart_of_run (a rest : List UInt8) (ha : (shape a).2 = 0) (hr : refRun (a ++ rest) = a) (hp : [45, 45].isPrefixOf (a ++ rest) = false) : apart a rest := by
  intro d hd
  obtain ⟨e, rfl⟩ : ∃ e, rest = d :: e := by
    cases rest with
    | nil => cases hd
    | cons x e => cases hd; exact ⟨e, rfl⟩
  rcases shape_cases a ha with hs | ⟨hall, c, r, rfl, hc⟩
  · obtain ⟨h1, h2, h3, h4, h5, h6⟩ := signs_form a hs
    cases a with
    | nil => exact absurd rfl h1
    | cons c r =>
      obtain ⟨e1, e2, e3, e4, e5⟩ := h4 c rfl
      refine ⟨fun h => (by rw [h3] at h; cases h), ?_, ?_⟩
      · intro hin
        have hl := longest_more (c :: r) (d :: e) d rfl hin (by simp)
        rw [List.cons_append] at hr hl
        unfold refRun at hr
        dsimp only at hr
        rw [if_neg (by simp [e3]), hl] at hr
        have := congrArg List.length hr
        simp at this
      · intro he
        cases r with
        | nil => simp at he; simp [List.isPrefixOf, he.1, he.2] at hp
        | cons x r => simp at he
  · have hin : inRun c = true := by unfold inRun; rw [hc]; rfl
    have hsp := span_append inRun (c :: r) (d :: e) hall
    rw [List.cons_append] at hr hsp
    unfold refRun at hr
    dsimp only at hr
    rw [if_pos hin, hsp] at hr
    have hd0 : inRun d = false := by
      cases hdd : inRun d with
      | false => rfl
      | true =>
        have h1 : 1 ≤ span inRun (d :: e) := span_pos hdd
        have := congrArg List.length hr
        rw [List.length_take] at this
        simp only [List.length_cons, List.length_append] at this
        omega
    refine ⟨fun _ => hd0, ?_, ?_⟩
    · intro hin'
      have := ((signs_form _ hin').2.2.2.1 c (by simp)).2.2.1
      rw [hin] at this
      cases this
    · intro he
      have : c = 45 := by simp at he; exact he.1
      subst this
      simp [letter, digit] at hc

def kinds (l : List Tok) : List (Int × List UInt8) := l.map fun t => (t.kind, t.text)

/-- The text of right tokens, parted where they must be, is read as these tokens. -/
theorem textFrom_read (P : Tok → Tok → Bool) (hP : ∀ a b, right a = true → right b = true → P a b = false → needs a b = false) :
    ∀ (l : List Tok) (prev : Option Tok) (n : Nat) (line col : Int) (out : Red), l.all right = true → (textFrom P prev l).length ≤ n →
      (refRead n line col out (textFrom P prev l)).err = out.err ∧ kinds (refRead n line col out (textFrom P prev l)).toks = kinds out.toks ++ kinds l ∧ (refRead n line col out (textFrom P prev l)).notes = out.notes
  | [], prev, n, line, col, out, _, _ => by
    cases n <;> simp [textFrom, refRead, kinds]
  | t :: r, prev, n, line, col, out, h, hn => by
    simp only [List.all_cons, Bool.and_eq_true] at h
    obtain ⟨s1, s2⟩ := right_shape h.1
    have hap : apart t.text (textFrom P (some t) r) := by
      cases r with
      | nil => exact apart_nil _
      | cons u r =>
        simp only [List.all_cons, Bool.and_eq_true] at h
        simp only [textFrom]
        by_cases hp : P t u = true
        · rw [if_pos hp]
          exact apart_blank _ _ s1
        · rw [if_neg hp, List.nil_append]
          exact apart_more ((needs_iff h.1 h.2.1).1 (hP t u h.1 h.2.1 (by simpa using hp))) (shape_ne (right_shape h.2.1).1)
    obtain ⟨q1, q2, c, x, hc, q3, q4⟩ := refRun_apart t.text _ s1 hap
    have core : ∀ (n : Nat) (col : Int), (t.text ++ textFrom P (some t) r).length ≤ n →
        (refRead n line col out (t.text ++ textFrom P (some t) r)).err = out.err ∧ kinds (refRead n line col out (t.text ++ textFrom P (some t) r)).toks = kinds out.toks ++ kinds (t :: r) ∧ (refRead n line col out (t.text ++ textFrom P (some t) r)).notes = out.notes := by
      intro n col hn
      rw [List.length_append] at hn
      have hpos : 1 ≤ t.text.length := by rw [hc]; simp
      obtain ⟨m, rfl⟩ : ∃ m, n = m + 1 := ⟨n - 1, by omega⟩
      have ih := textFrom_read P hP r (some t) m line (col + t.text.length) { out with toks := out.toks ++ [⟨(shape t.text).1, t.text, line, col⟩] } h.2 (by omega)
      have hstep : refRead (m + 1) line col out (t.text ++ textFrom P (some t) r) = refRead m line (col + t.text.length) { out with toks := out.toks ++ [⟨(shape t.text).1, t.text, line, col⟩] } (textFrom P (some t) r) := by
        have q1' := q1
        have q2' := q2
        rw [hc, List.cons_append] at q1' q2' ⊢
        conv => lhs; unfold refRead
        rw [if_neg q3, if_neg q4, if_neg (by simp [q2']), q1', ← hc, if_neg (by simp [s1]), ← List.cons_append, ← hc, List.drop_left' rfl]
      rw [hstep]
      refine ⟨ih.1, ?_, ih.2.2⟩
      rw [ih.2.1]
      simp [kinds, s2]
    simp only [textFrom] at hn ⊢
    cases prev with
    | none => simpa using core n col (by simpa using hn)
    | some p =>
      dsimp only at hn ⊢
      by_cases hp : P p t = true
      · rw [if_pos hp] at hn ⊢
        simp only [List.cons_append, List.nil_append, List.length_cons] at hn ⊢
        obtain ⟨m, rfl⟩ : ∃ m, n = m + 1 := ⟨n - 1, by omega⟩
        have := core m (col + 1) (by omega)
        unfold refRead
        rw [if_neg (by decide), if_pos rfl]
        exact this
      · rw [if_neg hp] at hn ⊢
        simpa using core n col (by simpa using hn)

/-- Tokens that stand in a text fit into it, written as tight as can be. -/
theorem tight_le (S : List UInt8) : ∀ (l : List Tok) (b : Nat) (prev : Option Tok), Stands S b l → b ≤ S.length →
    (∀ p, prev = some p → right p = true ∧ ∃ o, o + p.text.length = b ∧ refRun (S.drop o) = p.text ∧ [45, 45].isPrefixOf (S.drop o) = false) →
    (textFrom needs prev l).length + b ≤ S.length
  | [], b, prev, _, hb, _ => by simp [textFrom]; exact hb
  | t :: r, b, prev, h, hb, hp => by
    obtain ⟨o, h1, h2, h3, h4, h5, h6, _, _, h7⟩ := h
    have hr : right t = true := by simp [right, h5]
    have ih := tight_le S r (o + t.text.length) (some t) h7 h2 (fun p e => by cases e; exact ⟨hr, o, rfl, h4, h6⟩)
    simp only [textFrom, List.length_append]
    cases prev with
    | none => simp; omega
    | some p =>
      dsimp only
      by_cases hn : needs p t = true
      · rw [if_pos hn]
        have : b ≠ o := by
          rintro rfl
          obtain ⟨hpr, o', e1, e2, e3⟩ := hp p rfl
          have hsd : S.drop o' = p.text ++ S.drop b := by
            have e4 := refRun_take (S.drop o')
            rw [e2] at e4
            conv => lhs; rw [← List.take_append_drop p.text.length (S.drop o')]
            rw [← e4, List.drop_drop, e1]
          rw [hsd] at e2 e3
          have hap := apart_of_run _ _ (right_shape hpr).1 e2 e3
          have htb : S.drop b = t.text ++ (S.drop b).drop t.text.length := by
            have e4 := refRun_take (S.drop b)
            rw [h4] at e4
            conv => lhs; rw [← List.take_append_drop t.text.length (S.drop b)]
            rw [← e4]
          rw [htb] at hap
          have := (needs_iff hpr hr).2 (apart_less hap h3)
          rw [this] at hn
          cases hn
        simp
        omega
      · rw [if_neg hn]
        simp
        omega
end Lx
end Go.Proofs.YtadicempblgmhaaDoor
