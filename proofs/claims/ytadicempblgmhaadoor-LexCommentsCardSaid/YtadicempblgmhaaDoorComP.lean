/-
  Where a token stands a text can be parted by a blank. Plain functions.
-/
import Derived.Test.YtadicempblgmhaaDoorTight
namespace Go.Proofs.YtadicempblgmhaaDoor
namespace Lx

theorem lineRead_note (line : Int) (at_ : Nat) (out : Red) (l : List UInt8) (hm : [45, 45].isPrefixOf l = true) :
    lineRead line at_ out l = if span printable (refNote l) < (refNote l).length then { line := line, col := (at_ : Int) + 1 + span printable (refNote l), err := 2 }
      else lineRead line (at_ + (refNote l).length) { out with notes := out.notes ++ [⟨6, refNote l, line, (at_ : Int) + 1⟩] } (l.drop (refNote l).length) := by
  match l, hm with
  | c :: r, hm =>
    have hc : c = 45 := by
      cases r <;> simp [List.isPrefixOf] at hm
      exact hm.1.symm
    have h10 : c ≠ 10 := by rw [hc]; decide
    have h32 : c ≠ 32 := by rw [hc]; decide
    have hd : [45, 45].isPrefixOf (refNote (c :: r)) = true := by
      match r, hm with
      | [], hm => simp [List.isPrefixOf] at hm
      | d :: r, hm =>
        simp [List.isPrefixOf] at hm
        rw [← hm.1, ← hm.2, refNote_cons _ _ (by decide), refNote_cons _ _ (by decide)]
        simp [List.isPrefixOf]
    have hx : refNote (c :: r) = c :: refNote r := refNote_cons c r h10
    have hk : runLength (refNote (c :: r)) = (refNote (c :: r)).length := by
      rw [hx] at hd ⊢
      unfold runLength
      dsimp only
      rw [if_pos hd]
    rw [lineRead_step line at_ out c r h10 h32, hk, List.take_length]
    generalize refNote (c :: r) = x at *
    unfold Red.take
    rw [if_pos hd]
    by_cases hs : span printable x < x.length
    · rw [if_pos hs, if_pos hs]; rfl
    · rw [if_neg hs, if_neg hs]; rfl

theorem lineRead_run (line : Int) (at_ : Nat) (out : Red) (t rest : List UInt8) (h : (shape t).2 = 0) (ha : apart t rest) :
    lineRead line at_ out (t ++ rest) = lineRead line (at_ + t.length) { out with toks := out.toks ++ [⟨(shape t).1, t, line, (at_ : Int) + 1⟩] } rest := by
  obtain ⟨h1, h2, c, r, hc, h10, h32⟩ := refRun_apart t rest h ha
  have e1 : lineRead line at_ out (t ++ rest) = refRead (t ++ rest).length line ((at_ : Int) + 1) out (t ++ rest) := (refRead_eq _ _ _ _ _ (Nat.le_refl _)).symm
  have e2 : ∀ (a : Nat) (o : Red), lineRead line a o rest = refRead (r ++ rest).length line ((a : Int) + 1) o rest := fun a o => (refRead_eq _ _ _ _ _ (by simp)).symm
  rw [e1, e2]
  have e3 : t ++ rest = c :: (r ++ rest) := by rw [hc]; rfl
  have e4 : (t ++ rest).length = (r ++ rest).length + 1 := by rw [e3]; rfl
  rw [e4]
  rw [e3] at h1 h2 ⊢
  rw [refRead, if_neg h10, if_neg h32, if_neg (by rw [h2]; decide), if_neg (by rw [h1, h]; decide), h1, ← e3, List.drop_left' rfl]
  congr 1
  omega


theorem drop_while (p : UInt8 → Bool) : ∀ l : List UInt8, l.drop (l.takeWhile p).length = l.dropWhile p
  | [] => rfl
  | c :: r => by
    by_cases h : p c = true
    · rw [List.takeWhile_cons_of_pos h, List.dropWhile_cons_of_pos h, List.length_cons, List.drop_succ_cons, drop_while p r]
    · rw [List.takeWhile_cons_of_neg h, List.dropWhile_cons_of_neg h]; rfl

/-- The token j of what is read stands somewhere: there the text can be parted by a blank. -/
structure Parted (line : Int) (at_ : Nat) (out : Red) (l : List UInt8) (new : List Tok) (j : Nat) (h : j < new.length) (P Q : List UInt8) (line' : Int) (at' : Nat) (out' : Red) : Prop where
  cut : l = P ++ Q
  e0 : out'.err = 0
  toks : out'.toks = out.toks ++ new.take j
  atLine : new[j].line = line'
  atCol : new[j].col = (at' : Int) + 1
  same : lineRead line at_ out l = lineRead line' at' out' Q
  ne : ∃ c r, Q = c :: r ∧ c ≠ 10 ∧ c ≠ 32
  more : ∀ Z, lineRead line at_ out (P ++ 32 :: Z) = lineRead line' (at' + 1) out' Z
  place : ∀ (S : List UInt8) (b : Nat), l = S.drop b → b ≤ S.length → ((place S b).1 : Int) = line → (place S b).2 = at_ + 1 → b + P.length ≤ S.length ∧ ((place S (b + P.length)).1 : Int) = line' ∧ (place S (b + P.length)).2 = at' + 1

theorem lineRead_bad (line : Int) (at_ : Nat) (out : Red) (c : UInt8) (r : List UInt8) (h10 : c ≠ 10) (h32 : c ≠ 32) (hm : [45, 45].isPrefixOf (c :: r) = false) :
    ((shape (refRun (c :: r))).2 ≠ 0 → lineRead line at_ out (c :: r) = { line := line, col := (at_ : Int) + 1, err := (shape (refRun (c :: r))).2 }) := by
  intro h
  have e1 : lineRead line at_ out (c :: r) = refRead (c :: r).length line ((at_ : Int) + 1) out (c :: r) := (refRead_eq _ _ _ _ _ (Nat.le_refl _)).symm
  rw [e1, List.length_cons, refRead, if_neg h10, if_neg h32, if_neg (by rw [hm]; decide), if_pos h]

theorem place_next (S : List UInt8) (b : Nat) (c : UInt8) (r : List UInt8) (h : c :: r = S.drop b) : b < S.length ∧ r = S.drop (b + 1) ∧ place S (b + 1) = pstep (place S b) c := by
  have hlt : b < S.length := by
    have := congrArg List.length h
    rw [List.length_drop] at this
    simp at this
    omega
  rw [List.drop_eq_getElem_cons hlt] at h
  injection h with e1 e2
  exact ⟨hlt, e2, by rw [place_succ S b hlt, ← e1]⟩

theorem place_along (S : List UInt8) (b : Nat) (t rest : List UInt8) (h : t ++ rest = S.drop b) (hb : b ≤ S.length) (hn : (10 : UInt8) ∉ t) : b + t.length ≤ S.length ∧ rest = S.drop (b + t.length) ∧ place S (b + t.length) = ((place S b).1, (place S b).2 + t.length) := by
  have hl := congrArg List.length h
  rw [List.length_drop, List.length_append] at hl
  have hle : b + t.length ≤ S.length := by omega
  refine ⟨hle, ?_, place_run S b t.length hle ?_⟩
  · rw [← List.drop_drop, ← h, List.drop_left' rfl]
  · rw [← h, List.take_left' rfl]
    exact hn

theorem walk : ∀ (n : Nat) (line : Int) (at_ : Nat) (out : Red) (l : List UInt8), l.length ≤ n → out.err = 0 → (lineRead line at_ out l).err = 0 →
    ∃ new, (lineRead line at_ out l).toks = out.toks ++ new ∧ ∀ j (h : j < new.length), ∃ P Q line' at' out', Parted line at_ out l new j h P Q line' at' out'
  | _, line, at_, out, [], _, _, _ => ⟨[], by rw [lineRead_nil]; simp, fun j h => by simp at h⟩
  | n + 1, line, at_, out, c :: r, hn, h0, he => by
    simp only [List.length_cons] at hn
    by_cases h10 : c = 10
    · subst h10
      rw [lineRead_nl] at he ⊢
      obtain ⟨new, e1, e2⟩ := walk n (line + 1) 0 out r (by omega) h0 he
      refine ⟨new, e1, fun j h => ?_⟩
      obtain ⟨P, Q, line', at', out', k⟩ := e2 j h
      refine ⟨10 :: P, Q, line', at', out', ⟨by rw [k.cut]; rfl, k.e0, k.toks, k.atLine, k.atCol, by rw [lineRead_nl]; exact k.same, k.ne, fun Z => by rw [List.cons_append, lineRead_nl]; exact k.more Z, fun S b hS hb h1 h2 => ?_⟩⟩
      obtain ⟨p1, p2, p3⟩ := place_next S b 10 r hS
      have := k.place S (b + 1) p2 (by omega) (by rw [p3]; unfold pstep; rw [if_pos rfl]; dsimp only; omega) (by rw [p3]; unfold pstep; rw [if_pos rfl])
      rw [show b + (10 :: P).length = b + 1 + P.length from by simp only [List.length_cons]; omega]
      exact this
    by_cases h32 : c = 32
    · subst h32
      rw [lineRead_blank] at he ⊢
      obtain ⟨new, e1, e2⟩ := walk n line (at_ + 1) out r (by omega) h0 he
      refine ⟨new, e1, fun j h => ?_⟩
      obtain ⟨P, Q, line', at', out', k⟩ := e2 j h
      refine ⟨32 :: P, Q, line', at', out', ⟨by rw [k.cut]; rfl, k.e0, k.toks, k.atLine, k.atCol, by rw [lineRead_blank]; exact k.same, k.ne, fun Z => by rw [List.cons_append, lineRead_blank]; exact k.more Z, fun S b hS hb h1 h2 => ?_⟩⟩
      obtain ⟨p1, p2, p3⟩ := place_next S b 32 r hS
      have := k.place S (b + 1) p2 (by omega) (by rw [p3]; unfold pstep; rw [if_neg (by decide)]; exact h1) (by rw [p3]; unfold pstep; rw [if_neg (by decide)]; dsimp only; omega)
      rw [show b + (32 :: P).length = b + 1 + P.length from by simp only [List.length_cons]; omega]
      exact this
    cases hm : [45, 45].isPrefixOf (c :: r) with
    | true =>
      have hN := lineRead_note line at_ out (c :: r) hm
      by_cases hs : span printable (refNote (c :: r)) < (refNote (c :: r)).length
      · rw [if_pos hs] at hN
        rw [hN] at he
        simp at he
      rw [if_neg hs] at hN
      have hx : refNote (c :: r) = c :: refNote r := refNote_cons c r h10
      obtain ⟨x, hxx⟩ : ∃ x, x = refNote (c :: r) := ⟨_, rfl⟩
      have hsol : (10 : UInt8) ∉ x := by rw [hxx]; exact refNote_solid _
      obtain ⟨rest, hrest⟩ : ∃ rest, c :: r = x ++ rest ∧ (c :: r).drop x.length = rest ∧ ∀ d, rest.head? = some d → d = 10 := by
        have hp := hd_prefix (c :: r)
        refine ⟨(c :: r).drop x.length, ?_, rfl, ?_⟩
        · rw [hxx]
          have := List.prefix_iff_eq_take.1 hp
          conv => rhs; lhs; rw [this]
          rw [List.take_append_drop]
        · intro d hd
          rw [hxx] at hd
          unfold refNote at hd
          rw [drop_while] at hd
          have := List.head?_dropWhile_not (fun c => !(c == 10)) (c :: r)
          rw [hd] at this
          simpa using this
      have hnote : ∀ Z : List UInt8, (∀ d, Z.head? = some d → d = 10) → refNote (x ++ Z) = x := by
        intro Z hZ
        unfold refNote
        rw [List.takeWhile_append_of_pos (by intro a ha; simp; rintro rfl; exact hsol ha)]
        cases Z with
        | nil => simp
        | cons d Z =>
          obtain rfl := hZ d rfl
          simp
      have hxd : [45, 45].isPrefixOf x = true := by
        rw [hxx]
        match r, hm with
        | [], hm => simp [List.isPrefixOf] at hm
        | d :: r, hm =>
          simp [List.isPrefixOf] at hm
          rw [← hm.1, ← hm.2, refNote_cons _ _ (by decide), refNote_cons _ _ (by decide)]
          simp [List.isPrefixOf]
      rw [← hxx, hrest.2.1] at hN
      rw [← hxx] at hs
      have hxpos : 1 ≤ x.length := by rw [hxx, hx]; simp
      have hlen : x.length + rest.length = r.length + 1 := by
        have := congrArg List.length hrest.1
        rw [List.length_append] at this
        simpa using this.symm
      rw [hN] at he ⊢
      obtain ⟨new, e1, e2⟩ := walk n line (at_ + x.length) _ rest (by omega) (by exact h0) he
      refine ⟨new, e1, fun j h => ?_⟩
      obtain ⟨P, Q, line', at', out', k⟩ := e2 j h
      obtain ⟨d, Q', hQ, hd10, _⟩ := k.ne
      obtain ⟨P', hP⟩ : ∃ P', P = 10 :: P' := by
        cases P with
        | nil => exact absurd (hrest.2.2 d (by rw [k.cut, hQ]; rfl)) hd10
        | cons a P' => exact ⟨P', by rw [hrest.2.2 a (by rw [k.cut]; rfl)]⟩
      refine ⟨x ++ P, Q, line', at', out', ⟨by rw [hrest.1, k.cut, List.append_assoc], k.e0, k.toks, k.atLine, k.atCol, by rw [hN]; exact k.same, k.ne, fun Z => ?_, fun S b hS hb h1 h2 => ?_⟩⟩
      · have hpre : [45, 45].isPrefixOf (x ++ (P ++ 32 :: Z)) = true := by
          rw [List.isPrefixOf_iff_prefix] at hxd ⊢
          exact hxd.trans (List.prefix_append _ _)
        rw [List.append_assoc, lineRead_note _ _ _ _ hpre, hnote (P ++ 32 :: Z) (by rw [hP]; intro d hd; simpa using hd.symm), if_neg hs, List.drop_left' rfl]
        exact k.more Z
      · rw [hrest.1] at hS
        obtain ⟨p1, p2, p3⟩ := place_along S b x rest hS hb hsol
        have := k.place S (b + x.length) p2 p1 (by rw [p3]; exact h1) (by rw [p3]; dsimp only; omega)
        rw [List.length_append, ← Nat.add_assoc]
        exact this
    | false =>
      by_cases hsh : (shape (refRun (c :: r))).2 = 0
      · obtain ⟨t, ht⟩ : ∃ t, t = refRun (c :: r) := ⟨_, rfl⟩
        obtain ⟨rest, hrest⟩ : ∃ rest, c :: r = t ++ rest := by
          refine ⟨(c :: r).drop t.length, ?_⟩
          rw [ht]
          conv => rhs; lhs; rw [refRun_take]
          rw [List.take_append_drop]
        rw [← ht] at hsh
        have hap : apart t rest := apart_of_run t rest hsh (by rw [← hrest]; exact ht.symm) (by rw [← hrest]; exact hm)
        have hne : t ≠ [] := shape_ne hsh
        have hpos : 1 ≤ t.length := by
          cases t with
          | nil => exact absurd rfl hne
          | cons a b => simp
        have hlen : t.length + rest.length = r.length + 1 := by
          have := congrArg List.length hrest
          rw [List.length_append] at this
          simpa using this.symm
        have hsol : (10 : UInt8) ∉ t := by rw [ht]; exact refRun_solid _
        have hR := lineRead_run line at_ out t rest hsh hap
        rw [hrest, hR] at he ⊢
        obtain ⟨new, e1, e2⟩ := walk n line (at_ + t.length) _ rest (by omega) (by exact h0) he
        refine ⟨⟨(shape t).1, t, line, (at_ : Int) + 1⟩ :: new, by rw [e1]; simp, fun j h => ?_⟩
        cases j with
        | zero =>
          refine ⟨[], t ++ rest, line, at_, out, ⟨rfl, h0, by simp, rfl, rfl, rfl, ⟨c, r, hrest.symm, h10, h32⟩, fun Z => by rw [List.nil_append, lineRead_blank], fun S b hS hb h1 h2 => ⟨by simpa using hb, by simpa using h1, by simpa using h2⟩⟩⟩
        | succ j =>
          obtain ⟨P, Q, line', at', out', k⟩ := e2 j (by simpa using h)
          refine ⟨t ++ P, Q, line', at', out', ⟨by rw [k.cut, List.append_assoc], k.e0, by rw [k.toks]; simp, by simpa using k.atLine, by simpa using k.atCol, by rw [hR]; exact k.same, k.ne, fun Z => ?_, fun S b hS hb h1 h2 => ?_⟩⟩
          · rw [List.append_assoc, lineRead_run line at_ out t (P ++ 32 :: Z) hsh ?_]
            · exact k.more Z
            · cases P with
              | nil => exact apart_blank t Z hsh
              | cons a P =>
                intro d hd
                exact hap d (by rw [k.cut]; simpa using hd)
          · obtain ⟨p1, p2, p3⟩ := place_along S b t rest hS hb hsol
            have := k.place S (b + t.length) p2 p1 (by rw [p3]; exact h1) (by rw [p3]; dsimp only; omega)
            rw [List.length_append, ← Nat.add_assoc]
            exact this
      · rw [lineRead_bad line at_ out c r h10 h32 hm hsh] at he
        exact absurd he hsh
end Lx
end Go.Proofs.YtadicempblgmhaaDoor
