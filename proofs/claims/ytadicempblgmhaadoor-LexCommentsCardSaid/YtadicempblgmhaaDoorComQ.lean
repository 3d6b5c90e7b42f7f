/-
  A comment ahead of a token: the same tokens, by kind and text. Plain functions.
-/
import Derived.Test.YtadicempblgmhaaDoorComP
namespace Go.Proofs.YtadicempblgmhaaDoor
namespace Lx

/-- What is read of a text, by kind and text, does not depend on where it stands. -/
theorem read_kinds : ∀ (n : Nat) (l : List UInt8) (line : Int) (at_ : Nat) (out : Red) (line2 : Int) (at2 : Nat) (out2 : Red), l.length ≤ n → out.err = 0 → out2.err = 0 → kinds out.toks = kinds out2.toks →
    (lineRead line at_ out l).err = (lineRead line2 at2 out2 l).err ∧ ((lineRead line at_ out l).err = 0 → kinds (lineRead line at_ out l).toks = kinds (lineRead line2 at2 out2 l).toks)
  | _, [], line, at_, out, line2, at2, out2, _, h1, h2, hk => by
    rw [lineRead_nil, lineRead_nil]
    exact ⟨h1.trans h2.symm, fun _ => hk⟩
  | n + 1, c :: r, line, at_, out, line2, at2, out2, hn, h1, h2, hk => by
    simp only [List.length_cons] at hn
    by_cases h10 : c = 10
    · subst h10
      rw [lineRead_nl, lineRead_nl]
      exact read_kinds n r _ _ _ _ _ _ (by omega) h1 h2 hk
    by_cases h32 : c = 32
    · subst h32
      rw [lineRead_blank, lineRead_blank]
      exact read_kinds n r _ _ _ _ _ _ (by omega) h1 h2 hk
    cases hm : [45, 45].isPrefixOf (c :: r) with
    | true =>
      rw [lineRead_note _ _ _ _ hm, lineRead_note _ _ _ _ hm]
      by_cases hs : span printable (refNote (c :: r)) < (refNote (c :: r)).length
      · rw [if_pos hs, if_pos hs]
        exact ⟨rfl, fun h => by simp at h⟩
      · rw [if_neg hs, if_neg hs]
        refine read_kinds n _ _ _ _ _ _ _ ?_ (by exact h1) (by exact h2) (by exact hk)
        rw [List.length_drop, refNote_cons c r h10]
        simp only [List.length_cons]
        omega
    | false =>
      by_cases hsh : (shape (refRun (c :: r))).2 = 0
      · obtain ⟨t, ht⟩ : ∃ t, t = refRun (c :: r) := ⟨_, rfl⟩
        obtain ⟨rest, hrest⟩ : ∃ rest, c :: r = t ++ rest := by
          refine ⟨(c :: r).drop t.length, ?_⟩
          rw [ht]
          conv => rhs; lhs; rw [refRun_take]
          rw [List.take_append_drop]
        rw [← ht] at hsh
        have hap : apart t rest := apart_of_run t rest hsh (by rw [← hrest]; exact ht.symm) (by rw [← hrest]; exact hm)
        have hne : t ≠ [] := shape_ne hsh
        have hpos : 1 ≤ t.length := by
          cases t with
          | nil => exact absurd rfl hne
          | cons a b => simp
        have hlen : t.length + rest.length = r.length + 1 := by
          have := congrArg List.length hrest
          rw [List.length_append] at this
          simpa using this.symm
        rw [hrest, lineRead_run _ _ _ t rest hsh hap, lineRead_run _ _ _ t rest hsh hap]
        refine read_kinds n _ _ _ _ _ _ _ (by omega) (by exact h1) (by exact h2) ?_
        unfold kinds at hk ⊢
        simp only [List.map_append, hk, List.map_cons, List.map_nil]
      · rw [lineRead_bad _ _ _ c r h10 h32 hm hsh, lineRead_bad _ _ _ c r h10 h32 hm hsh]
        exact ⟨rfl, fun h => absurd h hsh⟩

theorem readText_line (l : List UInt8) (hs : readText l = readLines l 1) : readText l = lineRead 1 0 {} l := by
  rw [hs, ← refRead_text l, show (1 : Int) = ((0 : Nat) : Int) + 1 from rfl, refRead_eq _ _ _ _ _ (Nat.le_refl _)]

theorem all_span (p : UInt8 → Bool) (l : List UInt8) (h : l.all p = true) : span p l = l.length := (span_all p l).2 h

/-- A comment, blanks and a line feed ahead of a token: the same tokens, by kind and text. -/
theorem remark_read (S R : List UInt8) (h : (lineRead 1 0 {} S).err = 0) (j : Nat) (hj : j < (lineRead 1 0 {} S).toks.length) :
    ∃ P Q, S = P ++ Q ∧ offset S ((lineRead 1 0 {} S).toks[j].line, (lineRead 1 0 {} S).toks[j].col) = ((P.length : Int), 0) ∧
      (R.all printable = true → (lineRead 1 0 {} (P ++ 32 :: 45 :: 45 :: (R ++ 10 :: 32 :: 32 :: Q))).err = 0 ∧ kinds (lineRead 1 0 {} (P ++ 32 :: 45 :: 45 :: (R ++ 10 :: 32 :: 32 :: Q))).toks = kinds (lineRead 1 0 {} S).toks) ∧
      (∀ b (hb : b < R.length), (∀ i (hi : i < b), printable (R[i]'(by omega)) = true) → printable R[b] = false → R[b] ≠ 10 → (lineRead 1 0 {} (P ++ 32 :: 45 :: 45 :: (R ++ 10 :: 32 :: 32 :: Q))).err ≠ 0) := by
  obtain ⟨new, e1, e2⟩ := walk S.length 1 0 {} S (Nat.le_refl _) rfl h
  have e1' : (lineRead 1 0 {} S).toks = new := by rw [e1]; rfl
  have hjn : j < new.length := by rw [← e1']; exact hj
  obtain ⟨P, Q, line', at', out', k⟩ := e2 j hjn
  have hpl := k.place S 0 (by rw [List.drop_zero]) (Nat.zero_le _) (by rw [place_zero]; rfl) (by rw [place_zero])
  rw [Nat.zero_add] at hpl
  have htok : (lineRead 1 0 {} S).toks[j] = new[j] := by simp only [e1']
  have hd : [45, 45].isPrefixOf (45 :: 45 :: (R ++ 10 :: 32 :: 32 :: Q)) = true := by simp [List.isPrefixOf]
  have hnote : refNote (45 :: 45 :: (R ++ 10 :: 32 :: 32 :: Q)) = 45 :: 45 :: refNote (R ++ 10 :: 32 :: 32 :: Q) := by
    rw [refNote_cons _ _ (by decide), refNote_cons _ _ (by decide)]
  refine ⟨P, Q, k.cut, ?_, ?_, ?_⟩
  · rw [htok, k.atLine, k.atCol, ← hpl.2.1, show ((at' : Int) + 1) = ((place S P.length).2 : Int) from by rw [hpl.2.2]; omega]
    exact offset_place S P.length hpl.1
  · intro hR
    have hno : (10 : UInt8) ∉ R := by
      intro hh
      have := List.all_eq_true.1 hR _ hh
      revert this
      decide
    have hx : refNote (R ++ 10 :: 32 :: 32 :: Q) = R := by
      unfold refNote
      rw [List.takeWhile_append_of_pos (by intro a ha; simp; rintro rfl; exact hno ha), List.takeWhile_cons_of_neg (by decide), List.append_nil]
    have hsp : ¬ span printable (45 :: 45 :: R) < (45 :: 45 :: R).length := by
      rw [all_span printable _ (by simp only [List.all_cons, hR]; decide)]
      omega
    have hm := k.more (45 :: 45 :: (R ++ 10 :: 32 :: 32 :: Q))
    rw [lineRead_note _ _ _ _ hd, hnote, hx, if_neg hsp, show 45 :: 45 :: (R ++ 10 :: 32 :: 32 :: Q) = (45 :: 45 :: R) ++ 10 :: 32 :: 32 :: Q from rfl, List.drop_left' rfl, lineRead_nl, lineRead_blank, lineRead_blank] at hm
    rw [show 45 :: 45 :: R ++ 10 :: 32 :: 32 :: Q = 45 :: 45 :: (R ++ 10 :: 32 :: 32 :: Q) from rfl] at hm
    rw [hm, k.same]
    have hkk := read_kinds Q.length Q line' at' out' (line' + 1) (0 + 1 + 1) { out' with notes := out'.notes ++ [⟨6, 45 :: 45 :: R, line', ((at' + 1 : Nat) : Int) + 1⟩] } (Nat.le_refl _) k.e0 k.e0 rfl
    rw [k.same] at h
    exact ⟨by rw [← hkk.1]; exact h, (hkk.2 h).symm⟩
  · intro b hb hall hbad h10
    have hm := k.more (45 :: 45 :: (R ++ 10 :: 32 :: 32 :: Q))
    rw [hm, lineRead_note _ _ _ _ hd, hnote]
    have hlt : span printable (45 :: 45 :: refNote (R ++ 10 :: 32 :: 32 :: Q)) < (45 :: 45 :: refNote (R ++ 10 :: 32 :: 32 :: Q)).length := by
      rcases Nat.lt_or_ge (span printable (45 :: 45 :: refNote (R ++ 10 :: 32 :: 32 :: Q))) (45 :: 45 :: refNote (R ++ 10 :: 32 :: 32 :: Q)).length with g | g
      · exact g
      · exfalso
        have hall2 := (span_all printable _).1 (Nat.le_antisymm (span_le _ _) g)
        rw [List.all_eq_true] at hall2
        have hmem : R[b] ∈ refNote (R ++ 10 :: 32 :: 32 :: Q) := by
          have hsplit : R = R.take b ++ R[b] :: R.drop (b + 1) := by
            conv => lhs; rw [← List.take_append_drop b R]
            rw [List.drop_eq_getElem_cons hb]
          have hto : ∀ a ∈ R.take b, (fun c => !(c == 10)) a = true := by
            intro a ha
            obtain ⟨i, hi, rfl⟩ := List.getElem_of_mem ha
            rw [List.length_take] at hi
            rw [List.getElem_take]
            have := hall i (by omega)
            generalize R[i] = y at this
            simp
            rintro rfl
            revert this
            decide
          have key : ∀ (X A B Y : List UInt8) (y : UInt8), X = A ++ y :: B → (∀ a ∈ A, (fun c => !(c == 10)) a = true) → y ≠ 10 → y ∈ refNote (X ++ Y) := by
            intro X A B Y y hX hA hy
            rw [hX]
            unfold refNote
            rw [List.append_assoc, List.takeWhile_append_of_pos hA, List.cons_append, List.takeWhile_cons_of_pos (by simpa using hy)]
            simp
          exact key R _ _ _ _ hsplit hto h10
        have := hall2 R[b] (List.mem_cons_of_mem _ (List.mem_cons_of_mem _ hmem))
        rw [hbad] at this
        cases this
    rw [if_pos hlt]
    show (2 : Int) ≠ 0
    decide
end Lx
end Go.Proofs.YtadicempblgmhaaDoor
