/-
  A text is read line by line; what Patch reads anew, between what stays, is what is read of the changed text. Plain functions.
-/
import Derived.Test.YtadicempblgmhaaDoorLineQ
namespace Go.Proofs.YtadicempblgmhaaDoor
namespace Lx

theorem lineStart_spec (s : List UInt8) : ∀ k, (lineStart s k = 0 ∨ ∃ j, lineStart s k = j + 1 ∧ s[j]? = some 10) ∧ ∀ i, lineStart s k ≤ i → i < k → s[i]? ≠ some 10
  | 0 => ⟨.inl rfl, fun i _ h => absurd h (Nat.not_lt_zero _)⟩
  | k + 1 => by
    simp only [lineStart]
    split
    · rename_i h
      exact ⟨.inr ⟨k, rfl, h⟩, fun i h1 h2 => by omega⟩
    · rename_i h
      obtain ⟨h1, h2⟩ := lineStart_spec s k
      refine ⟨h1, fun i h3 h4 => ?_⟩
      rcases Nat.lt_or_ge i k with h5 | h5
      · exact h2 i h3 h5
      · obtain rfl : i = k := by omega
        exact h
theorem count_none (s : List UInt8) (a b : Nat) (h : ∀ i, a ≤ i → i < b → s[i]? ≠ some 10) : ((s.take b).drop a).count 10 = 0 := by
  rw [List.count_eq_zero]
  intro hm
  obtain ⟨i, hi, he⟩ := List.mem_iff_getElem.1 hm
  rw [List.length_drop, List.length_take] at hi
  rw [List.getElem_drop, List.getElem_take] at he
  exact h (a + i) (by omega) (by omega) (by rw [List.getElem?_eq_getElem (by omega), he])

/-- The lines ahead of that of an offset. -/
theorem lines_ahead (s : List UInt8) (f : Nat) (hf : f ≤ s.length) : ∃ LA, (∀ X, lines (s.take (lineStart s f) ++ X) = LA ++ lines X) ∧ LA.length = (s.take f).count 10 := by
  obtain ⟨h1, h2⟩ := lineStart_spec s f
  have hle := lineStart_le s f
  have hcount : (s.take f).count 10 = (s.take (lineStart s f)).count 10 := by
    have e : s.take f = s.take (lineStart s f) ++ (s.take f).drop (lineStart s f) := by
      conv => lhs; rw [← List.take_append_drop (lineStart s f) (s.take f)]
      rw [List.take_take, Nat.min_eq_left hle]
    rw [e, List.count_append, count_none s _ f h2]
    rfl
  rw [hcount]
  rcases h1 with h | ⟨j, h, h10⟩
  · rw [h]
    exact ⟨[], fun X => by simp, by simp⟩
  · rw [h]
    have hj : j < s.length := by omega
    have e : s.take (j + 1) = s.take j ++ [10] := by
      rw [List.take_succ_eq_append_getElem hj]
      rw [List.getElem?_eq_getElem hj] at h10
      rw [Option.some.inj h10]
    rw [e]
    exact ⟨lines (s.take j), fun X => by rw [List.append_assoc]; exact lines_cat _ _, by rw [lines_count, List.count_append]; rfl⟩
/-- The lines behind that of an offset. -/
theorem lines_behind (s : List UInt8) (t : Nat) (ht : t ≤ s.length) : (∃ LB, ∀ X, lines (X ++ s.drop (lineEnd s t)) = lines X ++ LB) ∧ ((s.take (lineEnd s t)).drop t).count 10 = 0 := by
  have hlt := lineEnd_le s t ht
  unfold lineEnd at hlt ⊢
  split
  · rename_i h
    rw [if_pos h] at hlt
    obtain ⟨h1, h2⟩ := Lib.indexByte_some (l := s.drop t) (c := 10) (o := (Lib.indexByte (s.drop t) 10).toNat) (by omega)
    generalize (Lib.indexByte (s.drop t) 10).toNat = o at *
    rw [List.getElem?_drop] at h1
    have ho := (List.getElem?_eq_some_iff.1 h1).1
    refine ⟨⟨lines (s.drop (t + o + 1)), fun X => ?_⟩, count_none s t (t + o) (fun i h3 h4 => ?_)⟩
    · rw [List.drop_eq_getElem_cons ho, (List.getElem?_eq_some_iff.1 h1).2]
      exact lines_cat _ _
    · have := h2 (i - t) (by omega)
      rwa [List.getElem?_drop, show t + (i - t) = i from by omega] at this
  · rename_i h
    have hge := Lib.indexByte_ge (s.drop t) 10
    have := Lib.indexByte_none (l := s.drop t) (c := 10) (by omega)
    refine ⟨⟨[], fun X => by simp⟩, count_none s t s.length (fun i h3 h4 => ?_)⟩
    have := this (i - t)
    rwa [List.getElem?_drop, show t + (i - t) = i from by omega] at this

theorem readLs_clean (ls : List (List UInt8)) (n : Int) (q : Red) (h0 : q.err = 0 ∧ q.line = 0 ∧ q.col = 0) (h : (readLs q n ls).err = 0) : (readLs q n ls).line = 0 ∧ (readLs q n ls).col = 0 := by
  have hm : Moved 0 q.toks q.notes {} q := ⟨by simp, by simp, ⟨rfl, rfl, rfl⟩, h0⟩
  have := readLs_moved ls n hm
  rw [Int.add_zero] at this
  rcases this with ⟨_, k⟩ | ⟨k1, k2⟩
  · exact ⟨k.e1.2.1, k.e1.2.2⟩
  · rw [k2] at h
    exact absurd h k1

theorem map_shift_zero (l : List Tok) : l.map (shift 0) = l := by
  have : shift 0 = id := by
    funext t
    unfold shift
    simp
  rw [this, List.map_id]
theorem moved_append (p : Int → Bool) (d : Int) (a b : List Tok) : moved p d (a ++ b) = moved p d a ++ moved p d b := by
  unfold moved; rw [List.filter_append, List.map_append]
theorem moved_all (p : Int → Bool) (d : Int) (a : List Tok) (h : ∀ t ∈ a, p t.line = true) : moved p d a = a.map (shift d) := by
  unfold moved
  rw [List.filter_eq_self.2 h]
  rfl
theorem moved_none (p : Int → Bool) (d : Int) (a : List Tok) (h : ∀ t ∈ a, p t.line = false) : moved p d a = [] := by
  unfold moved
  rw [List.filter_eq_nil_iff.2 (fun t ht => by rw [h t ht]; decide)]
  rfl

/-- What is read anew, between what stays, is what is read of the changed text. -/
theorem patch_lines (s x : List UInt8) (f t : Nat) (hft : f ≤ t) (ht : t ≤ s.length) (h : (readLines s 1).err = 0) :
    ((pRead s x f t).err ≠ 0 → readLines (s.take f ++ x ++ s.drop t) 1 = { line := (pRead s x f t).line, col := (pRead s x f t).col, err := (pRead s x f t).err }) ∧
    ((pRead s x f t).err = 0 → (readLines (s.take f ++ x ++ s.drop t) 1).err = 0 ∧ (readLines (s.take f ++ x ++ s.drop t) 1).line = 0 ∧ (readLines (s.take f ++ x ++ s.drop t) 1).col = 0 ∧ (readLines (s.take f ++ x ++ s.drop t) 1).toks = pAll (readLines s 1).toks s x f t) := by
  obtain ⟨LA, hA, hAl⟩ := lines_ahead s f (by omega)
  obtain ⟨⟨LB, hB⟩, hBc⟩ := lines_behind s t ht
  have hAc := count_none s _ f (lineStart_spec s f).2
  have ha := lineStart_le s f
  have hz := lineEnd_ge s t ht
  have hzl := lineEnd_le s t ht
  have eF : s.take f = s.take (lineStart s f) ++ (s.take f).drop (lineStart s f) := by
    conv => lhs; rw [← List.take_append_drop (lineStart s f) (s.take f)]
    rw [List.take_take, Nat.min_eq_left ha]
  have eT : s.drop t = (s.take (lineEnd s t)).drop t ++ s.drop (lineEnd s t) := by
    conv => lhs; rw [← List.take_append_drop (lineEnd s t) s]
    rw [List.drop_append_of_le_length (by rw [List.length_take]; omega)]
  have eM : s.take t = s.take f ++ (s.take t).drop f := by
    conv => lhs; rw [← List.take_append_drop f (s.take t)]
    rw [List.take_take, Nat.min_eq_left hft]
  have eN : s.take f ++ x ++ s.drop t = s.take (lineStart s f) ++ (pPiece s x f t ++ s.drop (lineEnd s t)) := by
    unfold pPiece
    rw [eT]
    conv => lhs; rw [eF]
    simp only [List.append_assoc]
  have eS : s = s.take (lineStart s f) ++ (((s.take f).drop (lineStart s f) ++ (s.take t).drop f ++ (s.take (lineEnd s t)).drop t) ++ s.drop (lineEnd s t)) := by
    have e1 : s = s.take t ++ s.drop t := (List.take_append_drop t s).symm
    rw [eT, eM] at e1
    conv at e1 => rhs; rw [eF]
    simp only [List.append_assoc] at e1 ⊢
    exact e1
  obtain ⟨L, hL⟩ : ∃ L, L = (s.take f).drop (lineStart s f) ++ (s.take t).drop f ++ (s.take (lineEnd s t)).drop t := ⟨_, rfl⟩
  rw [← hL] at eS
  have lS : lines s = LA ++ (lines L ++ LB) := by
    conv => lhs; rw [eS]
    rw [hA, hB]
  have lN : lines (s.take f ++ x ++ s.drop t) = LA ++ (lines (pPiece s x f t) ++ LB) := by rw [eN, hA, hB]
  have cL : (lines L).length = ((s.take t).drop f).count 10 + 1 := by
    rw [lines_count, hL, List.count_append, List.count_append, hAc, hBc]
    omega
  have cP : (lines (pPiece s x f t)).length = x.count 10 + 1 := by
    rw [lines_count]
    unfold pPiece
    rw [List.count_append, List.count_append, hAc, hBc]
    omega
  have hfst : (pFirst s f : Int) = 1 + (LA.length : Int) := by unfold pFirst; rw [hAl]; omega
  have hlst : (pLast s f t : Int) + 1 = 1 + (LA.length : Int) + ((lines L).length : Int) := by
    have : (pLast s f t : Int) = (pFirst s f : Int) + (((s.take t).drop f).count 10 : Int) := by unfold pLast; omega
    rw [this, hfst, cL]; omega
  have hpr : pRead s x f t = readLs {} (1 + (LA.length : Int)) (lines (pPiece s x f t)) := by
    show readLs {} (pFirst s f : Int) _ = _
    rw [hfst]
  have hsh : (x.count 10 : Int) - ((pLast s f t : Int) - (pFirst s f : Int)) = ((lines (pPiece s x f t)).length : Int) - ((lines L).length : Int) := by
    rw [cP]; omega
  have hS : readLines s 1 = readLs {} 1 (LA ++ (lines L ++ LB)) := by unfold readLines; rw [lS]
  have hN : readLines (s.take f ++ x ++ s.drop t) 1 = readLs {} 1 (LA ++ (lines (pPiece s x f t) ++ LB)) := by unfold readLines; rw [lN]
  unfold pAll
  rw [hsh, hN, hpr, hfst]
  rw [hS] at h ⊢
  have hl1 : (pLast s f t : Int) = (LA.length : Int) + ((lines L).length : Int) := by omega
  rw [hl1]
  clear hl1 hsh hN hS hpr hlst hfst cP cL lN lS eS hL eN eM eT eF hAc hBc hA hB hAl
  generalize lines L = LL at *
  generalize lines (pPiece s x f t) = LP at *
  rw [readLs_append LA (LL ++ LB) 1 {} rfl rfl rfl] at h ⊢
  rw [readLs_append LA (LP ++ LB) 1 {} rfl rfl rfl]
  by_cases h1 : (readLs {} 1 LA).err = 0
  rotate_left
  · rw [if_neg h1] at h; exact absurd h h1
  rw [if_pos h1] at h ⊢
  rw [if_pos h1]
  have c1 := readLs_clean LA 1 {} ⟨rfl, rfl, rfl⟩ h1
  obtain ⟨T1, t1, g1⟩ := readLs_lines LA 1 {} rfl h1
  generalize readLs {} 1 LA = r1 at *
  rw [readLs_append LL LB _ r1 h1 c1.1 c1.2] at h ⊢
  rw [readLs_append LP LB _ r1 h1 c1.1 c1.2]
  by_cases h2 : (readLs r1 (1 + (LA.length : Int)) LL).err = 0
  rotate_left
  · rw [if_neg h2] at h; exact absurd h h2
  rw [if_pos h2] at h ⊢
  have c2 := readLs_clean LL _ r1 ⟨h1, c1⟩ h2
  obtain ⟨T2, t2, g2⟩ := readLs_lines LL _ r1 h1 h2
  have hmP : Moved 0 r1.toks r1.notes {} r1 := ⟨by simp, by simp, ⟨rfl, rfl, rfl⟩, h1, c1⟩
  have kP := readLs_moved LP (1 + (LA.length : Int)) hmP
  rw [Int.add_zero] at kP
  have hm2 : Moved (1 + (LA.length : Int) + (LL.length : Int)) (readLs r1 (1 + (LA.length : Int)) LL).toks (readLs r1 (1 + (LA.length : Int)) LL).notes {} (readLs r1 (1 + (LA.length : Int)) LL) := ⟨by simp, by simp, ⟨rfl, rfl, rfl⟩, h2, c2⟩
  have k2 := readLs_moved LB 0 hm2
  rw [Int.zero_add] at k2
  generalize readLs r1 (1 + (LA.length : Int)) LL = r2 at *
  rcases k2 with ⟨b0, k2⟩ | ⟨e1, e2⟩
  rotate_left
  · rw [e2] at h; exact absurd h e1
  rcases kP with ⟨p0, kP⟩ | ⟨e1, e2⟩
  · refine ⟨fun hh => absurd p0 hh, fun _ => ?_⟩
    rw [if_pos kP.e1.1]
    have tP := kP.toks
    rw [map_shift_zero] at tP
    have hm3 : Moved (1 + (LA.length : Int) + (LP.length : Int)) (readLs r1 (1 + (LA.length : Int)) LP).toks (readLs r1 (1 + (LA.length : Int)) LP).notes {} (readLs r1 (1 + (LA.length : Int)) LP) := ⟨by simp, by simp, ⟨rfl, rfl, rfl⟩, kP.e1⟩
    have k3 := readLs_moved LB 0 hm3
    rw [Int.zero_add] at k3
    generalize readLs r1 (1 + (LA.length : Int)) LP = rp at *
    rcases k3 with ⟨_, k3⟩ | ⟨e1, _⟩
    rotate_left
    · exact absurd b0 e1
    refine ⟨k3.e1.1, k3.e1.2.1, k3.e1.2.2, ?_⟩
    have hb := readLs_lines LB 0 {} rfl b0
    obtain ⟨T3, t3, g3⟩ := hb
    rw [k3.toks, tP, k2.toks, t2, t1]
    rw [t3]
    simp only [List.nil_append, List.append_nil, List.flatten_cons, List.flatten_nil]
    rw [moved_append, moved_append, moved_append, moved_append]
    have a1 : ∀ t ∈ T1, 1 ≤ t.line ∧ t.line < 1 + (LA.length : Int) := g1
    have a3 : ∀ t ∈ T3.map (shift (1 + (LA.length : Int) + (LL.length : Int))), 1 + (LA.length : Int) + (LL.length : Int) ≤ t.line := by
      intro t ht
      obtain ⟨u, hu, rfl⟩ := List.mem_map.1 ht
      have := g3 u hu
      show _ ≤ u.line + (1 + (LA.length : Int) + (LL.length : Int))
      omega
    rw [moved_all _ _ T1 (fun t ht => by have := a1 t ht; simp; omega), moved_none _ _ T2 (fun t ht => by have := g2 t ht; simp; omega), moved_none _ _ (T3.map _) (fun t ht => by have := a3 t ht; simp; omega),
      moved_none _ _ T1 (fun t ht => by have := a1 t ht; simp; omega), moved_none _ _ T2 (fun t ht => by have := g2 t ht; simp; omega), moved_all _ _ (T3.map _) (fun t ht => by have := a3 t ht; simp; omega)]
    rw [map_shift_zero, List.map_map]
    simp only [List.append_nil, List.nil_append, List.append_assoc]
    congr 2
    apply List.map_congr_left
    intro t _
    unfold shift
    simp only [Function.comp, Tok.mk.injEq, true_and, and_true]
    omega
  · refine ⟨fun _ => ?_, fun hh => absurd hh e1⟩
    rw [if_neg (by rw [e2]; exact e1), e2, Int.add_zero]

/-- One line more: its tokens behind those of the lines ahead of it, with its number; or its error. -/
theorem line_step (s : List UInt8) (i : Nat) (hi : i < (lines s).length) (h : (readLs {} 1 ((lines s).take i)).err = 0) :
    ((readLines (lines s)[i] 1).err = 0 → (readLs {} 1 ((lines s).take (i + 1))).err = 0 ∧ (readLs {} 1 ((lines s).take (i + 1))).toks = (readLs {} 1 ((lines s).take i)).toks ++ (readLines (lines s)[i] 1).toks.map (fun t => { t with line := (i : Int) + 1 })) ∧
    ((readLines (lines s)[i] 1).err ≠ 0 → readLines s 1 = { line := (i : Int) + 1, col := (readLines (lines s)[i] 1).col, err := (readLines (lines s)[i] 1).err }) := by
  have hx : lines (lines s)[i] = [(lines s)[i]] := lines_none _ (fun c hc e => lines_solid s _ (List.getElem_mem hi) (e ▸ hc))
  have hsp : lines s = (lines s).take i ++ ([(lines s)[i]] ++ (lines s).drop (i + 1)) := by
    conv => lhs; rw [← List.take_append_drop i (lines s)]
    rw [List.drop_eq_getElem_cons hi]
    rfl
  have ht : (lines s).take (i + 1) = (lines s).take i ++ [(lines s)[i]] := List.take_succ_eq_append_getElem hi
  have hS : readLines s 1 = readLs {} 1 ((lines s).take i ++ ([(lines s)[i]] ++ (lines s).drop (i + 1))) := by
    conv => lhs; unfold readLines; rw [hsp]
  have hX : readLines (lines s)[i] 1 = readLs {} 1 [(lines s)[i]] := by unfold readLines; rw [hx]
  have hlen : ((lines s).take i).length = i := by rw [List.length_take]; omega
  rw [hX, hS, ht, readLs_append _ _ 1 {} rfl rfl rfl, readLs_append _ _ 1 {} rfl rfl rfl, hlen, if_pos h, if_pos h]
  have c := readLs_clean _ 1 {} ⟨rfl, rfl, rfl⟩ h
  generalize readLs {} 1 ((lines s).take i) = r at *
  generalize (lines s)[i] = x at *
  have hm : Moved (i : Int) r.toks r.notes {} r := ⟨by simp, by simp, ⟨rfl, rfl, rfl⟩, h, c⟩
  have k := readLs_moved [x] 1 hm
  rw [readLs_append _ _ _ r h c.1 c.2]
  rcases k with ⟨e0, k⟩ | ⟨e1, e2⟩
  · refine ⟨fun _ => ⟨k.e1.1, ?_⟩, fun hh => absurd e0 hh⟩
    rw [k.toks]
    congr 1
    obtain ⟨new, t1, t2⟩ := readLs_lines [x] 1 {} rfl e0
    rw [t1]
    apply List.map_congr_left
    intro t ht
    have := t2 t (by simpa using ht)
    simp only [List.length_singleton] at this
    unfold shift
    simp only [Tok.mk.injEq, true_and, and_true]
    omega
  · refine ⟨fun hh => absurd hh e1, fun _ => ?_⟩
    rw [if_neg (by rw [e2]; exact e1), e2]
    have hl : (readLs {} 1 [x]).line = 1 := by
      simp only [readLs] at e1 ⊢
      cases hk : (takes {} 1 (runs x)).2 with
      | true =>
        rw [hk] at e1
        exfalso
        apply e1
        obtain ⟨k1, k2, _⟩ := takes_moved (d := 0) (A := []) (B := []) 1 (runs x) (q := {}) (p := {}) ⟨rfl, rfl, ⟨rfl, rfl, rfl⟩, rfl, rfl, rfl⟩
        exact (k2 hk).e0.1
      | false => exact takes_line 1 _ _ hk
    rw [hl, show (1 : Int) + i = i + 1 from by omega]
end Lx
end Go.Proofs.YtadicempblgmhaaDoor
