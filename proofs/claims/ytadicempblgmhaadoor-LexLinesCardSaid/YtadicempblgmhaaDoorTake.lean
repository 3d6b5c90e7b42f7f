/-
  What take does to what has been read, in package lex.
-/
import Derived.Test.YtadicempblgmhaaDoorMem
namespace Go.Proofs.YtadicempblgmhaaDoor
open Go.RowKit

theorem tok_news (w : World) (k : Int) (s : ByteArray) (l c : Int) : ∀ j u, (tokCells ⟨k, s.data.toList, l, c⟩)[j]? = some u →
    (w.alloc (.cells #[.int .i64 k, .string s, .int .i64 l, .int .i64 c] 55)).cell? ((⟨w.heap.size, 0, none⟩ : Addr).add j) = some u := by
  intro j u hj
  have e : (⟨s.data.toList.toArray⟩ : ByteArray) = s := Lib.mk_data s
  simp only [tokCells, e] at hj
  match j, hj with
  | 0, hj => simp at hj; subst hj; simp [Addr.add]
  | 1, hj => simp at hj; subst hj; simp [Addr.add]
  | 2, hj => simp at hj; subst hj; simp [Addr.add]
  | 3, hj => simp at hj; subst hj; simp [Addr.add]
  | (j + 4), hj => simp at hj

theorem tok_one (t : Lx.Tok) : ∀ u ∈ tokCells t, u.oneCell' = true := by
  intro u hu
  simp [tokCells] at hu
  rcases hu with rfl | rfl | rfl | rfl <;> rfl

set_option maxRecDepth 100000 in
set_option maxHeartbeats 1000000 in
theorem take_note (s : ByteArray) (B b : Nat) (r : Lx.Red) (line col : Int) (w : World) (hs : s.size ≤ 1000000) (hp : [45, 45].isPrefixOf s.data.toList = true)
    (hR : Reading w B b r) (hB : B ≤ b) (hn : r.notes.length ≤ 1000000) (hc0 : 0 ≤ col) (hc1 : col ≤ 1000000) :
    Calls Tryd.prog 115 #[.pointer (some ⟨b, 0, none⟩), .string s, .agg #[.int .i64 line, .int .i64 col]] w fun e w' =>
      e = .returned (.bool (r.take s.data.toList line col).2) ∧ Reading w' B b (r.take s.data.toList line col).1 ∧ Stays B b w w' := by
  obtain ⟨vt, vn, hb, ht, hno, hne⟩ := hR
  obtain ⟨i0, hi, hz0, hz1, hz2⟩ := info_parts tokInfo
  have hblt := hb.lt
  have c0 : ∀ o, (w.alloc o).cell? ⟨b, 0, none⟩ = some vt := fun o => (hb.alloc o).cell 0
  have c1 : ∀ o, (w.alloc o).cell? ⟨b, 1, none⟩ = some vn := fun o => (hb.alloc o).cell 1
  have c2 : ∀ o, (w.alloc o).cell? ⟨b, 2, none⟩ = some (.int .i64 r.line) := fun o => (hb.alloc o).cell 2
  have c3 : ∀ o, (w.alloc o).cell? ⟨b, 3, none⟩ = some (.int .i64 r.col) := fun o => (hb.alloc o).cell 3
  have c4 : ∀ o, (w.alloc o).cell? ⟨b, 4, none⟩ = some (.int .i64 r.err) := fun o => (hb.alloc o).cell 4
  have f0 : ∀ o, (w.alloc o).frozen? ⟨b, 0, none⟩ = false := fun o => (hb.alloc o).free 0
  have f1 : ∀ o, (w.alloc o).frozen? ⟨b, 1, none⟩ = false := fun o => (hb.alloc o).free 1
  have f2 : ∀ o, (w.alloc o).frozen? ⟨b, 2, none⟩ = false := fun o => (hb.alloc o).free 2
  have f3 : ∀ o, (w.alloc o).frozen? ⟨b, 3, none⟩ = false := fun o => (hb.alloc o).free 3
  have f4 : ∀ o, (w.alloc o).frozen? ⟨b, 4, none⟩ = false := fun o => (hb.alloc o).free 4
  have d0 := hb.cell 0
  have d1 := hb.cell 1
  have d2 := hb.cell 2
  have d3 := hb.cell 3
  have d4 := hb.cell 4
  have g0 := hb.free 0
  have g1 := hb.free 1
  have g2 := hb.free 2
  have g3 := hb.free 3
  have g4 := hb.free 4
  have cP := hasPrefix_any s ⟨#[45, 45]⟩
  rw [show (⟨#[45, 45]⟩ : ByteArray).data.toList = [45, 45] from rfl, hp] at cP
  have CP := Lib.hid cP
  clear cP
  have hsl := Lx.span_le Lx.printable s.data.toList
  rw [show s.data.toList.length = s.size from by simp] at hsl
  by_cases hpr : (Lx.span Lx.printable s.data.toList : Int) < s.size
  · have hT : r.take s.data.toList line col = ({ line := line, col := col + Lx.span Lx.printable s.data.toList, err := 2 }, false) := by
      unfold Lx.Red.take; rw [if_pos hp, if_pos (by simp; omega)]
    have HT := Lib.hid hT
    clear hT
    go_enter Tryd.func115, Tryd.ntmps115
    go_wp2_with (first
      | (go_at_call 47; refine (CP.out _).mono ?_; rintro e w1 ⟨rfl, rfl⟩)
      | (go_at_call 49; refine (span_isPrintable s _ (by unfold maxLen; omega)).mono ?_; rintro e w1 ⟨rfl, rfl⟩))
    go_ret
    rw [HT.out]
    exact ⟨rfl, ⟨_, _, (((((hb.set 0 _).set 1 _).set 2 _).set 3 _).set 4 _).alloc _, World.ownsRow_nil _ _ _ _, World.ownsRow_nil _ _ _ _, .inl rfl⟩,
      ((((((Stays.refl B b w).set hB 0 _).set hB 1 _).set hB 2 _).set hB 3 _).set hB 4 _).alloc (by simp [World.setCell]; omega) _⟩
  · go_enter Tryd.func115, Tryd.ntmps115
    go_wp2_with (first
      | (go_at_call 47; refine (CP.out _).mono ?_; rintro e w1 ⟨rfl, rfl⟩)
      | (go_at_call 49; refine (span_isPrintable s _ (by unfold maxLen; omega)).mono ?_; rintro e w1 ⟨rfl, rfl⟩))
    have hT : r.take s.data.toList line col = ({ r with notes := r.notes ++ [⟨6, s.data.toList, line, col⟩] }, true) := by
      unfold Lx.Red.take; rw [if_pos hp, if_neg (by simp; omega)]
    have HT := Lib.hid hT
    clear hT
    obtain ⟨W2, hW2⟩ : ∃ W2, W2 = ((w.alloc (.cells #[.int .i64 line, .int .i64 col] 37)).alloc (.cells #[.int .i64 6, .string s, .int .i64 line, .int .i64 col] 55)).drew := ⟨_, rfl⟩
    have hnews : ∀ j u, (tokCells ⟨6, s.data.toList, line, col⟩)[j]? = some u → W2.cell? ((⟨w.heap.size + 1, 0, none⟩ : Addr).add j) = some u := by
      have := tok_news (w.alloc (.cells #[.int .i64 line, .int .i64 col] 37)) 6 s line col
      rw [World.size_alloc] at this
      rw [hW2]
      exact this
    have hown2 : W2.ownsRow B 55 4 vn r.notes.length (toksCells r.notes) := by rw [hW2]; exact (hno.alloc _).alloc _
    have hb2 : Has W2 b 98 #[vt, vn, .int .i64 r.line, .int .i64 r.col, .int .i64 r.err] := by rw [hW2]; exact (hb.alloc _).alloc _
    have ht2 : W2.ownsRow B 55 4 vt r.toks.length (toksCells r.toks) := by rw [hW2]; exact (ht.alloc _).alloc _
    have hst2 : Stays B b w W2 := by rw [hW2]; exact (((Stays.refl _ _ _).alloc (by omega) _).alloc (by simp; omega) _).drew
    have hsz2 : W2.heap.size = w.heap.size + 2 := by rw [hW2]; simp
    have N1 := Lib.hid hnews
    have N2 := Lib.hid hown2
    have N3 := Lib.hid hb2
    have N4 := Lib.hid ht2
    have N5 := Lib.hid hst2
    have N6 := Lib.hid hsz2
    have N7 : Hid (B ≤ W2.heap.size) := by rw [hsz2]; show _ ≤ _; omega
    have N8 : Hid (r.notes.length + 1 ≤ maxLen) := by show _ ≤ _; unfold maxLen; omega
    have N9 : Hid ((r.notes.length + 1) * 40 ≤ 140737488355328) := by show _ ≤ _; omega
    clear hnews hown2 hb2 ht2 hst2 hsz2
    subst hW2
    go_region_law ((refine step_append_lies _ rfl (.tmp 31) (.tmp 35) 35 rfl B 55 i0 (.agg #[.int .i64 0, .string ⟨#[]⟩, .int .i64 0, .int .i64 0]) 4 40 Tryd.underlying35 hi hz0 hz1 hz2 rfl ?_ vn r.notes.length (toksCells r.notes) ?_ ?_ ⟨w.heap.size + 1, 0, none⟩ 1 1 (tokCells ⟨6, s.data.toList, line, col⟩) ?_ rfl ?_ (tok_one _) ?_ N8.out N9.out ?_ (w.heap.size + 2) ?_ ?_; decide; simp [Act.eval]; exact N2.out; simp [Act.eval]; exact N1.out; decide; exact N7.out; exact N6.out; intro g cap w1 hown1 hg1 hat1 hlt1; have hb3 := Has.grown N3.out hg1 (own_apart N2.out N3.out (by decide)); have k1 := hb3.cell 1; have q1 := hb3.free 1))
    all_goals
      go_wp2
      go_ret
      rw [HT.out]
      obtain ⟨z1, z2, z3, z4⟩ := appended (i := 1) N3.out N2.out N4.out hne hown1 hg1 hat1 N6.out
      refine ⟨rfl, ⟨vt, _, z1, z3, ?_, z4⟩, ((N5.out.grown N2.out hg1 (Nat.le_refl _) N7.out).set hB 1 _)⟩
      rw [toksCells_append, List.length_append]
      exact z2

set_option maxRecDepth 100000 in
set_option maxHeartbeats 1000000 in
theorem take_run (s : ByteArray) (B b : Nat) (r : Lx.Red) (line col : Int) (w : World) (hs : s.size ≤ 1000000) (hp : [45, 45].isPrefixOf s.data.toList = false)
    (hR : Reading w B b r) (hB : B ≤ b) (hn : r.toks.length ≤ 1000000) (hE : Env w) :
    Calls Tryd.prog 115 #[.pointer (some ⟨b, 0, none⟩), .string s, .agg #[.int .i64 line, .int .i64 col]] w fun e w' =>
      e = .returned (.bool (r.take s.data.toList line col).2) ∧ Reading w' B b (r.take s.data.toList line col).1 ∧ Stays B b w w' := by
  obtain ⟨vt, vn, hb, ht, hno, hne⟩ := hR
  obtain ⟨i0, hi, hz0, hz1, hz2⟩ := info_parts tokInfo
  have hblt := hb.lt
  have cP := hasPrefix_any s ⟨#[45, 45]⟩
  rw [show (⟨#[45, 45]⟩ : ByteArray).data.toList = [45, 45] from rfl, hp] at cP
  have CP := Lib.hid cP
  clear cP
  have CS := Lib.hid (Shape_any s (w.alloc (.cells #[.int .i64 line, .int .i64 col] 37)) hs (hE.alloc _))
  have hT : r.take s.data.toList line col = if (Lx.shape s.data.toList).2 ≠ 0 then ({ line := line, col := col, err := (Lx.shape s.data.toList).2 }, false) else ({ r with toks := r.toks ++ [⟨(Lx.shape s.data.toList).1, s.data.toList, line, col⟩] }, true) := by
    unfold Lx.Red.take; rw [if_neg (by rw [hp]; decide)]
  have HT := Lib.hid hT
  clear hT hp
  generalize Lx.shape s.data.toList = sh at CS HT
  obtain ⟨kd, er⟩ := sh
  by_cases her : (er != 0) = true
  all_goals
    go_enter Tryd.func115, Tryd.ntmps115
    go_wp2_with fail
    refine (CP.out _).mono ?_
    rintro e w0 ⟨rfl, rfl⟩
    go_wp2_with fail
    refine CS.out.mono ?_
    rintro e w1 ⟨rfl, hb1⟩
    have hB1 := hb1.size
    rw [World.size_alloc] at hb1 hB1
    have b1 := (hb.alloc (.cells #[.int .i64 line, .int .i64 col] 37)).below hb1 (by omega)
    have p1 := (Has.new w 37 #[.int .i64 line, .int .i64 col]).below hb1 (by omega)
    have t1 := own_below (ht.alloc (.cells #[.int .i64 line, .int .i64 col] 37)) hb1 (by simp)
    have n1 := own_below (hno.alloc (.cells #[.int .i64 line, .int .i64 col] 37)) hb1 (by simp)
    have s1 : Stays B b w w1 := ((Stays.refl B b w).alloc (by omega) _).trans (Stays.of_below (by rw [World.size_alloc]; exact hb1) (by simp; omega))
    clear hb1 CS CP
    have hbl1 := b1.lt
    have hpl1 := p1.lt
    have q0 := p1.cell 0
    have q1 := p1.cell 1
    have d0 := b1.cell 0
    have d1 := b1.cell 1
    have d2 := b1.cell 2
    have d3 := b1.cell 3
    have d4 := b1.cell 4
    have g0 := b1.free 0
    have g1 := b1.free 1
    have g2 := b1.free 2
    have g3 := b1.free 3
    have g4 := b1.free 4
    go_wp2
  · go_ret
    rw [HT.out, if_pos (by simpa using her)]
    exact ⟨rfl, ⟨_, _, ((((b1.set 0 _).set 1 _).set 2 _).set 3 _).set 4 _, World.ownsRow_nil _ _ _ _, World.ownsRow_nil _ _ _ _, .inl rfl⟩,
      ((((s1.set hB 0 _).set hB 1 _).set hB 2 _).set hB 3 _).set hB 4 _⟩
  · obtain ⟨W2, hW2⟩ : ∃ W2, W2 = (w1.alloc (.cells #[.int .i64 kd, .string s, .int .i64 line, .int .i64 col] 55)).drew := ⟨_, rfl⟩
    have hnews : ∀ j u, (tokCells ⟨kd, s.data.toList, line, col⟩)[j]? = some u → W2.cell? ((⟨w1.heap.size, 0, none⟩ : Addr).add j) = some u := by
      have := tok_news w1 kd s line col
      rw [hW2]
      exact this
    have hown2 : W2.ownsRow B 55 4 vt r.toks.length (toksCells r.toks) := by rw [hW2]; exact t1.alloc _
    have hb2 : Has W2 b 98 #[vt, vn, .int .i64 r.line, .int .i64 r.col, .int .i64 r.err] := by rw [hW2]; exact b1.alloc _
    have ht2 : W2.ownsRow B 55 4 vn r.notes.length (toksCells r.notes) := by rw [hW2]; exact n1.alloc _
    have hst2 : Stays B b w W2 := by rw [hW2]; exact (s1.alloc (by omega) _).drew
    have hsz2 : W2.heap.size = w1.heap.size + 1 := by rw [hW2]; simp
    have N1 := Lib.hid hnews
    have N2 := Lib.hid hown2
    have N3 := Lib.hid hb2
    have N4 := Lib.hid ht2
    have N5 := Lib.hid hst2
    have N6 := Lib.hid hsz2
    have N7 : Hid (B ≤ W2.heap.size) := by rw [hsz2]; show _ ≤ _; omega
    have N8 : Hid (r.toks.length + 1 ≤ maxLen) := by show _ ≤ _; unfold maxLen; omega
    have N9 : Hid ((r.toks.length + 1) * 40 ≤ 140737488355328) := by show _ ≤ _; omega
    clear hnews hown2 hb2 ht2 hst2 hsz2
    subst hW2
    go_region_law ((refine step_append_lies _ rfl (.tmp 55) (.tmp 60) 35 rfl B 55 i0 (.agg #[.int .i64 0, .string ⟨#[]⟩, .int .i64 0, .int .i64 0]) 4 40 Tryd.underlying35 hi hz0 hz1 hz2 rfl ?_ vt r.toks.length (toksCells r.toks) ?_ ?_ ⟨w1.heap.size, 0, none⟩ 1 1 (tokCells ⟨kd, s.data.toList, line, col⟩) ?_ rfl ?_ (tok_one _) ?_ N8.out N9.out ?_ (w1.heap.size + 1) ?_ ?_; decide; simp [Act.eval]; exact N2.out; simp [Act.eval]; exact N1.out; decide; exact N7.out; exact N6.out; intro g cap w3 hown1 hg1 hat1 hlt1; have hb3 := Has.grown N3.out hg1 (own_apart N2.out N3.out (by decide)); have k1 := hb3.cell 0; have q1 := hb3.free 0))
    all_goals
      go_wp2
      go_ret
      rw [HT.out, if_neg (by simpa using her)]
      obtain ⟨z1, z2, z3, z4⟩ := appended (i := 0) N3.out N2.out N4.out (by
        rcases hne with h | h
        · cases hv : vn.ownBlock with
          | none => exact .inl rfl
          | some k => exact .inr (by rw [h]; simp)
        · exact .inr h.symm) hown1 hg1 hat1 N6.out
      refine ⟨rfl, ⟨_, vn, z1, ?_, z3, ?_⟩, ((N5.out.grown N2.out hg1 (Nat.le_refl _) N7.out).set hB 0 _)⟩
      · rw [toksCells_append, List.length_append]
        exact z2
      · rcases z4 with h | h
        · rw [h]; exact .inr (by simp [Value.ownBlock])
        · exact .inr h.symm
end Go.Proofs.YtadicempblgmhaaDoor
