/-
  What slices.AppendSeq, Collect and Sorted make of a class's parents, in package heir.
-/
import Derived.Test.YtojfimbanaijdaaHAlone
import Derived.Sort.OwnSorted
namespace Go.Proofs.Ytojfimbanaijdaa
open Go.RowKit Go.Shelf
attribute [local go_sem] Oper.semAt_some

set_option maxRecDepth 100000 in
set_option maxHeartbeats 1000000 in
theorem appendSeq_any (bg bc : Nat) (A : Option Addr) (cp m k : Nat) (L : List (Hr.Nm × Hr.Nm)) (c : Hr.Nm) (w : World) (hG : GF bg bc A cp m k L c w) (hL : L.length ≤ 900000) :
    Calls Try.prog 93 #[.slice none 0 0, .func (.func 85) #[] #[.pointer (some ⟨bg, 0, none⟩), .pointer (some ⟨bc, 0, none⟩)]] w fun e w' =>
      ∃ o, e = .returned o ∧ w'.ownsRow w.heap.size 9 1 o (Hr.parents L c).length (nmRow (Hr.parents L c)) ∧ Below w.heap.size w w' := by
  obtain ⟨i0, hi, hz0, hz1, hz2⟩ := info_parts strInfo
  have hpl : (Hr.parents L c).length ≤ 900000 := by
    unfold Hr.parents
    rw [List.length_map]
    refine Nat.le_trans (List.takeWhile_sublist _).length_le ?_
    rw [List.length_drop]; omega
  have HG := Lib.hid hG
  have hb1 := Has.new w 26 #[.slice none 0 0]
  have hB1 : Below w.heap.size w (w.alloc (.cells #[.slice none 0 0] 26)) := (Below.refl _ _).alloc (Nat.le_refl _) _
  have hG1 := hG.alloc (.cells #[.slice none 0 0] 26)
  clear hG
  refine (callsIn_wide (n := 5)).1 ?_
  refine callsIn_of_wp_marks Try.func93 rfl trivial ?_ rfl
  simp only [Try.ntmps93, List.size_toArray, List.length_cons, List.length_nil, Nat.reduceAdd, Nat.reduceSub, Array.replicate_succ, Array.replicate_zero, List.push_toArray, List.append_toArray, List.nil_append, List.cons_append]
  gi_wp2_with fail
  have hsz1 : (w.alloc (.cells #[.slice none 0 0] 26)).heap.size = w.heap.size + 1 := World.size_alloc _ _
  generalize hW1 : w.alloc (.cells #[.slice none 0 0] 26) = W1 at *
  generalize hX : w.heap.size = X at *
  have hgw : ∀ Wx, Below X w Wx → GF bg bc A cp m k L c Wx := fun Wx h => HG.out.below (hX ▸ h)
  refine wpIn_rangeFunc_ownG rfl (by decide) (gf := 85) (lb := #[.pointer (some ⟨bg, 0, none⟩), .pointer (some ⟨bc, 0, none⟩)]) rfl trivial (enters_of Try.func85 (by kernel_rfl) rfl)
    (parents_stops 4 (by decide) bg bc A cp m k L c W1 hG1 (by omega)) (fun h k g => k (h g)) ?hKb (Below.refl _ _) (fun _ => rfl)
    (fun pre Wx => ∃ o, Has Wx X 26 #[o] ∧ Wx.ownsRow (X + 1) 9 1 o pre.length (nmRow (pre.map (·.1))) ∧ Below X w Wx)
    (fun _ _ _ => False)
    ?hI (fun _ _ _ _ _ h _ _ => h) ⟨_, hb1, World.ownsRow_nil _ _ _ _, hB1⟩
    (fun x : Up L => { tmps := #[.slice none 0 0, .func (.func 85) #[] #[.pointer (some ⟨bg, 0, none⟩), .pointer (some ⟨bc, 0, none⟩)], .pointer (some ⟨X, 0, none⟩), undef, .slice none 0 0, nm x.1, .func (.func 85) #[] #[.pointer (some ⟨bg, 0, none⟩), .pointer (some ⟨bc, 0, none⟩)], nm x.1, undef, undef, undef, undef, undef], defers := [] }) ?assign ?body ?done (fun _ _ _ _ _ _ h => h.elim)
  case hKb =>
    intro Wa l ob ob' hl hlo hoc _ hg
    refine hg.grown (fun p v h => cell_kept h (grownBy_putObj' Wa l ob') (fun r e => by cases e; exact ⟨ob, hlo, hoc⟩)) (fun j hj => World.putObj_heap_other ?_)
    have g1 := HG.out.hg.lt
    have g2 := HG.out.hc.lt
    have g3 := HG.out.hm.lt
    rcases hj with rfl | rfl | rfl <;> omega
  case hI =>
    rintro pre Wa Wb row ⟨o, h1, h2, h3⟩ hg hr
    have hlt := h1.lt
    refine ⟨o, h1.grown hg (fun e => by have := (hr _ e.symm).1; omega), h2.kept hg ?_, h3.grown hg (by omega) (fun b e => by have := (hr b e).1; omega)⟩
    cases row with
    | none => cases hob : o.ownBlock <;> simp
    | some r =>
      obtain ⟨_, ob, h4, h5⟩ := hr r rfl
      exact .inr (own_not h2 h4 h5)
  case assign =>
    intro l x Wx K hK
    gi_wp2
    exact hK
  case body =>
    rintro l pre x Wx ⟨o, h1, h2, h3⟩ hlN
    have b0 := h1.cell 0
    have blt := h1.lt
    simp only [List.getElem?_toArray, List.getElem?_cons_zero] at b0
    have H1 := Lib.hid h1
    have H2 := Lib.hid h2
    have H3 := Lib.hid h3
    have O5 : Hid ((Wx.alloc (.cells #[nm x.1] 9)).ownsRow (X + 1) 9 1 o pre.length (nmRow (pre.map (·.1)))) := h2.alloc _
    have P5 : Hid (Has (Wx.alloc (.cells #[nm x.1] 9)) X 26 #[o]) := h1.alloc _
    have B5 : Hid (Below X w (Wx.alloc (.cells #[nm x.1] 9))) := h3.alloc (by omega) _
    have N1 := Lib.hid (one_new Wx (nm x.1) 9)
    have N7 : Hid (X + 1 ≤ (Wx.alloc (.cells #[nm x.1] 9)).heap.size) := by show _ ≤ _; simp; omega
    have N8 : Hid (pre.length + 1 ≤ maxLen) := by show _ ≤ _; unfold maxLen; omega
    have N9 : Hid ((pre.length + 1) * 16 ≤ 140737488355328) := by show _ ≤ _; omega
    clear h1 h2 h3
    gi_wp2_with (first
      | (gi_at_builtin; refine wpListIn_append_own_at _ rfl _ _ 26 rfl (X + 1) 9 i0 (.string ⟨#[]⟩) 1 16 Try.underlying26 hi hz0 hz1 hz2 rfl (by decide) _ _ _ rfl O5.out ⟨Wx.heap.size, 0, none⟩ 1 1 [nm x.1] rfl rfl N1.out (by simp [Value.oneCell']) N8.out N9.out N7.out ?_
         intro v' w5 hown5 hg5 _ hat5
         obtain ⟨vA, vc, rfl⟩ := own_len hown5
         have hb5 := P5.out.grown hg5 (own_apart O5.out P5.out (by decide))
         have bb := hb5.cell 0
         simp only [List.getElem?_toArray, List.getElem?_cons_zero] at bb
         have bf := hb5.free 0
         have bl := hb5.lt
         have R0 := Lib.hid hb5
         have R1 := Lib.hid hown5
         have RG := Lib.hid hg5
         have R3 := Lib.hid (Below.grown B5.out hg5 (by have := N7.out; omega) (fun g hg => by have := own_ge O5.out hg; omega))
         clear hb5 hown5 hg5 hat5))
    have hset := R0.out.set 0 (.slice vA (pre.length + 1) vc)
    simp only [List.setIfInBounds_toArray, List.set_cons_zero] at hset
    have hown6 := R1.out.kept (grown_set w5 X 0 (.slice vA (pre.length + 1) vc)) (.inr (own_apart R1.out R0.out (by decide)).symm)
    have hb6 : Below X w (w5.setCell ⟨X, 0, none⟩ (.slice vA (pre.length + 1) vc)) := R3.out.grown (grown_set _ _ _ _) (by omega) (fun b e => by cases e; omega)
    refine ⟨⟨?_, fun j ob hj h1 h2 => ?_⟩, fun _ => hgw _ hb6, _, hset, ?_, hb6⟩
    · have := RG.out.size
      simp [World.setCell] at this ⊢
      omega
    · refine (Below.heap_setCell _ _ _ _ (by show j ≠ X; omega)).trans ((RG.out.block j (by have := (Array.getElem?_eq_some_iff.1 h1).1; simp; omega) (fun e => own_not H2.out h1 h2 e.symm)).trans (Has.alloc' h1))
    · rw [List.map_append, List.length_append]
      show World.ownsRow _ _ _ _ _ _ (nmRow (_ ++ [x.1]))
      rw [nmRow_snoc]
      exact hown6
  case done =>
    rintro D xs Wx hD hS ⟨o, h1, h2, h3⟩ hK
    have b0 := h1.cell 0
    have blt := h1.lt
    simp only [List.getElem?_toArray, List.getElem?_cons_zero] at b0
    have hlen : xs.length = (Hr.parents L c).length := by rw [← hS, List.length_map]
    rw [hS, hlen] at h2
    have H2 := Lib.hid h2
    have H3 := Lib.hid h3
    clear h1 h2 h3
    gi_wp2
    refine leaves_marks [D] _ (by simp) (fun E hE => by rw [List.mem_singleton.1 hE]; exact hK) ?_
    have hgD := grownBy_putObj' Wx D (.deferred none)
    refine ⟨o, ?_, o, rfl, ?_, ?_⟩
    · simp [results, Try.results93, go_sem]
    · exact own_base (H2.out.kept hgD (.inr (own_not H2.out hK rfl))) (by omega)
    · have h := H3.out.grown hgD (by omega) (fun b e => by cases e; omega)
      first | exact h | (rw [hX]; exact h)

theorem collect_any (bg bc : Nat) (A : Option Addr) (cp m k : Nat) (L : List (Hr.Nm × Hr.Nm)) (c : Hr.Nm) (w : World) (hG : GF bg bc A cp m k L c w) (hL : L.length ≤ 900000) :
    Calls Try.prog 81 #[.func (.func 85) #[] #[.pointer (some ⟨bg, 0, none⟩), .pointer (some ⟨bc, 0, none⟩)]] w fun e w' =>
      ∃ o, e = .returned o ∧ w'.ownsRow w.heap.size 9 1 o (Hr.parents L c).length (nmRow (Hr.parents L c)) ∧ Below w.heap.size w w' := by
  have HA := Lib.hid (appendSeq_any bg bc A cp m k L c w hG hL)
  clear hG
  go_enter Try.func81, Try.ntmps81
  go_wp2_with (first
    | (go_at_call 93; refine HA.out.mono ?_
       rintro e w4 ⟨o, rfl, ho4, hb4⟩
       have HO := Lib.hid ho4
       have HB := Lib.hid hb4
       clear ho4 hb4))
  go_ret
  exact ⟨o, rfl, HO.out, HB.out⟩

namespace Hr
theorem le_all (x y : Nm) : (decide (x ≤ y) || decide (y ≤ x)) = true := by
  simp only [Bool.or_eq_true, decide_eq_true_eq]
  exact Std.Total.total x y
theorem put1_perm (x : Nm) : ∀ l : List Nm, (put1 x l).Perm (x :: l)
  | [] => List.Perm.refl _
  | y :: r => by
    unfold put1
    split
    · exact List.Perm.refl _
    · exact ((put1_perm x r).cons y).trans (List.Perm.swap x y r)
theorem isort_perm : ∀ l : List Nm, (isort l).Perm l
  | [] => List.Perm.refl _
  | x :: r => (put1_perm x (isort r)).trans ((isort_perm r).cons x)
theorem put1_sorted (x : Nm) : ∀ l : List Nm, l.Pairwise (· ≤ ·) → (put1 x l).Pairwise (· ≤ ·)
  | [], _ => by simp [put1]
  | y :: r, h => by
    have h' := List.pairwise_cons.1 h
    unfold put1
    split
    · rename_i hxy
      exact List.pairwise_cons.2 ⟨fun z hz => by
        rcases List.mem_cons.1 hz with rfl | hz
        · exact hxy
        · exact List.le_trans hxy (h'.1 z hz), h⟩
    · rename_i hxy
      have hyx : y ≤ x := (Std.Total.total (r := fun a b : Nm => a ≤ b) x y).resolve_left hxy
      exact List.pairwise_cons.2 ⟨fun z hz => by
        rcases List.mem_cons.1 ((put1_perm x r).mem_iff.1 hz) with rfl | hz
        · exact hyx
        · exact h'.1 z hz, put1_sorted x r h'.2⟩
theorem isort_sorted : ∀ l : List Nm, (isort l).Pairwise (· ≤ ·)
  | [] => List.Pairwise.nil
  | x :: r => put1_sorted x _ (isort_sorted r)
theorem isort_merge (l : List Nm) : l.mergeSort (fun x y => decide (x ≤ y)) = isort l := by
  refine List.Perm.eq_of_pairwise (le := (· ≤ ·)) (fun a b _ _ h1 h2 => List.le_antisymm h1 h2) ?_ (isort_sorted l) ((List.mergeSort_perm l _).trans (isort_perm l).symm)
  have h := List.pairwise_mergeSort (le := fun x y : Nm => decide (x ≤ y)) (fun a b c h1 h2 => by
    simp only [decide_eq_true_eq] at h1 h2 ⊢
    exact List.le_trans h1 h2) le_all l
  simpa using h
end Hr

theorem sort_any (v : Value) (B : Nat) (l : List Hr.Nm) (w : World) (ho : w.ownsRow B 9 1 v l.length (nmRow l)) (hl : l.length ≤ 1000000) :
    Calls Try.prog 71 #[v] w fun e w' => e = .returned (.tuple #[]) ∧ w'.ownsRow B 9 1 v (Hr.isort l).length (nmRow (Hr.isort l)) ∧ w.grownBy w' v.ownBlock := by
  have hlen : (Hr.isort l).length = l.length := (Hr.isort_perm l).length_eq
  rcases ho.2 with ⟨rfl, hz⟩ | ⟨gb, cap, cur, rfl, hbase, hgb, r1, r2, r3, r4⟩
  · have hss : l = [] := List.eq_nil_of_length_eq_zero hz
    subst hss
    refine (Try.slices_Sort_string_none none 0 w).mono ?_
    rintro e w' ⟨rfl, rfl⟩
    exact ⟨rfl, ho, ⟨rfl, rfl, rfl, Nat.le_refl _, fun _ _ _ => rfl⟩⟩
  · have h4 : List.take l.length cur.toList = nmRow l := by simpa using r4
    have hH := holds_of_block (ss := l) hgb h4
    have hgl : gb < w.heap.size := (Array.getElem?_eq_some_iff.1 hgb).1
    refine (Try.slices_Sort_string gb 0 cap l w hH hgl (by omega)).mono ?_
    rintro e w' ⟨rfl, nn, os, rfl⟩
    refine ⟨rfl, ?_, grownBy_sorted _⟩
    rw [← Hr.isort_merge, List.length_mergeSort]
    exact ownsRow_sorted (by simp) hbase hgb r1 r2 r3

theorem sorted_any (bg bc : Nat) (A : Option Addr) (cp m k : Nat) (L : List (Hr.Nm × Hr.Nm)) (c : Hr.Nm) (w : World) (hG : GF bg bc A cp m k L c w) (hL : L.length ≤ 900000) :
    Calls Try.prog 48 #[.func (.func 85) #[] #[.pointer (some ⟨bg, 0, none⟩), .pointer (some ⟨bc, 0, none⟩)]] w fun e w' =>
      ∃ o, e = .returned o ∧ w'.ownsRow w.heap.size 9 1 o (Hr.isort (Hr.parents L c)).length (nmRow (Hr.isort (Hr.parents L c))) ∧ Below w.heap.size w w' := by
  have hpl : (Hr.parents L c).length ≤ 900000 := by
    unfold Hr.parents
    rw [List.length_map]
    refine Nat.le_trans (List.takeWhile_sublist _).length_le ?_
    rw [List.length_drop]; omega
  have HA := Lib.hid (collect_any bg bc A cp m k L c w hG hL)
  clear hG
  go_enter Try.func48, Try.ntmps48
  go_wp2_with (first
    | (go_at_call 81; refine HA.out.mono ?_
       rintro e w4 ⟨o, rfl, ho4, hb4⟩
       have HS := Lib.hid (sort_any o w.heap.size _ w4 ho4 (by omega))
       have HO := Lib.hid ho4
       have HB := Lib.hid hb4
       clear ho4 hb4)
    | (go_at_call 71; refine HS.out.mono ?_
       rintro e w5 ⟨rfl, ho5, hg5⟩
       have HO5 := Lib.hid ho5
       have HB5 := Lib.hid (HB.out.grown hg5 HB.out.size (fun g hg => own_ge HO.out hg))
       clear ho5 hg5))
  go_ret
  exact ⟨o, rfl, HO5.out, HB5.out⟩
end Go.Proofs.Ytojfimbanaijdaa
