/-
  What isFree returns, in package heir.
-/
import Derived.Test.YtojfimbanaijdaaHSteps
namespace Go.Proofs.Ytojfimbanaijdaa
open Go.RowKit Go.Shelf
attribute [local go_sem] Oper.semAt_some

set_option maxRecDepth 100000 in
set_option maxHeartbeats 1000000 in
theorem isFree_any (A : Option Addr) (cp m k : Nat) (L : List (Hr.Nm × Hr.Nm)) (c : Hr.Nm) (vA : Option Addr) (vc : Nat) (rest : List Hr.Nm) (w : World) (hl : LinksAt w (.slice A L.length cp) L) (hm : MI w m k (fun s => (Hr.firstLink L s).map Int.ofNat)) (hc : c.length ≤ 140737488355328) (hL : L.length ≤ 900000)
    (hv : NmsAt w (.slice vA rest.length vc) rest) (hrl : rest.length ≤ 1000000) :
    Calls Try.prog 61 #[.agg #[.slice A L.length cp, .map (some m)], nm c, .slice vA rest.length vc] w fun e w' => e = .returned (.bool (Hr.free L rest c)) ∧ Below w.heap.size w w' := by
  have HV := Lib.hid hv
  have HL := Lib.hid hl
  have HM := Lib.hid hm
  clear hv hl hm
  refine (callsIn_wide (n := 5)).1 ?_
  refine callsIn_of_wp_marks Try.func61 rfl trivial ?_ rfl
  simp only [Try.ntmps61, List.size_toArray, List.length_cons, List.length_nil, Nat.reduceAdd, Nat.reduceSub, Array.replicate_succ, Array.replicate_zero, List.push_toArray, List.append_toArray, List.nil_append, List.cons_append]
  gi_wp2_with (first
    | (refine ⟨trivial, ?_⟩; gi_at_call 52; refine (callsIn_wide.2 (parents_any _ _ A L.length cp (some m) c _ rfl rfl)).mono ?_; rintro e w' ⟨rfl, rfl⟩))
  obtain ⟨W5, hW5⟩ : ∃ W5, W5 = (((((w.alloc (.cells #[.slice A L.length cp, .map (some m)] 73)).alloc (.cells #[.slice vA rest.length vc] 26)).alloc (.cells #[.bool false] 4)).alloc (.cells #[.slice A L.length cp, .map (some m)] 73)).alloc (.cells #[nm c] 9)) := ⟨_, rfl⟩
  rw [← hW5]
  have hB5 : Below w.heap.size w W5 := by rw [hW5]; exact (((((Below.refl _ _).alloc (Nat.le_refl _) _).alloc (by simp) _).alloc (by simp; omega) _).alloc (by simp; omega) _).alloc (by simp; omega) _
  have hsz : W5.heap.size = w.heap.size + 5 := by rw [hW5]; simp
  have h1 : Has W5 (w.heap.size + 1) 26 #[.slice vA rest.length vc] := by
    rw [hW5]
    have h := Has.new (w.alloc (.cells #[.slice A L.length cp, .map (some m)] 73)) 26 #[.slice vA rest.length vc]
    rw [World.size_alloc] at h
    exact ((h.alloc _).alloc _).alloc _
  have h2 : Has W5 (w.heap.size + 1 + 1) 4 #[.bool false] := by
    rw [hW5]
    have h := Has.new ((w.alloc (.cells #[.slice A L.length cp, .map (some m)] 73)).alloc (.cells #[.slice vA rest.length vc] 26)) 4 #[.bool false]
    rw [World.size_alloc, World.size_alloc] at h
    exact (h.alloc _).alloc _
  have h3 : Has W5 (w.heap.size + 1 + 1 + 1) 73 #[.slice A L.length cp, .map (some m)] := by
    rw [hW5]
    have h := Has.new (((w.alloc (.cells #[.slice A L.length cp, .map (some m)] 73)).alloc (.cells #[.slice vA rest.length vc] 26)).alloc (.cells #[.bool false] 4)) 73 #[.slice A L.length cp, .map (some m)]
    rw [World.size_alloc, World.size_alloc, World.size_alloc] at h
    exact h.alloc _
  have h4 : Has W5 (w.heap.size + 1 + 1 + 1 + 1) 9 #[nm c] := by
    rw [hW5]
    have h := Has.new ((((w.alloc (.cells #[.slice A L.length cp, .map (some m)] 73)).alloc (.cells #[.slice vA rest.length vc] 26)).alloc (.cells #[.bool false] 4)).alloc (.cells #[.slice A L.length cp, .map (some m)] 73)) 9 #[nm c]
    rw [World.size_alloc, World.size_alloc, World.size_alloc, World.size_alloc] at h
    exact h
  have hml := HM.out.lt
  clear hW5
  generalize hBw : w.heap.size = B at *
  have hgf : ∀ Wx, Below B w Wx → Wx.heap[B + 1 + 1 + 1]? = W5.heap[B + 1 + 1 + 1]? → Wx.heap[B + 1 + 1 + 1 + 1]? = W5.heap[B + 1 + 1 + 1 + 1]? → GF (B + 1 + 1 + 1) (B + 1 + 1 + 1 + 1) A cp m k L c Wx := fun Wx h e3 e4 =>
    ⟨e3.trans h3, e4.trans h4, HL.out.below h (by omega), HM.out.below h (by omega), hc⟩
  refine wpIn_rangeFunc_ownG rfl (by decide) (gf := 85) (lb := #[.pointer (some ⟨B + 1 + 1 + 1, 0, none⟩), .pointer (some ⟨B + 1 + 1 + 1 + 1, 0, none⟩)]) rfl trivial (enters_of Try.func85 (by kernel_rfl) rfl)
    (parents_stops 4 (by decide) (B + 1 + 1 + 1) (B + 1 + 1 + 1 + 1) A cp m k L c W5 (hgf W5 hB5 rfl rfl) (by omega)) (fun h k g => k (h g)) ?hKb (Below.refl _ _) (fun _ => rfl)
    (fun pre Wx => Below B w Wx ∧ Has Wx (B + 1) 26 #[.slice vA rest.length vc] ∧ Has Wx (B + 1 + 1) 4 #[.bool false] ∧ Hid (∀ x ∈ pre.map (·.1), rest.contains x = false))
    (fun c pre Wx => c = .ret ∧ Below B w Wx ∧ Has Wx (B + 1 + 1) 4 #[.bool false] ∧ ∃ x ∈ pre.map (·.1), rest.contains x = true)
    ?hI ?hIx ⟨hB5, h1, h2, fun _ h => by cases h⟩
    (fun x : Up L => { tmps := #[.agg #[.slice A L.length cp, .map (some m)], nm c, .slice vA rest.length vc, .pointer (some ⟨B, 0, none⟩), undef, .pointer (some ⟨B + 1, 0, none⟩), .pointer (some ⟨B + 1 + 1, 0, none⟩), nm x.1, .agg #[.slice A L.length cp, .map (some m)], nm c, .func (.func 85) #[] #[.pointer (some ⟨B + 1 + 1 + 1, 0, none⟩), .pointer (some ⟨B + 1 + 1 + 1 + 1, 0, none⟩)], nm x.1, undef, undef, undef], defers := [] }) ?assign ?body ?done ?stop
  case hKb =>
    intro Wa l ob ob' hl hlo hoc _ hg
    refine hg.grown (fun p v h => cell_kept h (grownBy_putObj' Wa l ob') (fun r e => by cases e; exact ⟨ob, hlo, hoc⟩)) (fun j hj => World.putObj_heap_other ?_)
    rcases hj with rfl | rfl | rfl <;> omega
  case hI =>
    rintro pre Wa Wb row ⟨i1, i2, i3, i4⟩ hg hr
    have := i3.lt
    exact ⟨i1.grown hg (by omega) (fun b e => by have := (hr b e).1; omega), i2.grown hg (fun e => by have := (hr _ e.symm).1; omega), i3.grown hg (fun e => by have := (hr _ e.symm).1; omega), i4⟩
  case hIx =>
    rintro cc pre Wa Wb row ⟨i0, i1, i3, i4⟩ hg hr
    have := i3.lt
    exact ⟨i0, i1.grown hg (by omega) (fun b e => by have := (hr b e).1; omega), i3.grown hg (fun e => by have := (hr _ e.symm).1; omega), i4⟩
  case assign =>
    intro l x Wx K hK
    gi_wp2
    exact hK
  case body =>
    rintro l pre x Wx ⟨i1, i2, i3, i4⟩ hlN
    have b0 := i2.cell 0
    have blt := i2.lt
    have r0 := i3.cell 0
    have rf := i3.free 0
    have rlt := i3.lt
    simp only [List.getElem?_toArray, List.getElem?_cons_zero] at b0 r0
    have HC := Lib.hid (contains_any (.slice vA rest.length vc) rest x.1 Wx (HV.out.below i1 (by omega)) hrl)
    have I1 := Lib.hid i1
    have I2 := Lib.hid i2
    have I3 := Lib.hid i3
    clear i1 i2 i3
    cases hcon : rest.contains x.1 with
    | false =>
      rw [hcon] at HC
      gi_wp2_with (refine ⟨trivial, ?_⟩; gi_at_call 65; refine (CallsIn.inRound l (callsIn_wide.2 HC.out)).mono ?_; rintro e w2 ⟨rfl, rfl⟩)
      refine ⟨KeepsFrom.refl _ _, fun h => h, I1.out, I2.out, I3.out, fun y hy => ?_⟩
      rw [List.map_append] at hy
      rcases List.mem_append.1 hy with h | h
      · exact i4.out y h
      · rw [List.mem_singleton.1 h]; exact hcon
    | true =>
      rw [hcon] at HC
      gi_wp2_with (refine ⟨trivial, ?_⟩; gi_at_call 65; refine (CallsIn.inRound l (callsIn_wide.2 HC.out)).mono ?_; rintro e w2 ⟨rfl, rfl⟩)
      refine ⟨(KeepsOthers.setCell _ _ _).from _, rfl, I1.out.setCell (by show B ≤ B + 1 + 1; omega) _, ?_, x.1, ?_, hcon⟩
      · have := I3.out.set 0 (.bool false)
        exact this
      · rw [List.map_append]; exact List.mem_append.2 (.inr (by simp))
  case done =>
    rintro D xs Wx hD hS ⟨i1, i2, i3, i4⟩ hK
    have hres : Hr.free L rest c = true := by
      unfold Hr.free
      rw [← hS, List.all_eq_true]
      intro y hy
      rw [i4.out y hy]; rfl
    have HR := Lib.hid hres
    have r0 := i3.cell 0
    have rf := i3.free 0
    have rlt := i3.lt
    simp only [List.getElem?_toArray, List.getElem?_cons_zero] at r0
    clear hres i4 hS
    gi_wp2
    rw [HR.out]
    have hK' : (Wx.setCell ⟨B + 1 + 1, 0, none⟩ (.bool true)).heap[D]? = some (.deferred (some [])) := (Below.heap_setCell _ _ _ _ (by show D ≠ B + 1 + 1; omega)).trans hK
    refine leaves_marks [D] _ (by simp) (fun E hE => by rw [List.mem_singleton.1 hE]; exact hK') ?_
    have hgD := grownBy_putObj' (Wx.setCell ⟨B + 1 + 1, 0, none⟩ (.bool true)) D (.deferred none)
    have c4 := ((i3.set 0 (.bool true)).grown hgD (by simp; omega)).cell 0
    simp only [List.setIfInBounds_toArray, List.set_cons_zero, List.getElem?_toArray, List.getElem?_cons_zero] at c4
    have hBF := (i1.setCell (p := ⟨B + 1 + 1, 0, none⟩) (by show B ≤ B + 1 + 1; omega) (.bool true)).grown hgD (by simp [World.setCell]; omega) (fun b e => by cases e; omega)
    refine ⟨.bool true, ?_, rfl, by first | exact hBF | (rw [hBw]; exact hBF)⟩
    simp only [shut]
    simp [results, Try.results61, go_sem, c4]
  case stop =>
    rintro D cc pre Wx hD hSp ⟨rfl, i1, i3, x, hx, hcon⟩ hK
    have hres : Hr.free L rest c = false := by
      unfold Hr.free
      rw [List.all_eq_false]
      exact ⟨x, hSp.mem hx, by rw [hcon]; decide⟩
    have HR := Lib.hid hres
    have r0 := i3.cell 0
    simp only [List.getElem?_toArray, List.getElem?_cons_zero] at r0
    clear hres hSp hx hcon
    gi_wp2
    rw [HR.out]
    refine leaves_marks [D] _ (by simp) (fun E hE => by rw [List.mem_singleton.1 hE]; exact hK) ?_
    have hgD := grownBy_putObj' Wx D (.deferred none)
    have c4 := (i3.grown hgD (by simp; omega)).cell 0
    simp only [List.getElem?_toArray, List.getElem?_cons_zero] at c4
    have hBF := i1.grown hgD (by have := i3.lt; omega) (fun b e => by cases e; omega)
    refine ⟨.bool false, ?_, rfl, by first | exact hBF | (rw [hBw]; exact hBF)⟩
    simp only [shut]
    simp [results, Try.results61, go_sem, c4]
end Go.Proofs.Ytojfimbanaijdaa
