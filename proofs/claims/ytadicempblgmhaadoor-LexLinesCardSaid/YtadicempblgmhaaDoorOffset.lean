/-
  What Offset returns, in package lex.
-/
import Derived.Test.YtadicempblgmhaaDoorPlaces
namespace Go.Proofs.YtadicempblgmhaaDoor
open Go.RowKit Go.Shelf

attribute [local go_sem] Oper.semAt_some

theorem places_in (n : Nat) (s : ByteArray) (w : World) : CallsIn Fence.wide n Tryd.prog 72 #[.string s] w fun e w' =>
    e = .returned (.func (.func 108) #[] #[.pointer (some ⟨w.heap.size, 0, none⟩)]) ∧ w' = w.alloc (.cells #[.string s] 9) := by
  refine callsIn_wide.2 ?_
  have hmf : ∀ (fn : Fn) (first cap : Array Value) (w : World), (Instr.makeFunc fn first cap).run Tryd.prog w = .ok (.func fn first cap) w := fun _ _ _ _ => rfl
  go_enter Tryd.func72, Tryd.ntmps72
  go_wp2
  go_ret
  exact ⟨rfl, rfl⟩

theorem Has.above {W W' : World} {B g : Nat} {t : TypeId} {cs : Array Value} {row : Option Nat} (h : Has W g t cs) (hg : W.grownBy W' row) (hr : ∀ r, row = some r → B ≤ r) (hB : g < B) : Has W' g t cs :=
  h.grown hg (fun e => by have := hr g e.symm; omega)
theorem below_above {w W W' : World} {B C : Nat} {row : Option Nat} (h : Below B w W) (hg : W.grownBy W' row) (hr : ∀ r, row = some r → C ≤ r) (hB : B ≤ C) (hs : B ≤ w.heap.size) : Below B w W' :=
  h.grown hg (Nat.le_trans hs h.size) (fun k e => by have := hr k e; omega)
theorem keptP_alloc (bx : Nat) (W : World) (o : Obj) : KeptP bx W (W.alloc o) := ⟨fun _ hv => kept_below ((Below.refl _ _).alloc (Nat.le_refl _) _) (Nat.le_refl _) _ _ hv, fun _ _ h => h.alloc _⟩
theorem keptP_put (bx : Nat) (W : World) (l : Nat) (o o' : Obj) (h : W.heap[l]? = some o) (ho : o.isCells = false) : KeptP bx W (W.putObj l o') :=
  ⟨fun _ hv => cell_kept hv (grownBy_putObj' W l o') (fun r e => by cases e; exact ⟨o, h, ho⟩), fun _ _ hb => has_put o' hb h ho⟩

/-- Whether an offset has the place. -/
def isAt (s : ByteArray) (p : Int × Int) (k : Nat) : Bool := (((Lx.place s.data.toList k).1 : Int) == p.1) && (((Lx.place s.data.toList k).2 : Int) == p.2)

theorem offset_stop (s : ByteArray) (p : Int × Int) (pre : List Nat) (x : Nat) (h : pre ++ [x] <+: List.range (s.size + 1)) (hn : ∀ j ∈ pre, isAt s p j = false) (hx : isAt s p x = true) : Lx.offset s.data.toList p = ((x : Int), 0) := by
  obtain ⟨post, hp⟩ := h
  unfold Lx.offset
  rw [show s.data.toList.length = s.size from by simp, ← hp]
  have h1 : pre.find? (isAt s p) = none := by
    rw [List.find?_eq_none]; intro j hj; rw [hn j hj]; exact Bool.noConfusion
  show (match ((pre ++ [x]) ++ post).find? (isAt s p) with | some k => ((k : Int), (0 : Int)) | none => (0, 1)) = _
  rw [List.append_assoc, List.find?_append, h1]
  simp [hx]
theorem offset_none (s : ByteArray) (p : Int × Int) (hn : ∀ j ∈ List.range (s.size + 1), isAt s p j = false) : Lx.offset s.data.toList p = (0, 1) := by
  unfold Lx.offset
  rw [show s.data.toList.length = s.size from by simp]
  have h1 : (List.range (s.size + 1)).find? (isAt s p) = none := by
    rw [List.find?_eq_none]; intro j hj; rw [hn j hj]; exact Bool.noConfusion
  show (match (List.range (s.size + 1)).find? (isAt s p) with | some k => ((k : Int), (0 : Int)) | none => (0, 1)) = _
  rw [h1]

set_option maxRecDepth 100000 in
set_option maxHeartbeats 1000000 in
theorem Offset_any (s : ByteArray) (pl pc : Int) (w : World) (hs : s.size ≤ 900000) :
    Calls Tryd.prog 33 #[.string s, .agg #[.int .i64 pl, .int .i64 pc]] w fun e w' => e = .returned (.tuple #[.int .i64 (Lx.offset s.data.toList (pl, pc)).1, .int .i64 (Lx.offset s.data.toList (pl, pc)).2]) ∧ Below w.heap.size w w' := by
  refine (callsIn_wide (n := 5)).1 ?_
  refine callsIn_of_wp_marks Tryd.func33 rfl trivial ?_ rfl
  simp only [Tryd.ntmps33, List.size_toArray, List.length_cons, List.length_nil, Nat.reduceAdd, Nat.reduceSub, Array.replicate_succ, Array.replicate_zero, List.push_toArray, List.append_toArray, List.nil_append, List.cons_append]
  have PI := fun w => places_in 4 s w
  gi_wp2_with (refine ⟨trivial, ?_⟩; gi_at_call 72; refine (PI _).mono ?_; rintro e w' ⟨rfl, rfl⟩)
  clear PI
  obtain ⟨w4, hw4⟩ : ∃ w4, w4 = ((((w.alloc (.cells #[.int .i64 pl, .int .i64 pc] 37)).alloc (.cells #[.int .i64 0] 3)).alloc (.cells #[.int .i64 0] 23)).alloc (.cells #[.string s] 9)) := ⟨_, rfl⟩
  rw [← hw4]
  have hB4 : Below w.heap.size w w4 := by rw [hw4]; exact ((((Below.refl _ _).alloc (Nat.le_refl _) _).alloc (by simp) _).alloc (by simp; omega) _).alloc (by simp; omega) _
  have hp : Has w4 w.heap.size 37 #[.int .i64 pl, .int .i64 pc] := by rw [hw4]; exact (((Has.new _ _ _).alloc _).alloc _).alloc _
  have h4 : Has w4 (w.heap.size + 1) 3 #[.int .i64 0] := by
    rw [hw4]; have := ((Has.new (w.alloc (.cells #[.int .i64 pl, .int .i64 pc] 37)) 3 #[.int .i64 0]).alloc (.cells #[.int .i64 0] 23)).alloc (.cells #[.string s] 9)
    rw [World.size_alloc] at this; exact this
  have h5 : Has w4 (w.heap.size + 1 + 1) 23 #[.int .i64 0] := by
    rw [hw4]; have := (Has.new ((w.alloc (.cells #[.int .i64 pl, .int .i64 pc] 37)).alloc (.cells #[.int .i64 0] 3)) 23 #[.int .i64 0]).alloc (.cells #[.string s] 9)
    rw [World.size_alloc, World.size_alloc] at this; exact this
  have hb : Has w4 (w.heap.size + 1 + 1 + 1) 9 #[.string s] := by
    rw [hw4]; have := Has.new (((w.alloc (.cells #[.int .i64 pl, .int .i64 pc] 37)).alloc (.cells #[.int .i64 0] 3)).alloc (.cells #[.int .i64 0] 23)) 9 #[.string s]
    rw [World.size_alloc, World.size_alloc, World.size_alloc] at this; exact this
  have hsz4 : w4.heap.size = w.heap.size + 4 := by rw [hw4]; simp
  clear hw4
  generalize hBw : w.heap.size = B at *
  refine range_above rfl (by decide) (gf := 108) (lb := #[.pointer (some ⟨B + 1 + 1 + 1, 0, none⟩)]) rfl trivial (enters_of Tryd.func108 (by kernel_rfl) rfl)
    (places_stops 4 (by decide) (B + 1 + 1 + 1) s w4 hs (by rw [hb.cell 0]; rfl)) (fun h k => h.trans k) (keptP_put _) (fun _ => rfl)
    (fun pre W => Below B w W ∧ Has W B 37 #[.int .i64 pl, .int .i64 pc] ∧ Has W (B + 1) 3 #[.int .i64 0] ∧ Has W (B + 1 + 1) 23 #[.int .i64 0] ∧ Hid (∀ j ∈ pre, isAt s (pl, pc) j = false))
    (fun c pre W => c = .ret ∧ Below B w W ∧ Has W (B + 1 + 1) 23 #[.int .i64 0] ∧ ∃ (pre' : List Nat) (x : Nat), pre = pre' ++ [x] ∧ (∀ j ∈ pre', isAt s (pl, pc) j = false) ∧ isAt s (pl, pc) x = true ∧ Has W (B + 1) 3 #[.int .i64 x])
    ?hI ?hIx ⟨hB4, hp, h4, h5, fun _ h => by cases h⟩ ?round ?done ?stop
  case hI => exact fun pre X Y row hs hg hr => ⟨below_above hs.1 hg hr (by omega) (by omega), hs.2.1.above hg hr (by omega), hs.2.2.1.above hg hr (by omega), hs.2.2.2.1.above hg hr (by omega), hs.2.2.2.2⟩
  case hIx => exact fun c pre X Y row ⟨h1, h2, h3, pre', x, h4, h5, h6, h7⟩ hg hr => ⟨h1, below_above h2 hg hr (by omega) (by omega), h3.above hg hr (by omega), pre', x, h4, h5, h6, h7.above hg hr (by omega)⟩
  case round =>
    rintro l pre x W hl ⟨o, hlo, hlc⟩ ⟨hB, hp, h4, h5, hn⟩ hlen
    dsimp only [encPlace]
    generalize hla : ((Lx.place s.data.toList x).1 : Int) = la
    generalize hca : ((Lx.place s.data.toList x).2 : Int) = ca
    have HAT : Hid (isAt s (pl, pc) x = ((la == pl) && (ca == pc))) := by unfold isAt; rw [hla, hca]; rfl
    clear hla hca
    gi_wp2
    refine ⟨KeepsOthers.alloc _ _, keptP_alloc _ _ _, fun o' => ?_⟩
    obtain ⟨W2, hW2⟩ : ∃ W2, W2 = (W.alloc (.cells #[.int .i64 la, .int .i64 ca] 37)).putObj l o' := ⟨_, rfl⟩
    rw [← hW2]
    have hlW : (W.alloc (.cells #[.int .i64 la, .int .i64 ca] 37)).heap[l]? = some o := (Below.heap_alloc _ _ _ (Array.getElem?_eq_some_iff.1 hlo).1).trans hlo
    have hB2 : Below B w W2 := by rw [hW2]; exact below_above (hB.alloc (by have := hB.size; omega) _) (grownBy_putObj' _ _ _) (fun r e => by cases e; exact hl) (by omega) (by omega)
    have hp2 : Has W2 B 37 #[.int .i64 pl, .int .i64 pc] := by rw [hW2]; exact has_put _ (hp.alloc _) hlW hlc
    have h42 : Has W2 (B + 1) 3 #[.int .i64 0] := by rw [hW2]; exact has_put _ (h4.alloc _) hlW hlc
    have h52 : Has W2 (B + 1 + 1) 23 #[.int .i64 0] := by rw [hW2]; exact has_put _ (h5.alloc _) hlW hlc
    have hx2 : Has W2 W.heap.size 37 #[.int .i64 la, .int .i64 ca] := by rw [hW2]; exact has_put _ (Has.new _ _ _) hlW hlc
    have p0 := hp2.cell 0
    have p1 := hp2.cell 1
    have q0 := hx2.cell 0
    have q1 := hx2.cell 1
    have r4 := h42.cell 0
    have r5 := h52.cell 0
    have f4 := h42.free 0
    have f5 := h52.free 0
    have lt4 := h42.lt
    have lt5 := h52.lt
    have ltp := hp2.lt
    have ltx := hx2.lt
    simp only [List.getElem?_toArray, List.getElem?_cons_zero, List.getElem?_cons_succ] at p0 p1 q0 q1 r4 r5
    clear hW2 hlW hlo
    have HN := Lib.hid hn
    clear hn
    by_cases e1 : la = pl
    · by_cases e2 : ca = pc
      · subst e1 e2
        have HM : isAt s (la, ca) x = true := by rw [HAT.out]; simp
        have HM' := Lib.hid HM
        clear HM HAT
        gi_wp2
        refine ⟨(KeepsOthers.setCell _ _ _).trans (KeepsOthers.setCell _ _ _), rfl, ?_, ?_, pre, x, rfl, HN.out, HM'.out, ?_⟩
        · exact (hB2.setCell (by show B ≤ B + 1; omega) _).setCell (by show B ≤ B + 1 + 1; omega) _
        · have := (h52.other (p := ⟨B + 1, 0, none⟩) (by show B + 1 + 1 ≠ B + 1; omega) (.int .i64 x)).set 0 (.int .i64 0)
          exact this
        · have := (h42.set 0 (.int .i64 x)).other (p := ⟨B + 1 + 1, 0, none⟩) (by show B + 1 ≠ B + 1 + 1; omega) (.int .i64 0)
          exact this
      · have HM : isAt s (pl, pc) x = false := by rw [HAT.out]; simp [e2]
        have HM' := Lib.hid HM
        clear HM HAT
        gi_wp2
        exact ⟨KeepsOthers.refl _, ⟨fun _ h => h, fun _ _ h => h⟩, hB2, hp2, h42, h52, fun j hj => by
          rcases List.mem_append.1 hj with h | h
          · exact HN.out j h
          · rw [List.mem_singleton.1 h]; exact HM'.out⟩
    · have HM : isAt s (pl, pc) x = false := by rw [HAT.out]; simp [e1]
      have HM' := Lib.hid HM
      clear HM HAT
      gi_wp2
      exact ⟨KeepsOthers.refl _, ⟨fun _ h => h, fun _ _ h => h⟩, hB2, hp2, h42, h52, fun j hj => by
        rcases List.mem_append.1 hj with h | h
        · exact HN.out j h
        · rw [List.mem_singleton.1 h]; exact HM'.out⟩
  case done =>
    rintro D xs W hD rfl ⟨hB, hp, h4, h5, hn⟩ hK
    have hoff := offset_none s (pl, pc) hn.out
    have HO := Lib.hid hoff
    have r4 := h4.cell 0
    have r5 := h5.cell 0
    have f4 := h4.free 0
    have f5 := h5.free 0
    have lt4 := h4.lt
    have lt5 := h5.lt
    simp only [List.getElem?_toArray, List.getElem?_cons_zero, List.getElem?_cons_succ] at r4 r5
    clear hoff hn
    gi_wp2
    rw [HO.out]
    have hK' : ((W.setCell ⟨B + 1, 0, none⟩ (.int .i64 0)).setCell ⟨B + 1 + 1, 0, none⟩ (.int .i64 1)).heap[D]? = some (.deferred (some [])) :=
      (Below.heap_setCell _ _ _ _ (by show D ≠ B + 1 + 1; omega)).trans ((Below.heap_setCell _ _ _ _ (by show D ≠ B + 1; omega)).trans hK)
    refine leaves_marks [D] _ (by simp) (fun E hE => by rw [List.mem_singleton.1 hE]; exact hK') ?_
    have s4 : Has (shut [D] ((W.setCell ⟨B + 1, 0, none⟩ (.int .i64 0)).setCell ⟨B + 1 + 1, 0, none⟩ (.int .i64 1))) (B + 1) 3 #[.int .i64 0] :=
      has_put _ ((h4.set 0 (.int .i64 0)).other (p := ⟨B + 1 + 1, 0, none⟩) (by show B + 1 ≠ B + 1 + 1; omega) (.int .i64 1)) hK' rfl
    have s5 : Has (shut [D] ((W.setCell ⟨B + 1, 0, none⟩ (.int .i64 0)).setCell ⟨B + 1 + 1, 0, none⟩ (.int .i64 1))) (B + 1 + 1) 23 #[.int .i64 1] :=
      has_put _ ((h5.other (p := ⟨B + 1, 0, none⟩) (by show B + 1 + 1 ≠ B + 1; omega) (.int .i64 0)).set 0 (.int .i64 1)) hK' rfl
    have hB' : Below B w (shut [D] ((W.setCell ⟨B + 1, 0, none⟩ (.int .i64 0)).setCell ⟨B + 1 + 1, 0, none⟩ (.int .i64 1))) :=
      below_above ((hB.setCell (by show B ≤ B + 1; omega) _).setCell (by show B ≤ B + 1 + 1; omega) _) (grownBy_putObj' _ _ _) (fun r e => by cases e; exact hD) (by omega) (by omega)
    have c4 := s4.cell 0
    have c5 := s5.cell 0
    simp only [List.getElem?_toArray, List.getElem?_cons_zero] at c4 c5
    refine ⟨.tuple #[.int .i64 0, .int .i64 1], ?_, rfl, by rw [hBw]; exact hB'⟩
    simp [results, Tryd.results33, go_sem, c4, c5]
  case stop =>
    rintro D c pre W hD hSp ⟨rfl, hB, h5, pre', x, rfl, hn, hx, h4⟩ hK
    have hoff := offset_stop s (pl, pc) pre' x hSp hn hx
    have HO := Lib.hid hoff
    clear hoff hn hx hSp
    gi_wp2
    rw [HO.out]
    refine leaves_marks [D] _ (by simp) (fun E hE => by rw [List.mem_singleton.1 hE]; exact hK) ?_
    have s4 : Has (shut [D] W) (B + 1) 3 #[.int .i64 x] := has_put _ h4 hK rfl
    have s5 : Has (shut [D] W) (B + 1 + 1) 23 #[.int .i64 0] := has_put _ h5 hK rfl
    have hB' : Below B w (shut [D] W) := below_above hB (grownBy_putObj' _ _ _) (fun r e => by cases e; exact hD) (by omega) (by omega)
    have c4 := s4.cell 0
    have c5 := s5.cell 0
    simp only [List.getElem?_toArray, List.getElem?_cons_zero] at c4 c5
    refine ⟨.tuple #[.int .i64 x, .int .i64 0], ?_, rfl, by rw [hBw]; exact hB'⟩
    simp [results, Tryd.results33, go_sem, c4, c5]
end Go.Proofs.YtadicempblgmhaaDoor
