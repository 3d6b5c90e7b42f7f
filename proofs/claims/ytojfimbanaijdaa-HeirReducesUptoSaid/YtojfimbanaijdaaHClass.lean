/-
  What the reference's SameNames returns: whether two lists of names are the same. What the law's class returns: a class with some parents.
-/
import Derived.Test.YtojfimbanaijdaaHLow
namespace Go.Proofs.Ytojfimbanaijdaa
open Go.RowKit Go.Shelf

set_option maxRecDepth 100000 in
set_option maxHeartbeats 1000000 in
theorem SameNames_any (v u : Value) (l r : List Hr.Nm) (w : World) (hv : NmsAt w v l) (hu : NmsAt w u r) (hl : l.length ≤ 1000000) (hr : r.length ≤ 1000000) :
    Calls Try.prog 31 #[v, u] w fun e w' => e = .returned (.bool (decide (l = r))) ∧ Below w.heap.size w w' := by
  have HV := Lib.hid hv
  have HU := Lib.hid hu
  obtain ⟨A, c, rfl, -⟩ := hv
  obtain ⟨A2, c2, rfl, -⟩ := hu
  by_cases hlen : l.length = r.length
  · have hlenI : (l.length : Int) = r.length := by omega
    go_enter Try.func31, Try.ntmps31
    go_wp2_with fail
    have HLEN := Lib.hid hlen
    clear hlen hlenI
    go_loopw [5] (fun i wr => ∃ k : Nat, k ≤ l.length ∧ i = .int .i64 k ∧ Hid (l.take k = r.take k) ∧ Hid (Below w.heap.size w wr)) (fun i _ => l.length - (intOf i).toNat)
    case atStart => exact ⟨0, Nat.zero_le _, rfl, rfl, Below.refl _ _⟩
    case round =>
      obtain ⟨k, hk, rfl, HT, HB⟩ := hrel
      by_cases hlt : k < l.length
      · obtain ⟨A', c', hv', hat⟩ := HV.out.below HB.out (Nat.le_refl _)
        cases hv'
        obtain ⟨b, ob, hA, hat2⟩ := hat (by omega)
        subst hA
        have c0 := hat2 k hlt
        obtain ⟨A'', c'', hv', hat⟩ := HU.out.below HB.out (Nat.le_refl _)
        cases hv'
        obtain ⟨b2, ob2, hA, hat3⟩ := hat (by have := HLEN.out; omega)
        subst hA
        have hlr : k < r.length := by have := HLEN.out; omega
        have d0 := hat3 k hlr
        have hblt := World.block_lt_of_cell? _ _ c0
        have hblt2 := World.block_lt_of_cell? _ _ d0
        have hw1 : IntKind.i64.wrap ((k : Int) + 1) = (k : Int) + 1 := IntWalk.i64_in _ (by omega)
        have hltI : (k : Int) < l.length := by omega
        have hltI2 : (k : Int) < r.length := by omega
        have hst : l[k] = r[k] → l.take (k + 1) = r.take (k + 1) := fun h => by
          rw [List.take_succ_eq_append_getElem hlt, List.take_succ_eq_append_getElem (by omega), HT.out, h]
        have hno : l[k] ≠ r[k] → l ≠ r := fun h e => h (by subst e; rfl)
        have HST := Lib.hid hst
        have HNO := Lib.hid hno
        clear hst hno hat hat2 hat3
        generalize l[k] = N at *
        generalize r[k] = N2 at *
        by_cases he : N = N2
        · subst he
          have HS2 := Lib.hid (HST.out rfl)
          clear HST HNO
          go_wp2_with fail
          go_quiet (fail)
          go_wp2_with fail
          go_roundw
          case rel => exact ⟨k + 1, by omega, by go_num, HS2, below_drewN HB.out _⟩
          case measure => simp [intOf]; omega
        · have HN2 := Lib.hid (HNO.out he)
          have heb : (N == N2) = false := by simpa using he
          clear HST HNO
          go_wp2_with fail
          go_quiet (fail)
          go_wp2_with fail
          go_ret
          exact ⟨by simp [HN2.out], below_drewN HB.out _⟩
      · obtain rfl : k = l.length := by omega
        go_wp2_with fail
        go_ret
        have h := HT.out
        rw [List.take_length, HLEN.out, List.take_length] at h
        exact ⟨by simp [h], HB.out⟩
  · have hlenI : ¬ (l.length : Int) = r.length := by omega
    have hne : l ≠ r := fun e => hlen (by rw [e])
    go_enter Try.func31, Try.ntmps31
    go_wp2_with fail
    go_ret
    exact ⟨by simp [hne], Below.refl _ _⟩
end Go.Proofs.Ytojfimbanaijdaa
namespace Go.Proofs.Ytojfimbanaijdaa
open Go.RowKit Go.Shelf

def parCell (s : Hr.Nm) : List Value := [nm s, .slice none 0 0, .slice none 0 0, .slice none 0 0, .slice none 0 0, .slice none 0 0]
def parCells : List Hr.Nm → List Value
  | [] => []
  | s :: r => parCell s ++ parCells r
theorem parCells_append (a b : List Hr.Nm) : parCells (a ++ b) = parCells a ++ parCells b := by
  induction a with
  | nil => rfl
  | cons x r ih => simp [parCells, ih]
theorem parCells_get : ∀ (l : List Hr.Nm) (i j : Nat) (h : i < l.length), j < 6 → (parCells l)[i * 6 + j]? = (parCell l[i])[j]?
  | x :: r, 0, j, _, hj => by
    rw [Nat.zero_mul, Nat.zero_add]
    show (parCell x ++ parCells r)[j]? = _
    rw [List.getElem?_append_left (by simpa [parCell] using hj)]
    rfl
  | x :: r, i + 1, j, h, hj => by
    have ih := parCells_get r i j (by simpa using h) hj
    show (parCell x ++ parCells r)[(i + 1) * 6 + j]? = _
    rw [List.getElem?_append_right (by simp [parCell]; omega), show (i + 1) * 6 + j - (parCell x).length = i * 6 + j from by simp [parCell]; omega, ih]
    rfl
theorem UpsAt.of_own {w : World} {B : Nat} {v : Value} {l : List Hr.Nm} (hf : FineN l) (h : w.ownsRow B 52 6 v l.length (parCells l)) : UpsAt w v l := by
  rcases h.2 with ⟨rfl, h0⟩ | ⟨g, cap, cur, rfl, hb, hh, hr⟩
  · exact ⟨none, 0, by rw [h0], fun h => by omega⟩
  · have hc := h.cells (g := g) rfl
    refine ⟨some ⟨g, 0, none⟩, cap, rfl, fun _ => ⟨g, 0, rfl, fun i hi => ?_⟩⟩
    have e : ∀ k, (⟨g, 0, none⟩ : Addr).add k = ⟨g, 0 + k, none⟩ := fun k => by unfold Addr.add; split <;> simp_all
    have key : ∀ j u, j < 6 → (parCell l[i])[j]? = some u → w.cell? ⟨g, 0 + i * 6 + j, none⟩ = some u := fun j u hj hu => by
      have h1 := hc (i * 6 + j) u ((parCells_get l i j hi hj).trans hu)
      rw [e] at h1
      rw [show 0 + i * 6 + j = 0 + (i * 6 + j) from by omega]
      exact h1
    exact ⟨hf _ (List.getElem_mem hi), key 0 _ (by omega) rfl, none, 0, 0, none, 0, 0, none, 0, 0, none, 0, 0, none, 0, 0, key 1 _ (by omega) rfl, key 2 _ (by omega) rfl, key 3 _ (by omega) rfl, key 4 _ (by omega) rfl, key 5 _ (by omega) rfl⟩
theorem parInfo : (Try.prog.info? 52).map (fun i => (i.zero, i.size, i.bytes)) = some (some (.agg #[.string ⟨#[]⟩, .slice none 0 0, .slice none 0 0, .slice none 0 0, .slice none 0 0, .slice none 0 0]), 6, 136) := by kernel_rfl

set_option maxRecDepth 100000 in
set_option maxHeartbeats 2000000 in
theorem class_any (N : Hr.Nm) (v : Value) (l : List Hr.Nm) (w : World) (hv : NmsAt w v l) (hl : l.length ≤ 100000) (hf : FineN l) :
    Calls Try.prog 30 #[nm N, v] w fun e w' => ∃ A c, e = .returned (.agg #[nm N, .bool false, .slice none 0 0, .slice A l.length c, .slice none 0 0, .slice none 0 0, .slice none 0 0]) ∧ UpsAt w' (.slice A l.length c) l ∧ Below w.heap.size w w' := by
  obtain ⟨i0, hi, hz0, hz1, hz2⟩ := info_parts parInfo
  have HV := Lib.hid hv
  have HFN := Lib.hid hf
  obtain ⟨A, c, rfl, -⟩ := hv
  have h1 : Has ((w.alloc (.cells #[.string ⟨#[]⟩, .bool false, .slice none 0 0, .slice none 0 0, .slice none 0 0, .slice none 0 0, .slice none 0 0] 48)).alloc (.cells #[nm N, .bool false, .slice none 0 0, .slice none 0 0, .slice none 0 0, .slice none 0 0, .slice none 0 0] 48)) w.heap.size 48 #[.string ⟨#[]⟩, .bool false, .slice none 0 0, .slice none 0 0, .slice none 0 0, .slice none 0 0, .slice none 0 0] := (Has.new _ _ _).alloc _
  have h2 := Has.new (w.alloc (.cells #[.string ⟨#[]⟩, .bool false, .slice none 0 0, .slice none 0 0, .slice none 0 0, .slice none 0 0, .slice none 0 0] 48)) 48 #[nm N, .bool false, .slice none 0 0, .slice none 0 0, .slice none 0 0, .slice none 0 0, .slice none 0 0]
  rw [World.size_alloc] at h2
  have h3 : Below w.heap.size w ((w.alloc (.cells #[.string ⟨#[]⟩, .bool false, .slice none 0 0, .slice none 0 0, .slice none 0 0, .slice none 0 0, .slice none 0 0] 48)).alloc (.cells #[nm N, .bool false, .slice none 0 0, .slice none 0 0, .slice none 0 0, .slice none 0 0, .slice none 0 0] 48)) := ((Below.refl _ _).alloc (Nat.le_refl _) _).alloc (by simp) _
  have H1 := Lib.hid h1
  have H2 := Lib.hid h2
  have H3 := Lib.hid h3
  clear h1 h2 h3 hf
  go_enter Try.func30, Try.ntmps30
  go_wp2_with fail
  generalize (w.alloc (.cells #[.string ⟨#[]⟩, .bool false, .slice none 0 0, .slice none 0 0, .slice none 0 0, .slice none 0 0, .slice none 0 0] 48)).alloc (.cells #[nm N, .bool false, .slice none 0 0, .slice none 0 0, .slice none 0 0, .slice none 0 0, .slice none 0 0] 48) = wE at *
  generalize hg : w.heap.size = g at *
  go_loopw [6] (fun i wr => ∃ (k : Nat) (x : Value), k ≤ l.length ∧ i = .int .i64 k ∧ Hid (Has wr g 48 #[.string ⟨#[]⟩, .bool false, .slice none 0 0, .slice none 0 0, .slice none 0 0, .slice none 0 0, .slice none 0 0]) ∧ Hid (Has wr (g + 1) 48 #[nm N, .bool false, .slice none 0 0, x, .slice none 0 0, .slice none 0 0, .slice none 0 0]) ∧ Hid (wr.ownsRow (g + 2) 52 6 x (l.take k).length (parCells (l.take k))) ∧ Hid (Below g w wr)) (fun i _ => l.length - (intOf i).toNat)
  case atStart => exact ⟨0, _, Nat.zero_le _, rfl, H1, H2, World.ownsRow_nil _ _ _ _, H3⟩
  case round =>
    obtain ⟨k, x, hk, rfl, I1, I2, I3, I4⟩ := hrel
    have b3 := I2.out.cell 3
    have blt := I2.out.lt
    simp only [List.getElem?_toArray, List.getElem?_cons_zero, List.getElem?_cons_succ] at b3
    by_cases hlt : k < l.length
    · obtain ⟨A', c', hv', hat⟩ := HV.out.below I4.out (by omega)
      cases hv'
      obtain ⟨b, ob, hA, hat2⟩ := hat (by omega)
      subst hA
      have c0 := hat2 k hlt
      have hblt := World.block_lt_of_cell? _ _ c0
      have hw1 : IntKind.i64.wrap ((k : Int) + 1) = (k : Int) + 1 := IntWalk.i64_in _ (by omega)
      have hltI : (k : Int) < l.length := by omega
      have hk0 : (0 : Int) ≤ k := by omega
      have hst : l.take (k + 1) = l.take k ++ [l[k]] := List.take_succ_eq_append_getElem hlt
      have hlk : (l.take k).length = k := by rw [List.length_take]; omega
      have HST := Lib.hid hst
      have HLK := Lib.hid hlk
      clear hst hlk hat hat2
      generalize l[k] = p at *
      generalize l.take k = pre at *
      have hpl : pre.length ≤ 100000 := by rw [HLK.out]; omega
      obtain ⟨xA, xc, rfl⟩ := own_len I3.out
      have hnews : ∀ j u, (parCell p)[j]? = some u → (wr.alloc (.cells #[nm p, .slice none 0 0, .slice none 0 0, .slice none 0 0, .slice none 0 0, .slice none 0 0] 52)).drew.cell? ((⟨wr.heap.size, 0, none⟩ : Addr).add j) = some u := fun j u h => World.news_of_block (w := (wr.alloc (.cells #[nm p, .slice none 0 0, .slice none 0 0, .slice none 0 0, .slice none 0 0, .slice none 0 0] 52)).drew) (B := wr.heap.size) (cs := #[nm p, .slice none 0 0, .slice none 0 0, .slice none 0 0, .slice none 0 0, .slice none 0 0]) (t := 52) (fr := (0, 0)) (Has.new wr _ _) j u h
      have N1 := Lib.hid hnews
      have N2 : Hid ((wr.alloc (.cells #[nm p, .slice none 0 0, .slice none 0 0, .slice none 0 0, .slice none 0 0, .slice none 0 0] 52)).drew.ownsRow (g + 2) 52 6 (.slice xA pre.length xc) pre.length (parCells pre)) := own_drew (own_alloc I3.out _)
      have N3 : Hid (Has (wr.alloc (.cells #[nm p, .slice none 0 0, .slice none 0 0, .slice none 0 0, .slice none 0 0, .slice none 0 0] 52)).drew (g + 1) 48 #[nm N, .bool false, .slice none 0 0, .slice xA pre.length xc, .slice none 0 0, .slice none 0 0, .slice none 0 0]) := I2.out.alloc _
      have N4 : Hid (Has (wr.alloc (.cells #[nm p, .slice none 0 0, .slice none 0 0, .slice none 0 0, .slice none 0 0, .slice none 0 0] 52)).drew g 48 #[.string ⟨#[]⟩, .bool false, .slice none 0 0, .slice none 0 0, .slice none 0 0, .slice none 0 0, .slice none 0 0]) := I1.out.alloc _
      have N5 : Hid (Below g w (wr.alloc (.cells #[nm p, .slice none 0 0, .slice none 0 0, .slice none 0 0, .slice none 0 0, .slice none 0 0] 52)).drew) := (I4.out.alloc (by omega) _).drew
      have N6 : Hid ((wr.alloc (.cells #[nm p, .slice none 0 0, .slice none 0 0, .slice none 0 0, .slice none 0 0, .slice none 0 0] 52)).drew.heap.size = wr.heap.size + 1) := by show _ = _; simp
      have N7 : Hid (g + 2 ≤ (wr.alloc (.cells #[nm p, .slice none 0 0, .slice none 0 0, .slice none 0 0, .slice none 0 0, .slice none 0 0] 52)).drew.heap.size) := by rw [N6.out]; show _ ≤ _; omega
      have N8 : Hid (pre.length + 1 ≤ maxLen) := by show _ ≤ _; unfold maxLen; omega
      have N9 : Hid ((pre.length + 1) * 136 ≤ 140737488355328) := by show _ ≤ _; omega
      clear hnews
      go_wp2_with fail
      go_region_law ((refine step_append_lies _ rfl (.tmp 16) (.tmp 22) 44 rfl (g + 2) 52 i0 (.agg #[.string ⟨#[]⟩, .slice none 0 0, .slice none 0 0, .slice none 0 0, .slice none 0 0, .slice none 0 0]) 6 136 Try.underlying44 hi hz0 hz1 hz2 rfl ?_ (.slice xA pre.length xc) pre.length (parCells pre) ?_ ?_ ⟨wr.heap.size, 0, none⟩ 1 1 (parCell p) ?_ rfl ?_ ?_ ?_ N8.out N9.out ?_ (wr.heap.size + 1) ?_ ?_; decide; simp [Act.eval]; exact N2.out; simp [Act.eval]; exact N1.out; simp [parCell, Value.oneCell']; decide; exact N7.out; exact N6.out; intro gg cap w1 hown1 hg1 hat1 hlt1; have hb3 := Has.grown N3.out hg1 (own_apart N2.out N3.out (by decide)); have k1 := hb3.cell 3; have q1 := hb3.free 3))
      all_goals
        go_wp2_with fail
        go_roundw
        case rel =>
          refine ⟨k + 1, .slice (some ⟨gg, 0, none⟩) (pre.length + 1) cap, by omega, by go_num, ?_, ?_, ?_, ?_⟩
          · exact (N4.out.grown hg1 (own_apart N2.out N4.out (by decide))).other (by show g ≠ g + 1; omega) _
          · exact hb3.set 3 _
          · show World.ownsRow _ _ _ _ _ _ _
            rw [HST.out, List.length_append, parCells_append]
            exact hown1.kept (grown_set w1 (g + 1) 3 _) (.inr (own_apart hown1 hb3 (by decide)).symm)
          · exact (Below.grown N5.out hg1 (by have := N7.out; omega) (fun q hq => by have := own_ge N2.out hq; omega)).setCell (by show g ≤ g + 1; omega) _
        case measure => simp [intOf]; omega
    · obtain rfl : k = l.length := by omega
      rw [List.take_length] at I3
      obtain ⟨xA, xc, rfl⟩ := own_len I3.out
      have e0 := I2.out.cell 0
      have e1 := I2.out.cell 1
      have e2 := I2.out.cell 2
      have e4 := I2.out.cell 4
      have e5 := I2.out.cell 5
      have e6 := I2.out.cell 6
      have z0 := I1.out.cell 0
      have z1 := I1.out.cell 1
      have z2 := I1.out.cell 2
      have z3 := I1.out.cell 3
      have z4 := I1.out.cell 4
      have z5 := I1.out.cell 5
      have z6 := I1.out.cell 6
      have f0 := I1.out.free 0
      have f1 := I1.out.free 1
      have f2 := I1.out.free 2
      have f3 := I1.out.free 3
      have f4 := I1.out.free 4
      have f5 := I1.out.free 5
      have f6 := I1.out.free 6
      have zlt := I1.out.lt
      simp only [List.getElem?_toArray, List.getElem?_cons_zero, List.getElem?_cons_succ] at e0 e1 e2 e4 e5 e6 z0 z1 z2 z3 z4 z5 z6
      go_wp2_with fail
      have step : ∀ (W : World) (i : Nat) (u : Value), Below g w W → W.ownsRow (g + 2) 52 6 (.slice xA l.length xc) l.length (parCells l) → Below g w (W.setCell ⟨g, i, none⟩ u) ∧ (W.setCell ⟨g, i, none⟩ u).ownsRow (g + 2) 52 6 (.slice xA l.length xc) l.length (parCells l) := fun W i u hb ho =>
        ⟨hb.setCell (by exact Nat.le_refl g) _, ho.kept (grown_set W g i u) (by
          cases hx : (Value.slice xA l.length xc).ownBlock with
          | none => exact .inl rfl
          | some q =>
            right
            intro e
            cases e
            have := own_ge ho hx
            omega)⟩
      obtain ⟨s0b, s0o⟩ := step _ 0 (.string ⟨N.toArray⟩) I4.out I3.out
      obtain ⟨s1b, s1o⟩ := step _ 1 (.bool false) s0b s0o
      obtain ⟨s2b, s2o⟩ := step _ 2 (.slice none 0 0) s1b s1o
      obtain ⟨s3b, s3o⟩ := step _ 3 (.slice xA l.length xc) s2b s2o
      obtain ⟨s4b, s4o⟩ := step _ 4 (.slice none 0 0) s3b s3o
      obtain ⟨s5b, s5o⟩ := step _ 5 (.slice none 0 0) s4b s4o
      obtain ⟨s6b, s6o⟩ := step _ 6 (.slice none 0 0) s5b s5o
      have hr := ((((((I1.out.set 0 (.string ⟨N.toArray⟩)).set 1 (.bool false)).set 2 (.slice none 0 0)).set 3 (.slice xA l.length xc)).set 4 (.slice none 0 0)).set 5 (.slice none 0 0)).set 6 (.slice none 0 0)
      have r0 := hr.cell 0
      have r1 := hr.cell 1
      have r2 := hr.cell 2
      have r3 := hr.cell 3
      have r4 := hr.cell 4
      have r5 := hr.cell 5
      have r6 := hr.cell 6
      simp only [List.setIfInBounds_toArray, List.set_cons_zero, List.set_cons_succ, List.getElem?_toArray, List.getElem?_cons_zero, List.getElem?_cons_succ] at r0 r1 r2 r3 r4 r5 r6
      refine bodyPost_ret (v := .agg #[nm N, .bool false, .slice none 0 0, .slice xA l.length xc, .slice none 0 0, .slice none 0 0, .slice none 0 0]) ?_ rfl ⟨xA, xc, rfl, UpsAt.of_own HFN.out s6o, ?_⟩
      · simp [results, Try.results30, go_sem, r0, r1, r2, r3, r4, r5, r6]
      · first | exact s6b | (rw [hg]; exact s6b)
end Go.Proofs.Ytojfimbanaijdaa
