/-
  What visited and above return, in package heir.
-/
import Derived.Test.YtojfimbanaijdaaHVisit
namespace Go.Proofs.Ytojfimbanaijdaa
open Go.RowKit Go.Shelf

/-- A slice value reads as these names. -/
def NmsAt (w : World) (v : Value) (l : List Hr.Nm) : Prop :=
  ∃ A c, v = .slice A l.length c ∧ (0 < l.length → ∃ b o, A = some ⟨b, o, none⟩ ∧ ∀ i (h : i < l.length), w.cell? ⟨b, o + i, none⟩ = some (nm l[i]))
theorem NmsAt.keep {w w' : World} {v : Value} {l : List Hr.Nm} (h : NmsAt w v l) (hk : Keeps w w') : NmsAt w' v l := by
  obtain ⟨A, c, hv, h⟩ := h
  refine ⟨A, c, hv, fun h0 => ?_⟩
  obtain ⟨b, o, hA, hc⟩ := h h0
  exact ⟨b, o, hA, fun i hi => hk _ _ (hc i hi)⟩
theorem NmsAt.below {w w' : World} {v : Value} {l : List Hr.Nm} (h : NmsAt w v l) {B : Nat} (hb : Below B w w') (hB : w.heap.size ≤ B) : NmsAt w' v l := h.keep (kept_below hb hB)
theorem NmsAt.of_own {w : World} {B : Nat} {v : Value} {l : List Hr.Nm} (h : w.ownsRow B 9 1 v l.length (nmRow l)) : NmsAt w v l := by
  rcases h.2 with ⟨rfl, h0⟩ | ⟨g, cap, cur, rfl, hb, hh, hr⟩
  · exact ⟨none, 0, by rw [h0], fun h => by omega⟩
  · have hc := h.cells (g := g) rfl
    refine ⟨some ⟨g, 0, none⟩, cap, rfl, fun _ => ⟨g, 0, rfl, fun i hi => ?_⟩⟩
    have e : ∀ k, (⟨g, 0, none⟩ : Addr).add k = ⟨g, 0 + k, none⟩ := fun k => by unfold Addr.add; split <;> simp_all
    have h1 := hc i (nm l[i]) (by simp [nmRow, hi])
    rw [e] at h1
    exact h1
/-- Names that Go can bear. -/
def FineN (l : List Hr.Nm) : Prop := ∀ s ∈ l, s.length ≤ 140737488355328

theorem pale_none (U : List Hr.Nm) : Hr.pale U (fun _ => none) = U.length := by
  unfold Hr.pale
  congr 1
  rw [List.filter_eq_self]
  simp

set_option maxRecDepth 100000 in
set_option maxHeartbeats 2000000 in
theorem visited_any (A : Option Addr) (cp m k : Nat) (L : List (Hr.Nm × Hr.Nm)) (v : Value) (l : List Hr.Nm) (w : World) (hl : LinksAt w (.slice A L.length cp) L) (hm : MI w m k (fun s => (Hr.firstLink L s).map Int.ofNat)) (hv : NmsAt w v l) (hf : FineN l) (hlen : l.length + L.length ≤ 1000000) :
    Calls Try.prog 50 #[.agg #[.slice A L.length cp, .map (some m)], v] w fun e w' => ∃ wb mc B o M, e = .returned (.pointer (some ⟨wb, 0, none⟩)) ∧ WkAt wb mc B A L.length cp m (l ++ L.map (·.2)) o (Hr.visited L l) M w' ∧ w.heap.size ≤ B ∧ Below w.heap.size w w' := by
  have hfine := hl.1
  have hV : VC w (w.heap.size + 1 + 1) (w.heap.size + 1) (w.heap.size + 1 + 1 + 1) A cp m k L (l ++ L.map (·.2)) (l.length + L.length) :=
    ⟨hl, hm, by omega, by omega, by omega, by omega, fun x hx => List.mem_append.2 (.inr (List.mem_map.2 ⟨x, hx, rfl⟩)), fun s hs => by
      rcases List.mem_append.1 hs with h | h
      · exact hf s h
      · obtain ⟨x, hx, rfl⟩ := List.mem_map.1 h
        exact (hfine x hx).2, by omega, by omega⟩
  have VA := Lib.hid (visit_any hV)
  have HV := Lib.hid hv
  have hM0 : MI ((w.alloc (.cells #[.slice A L.length cp, .map (some m)] 73)).alloc (.map #[] 0)) (w.heap.size + 1) 0 (fun _ => none) := by
    have h := MapI.made (P := Try.prog) (k := 9) (e := 3) (w.alloc (.cells #[.slice A L.length cp, .map (some m)] 73))
    rwa [World.size_alloc] at h
  have hW0 := Has.new ((w.alloc (.cells #[.slice A L.length cp, .map (some m)] 73)).alloc (.map #[] 0)) 95 #[.slice A L.length cp, .map (some m), .map (some (w.heap.size + 1)), .slice none 0 0, .bool false]
  rw [World.size_alloc, World.size_alloc] at hW0
  have hK0 : WkAt (w.heap.size + 1 + 1) (w.heap.size + 1) (w.heap.size + 1 + 1 + 1) A L.length cp m (l ++ L.map (·.2)) (.slice none 0 0) ⟨fun _ => none, [], false⟩ (2 * (l.length + L.length)) (((w.alloc (.cells #[.slice A L.length cp, .map (some m)] 73)).alloc (.map #[] 0)).alloc (.cells #[.slice A L.length cp, .map (some m), .map (some (w.heap.size + 1)), .slice none 0 0, .bool false] 95)) :=
    ⟨hW0, ⟨0, hM0.alloc _, by rw [pale_none, List.length_append, List.length_map]; omega⟩, World.ownsRow_nil _ _ _ _⟩
  have hB0 : Below w.heap.size w (((w.alloc (.cells #[.slice A L.length cp, .map (some m)] 73)).alloc (.map #[] 0)).alloc (.cells #[.slice A L.length cp, .map (some m), .map (some (w.heap.size + 1)), .slice none 0 0, .bool false] 95)) :=
    (((Below.refl _ _).alloc (Nat.le_refl _) _).alloc (by simp) _).alloc (by simp; omega) _
  have HK0 := Lib.hid hK0
  have HB0 := Lib.hid hB0
  obtain ⟨A1, c1, rfl, -⟩ := hv
  clear hK0 hB0 hW0 hM0 hV
  have hmm := @run_makeMap Try.prog
  go_enter Try.func50, Try.ntmps50
  go_wp2_with fail
  generalize ((w.alloc (.cells #[.slice A L.length cp, .map (some m)] 73)).alloc (.map #[] 0)).alloc (.cells #[.slice A L.length cp, .map (some m), .map (some (w.heap.size + 1)), .slice none 0 0, .bool false] 95) = wE at *
  generalize hgw : w.heap.size = g at *
  go_loopw [14] (fun i wr => ∃ (j : Nat) (o : Value), j ≤ l.length ∧ i = .int .i64 j ∧ Hid (WkAt (g + 1 + 1) (g + 1) (g + 1 + 1 + 1) A L.length cp m (l ++ L.map (·.2)) o ((l.take j).foldl (Hr.visit L (L.length + 1)) ⟨fun _ => none, [], false⟩) (2 * (l.length + L.length)) wr) ∧ Hid (Below g w wr)) (fun i _ => l.length - (intOf i).toNat)
  case atStart => exact ⟨0, _, Nat.zero_le _, rfl, by rw [List.take_zero]; exact HK0, HB0⟩
  case round =>
    obtain ⟨j, o, hj, rfl, HK, HB⟩ := hrel
    by_cases hlt : j < l.length
    · obtain ⟨A', c', hv', hat⟩ := HV.out.below HB.out (by omega)
      cases hv'
      obtain ⟨b, ob, hA, hat2⟩ := hat (by omega)
      subst hA
      have c0 := hat2 j hlt
      have hblt := World.block_lt_of_cell? _ _ c0
      have hw1 : IntKind.i64.wrap ((j : Int) + 1) = (j : Int) + 1 := IntWalk.i64_in _ (by omega)
      have hltI : (j : Int) < l.length := by omega
      have hmem : l[j] ∈ l := List.getElem_mem hlt
      have hlater := Hr.foldl_later (fun w c => Hr.visit_later L (L.length + 1) w c) (l.take j) ⟨fun _ => none, [], false⟩
      have hfr : Hr.fresh L ((l.take j).foldl (Hr.visit L (L.length + 1)) ⟨fun _ => none, [], false⟩).col < L.length + 1 := Nat.lt_succ_of_le (Hr.fresh_le _ _)
      have hwt := Hr.foldl_weight (U := l ++ L.map (·.2)) (f := Hr.visit L (L.length + 1)) (fun w c hc => Hr.visit_weight L _ (fun x hx => List.mem_append.2 (.inr (List.mem_map.2 ⟨x, hx, rfl⟩))) (L.length + 1) w c hc) (l.take j) ⟨fun _ => none, [], false⟩ (fun s hs => List.mem_append.2 (.inl (List.mem_of_mem_take hs)))
      have hwt2 : Hr.weight (l ++ L.map (·.2)) ⟨fun _ => none, [], false⟩ = l.length + L.length := by
        unfold Hr.weight
        dsimp only
        rw [pale_none, List.length_append, List.length_map]; simp
      rw [hwt2] at hwt
      have hlt3 := HK.out.hw.lt
      have hih := VA.out (L.length + 1) _ o (2 * (l.length + L.length)) l[j] wr HB.out HK.out (List.mem_append.2 (.inl hmem)) hfr hwt (by omega) (by omega)
      have hfo : (l.take (j + 1)).foldl (Hr.visit L (L.length + 1)) ⟨fun _ => none, [], false⟩ = Hr.visit L (L.length + 1) ((l.take j).foldl (Hr.visit L (L.length + 1)) ⟨fun _ => none, [], false⟩) l[j] := by
        rw [List.take_succ_eq_append_getElem hlt, List.foldl_append]; rfl
      have IH := Lib.hid hih
      have HFO := Lib.hid hfo
      clear hih hfo hwt hwt2 hfr hlater hat hat2
      generalize l[j] = N at *
      go_wp2_with (go_at_call 83; refine IH.out.mono ?_; rintro e w4 ⟨⟨v4, rfl⟩, o4, hw4, hf4⟩)
      have R1 := Lib.hid hw4
      have R2 := Lib.hid (HB.out.trans hf4.below)
      clear hw4 hf4
      go_wp2_with fail
      go_roundw
      case rel => exact ⟨j + 1, o4, by omega, by go_num, by rw [HFO.out]; exact R1, R2⟩
      case measure => simp [intOf]; omega
    · obtain rfl : j = l.length := by omega
      go_wp2_with fail
      go_ret
      refine ⟨g + 1 + 1, g + 1, g + 1 + 1 + 1, o, 2 * (l.length + L.length), rfl, ?_, ?_, ?_⟩
      · have h := HK.out
        rw [List.take_length] at h
        exact h
      · rw [hgw]; omega
      · rw [hgw]; exact HB.out

set_option maxRecDepth 100000 in
theorem above_any (A : Option Addr) (cp m k : Nat) (L : List (Hr.Nm × Hr.Nm)) (c : Hr.Nm) (w : World) (hl : LinksAt w (.slice A L.length cp) L) (hm : MI w m k (fun s => (Hr.firstLink L s).map Int.ofNat)) (hc : c.length ≤ 140737488355328) (hlen : L.length ≤ 900000) :
    Calls Try.prog 57 #[.agg #[.slice A L.length cp, .map (some m)], nm c] w fun e w' => ∃ o, e = .returned o ∧ w'.ownsRow w.heap.size 9 1 o (Hr.above L c).length (nmRow (Hr.above L c)) ∧ Below w.heap.size w w' := by
  have hB0 : Below w.heap.size w ((w.alloc (.cells #[.slice A L.length cp, .map (some m)] 73)).alloc (.cells #[nm c] 9)) := ((Below.refl _ _).alloc (Nat.le_refl _) _).alloc (by simp) _
  have hn0 : NmsAt ((w.alloc (.cells #[.slice A L.length cp, .map (some m)] 73)).alloc (.cells #[nm c] 9)) (.slice (some ⟨w.heap.size + 1, 0, none⟩) 1 1) [c] := by
    refine ⟨_, 1, rfl, fun _ => ⟨w.heap.size + 1, 0, rfl, fun i hi => ?_⟩⟩
    have h := Has.new (w.alloc (.cells #[.slice A L.length cp, .map (some m)] 73)) 9 #[nm c]
    rw [World.size_alloc] at h
    obtain rfl : i = 0 := by simpa using hi
    exact h.cell 0
  have hV := visited_any A cp m k L _ [c] _ (hl.below hB0 (Nat.le_refl _)) (hm.below hB0 hm.lt) hn0 (fun s hs => by rw [List.mem_singleton.1 hs]; exact hc) (by simp; omega)
  have HV := Lib.hid hV
  have HB0 := Lib.hid hB0
  clear hV hB0 hn0
  go_enter Try.func57, Try.ntmps57
  go_wp2_with (first
    | (go_at_call 50; refine HV.out.mono ?_
       rintro e w4 ⟨wb, mc, B, o, M, rfl, hw4, hB4, hb4⟩
       have z3 := hw4.hw.cell 3
       have wlt := hw4.hw.lt
       have HW4 := Lib.hid hw4
       have HB4 := Lib.hid hB4
       have HBB := Lib.hid hb4
       clear hw4 hB4 hb4
       simp only [List.getElem?_toArray, List.getElem?_cons_zero, List.getElem?_cons_succ] at z3))
  go_ret
  have hsz : w.heap.size ≤ ((w.alloc (.cells #[.slice A L.length cp, .map (some m)] 73)).alloc (.cells #[nm c] 9)).heap.size := by simp; omega
  exact ⟨o, rfl, own_base HW4.out.ho (Nat.le_trans hsz HB4.out), HB0.out.trans (HBB.out.mono hsz)⟩
end Go.Proofs.Ytojfimbanaijdaa
