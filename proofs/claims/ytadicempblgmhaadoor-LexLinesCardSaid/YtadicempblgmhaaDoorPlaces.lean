/-
  The places of a text, in package lex: the iterator, Offset.
-/
import Derived.Test.YtadicempblgmhaaDoorRange
namespace Go.Proofs.YtadicempblgmhaaDoor
open Go.RowKit Go.Shelf

namespace Lx
def pstep (p : Nat × Nat) (c : UInt8) : Nat × Nat := if c = 10 then (p.1 + 1, 1) else (p.1, p.2 + 1)
/-- The place of an offset. -/
def place (l : List UInt8) (k : Nat) : Nat × Nat := (l.take k).foldl pstep (1, 1)
theorem place_zero (l : List UInt8) : place l 0 = (1, 1) := by simp [place]
theorem place_succ (l : List UInt8) (k : Nat) (h : k < l.length) : place l (k + 1) = pstep (place l k) l[k] := by
  unfold place
  rw [List.take_succ_eq_append_getElem h, List.foldl_append]
  rfl
theorem fold_le : ∀ (l : List UInt8) (p : Nat × Nat), 1 ≤ p.2 → (l.foldl pstep p).1 ≤ p.1 + l.length ∧ (l.foldl pstep p).2 ≤ p.2 + l.length
  | [], p, _ => ⟨by simp, by simp⟩
  | c :: r, p, h => by
    have hp : (pstep p c).1 ≤ p.1 + 1 ∧ (pstep p c).2 ≤ p.2 + 1 ∧ 1 ≤ (pstep p c).2 := by
      unfold pstep
      split <;> refine ⟨?_, ?_, ?_⟩ <;> simp <;> omega
    have ih := fold_le r (pstep p c) hp.2.2
    simp only [List.foldl_cons, List.length_cons]
    omega
theorem place_le (l : List UInt8) (k : Nat) : (place l k).1 ≤ l.length + 1 ∧ (place l k).2 ≤ l.length + 1 := by
  have := fold_le (l.take k) (1, 1) (Nat.le_refl _)
  have h2 : (l.take k).length ≤ l.length := by rw [List.length_take]; exact Nat.min_le_right _ _
  unfold place
  omega
/-- Where a place is: the first offset that has it. -/
def offset (l : List UInt8) (p : Int × Int) : Int × Int :=
  match (List.range (l.length + 1)).find? (fun k => (((place l k).1 : Int) == p.1) && (((place l k).2 : Int) == p.2)) with
  | some k => (k, 0)
  | none => (0, 1)
end Lx

theorem box_stays (w : World) (P bx i : Nat) (u : Value) (h : bx ≠ P) : (w.setCell ⟨P, i, none⟩ u).cell? ⟨bx, 0, none⟩ = w.cell? ⟨bx, 0, none⟩ :=
  World.cell?_setCell_other _ _ _ _ (by intro e; simp only [Addr.mk.injEq] at e; omega)
/-- An offset and its place. -/
abbrev encPlace (s : ByteArray) (k : Nat) : Array Value := #[.int .i64 k, .agg #[.int .i64 (Lx.place s.data.toList k).1, .int .i64 (Lx.place s.data.toList k).2]]
def KeptP (bx : Nat) (W W' : World) : Prop := (∀ v, W.cell? ⟨bx, 0, none⟩ = some v → W'.cell? ⟨bx, 0, none⟩ = some v) ∧ ∀ b cs, Has W b 37 cs → Has W' b 37 cs
theorem KeptP.trans {bx : Nat} {X Y Z : World} (h : KeptP bx X Y) (k : KeptP bx Y Z) : KeptP bx X Z := ⟨fun v hv => k.1 v (h.1 v hv), fun b cs hE => k.2 b cs (h.2 b cs hE)⟩

attribute [local go_sem] Oper.semAt_some

set_option maxRecDepth 100000 in
set_option maxHeartbeats 1000000 in
theorem places_stops (n : Nat) (hn : 1 ≤ n) (bx : Nat) (s : ByteArray) (w : World) (hs : s.size ≤ 900000) (hbx : w.cell? ⟨bx, 0, none⟩ = some (.string s)) :
    SeqAbove Fence.wide n Tryd.prog 108 #[.pointer (some ⟨bx, 0, none⟩)] (encPlace s) (KeptP bx) (fun xs => xs = List.range (s.size + 1)) (fun pre => pre <+: List.range (s.size + 1)) (s.size + 1) w := fun l J Jx W hW hJ hJx hY h0 => by
  have hb0 : W.cell? ⟨bx, 0, none⟩ = some (.string s) := (hW.cell (p := ⟨bx, 0, none⟩) (World.block_lt_of_cell? w _ hbx)).trans hbx
  have hbW : bx < W.heap.size := World.block_lt_of_cell? W _ hb0
  refine callsIn_of_wp Tryd.func108 rfl trivial ?_ rfl
  simp only [Tryd.ntmps108, List.size_toArray, List.length_cons, List.length_nil, Nat.reduceAdd, Nat.reduceSub, Array.replicate_succ, Array.replicate_zero, List.push_toArray, List.append_toArray, List.nil_append, List.cons_append]
  gi_wp2
  have hP0 : Has (W.alloc (.cells #[.int .i64 1, .int .i64 1] 37)) W.heap.size 37 #[.int .i64 1, .int .i64 1] := Has.new _ _ _
  gi_loopw [4] (fun v wr => ∃ k : Nat, v = .int .i64 k ∧ k ≤ s.size ∧ J (List.range k) wr ∧ wr.cell? ⟨bx, 0, none⟩ = some (.string s) ∧ Has wr W.heap.size 37 #[.int .i64 (Lx.place s.data.toList k).1, .int .i64 (Lx.place s.data.toList k).2]) (fun v wr => s.size - (intOf v).toNat)
  case atStart => exact ⟨0, rfl, Nat.zero_le _, hJ.alloc _ h0, kept_below ((Below.refl _ _).alloc (Nat.le_refl _) _) (Nat.le_refl _) _ _ hb0, hP0⟩
  case round =>
    obtain ⟨k, rfl, hk, hJk, hc, hP⟩ := hrel
    have hPlt := hP.lt
    have p0 := hP.cell 0
    have p1 := hP.cell 1
    simp only [List.getElem?_toArray, List.getElem?_cons_zero, List.getElem?_cons_succ] at p0 p1
    have ple := Lx.place_le s.data.toList k
    rw [show s.data.toList.length = s.size from by simp] at ple
    by_cases hlt : k < s.size
    · obtain ⟨fn, tmps, assign, body, hy, hR⟩ := hY (List.range k) k wr hJk (by simp; omega)
      dsimp only [encPlace] at hy
      have hst := Lx.place_succ s.data.toList k (by simpa using hlt)
      have HST := Lib.hid hst
      clear hst
      generalize hPL : Lx.place s.data.toList k = pl at *
      gi_wp2
      refine hR.mono ?_
      rintro e W3 (⟨rfl, hJ3, hk3⟩ | ⟨rfl, hJx3⟩)
      · have hP3 := hk3.2 _ _ hP
        have hP3lt := hP3.lt
        have hc3 := hk3.1 _ hc
        have q0 := hP3.cell 0
        have q1 := hP3.cell 1
        have f0 := hP3.free 0
        have f1 := hP3.free 1
        simp only [List.getElem?_toArray, List.getElem?_cons_zero, List.getElem?_cons_succ] at q0 q1
        have hbne : bx ≠ W.heap.size := by omega
        rw [← List.range_succ] at hJ3
        have hkl : k < s.data.toList.length := by simpa using hlt
        by_cases h10 : ((s[k].toNat : Int) == 10) = true
        · have hyes : s.data.toList[k]'hkl = 10 := by
            rw [getElem_toList]
            apply UInt8.toNat_inj.1
            simp at h10
            simp; omega
          have hpl : Lx.place s.data.toList (k + 1) = (pl.1 + 1, 1) := by rw [HST.out]; unfold Lx.pstep; rw [if_pos hyes]
          have HPL2 := Lib.hid hpl
          clear hpl hyes
          gi_wp2
          go_roundw
          case rel =>
            refine ⟨k + 1, by go_num, by omega, hJ.set _ _ _ (hJ.set _ _ _ (hJ.set _ _ _ hJ3 (Nat.le_refl _)) (Nat.le_refl _)) (Nat.le_refl _), ?_, ?_⟩
            · rw [box_stays _ _ _ _ _ hbne, box_stays _ _ _ _ _ hbne, box_stays _ _ _ _ _ hbne]; exact hc3
            · rw [HPL2.out]; exact ((hP3.set 1 _).set 0 _).set 1 _
          case measure => simp [intOf]; omega
        · have h10' : ((s[k].toNat : Int) == 10) = false := by simpa using h10
          clear h10
          have hnot : s.data.toList[k]'hkl ≠ 10 := by
            intro h
            rw [getElem_toList] at h
            rw [h] at h10'
            simp at h10'
          have hpl : Lx.place s.data.toList (k + 1) = (pl.1, pl.2 + 1) := by rw [HST.out]; unfold Lx.pstep; rw [if_neg hnot]
          have HPL2 := Lib.hid hpl
          clear hpl hnot
          gi_wp2
          go_roundw
          case rel =>
            refine ⟨k + 1, by go_num, by omega, hJ.set _ _ _ hJ3 (Nat.le_refl _), ?_, ?_⟩
            · rw [box_stays _ _ _ _ _ hbne]; exact hc3
            · rw [HPL2.out]; exact hP3.set 1 _
          case measure => simp [intOf]; omega
      · gi_wp2
        refine bodyPost_ret (results_none rfl _ _ _) rfl ?_
        refine ⟨⟨_, rfl⟩, .inr ⟨_, ?_, hJx3⟩⟩
        rw [← List.range_succ]
        exact ⟨(List.range (s.size - k)).map (k + 1 + ·), by rw [← List.range_add]; congr 1; omega⟩
    · obtain rfl : k = s.size := by omega
      obtain ⟨fn, tmps, assign, body, hy, hR⟩ := hY (List.range s.size) s.size wr hJk (by simp)
      dsimp only [encPlace] at hy
      gi_wp2
      refine hR.mono ?_
      rintro e W3 (⟨rfl, hJ3, hk3⟩ | ⟨rfl, hJx3⟩)
      · gi_wp2
        go_end0
        exact ⟨⟨_, rfl⟩, .inl ⟨_, rfl, by rw [List.range_succ]; exact hJ3⟩⟩
      · gi_wp2
        go_end0
        exact ⟨⟨_, rfl⟩, .inr ⟨_, by rw [← List.range_succ]; exact List.prefix_rfl, hJx3⟩⟩
end Go.Proofs.YtadicempblgmhaaDoor
