/-
  The reference's Offset, PlaceOf and Edit, by contract: they are the program's.
-/
import Derived.Test.YtmmemkkljadglaaDoorRefK
import Derived.Test.YtmmemkkljadglaaDoorEdit
import Derived.Deep.RegionHeld3
namespace Go.Proofs.YtmmemkkljadglaaDoor
open Go.RowKit Go.Shelf

namespace Lx
theorem lines_total : ∀ (l : List UInt8), ((lines l).map fun x => x.length + 1).sum = l.length + 1
  | [] => rfl
  | c :: r => by
    have ih := lines_total r
    by_cases h : c = 10
    · subst h
      rw [lines, if_pos rfl, List.map_cons, List.sum_cons, ih]
      simp
      omega
    · obtain ⟨tl, hx, _⟩ := lines_hd r
      rw [lines, if_neg h]
      rw [hx] at ih ⊢
      simp only [List.map_cons, List.sum_cons, List.length_cons] at ih ⊢
      omega
theorem lineOff_le (ls : List (List UInt8)) (j : Nat) : lineOff ls j ≤ (ls.map fun x => x.length + 1).sum := by
  unfold lineOff
  have : ls = ls.take j ++ ls.drop j := (List.take_append_drop j ls).symm
  conv => rhs; rw [this]
  rw [List.map_append, List.sum_append]
  omega
end Lx

theorem strs_nth {w : World} {A : Option Addr} {n c : Nat} {ls : List (List UInt8)} (h : StrsAt w (.slice A n c) (bytesOf ls)) (i : Nat) (hi : i < ls.length) : ∃ b o, A = some ⟨b, o, none⟩ ∧ w.cell? ⟨b, o + i, none⟩ = some (.string ⟨(ls[i]).toArray⟩) := by
  obtain ⟨A', c', hv, h1⟩ := h
  cases hv
  obtain ⟨b, o, rfl, h2⟩ := h1 (by simp; omega)
  refine ⟨b, o, rfl, ?_⟩
  have := h2 i (by simpa using hi)
  simpa [bytesOf] using this

set_option maxRecDepth 100000 in
set_option maxHeartbeats 4000000 in
theorem rOffset_any (s : ByteArray) (pl pc : Int) (w : World) (hs : s.size ≤ 1000000) :
    Calls Tryd.prog 28 #[.string s, .agg #[.int .i64 pl, .int .i64 pc]] w fun e w' => e = .returned (.agg #[.int .i64 (Lx.offset s.data.toList (pl, pc)).1, .int .i64 (Lx.offset s.data.toList (pl, pc)).2]) ∧ Below w.heap.size w w' := by
  rw [← Lx.refOffset_eq]
  have hdef : Lx.refOffset s.data.toList pl pc = if pl < 1 ∨ ((Lx.lines s.data.toList).length : Int) < pl ∨ pc < 1 ∨ ((((Lx.lines s.data.toList)[(pl - 1).toNat]?.getD []).length : Nat) : Int) + 1 < pc then (0, 1) else (pc - 1 + Lx.lineOff (Lx.lines s.data.toList) (pl - 1).toNat, 0) := rfl
  have htot := fun j => Lx.lineOff_le (Lx.lines s.data.toList) j
  rw [Lx.lines_total, show s.data.toList.length = s.size from by simp] at htot
  have CL := Lib.hid (rlines_any s ((w.alloc (.cells #[.int .i64 pl, .int .i64 pc] 37)).alloc (.cells #[.int .i64 0, .int .i64 0] 30)) hs)
  have hlc : (Lx.lines s.data.toList).length ≤ s.size + 1 := by
    rw [Lx.lines_count]
    have := List.count_le_length (l := s.data.toList) (a := (10 : UInt8))
    rw [show s.data.toList.length = s.size from by simp] at this
    omega
  generalize Lx.refOffset s.data.toList pl pc = fin at *
  generalize Lx.lines s.data.toList = ls at *
  have HD := Lib.hid hdef
  have HT := Lib.hid htot
  clear hdef htot
  go_enter Tryd.func28, Tryd.ntmps28
  go_wp2_with fail
  refine CL.out.mono ?_
  rintro e w1 ⟨v, rfl, ho, hb1⟩
  have hst := strRow_of ho
  obtain ⟨A, c, rfl⟩ := own_len ho
  have hP := ((Has.new w 37 #[.int .i64 pl, .int .i64 pc]).alloc (.cells #[.int .i64 0, .int .i64 0] 30)).below hb1 (by simp only [World.size_alloc]; omega)
  have hN := (Has.new (w.alloc (.cells #[.int .i64 pl, .int .i64 pc] 37)) 30 #[.int .i64 0, .int .i64 0])
  rw [World.size_alloc] at hN
  have hN1 := hN.below hb1 (by simp)
  have B1 := Lib.hid ((((Below.refl w.heap.size w).alloc (Nat.le_refl _) (.cells #[.int .i64 pl, .int .i64 pc] 37)).alloc (by simp) (.cells #[.int .i64 0, .int .i64 0] 30)).trans (hb1.mono (by simp only [World.size_alloc]; omega)))
  have HS := Lib.hid hst
  have HN := Lib.hid hN1
  have p0 := hP.cell 0
  have p1 := hP.cell 1
  have n0 := hN1.cell 0
  have n1 := hN1.cell 1
  have f0 := hN1.free 0
  have f1 := hN1.free 1
  simp only [List.getElem?_toArray, List.getElem?_cons_zero, List.getElem?_cons_succ] at p0 p1 n0 n1
  have hlt := hN1.lt
  clear hst ho hb1 hN hN1 hP CL
  have hlt0 : w.heap.size < w1.heap.size := by omega
  by_cases hA : pl < 1
  · have HF := Lib.hid (HD.out.trans (if_pos (.inl hA)))
    clear HD
    have g1 : decide (pl < 1) = true := decide_eq_true hA
    go_wp2_with fail
    go_quiet (fail)
    go_wp2_with fail
    clear n0 n1
    have hf := (Has.set (w := w1.drewN nq) HN.out 0 (.int .i64 0)).set 1 (.int .i64 1)
    have n0 := hf.cell 0
    have n1 := hf.cell 1
    refine bodyPost_ret (v := .agg #[.int .i64 0, .int .i64 1]) (by simp [results, Tryd.results28, go_sem, n0, n1]) rfl ⟨by rw [HF.out], ?_⟩
    exact ((below_drewN B1.out nq).setCell (p := ⟨w.heap.size + 1, 0, none⟩) (by simp) _).setCell (p := ⟨w.heap.size + 1, 1, none⟩) (by simp) _
  · obtain ⟨j, rfl⟩ : ∃ j : Nat, pl = (j : Int) + 1 := ⟨(pl - 1).toNat, by omega⟩
    have g1 : decide ((j : Int) + 1 < 1) = false := decide_eq_false (by omega)
    by_cases hB : (ls.length : Int) < (j : Int) + 1
    · have HF := Lib.hid (HD.out.trans (if_pos (.inr (.inl hB))))
      clear HD
      have g2 : decide ((ls.length : Int) < (j : Int) + 1) = true := decide_eq_true hB
      go_wp2_with fail
      go_quiet (fail)
      go_wp2_with fail
      clear n0 n1
      have hf := (Has.set (w := w1.drewN nq) HN.out 0 (.int .i64 0)).set 1 (.int .i64 1)
      have n0 := hf.cell 0
      have n1 := hf.cell 1
      refine bodyPost_ret (v := .agg #[.int .i64 0, .int .i64 1]) (by simp [results, Tryd.results28, go_sem, n0, n1]) rfl ⟨by rw [HF.out], ?_⟩
      exact ((below_drewN B1.out nq).setCell (p := ⟨w.heap.size + 1, 0, none⟩) (by simp) _).setCell (p := ⟨w.heap.size + 1, 1, none⟩) (by simp) _
    · have g2 : decide ((ls.length : Int) < (j : Int) + 1) = false := decide_eq_false hB
      by_cases hC : pc < 1
      · have HF := Lib.hid (HD.out.trans (if_pos (.inr (.inr (.inl hC)))))
        clear HD
        have g3 : decide (pc < 1) = true := decide_eq_true hC
        go_wp2_with fail
        go_quiet (fail)
        go_wp2_with fail
        clear n0 n1
        have hf := (Has.set (w := w1.drewN nq) HN.out 0 (.int .i64 0)).set 1 (.int .i64 1)
        have n0 := hf.cell 0
        have n1 := hf.cell 1
        refine bodyPost_ret (v := .agg #[.int .i64 0, .int .i64 1]) (by simp [results, Tryd.results28, go_sem, n0, n1]) rfl ⟨by rw [HF.out], ?_⟩
        exact ((below_drewN B1.out nq).setCell (p := ⟨w.heap.size + 1, 0, none⟩) (by simp) _).setCell (p := ⟨w.heap.size + 1, 1, none⟩) (by simp) _
      · have g3 : decide (pc < 1) = false := decide_eq_false hC
        have hj : j < ls.length := by omega
        obtain ⟨b, o, rfl, c0⟩ := strs_nth HS.out j hj
        have hsc := Lx.lineOff_succ ls j hj
        have ht1 := HT.out (j + 1)
        have hdj : ls[((j : Int) + 1 - 1).toNat]?.getD [] = ls[j] := by
          rw [show ((j : Int) + 1 - 1).toNat = j from by omega, List.getElem?_eq_getElem hj, Option.getD_some]
        have hD0 := HD.out
        rw [hdj, show ((j : Int) + 1 - 1).toNat = j from by omega] at hD0
        clear hdj HD
        generalize ls[j] = x at *
        have hm1 : max (0 : Int) (j : Int) = j := by omega
        have hjI : (j : Int) < ls.length := by omega
        have hj0 : (0 : Int) ≤ j := by omega
        have hwj : IntKind.i64.wrap ((j : Int) + 1 - 1) = (j : Int) := by rw [IntWalk.i64_in _ (by omega)]; omega
        by_cases hD : (x.length : Int) + 1 < pc
        · have HF := Lib.hid (hD0.trans (if_pos (.inr (.inr (.inr hD)))))
          clear hD0
          have g4 : decide ((x.length : Int) + 1 < pc) = true := decide_eq_true hD
          go_wp2_with fail
          go_quiet (fail)
          go_wp2_with fail
          clear n0 n1
          have hf := (Has.set (w := w1.drewN nq) HN.out 0 (.int .i64 0)).set 1 (.int .i64 1)
          have n0 := hf.cell 0
          have n1 := hf.cell 1
          refine bodyPost_ret (v := .agg #[.int .i64 0, .int .i64 1]) (by simp [results, Tryd.results28, go_sem, n0, n1]) rfl ⟨by rw [HF.out], ?_⟩
          exact ((below_drewN B1.out nq).setCell (p := ⟨w.heap.size + 1, 0, none⟩) (by simp) _).setCell (p := ⟨w.heap.size + 1, 1, none⟩) (by simp) _
        · have HF := Lib.hid (hD0.trans (if_neg (by omega)))
          clear hD0
          have g4 : decide ((x.length : Int) + 1 < pc) = false := decide_eq_false hD
          go_wp2_with fail
          go_quiet (fail)
          go_wp2_with fail
          go_loopw [6, 7] (fun n i wr => ∃ k : Nat, k ≤ j ∧ i = .int .i64 k ∧ n = .int .i64 (pc - 1 + (Lx.lineOff ls k : Nat)) ∧ w1.drewN nq = wr) (fun _ i _ => j - (intOf i).toNat)
          case atStart => exact ⟨0, Nat.zero_le _, rfl, by rw [Lx.lineOff_zero]; simp, rfl⟩
          case round =>
            obtain ⟨k, hk, rfl, rfl, rfl⟩ := hrel
            by_cases hkj : k < j
            · have hkI : (k : Int) < j := by omega
              obtain ⟨b', o', hv, c2⟩ := strs_nth HS.out k (by omega)
              cases hv
              have hsk := Lx.lineOff_succ ls k (by omega)
              have ht2 := HT.out (k + 1)
              generalize ls[k]'(by omega) = y at *
              generalize hlo : Lx.lineOff ls k = lo at *
              have HSK := Lib.hid hsk
              clear hsk hlo
              have hb2 := HSK.out
              have hk2 : (k : Int) < ls.length := by omega
              go_wp2_with fail
              go_roundw
              case rel => exact ⟨k + 1, hkj, by go_num, by rw [HSK.out]; go_num, by trivial⟩
              case measure => simp [intOf]; omega
            · obtain rfl : k = j := by omega
              go_wp2_with fail
              clear n0 n1
              have hf := (Has.set (w := w1.drewN nq) HN.out 0 (.int .i64 (pc - 1 + (Lx.lineOff ls k : Nat)))).set 1 (.int .i64 0)
              have n0 := hf.cell 0
              have n1 := hf.cell 1
              refine bodyPost_ret (v := .agg #[.int .i64 (pc - 1 + (Lx.lineOff ls k : Nat)), .int .i64 0]) (by simp [results, Tryd.results28, go_sem, n0, n1]) rfl ⟨by rw [HF.out], ?_⟩
              exact ((below_drewN B1.out nq).setCell (p := ⟨w.heap.size + 1, 0, none⟩) (by simp) _).setCell (p := ⟨w.heap.size + 1, 1, none⟩) (by simp) _

set_option maxRecDepth 100000 in
set_option maxHeartbeats 2000000 in
theorem rPlaceOf_any (s : ByteArray) (n : Nat) (w : World) (hs : s.size ≤ 1000000) (hn : n ≤ s.size) :
    Calls Tryd.prog 30 #[.string s, .int .i64 n] w fun e w' => e = .returned (.agg #[.int .i64 (Lx.place s.data.toList n).1, .int .i64 (Lx.place s.data.toList n).2, .int .i64 0]) ∧ Below w.heap.size w w' := by
  have CP := Lib.hid (fun W => rPlaceAt_any s n W hs hn)
  generalize (Lx.place s.data.toList n).1 = pl at *
  generalize (Lx.place s.data.toList n).2 = pc at *
  have g1 : decide ((n : Int) < 0) = false := decide_eq_false (by omega)
  have g2 : decide ((s.size : Int) < n) = false := decide_eq_false (by omega)
  have g3 : ¬ (s.size : Int) < n := by omega
  go_enter Tryd.func30, Tryd.ntmps30
  go_wp2_with fail
  refine (CP.out _).mono ?_
  rintro e w1 ⟨rfl, hb1⟩
  have hZ := (Has.new w 66 #[.int .i64 0, .int .i64 0, .int .i64 0]).below hb1 (by simp)
  have BW := Lib.hid (((Below.refl w.heap.size w).alloc (Nat.le_refl _) (.cells #[.int .i64 0, .int .i64 0, .int .i64 0] 66)).trans (hb1.mono (by simp)))
  have z0 := hZ.cell 0
  have z1 := hZ.cell 1
  have z2 := hZ.cell 2
  have f0 := hZ.free 0
  have f1 := hZ.free 1
  have f2 := hZ.free 2
  simp only [List.getElem?_toArray, List.getElem?_cons_zero, List.getElem?_cons_succ] at z0 z1 z2
  clear hb1
  go_wp2_with fail
  clear z0 z1 z2
  have hf := ((hZ.set 0 (.int .i64 pl)).set 1 (.int .i64 pc)).set 2 (.int .i64 0)
  have z0 := hf.cell 0
  have z1 := hf.cell 1
  have z2 := hf.cell 2
  refine bodyPost_ret (v := .agg #[.int .i64 pl, .int .i64 pc, .int .i64 0]) (by simp [results, Tryd.results30, go_sem, z0, z1, z2]) rfl ⟨rfl, ?_⟩
  exact ((BW.out.setCell (p := ⟨w.heap.size, 0, none⟩) (Nat.le_refl _) _).setCell (p := ⟨w.heap.size, 1, none⟩) (Nat.le_refl _) _).setCell (p := ⟨w.heap.size, 2, none⟩) (Nat.le_refl _) _

set_option maxRecDepth 100000 in
set_option maxHeartbeats 2000000 in
theorem rPlaceOf_bad (s : ByteArray) (k : Int) (w : World) (hs : s.size ≤ 1000000) (hk : k < 0 ∨ (s.size : Int) < k) :
    Calls Tryd.prog 30 #[.string s, .int .i64 k] w fun e w' => e = .returned (.agg #[.int .i64 0, .int .i64 0, .int .i64 1]) ∧ Below w.heap.size w w' := by
  by_cases h0 : k < 0
  · have g1 : decide (k < 0) = true := decide_eq_true h0
    go_enter Tryd.func30, Tryd.ntmps30
    go_wp2_with fail
    refine bodyPost_ret (v := .agg #[.int .i64 0, .int .i64 0, .int .i64 1]) (by simp [results, Tryd.results30, go_sem]) rfl ⟨rfl, (Below.refl _ _).alloc (Nat.le_refl _) _⟩
  · have h1 : (s.size : Int) < k := by omega
    have g1 : decide (k < 0) = false := decide_eq_false h0
    have g2 : decide ((s.size : Int) < k) = true := decide_eq_true h1
    go_enter Tryd.func30, Tryd.ntmps30
    go_wp2_with fail
    refine bodyPost_ret (v := .agg #[.int .i64 0, .int .i64 0, .int .i64 1]) (by simp [results, Tryd.results30, go_sem]) rfl ⟨rfl, (Below.refl _ _).alloc (Nat.le_refl _) _⟩

set_option maxRecDepth 100000 in
set_option maxHeartbeats 4000000 in
theorem rEdit_any (s x : ByteArray) (f t : Int) (w : World) (hs : s.size ≤ 900000) (hx : x.size ≤ 900000) :
    Calls Tryd.prog 32 #[.string s, chVal f t x] w fun e w' => e = .returned (.agg #[.string ⟨(Lx.edited s.data.toList x.data.toList f t).1.toArray⟩, .int .i64 (Lx.edited s.data.toList x.data.toList f t).2]) ∧ Below w.heap.size w w' := by
  have hed : Lx.edited s.data.toList x.data.toList f t = if f < 0 ∨ t < f ∨ (s.size : Int) < t then ([], 1) else if 20000 < (s.size : Int) - (t - f) + x.size then ([], 3) else (s.data.toList.take f.toNat ++ x.data.toList ++ s.data.toList.drop t.toNat, 0) := by
    unfold Lx.edited Lx.editErr
    rw [show s.data.toList.length = s.size from by simp, show x.data.toList.length = x.size from by simp]
    by_cases h1 : f < 0 ∨ t < f ∨ (s.size : Int) < t
    · rw [if_pos h1, if_pos h1, if_neg (by decide)]
    · rw [if_neg h1, if_neg h1]
      by_cases h2 : 20000 < (s.size : Int) - (t - f) + x.size
      · rw [if_pos h2, if_pos h2, if_neg (by decide)]
      · rw [if_neg h2, if_neg h2, if_pos rfl]
  have HD := Lib.hid hed
  clear hed
  generalize Lx.edited s.data.toList x.data.toList f t = fin at *
  obtain ⟨r, er⟩ := fin
  have BW : Hid (Below w.heap.size w ((w.alloc (.cells #[.int .i64 f, .int .i64 t, .string x] 60)).alloc (.cells #[.string ⟨#[]⟩, .int .i64 0] 50))) := ((Below.refl w.heap.size w).alloc (Nat.le_refl _) _).alloc (by simp) _
  have HZ : Hid (Has ((w.alloc (.cells #[.int .i64 f, .int .i64 t, .string x] 60)).alloc (.cells #[.string ⟨#[]⟩, .int .i64 0] 50)) (w.heap.size + 1) 50 #[.string ⟨#[]⟩, .int .i64 0]) := by
    have := Has.new (w.alloc (.cells #[.int .i64 f, .int .i64 t, .string x] 60)) 50 #[.string ⟨#[]⟩, .int .i64 0]
    rw [World.size_alloc] at this
    exact this
  by_cases h1 : f < 0
  · have HF := Lib.hid (HD.out.trans (if_pos (.inl h1)))
    have g1 : decide (f < 0) = true := decide_eq_true h1
    go_enter Tryd.func32, Tryd.ntmps32
    go_wp2_with fail
    refine bodyPost_ret (v := .agg #[.string ⟨#[]⟩, .int .i64 1]) (by simp [results, Tryd.results32, go_sem]) rfl ⟨by obtain ⟨k1, k2⟩ := Prod.mk.inj HF.out; rw [k1, k2], ((Below.refl w.heap.size w).alloc (Nat.le_refl _) _).alloc (by simp) _⟩
  · obtain ⟨f', rfl⟩ := Int.eq_ofNat_of_zero_le (Int.not_lt.1 h1)
    have g1 : decide ((f' : Int) < 0) = false := decide_eq_false h1
    by_cases h2 : t < f'
    · have HF := Lib.hid (HD.out.trans (if_pos (.inr (.inl h2))))
      have g2 : decide (t < (f' : Int)) = true := decide_eq_true h2
      go_enter Tryd.func32, Tryd.ntmps32
      go_wp2_with fail
      refine bodyPost_ret (v := .agg #[.string ⟨#[]⟩, .int .i64 1]) (by simp [results, Tryd.results32, go_sem]) rfl ⟨by obtain ⟨k1, k2⟩ := Prod.mk.inj HF.out; rw [k1, k2], ((Below.refl w.heap.size w).alloc (Nat.le_refl _) _).alloc (by simp) _⟩
    · obtain ⟨t', rfl⟩ := Int.eq_ofNat_of_zero_le (show 0 ≤ t by omega)
      have g2 : decide ((t' : Int) < (f' : Int)) = false := decide_eq_false h2
      by_cases h3 : (s.size : Int) < t'
      · have HF := Lib.hid (HD.out.trans (if_pos (.inr (.inr h3))))
        have g3 : decide ((s.size : Int) < (t' : Int)) = true := decide_eq_true h3
        go_enter Tryd.func32, Tryd.ntmps32
        go_wp2_with fail
        refine bodyPost_ret (v := .agg #[.string ⟨#[]⟩, .int .i64 1]) (by simp [results, Tryd.results32, go_sem]) rfl ⟨by obtain ⟨k1, k2⟩ := Prod.mk.inj HF.out; rw [k1, k2], ((Below.refl w.heap.size w).alloc (Nat.le_refl _) _).alloc (by simp) _⟩
      · have g3 : decide ((s.size : Int) < (t' : Int)) = false := decide_eq_false h3
        have hD1 := HD.out.trans (if_neg (by omega))
        by_cases h4 : 20000 < (s.size : Int) - ((t' : Int) - (f' : Int)) + x.size
        · have HF := Lib.hid (hD1.trans (if_pos h4))
          clear hD1
          have g4 : decide (20000 < (s.size : Int) - ((t' : Int) - (f' : Int)) + x.size) = true := decide_eq_true h4
          go_enter Tryd.func32, Tryd.ntmps32
          go_wp2_with fail
          refine bodyPost_ret (v := .agg #[.string ⟨#[]⟩, .int .i64 3]) (by simp [results, Tryd.results32, go_sem]) rfl ⟨by obtain ⟨k1, k2⟩ := Prod.mk.inj HF.out; rw [k1, k2], ((Below.refl w.heap.size w).alloc (Nat.le_refl _) _).alloc (by simp) _⟩
        · have HF := Lib.hid (hD1.trans (if_neg h4))
          clear hD1 HD
          have g4 : decide (20000 < (s.size : Int) - ((t' : Int) - (f' : Int)) + x.size) = false := decide_eq_false h4
          have k1 : (0 : Int) ≤ f' := by omega
          have k2 : (f' : Int) ≤ s.size := by omega
          have k3 : (0 : Int) ≤ t' := by omega
          have k4 : (t' : Int) ≤ s.size := by omega
          go_enter Tryd.func32, Tryd.ntmps32
          go_wp2_with fail
          go_region
          all_goals
            go_wp2_with fail
            refine bodyPost_ret (v := .agg #[.string (s.extract 0 f' ++ x ++ s.extract t' s.size), .int .i64 0]) (by simp [results, Tryd.results32, go_sem]) rfl ⟨?_, (((Below.refl w.heap.size w).alloc (Nat.le_refl _) _).alloc (by simp) _).drew⟩
            have hcat : (⟨(s.data.toList.take f' ++ x.data.toList ++ s.data.toList.drop t').toArray⟩ : ByteArray) = s.extract 0 f' ++ x ++ s.extract t' s.size := by
              apply ByteArray.ext
              apply Array.toList_inj.1
              simp only [ByteArray.data_append, Array.toList_append, Lib.extract_data]
              simp
              rw [List.take_of_length_le (by simp)]
            obtain ⟨e1, e2⟩ := Prod.mk.inj HF.out
            rw [e1, e2, Int.toNat_natCast, Int.toNat_natCast, hcat]
end Go.Proofs.YtmmemkkljadglaaDoor
