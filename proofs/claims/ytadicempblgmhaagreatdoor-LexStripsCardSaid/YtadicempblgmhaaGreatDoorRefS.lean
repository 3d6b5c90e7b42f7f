/-
  The reference's Strip, by contract: it is the program's.
-/
import Derived.Test.YtadicempblgmhaaGreatDoorRefQ
import Derived.Test.YtadicempblgmhaaGreatDoorRefI
import Derived.Test.YtadicempblgmhaaGreatDoorRefK
import Derived.Test.YtadicempblgmhaaGreatDoorStripW
namespace Go.Proofs.YtadicempblgmhaaGreatDoor
open Go.RowKit Go.Shelf

namespace Lx
theorem join_snoc (x : List UInt8) : ∀ (ls : List (List UInt8)), ls ≠ [] → Lib.join (ls ++ [x]) [10] = Lib.join ls [10] ++ [10] ++ x
  | [], h => absurd rfl h
  | [y], _ => by
    show Lib.join [y, x] [10] = _
    rw [Lib.join_cons, Lib.join_one]
    simp [Lib.joinTail]
  | y :: z :: r, _ => by
    have ih := join_snoc x (z :: r) (by simp)
    have e : ∀ (a b : List UInt8) (r : List (List UInt8)), Lib.join (a :: b :: r) [10] = a ++ 10 :: Lib.join (b :: r) [10] := by
      intro a b r
      rw [Lib.join_cons, Lib.join_cons, Lib.joinTail, List.map_cons, List.flatten_cons]
      rfl
    rw [List.cons_append, List.cons_append, e, e, ← List.cons_append, ih]
    simp
/-- The first k lines without their comments. -/
def ahead (ls : List (List UInt8)) (k : Nat) : List UInt8 := Lib.join ((ls.take k).map bareL) [10]
theorem ahead_one (ls : List (List UInt8)) (h : 0 < ls.length) : ahead ls 1 = bareL ls[0] := by
  unfold ahead
  cases ls with
  | nil => simp at h
  | cons a b => simp [Lib.join_one]
theorem ahead_succ (ls : List (List UInt8)) (k : Nat) (h : k < ls.length) (h1 : 1 ≤ k) : ahead ls (k + 1) = ahead ls k ++ [10] ++ bareL ls[k] := by
  unfold ahead
  rw [List.take_succ_eq_append_getElem h, List.map_append, List.map_cons, List.map_nil, join_snoc]
  intro e
  have := congrArg List.length e
  rw [List.length_map, List.length_take, List.length_nil] at this
  omega
theorem ahead_all (S : List UInt8) : ahead (lines S) (lines S).length = strip S := by
  unfold ahead strip
  rw [List.take_length]
end Lx

set_option maxRecDepth 100000 in
set_option maxHeartbeats 2000000 in
theorem rStrip_any (s : ByteArray) (w : World) (hs : s.size ≤ 100000) :
    Calls Tryz.prog 7 #[.string s] w fun e w' => e = .returned (.agg #[.string ⟨(if (Lx.readText s.data.toList).err = 0 then Lx.strip s.data.toList else []).toArray⟩, .int .i64 (Lx.readText s.data.toList).err]) ∧ Below w.heap.size w w' := by
  have CR := Lib.hid (rTokens_any s (w.alloc (.cells #[.string ⟨#[]⟩, .int .i64 0] 28)) hs)
  have CL := Lib.hid (fun W => rlines_any s W (by omega))
  generalize Lx.readText s.data.toList = R at *
  obtain ⟨rt, rn, rl, rc, re⟩ := R
  dsimp only
  obtain ⟨res, hres⟩ : ∃ res, res = if re = 0 then Lx.strip s.data.toList else [] := ⟨_, rfl⟩
  rw [← hres]
  have HRES := Lib.hid hres
  clear hres
  go_enter Tryz.func7, Tryz.ntmps7
  go_wp2_with fail
  refine CR.out.mono ?_
  rintro e w1 ⟨vt, vn, rfl, o1, o2, hb1⟩
  dsimp only at o1 o2
  obtain ⟨At, ct, rfl⟩ := own_len o1
  obtain ⟨An, cn, rfl⟩ := own_len o2
  rw [World.size_alloc] at hb1
  have hres := (Has.new w 28 #[.string ⟨#[]⟩, .int .i64 0]).below hb1 (by omega)
  have hB1 : Below w.heap.size w w1 := ((Below.refl _ _).alloc (Nat.le_refl _) _).trans (hb1.mono (by omega))
  have B1 := Lib.hid (hB1.alloc (by exact hB1.size) (.cells #[.slice At rt.length ct, .slice An rn.length cn, .int .i64 rl, .int .i64 rc, .int .i64 re] 64))
  have HZ := Lib.hid (hres.alloc (.cells #[.slice At rt.length ct, .slice An rn.length cn, .int .i64 rl, .int .i64 rc, .int .i64 re] 64))
  have hH := Has.new w1 64 #[.slice At rt.length ct, .slice An rn.length cn, .int .i64 rl, .int .i64 rc, .int .i64 re]
  have HH := Lib.hid hH
  have z1 := hH.cell 4
  have ltw := hH.lt
  have hzlt := hres.lt
  have z0 := hres.cell 0
  have z2 := hres.cell 1
  have f0 := hres.free 0
  have f1 := hres.free 1
  simp only [List.getElem?_toArray, List.getElem?_cons_zero, List.getElem?_cons_succ] at z0 z1 z2
  have HR1 := Lib.hid hres
  have BB1 := Lib.hid hB1
  clear hb1 o1 o2 hH hres hB1
  by_cases he : re = 0
  · subst he
    go_wp2_with fail
    refine (CL.out _).mono ?_
    rintro e w2 ⟨vl, rfl, hown, hb2⟩
    obtain ⟨Al, cl, rfl⟩ := own_len hown
    have hstr := strRow_of hown
    have B2 := Lib.hid (B1.out.trans (hb2.mono B1.out.size))
    have HZ2 := Lib.hid (HZ.out.below hb2 HZ.out.lt)
    have hlines := Lx.lines_ne s.data.toList
    have hpos : 0 < (Lx.lines s.data.toList).length := List.length_pos_iff.2 hlines
    have hlenL : (Lx.lines s.data.toList).length ≤ 100001 := by
      rw [Lx.lines_length]
      have h2 := List.count_le_length (l := s.data.toList) (a := 10)
      have h3 : s.data.toList.length = s.size := by simp
      omega
    have hsz : ∀ k (h : k < (Lx.lines s.data.toList).length), (Lx.lines s.data.toList)[k].length ≤ s.size := fun k h => by
      have := lines_size ((Lx.lines s.data.toList).map fun l => ⟨l.toArray⟩) s.data.toList (by simp [List.map_map, Function.comp_def]) k (by simpa using h)
      rw [List.getElem_map, Lib.size_mk] at this
      simpa using this
    have HSZ := Lib.hid hsz
    have hall := Lx.ahead_all s.data.toList
    have HALL := Lib.hid hall
    clear hown hb2 hlines hsz hall HH HZ CL CR z1 ltw z0 z2 f0 f1 HR1 BB1
    generalize Lx.lines s.data.toList = L at *
    have HST := Lib.hid hstr
    obtain ⟨A', c', hv, hc⟩ := hstr
    obtain ⟨b, o, hA, hcells⟩ := hc (by simpa using hpos)
    rw [List.length_map] at hv
    cases hv
    subst hA
    clear hc
    have hcl : ∀ i (h : i < L.length), w2.cell? ⟨b, o + i, none⟩ = some (.string ⟨L[i].toArray⟩) := fun i h => by
      have := hcells i (by simpa using h)
      rw [List.getElem_map] at this
      exact this
    have HCL := Lib.hid hcl
    have c0 : w2.cell? ⟨b, o, none⟩ = some (.string ⟨L[0].toArray⟩) := hcl 0 hpos
    have hblt := World.block_lt_of_cell? _ _ c0
    have hone := Lx.ahead_one L hpos
    have HONE := Lib.hid hone
    have hl0 := HSZ.out 0 hpos
    have CB0 : ∀ W, Calls Tryz.prog 24 #[.string ⟨L[0].toArray⟩] W fun e w' => e = .returned (.string ⟨(Lx.bareL L[0]).toArray⟩) ∧ W = w' := fun W => by
      have := bare_any ⟨L[0].toArray⟩ W (by rw [Lib.size_mk]; omega)
      simpa using this
    have HCB := Lib.hid CB0
    have hposI : (0 : Int) < L.length := by omega
    have hbl0 : (Lx.bareL L[0]).length ≤ 100001 := by have := (Lx.bareL_prefix L[0]).length_le; omega
    rw [← hone] at hbl0 HCB
    clear hcells hcl hone CB0 HONE
    go_wp2_with fail
    refine (HCB.out _).mono ?_
    rintro e w3 ⟨rfl, rfl⟩
    go_wp2_with fail
    go_loopw [5, 6] (fun v i wr => ∃ k : Nat, 1 ≤ k ∧ k ≤ L.length ∧ v = .string ⟨(Lx.ahead L k).toArray⟩ ∧ i = .int .i64 k ∧ w2 = wr ∧ (Lx.ahead L k).length ≤ k * 100001) (fun _ i _ => L.length - (intOf i).toNat)
    case atStart => exact ⟨1, Nat.le_refl _, hpos, rfl, rfl, rfl, by omega⟩
    case round =>
      obtain ⟨k, hk1, hk, rfl, rfl, rfl, hsz2⟩ := hrel
      by_cases hlt : k < L.length
      · have hltI : (k : Int) < L.length := by omega
        have ck := HCL.out k hlt
        have hlk := HSZ.out k hlt
        have hsucc := Lx.ahead_succ L k hlt hk1
        have CB : ∀ W, Calls Tryz.prog 24 #[.string ⟨L[k].toArray⟩] W fun e w' => e = .returned (.string ⟨(Lx.bareL L[k]).toArray⟩) ∧ W = w' := fun W => by
          have := bare_any ⟨L[k].toArray⟩ W (by rw [Lib.size_mk]; omega)
          simpa using this
        have HCBk := Lib.hid CB
        have hbk : (Lx.bareL L[k]).length ≤ 100000 := by have := (Lx.bareL_prefix L[k]).length_le; omega
        have hnew : (⟨(Lx.ahead L k).toArray⟩ : ByteArray) ++ ⟨#[10]⟩ ++ ⟨(Lx.bareL L[k]).toArray⟩ = ⟨(Lx.ahead L (k + 1)).toArray⟩ := by
          rw [hsucc]
          apply ByteArray.ext
          apply Array.toList_inj.1
          simp
        have hln : (Lx.ahead L (k + 1)).length ≤ (k + 1) * 100001 := by
          rw [hsucc, List.length_append, List.length_append]
          simp only [List.length_singleton]
          omega
        have HNEW := Lib.hid hnew
        have HLN := Lib.hid hln
        have z1 : (⟨(Lx.ahead L k).toArray⟩ : ByteArray).size ≤ 20000000000 := by rw [Lib.size_mk]; omega
        have z2 : (⟨(Lx.bareL L[k]).toArray⟩ : ByteArray).size ≤ 100001 := by rw [Lib.size_mk]; omega
        clear CB hsucc hnew hln hlk
        generalize L[k] = x at *
        generalize (⟨(Lx.ahead L k).toArray⟩ : ByteArray) = T at *
        generalize (⟨(Lx.bareL x).toArray⟩ : ByteArray) = U at *
        go_wp2_with fail
        refine (HCBk.out _).mono ?_
        rintro e w3 ⟨rfl, rfl⟩
        go_wp2_with fail
        go_roundw
        case rel => exact ⟨k + 1, by omega, hlt, by rw [HNEW.out], by go_num, by trivial, HLN.out⟩
        case measure => simp [intOf]; omega
      · obtain rfl : k = L.length := by omega
        rw [HALL.out]
        have hH := HZ2.out
        have q0 := hH.cell 0
        have q1 := hH.cell 1
        have g0 := hH.free 0
        have g1 := hH.free 1
        have hlt2 := hH.lt
        simp only [List.getElem?_toArray, List.getElem?_cons_zero, List.getElem?_cons_succ] at q0 q1
        clear hH
        go_wp2_with fail
        have hf := (HZ2.out.set 0 (.string ⟨(Lx.strip s.data.toList).toArray⟩)).set 1 (.int .i64 0)
        clear q0 q1
        have d0 := hf.cell 0
        have d1 := hf.cell 1
        refine bodyPost_ret (v := .agg #[.string ⟨(Lx.strip s.data.toList).toArray⟩, .int .i64 0]) (by simp [results, Tryz.results7, go_sem, d0, d1]) rfl ⟨by rw [HRES.out, if_pos True.intro], ?_⟩
        exact (B2.out.setCell (p := ⟨w.heap.size, 0, none⟩) (Nat.le_refl _) _).setCell (p := ⟨w.heap.size, 1, none⟩) (Nat.le_refl _) _
  · have heb : (re == 0) = false := by simpa using he
    rw [if_neg he] at HRES
    go_wp2_with fail
    have hf := ((HR1.out.set 0 (.string ⟨#[]⟩)).set 1 (.int .i64 re)).alloc (.cells #[.slice At rt.length ct, .slice An rn.length cn, .int .i64 rl, .int .i64 rc, .int .i64 re] 64)
    clear z0 z1 z2
    have d0 := hf.cell 0
    have d1 := hf.cell 1
    refine bodyPost_ret (v := .agg #[.string ⟨#[]⟩, .int .i64 re]) (by simp [results, Tryz.results7, go_sem, d0, d1]) rfl ⟨by rw [HRES.out], ?_⟩
    exact ((BB1.out.setCell (p := ⟨w.heap.size, 0, none⟩) (Nat.le_refl _) _).setCell (p := ⟨w.heap.size, 1, none⟩) (Nat.le_refl _) _).alloc (by simp [World.setCell]; exact BB1.out.size) _
end Go.Proofs.YtadicempblgmhaaGreatDoor
