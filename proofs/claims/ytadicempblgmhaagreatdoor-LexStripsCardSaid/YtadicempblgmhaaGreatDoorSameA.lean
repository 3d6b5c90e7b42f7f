/-
  What Same returns for any two texts, in package lex and in the reference: the same.
-/
import Derived.Test.YtadicempblgmhaaGreatDoorSame
import Derived.Test.YtadicempblgmhaaGreatDoorSameK
import Derived.Test.YtadicempblgmhaaGreatDoorRefI
import Derived.Test.YtadicempblgmhaaGreatDoorLawB2
namespace Go.Proofs.YtadicempblgmhaaGreatDoor
open Go.RowKit Go.Shelf

namespace Lx
/-- Whether two texts have the same tokens, or the first error. -/
def sameOut (a b : Red) : Bool × Int := if a.err ≠ 0 then (false, a.err) else if b.err ≠ 0 then (false, b.err) else (decide (kinds a.toks = kinds b.toks), 0)
end Lx

set_option maxRecDepth 100000 in
set_option maxHeartbeats 2000000 in
theorem Same_any (a b : ByteArray) (w : World) (hE : Env w) (ha : a.size ≤ 100000) (hb : b.size ≤ 100000) :
    Calls Tryz.prog 8 #[.string a, .string b] w fun e w' => e = .returned (.tuple #[.bool (Lx.sameOut (Lx.readText a.data.toList) (Lx.readText b.data.toList)).1, .int .i64 (Lx.sameOut (Lx.readText a.data.toList) (Lx.readText b.data.toList)).2]) ∧ Below w.heap.size w w' := by
  have CA := Lib.hid (readText_any a w ha hE)
  have CB := Lib.hid (fun W (h : Below w.heap.size w W) => readText_any b W hb (hE.below h (Nat.le_refl _)))
  have la := Lx.readText_count a.data.toList
  have lb := Lx.readText_count b.data.toList
  have ha2 : a.data.toList.length = a.size := by simp
  have hb2 : b.data.toList.length = b.size := by simp
  generalize Lx.readText a.data.toList = R at *
  generalize Lx.readText b.data.toList = S at *
  obtain ⟨rt, rn, rl, rc, re⟩ := R
  obtain ⟨st, sn, sl, sc, se⟩ := S
  dsimp only at la lb
  obtain ⟨o, ho⟩ : ∃ o, o = Lx.sameOut ⟨rt, rn, rl, rc, re⟩ ⟨st, sn, sl, sc, se⟩ := ⟨_, rfl⟩
  rw [← ho]
  have HOUT := Lib.hid ho
  clear ho
  obtain ⟨ob, oe⟩ := o
  dsimp only
  go_enter Tryz.func8, Tryz.ntmps8
  go_wp2_with fail
  refine CA.out.mono ?_
  rintro e w1 ⟨vt, vn, rfl, o1, o2, hb1⟩
  dsimp only at o1 o2
  obtain ⟨At, ct, rfl⟩ := own_len o1
  obtain ⟨An, cn, rfl⟩ := own_len o2
  have B1 := Lib.hid hb1
  have T1 := Lib.hid (ToksAt.of_own o1)
  clear hb1 o1 o2
  have hH := Has.new w1 57 #[.slice At rt.length ct, .slice An rn.length cn, .int .i64 rl, .int .i64 rc, .int .i64 re]
  have HH := Lib.hid hH
  have q4 := hH.cell 4
  have qlt := hH.lt
  simp only [List.getElem?_toArray, List.getElem?_cons_zero, List.getElem?_cons_succ] at q4
  clear hH
  by_cases he : re = 0
  · subst he
    go_wp2_with fail
    refine (CB.out _ (B1.out.alloc B1.out.size _)).mono ?_
    rintro e w2 ⟨vt2, vn2, rfl, o1, o2, hb2⟩
    dsimp only at o1 o2
    obtain ⟨At2, ct2, rfl⟩ := own_len o1
    obtain ⟨An2, cn2, rfl⟩ := own_len o2
    have B2 := Lib.hid (stepA B1.out _ hb2)
    have T2 := Lib.hid (ToksAt.of_own o1)
    have T12 := Lib.hid ((T1.out.below ((Below.refl _ _).alloc (Nat.le_refl _) (.cells #[.slice At rt.length ct, .slice An rn.length cn, .int .i64 rl, .int .i64 rc, .int .i64 0] 57)) (Nat.le_refl _)).below hb2 (Nat.le_refl _))
    have hH2 := HH.out.below hb2 HH.out.lt
    have r0 := hH2.cell 0
    have ltw := hH2.lt
    simp only [List.getElem?_toArray, List.getElem?_cons_zero] at r0
    have hK := Has.new w2 57 #[.slice At2 st.length ct2, .slice An2 sn.length cn2, .int .i64 sl, .int .i64 sc, .int .i64 se]
    have p4 := hK.cell 4
    have plt := hK.lt
    simp only [List.getElem?_toArray, List.getElem?_cons_zero, List.getElem?_cons_succ] at p4
    clear hb2 o1 o2 hH2 HH q4 qlt hK
    by_cases hse : se = 0
    · subst hse
      have hA2 := (Below.refl w2.heap.size w2).alloc (Nat.le_refl _) (.cells #[.slice At2 st.length ct2, .slice An2 sn.length cn2, .int .i64 sl, .int .i64 sc, .int .i64 0] 57)
      have CE := Lib.hid (equal_any _ _ rt st _ (T12.out.below hA2 (Nat.le_refl _)) (T2.out.below hA2 (Nat.le_refl _)) (by omega) (by omega))
      clear hA2
      go_wp2_with fail
      refine CE.out.mono ?_
      rintro e w3 ⟨rfl, hb3⟩
      have B3 := Lib.hid (stepA B2.out _ hb3)
      clear hb3
      go_wp2_with fail
      go_ret2
      obtain ⟨k1, k2⟩ := Prod.mk.inj HOUT.out
      exact ⟨by rw [k1, k2]; rfl, B3.out⟩
    · have heb : (se == 0) = false := by simpa using hse
      go_wp2_with fail
      go_region
      all_goals
        go_wp2
        go_ret2
        have h := HOUT.out
        unfold Lx.sameOut at h
        rw [if_neg (by simp), if_pos (by exact hse)] at h
        obtain ⟨k1, k2⟩ := Prod.mk.inj h
        exact ⟨by rw [k1, k2]; rfl, (B2.out.alloc B2.out.size _).drew⟩
  · have heb : (re == 0) = false := by simpa using he
    go_wp2_with fail
    go_region
    all_goals
      go_wp2
      go_ret2
      have h := HOUT.out
      unfold Lx.sameOut at h
      rw [if_pos (by exact he)] at h
      obtain ⟨k1, k2⟩ := Prod.mk.inj h
      exact ⟨by rw [k1, k2]; rfl, (B1.out.alloc B1.out.size _).drew⟩

set_option maxRecDepth 100000 in
set_option maxHeartbeats 2000000 in
theorem rSame_any (a b : ByteArray) (w : World) (ha : a.size ≤ 100000) (hb : b.size ≤ 100000) :
    Calls Tryz.prog 9 #[.string a, .string b] w fun e w' => e = .returned (.agg #[.bool (Lx.sameOut (Lx.readText a.data.toList) (Lx.readText b.data.toList)).1, .int .i64 (Lx.sameOut (Lx.readText a.data.toList) (Lx.readText b.data.toList)).2]) ∧ Below w.heap.size w w' := by
  have CA := Lib.hid (rTokens_any a (w.alloc (.cells #[.bool false, .int .i64 0] 33)) ha)
  have CB := Lib.hid (fun W => rTokens_any b W hb)
  have la := Lx.readText_count a.data.toList
  have lb := Lx.readText_count b.data.toList
  have ha2 : a.data.toList.length = a.size := by simp
  have hb2 : b.data.toList.length = b.size := by simp
  generalize Lx.readText a.data.toList = R at *
  generalize Lx.readText b.data.toList = S at *
  obtain ⟨rt, rn, rl, rc, re⟩ := R
  obtain ⟨st, sn, sl, sc, se⟩ := S
  dsimp only at la lb
  obtain ⟨o, ho⟩ : ∃ o, o = Lx.sameOut ⟨rt, rn, rl, rc, re⟩ ⟨st, sn, sl, sc, se⟩ := ⟨_, rfl⟩
  rw [← ho]
  have HOUT := Lib.hid ho
  clear ho
  obtain ⟨ob, oe⟩ := o
  dsimp only
  go_enter Tryz.func9, Tryz.ntmps9
  go_wp2_with fail
  refine CA.out.mono ?_
  rintro e w1 ⟨vt, vn, rfl, o1, o2, hb1⟩
  dsimp only at o1 o2
  obtain ⟨At, ct, rfl⟩ := own_len o1
  obtain ⟨An, cn, rfl⟩ := own_len o2
  rw [World.size_alloc] at hb1
  have hres := (Has.new w 33 #[.bool false, .int .i64 0]).below hb1 (by omega)
  have hB1 : Below w.heap.size w w1 := ((Below.refl _ _).alloc (Nat.le_refl _) _).trans (hb1.mono (by omega))
  have BB1 := Lib.hid hB1
  have HR1 := Lib.hid hres
  have B1 := Lib.hid (hB1.alloc (by exact hB1.size) (.cells #[.slice At rt.length ct, .slice An rn.length cn, .int .i64 rl, .int .i64 rc, .int .i64 re] 64))
  have HZ := Lib.hid (hres.alloc (.cells #[.slice At rt.length ct, .slice An rn.length cn, .int .i64 rl, .int .i64 rc, .int .i64 re] 64))
  have T1 := Lib.hid ((ToksAt.of_own o1).below ((Below.refl w1.heap.size w1).alloc (Nat.le_refl _) (.cells #[.slice At rt.length ct, .slice An rn.length cn, .int .i64 rl, .int .i64 rc, .int .i64 re] 64)) (Nat.le_refl _))
  have hH := Has.new w1 64 #[.slice At rt.length ct, .slice An rn.length cn, .int .i64 rl, .int .i64 rc, .int .i64 re]
  have HH := Lib.hid hH
  have q4 := hH.cell 4
  have qlt := hH.lt
  have hzlt := hres.lt
  have z0 := hres.cell 0
  have z1 := hres.cell 1
  have f0 := hres.free 0
  have f1 := hres.free 1
  simp only [List.getElem?_toArray, List.getElem?_cons_zero, List.getElem?_cons_succ] at q4 z0 z1
  clear hH hb1 o1 o2 hres hB1
  by_cases he : re = 0
  · subst he
    go_wp2_with fail
    refine (CB.out _).mono ?_
    rintro e w2 ⟨vt2, vn2, rfl, o1, o2, hb2⟩
    dsimp only at o1 o2
    obtain ⟨At2, ct2, rfl⟩ := own_len o1
    obtain ⟨An2, cn2, rfl⟩ := own_len o2
    have B2 := Lib.hid (B1.out.trans (hb2.mono B1.out.size))
    have HZ2 := Lib.hid (HZ.out.below hb2 HZ.out.lt)
    have T2 := Lib.hid (ToksAt.of_own o1)
    have T12 := Lib.hid (T1.out.below hb2 (Nat.le_refl _))
    have hH2 := HH.out.below hb2 HH.out.lt
    have HH2 := Lib.hid hH2
    have r0 := hH2.cell 0
    have ltw := hH2.lt
    have hres2 := HZ2.out
    have hK := Has.new w2 64 #[.slice At2 st.length ct2, .slice An2 sn.length cn2, .int .i64 sl, .int .i64 sc, .int .i64 se]
    have p4 := hK.cell 4
    have plt := hK.lt
    clear z0 z1 f0 f1 hzlt q4 qlt HH HZ
    have hzlt := hres2.lt
    have z0 := hres2.cell 0
    have z1 := hres2.cell 1
    have f0 := hres2.free 0
    have f1 := hres2.free 1
    simp only [List.getElem?_toArray, List.getElem?_cons_zero, List.getElem?_cons_succ] at r0 p4 z0 z1
    clear hb2 o1 o2 hH2 hK hres2
    by_cases hse : se = 0
    · subst hse
      have hA2 := (Below.refl w2.heap.size w2).alloc (Nat.le_refl _) (.cells #[.slice At2 st.length ct2, .slice An2 sn.length cn2, .int .i64 sl, .int .i64 sc, .int .i64 0] 64)
      have CE := Lib.hid (sameKinds_any _ _ rt st _ (T12.out.below hA2 (Nat.le_refl _)) (T2.out.below hA2 (Nat.le_refl _)) (by omega) (by omega))
      have HZ3 := Lib.hid (HZ2.out.below hA2 (by exact HZ2.out.lt))
      clear hA2
      go_wp2_with fail
      refine CE.out.mono ?_
      rintro e w3 ⟨rfl, hb3⟩
      have B3 := Lib.hid (stepA B2.out _ hb3)
      have HR3 := Lib.hid (HZ3.out.below hb3 (by rw [World.size_alloc]; omega))
      have hres3 := HR3.out
      clear z0 z1 f0 f1 hzlt r0 ltw p4 plt hb3
      have hzlt := hres3.lt
      have z0 := hres3.cell 0
      have z1 := hres3.cell 1
      have f0 := hres3.free 0
      have f1 := hres3.free 1
      simp only [List.getElem?_toArray, List.getElem?_cons_zero, List.getElem?_cons_succ] at z0 z1
      clear hres3
      go_wp2_with fail
      have hf := (HR3.out.set 0 (.bool (decide (Lx.kinds rt = Lx.kinds st)))).set 1 (.int .i64 0)
      clear z0 z1
      have d0 := hf.cell 0
      have d1 := hf.cell 1
      obtain ⟨k1, k2⟩ := Prod.mk.inj HOUT.out
      refine bodyPost_ret (v := .agg #[.bool (decide (Lx.kinds rt = Lx.kinds st)), .int .i64 0]) (by simp [results, Tryz.results9, go_sem, d0, d1]) rfl ⟨by rw [k1, k2], ?_⟩
      exact (B3.out.setCell (p := ⟨w.heap.size, 0, none⟩) (Nat.le_refl _) _).setCell (p := ⟨w.heap.size, 1, none⟩) (Nat.le_refl _) _
    · have heb : (se == 0) = false := by simpa using hse
      go_wp2_with fail
      have hf := ((HZ2.out.set 0 (.bool false)).set 1 (.int .i64 se)).alloc (.cells #[.slice At2 st.length ct2, .slice An2 sn.length cn2, .int .i64 sl, .int .i64 sc, .int .i64 se] 64)
      clear z0 z1
      have d0 := hf.cell 0
      have d1 := hf.cell 1
      have h := HOUT.out
      unfold Lx.sameOut at h
      rw [if_neg (by simp), if_pos (by exact hse)] at h
      obtain ⟨k1, k2⟩ := Prod.mk.inj h
      refine bodyPost_ret (v := .agg #[.bool false, .int .i64 se]) (by simp [results, Tryz.results9, go_sem, d0, d1]) rfl ⟨by rw [k1, k2], ?_⟩
      exact ((B2.out.setCell (p := ⟨w.heap.size, 0, none⟩) (Nat.le_refl _) _).setCell (p := ⟨w.heap.size, 1, none⟩) (Nat.le_refl _) _).alloc (by simp [World.setCell]; exact B2.out.size) _
  · have heb : (re == 0) = false := by simpa using he
    go_wp2_with fail
    have hf := ((HR1.out.set 0 (.bool false)).set 1 (.int .i64 re)).alloc (.cells #[.slice At rt.length ct, .slice An rn.length cn, .int .i64 rl, .int .i64 rc, .int .i64 re] 64)
    clear z0 z1
    have d0 := hf.cell 0
    have d1 := hf.cell 1
    have h := HOUT.out
    unfold Lx.sameOut at h
    rw [if_pos (by exact he)] at h
    obtain ⟨k1, k2⟩ := Prod.mk.inj h
    refine bodyPost_ret (v := .agg #[.bool false, .int .i64 re]) (by simp [results, Tryz.results9, go_sem, d0, d1]) rfl ⟨by rw [k1, k2], ?_⟩
    exact ((BB1.out.setCell (p := ⟨w.heap.size, 0, none⟩) (Nat.le_refl _) _).setCell (p := ⟨w.heap.size, 1, none⟩) (Nat.le_refl _) _).alloc (by simp [World.setCell]; exact BB1.out.size) _
end Go.Proofs.YtadicempblgmhaaGreatDoor
