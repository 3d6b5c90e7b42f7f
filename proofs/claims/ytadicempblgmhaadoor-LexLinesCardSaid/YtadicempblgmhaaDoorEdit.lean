/-
  What editError, Edit, PlaceOf, lineStart, lineEnd return, in package lex.
-/
import Derived.Test.YtadicempblgmhaaDoorOffset
import Derived.Lib.IndexLaws
namespace Go.Proofs.YtadicempblgmhaaDoor
open Go.RowKit Go.Shelf

namespace Lx
/-- The error of a change, from the lengths. -/
def editErr (n f t m : Int) : Int := if f < 0 ∨ t < f ∨ n < t then 1 else if 20000 < n - (t - f) + m then 3 else 0
/-- Where the line of an offset begins. -/
def lineStart (l : List UInt8) : Nat → Nat
  | 0 => 0
  | k + 1 => if l[k]? = some 10 then k + 1 else lineStart l k
theorem lineStart_le (l : List UInt8) : ∀ k, lineStart l k ≤ k
  | 0 => Nat.le_refl _
  | k + 1 => by
    simp only [lineStart]
    split
    · exact Nat.le_refl _
    · exact Nat.le_succ_of_le (lineStart_le l k)
/-- Where the line of an offset ends. -/
def lineEnd (l : List UInt8) (k : Nat) : Nat := if 0 ≤ Lib.indexByte (l.drop k) 10 then k + (Lib.indexByte (l.drop k) 10).toNat else l.length
theorem place_line (l : List UInt8) : ∀ k, k ≤ l.length → (place l k).1 = (l.take k).count 10 + 1 ∧ (place l k).2 + lineStart l k = k + 1
  | 0, _ => by simp [place_zero, lineStart]
  | k + 1, h => by
    have ih := place_line l k (by omega)
    have hlt : k < l.length := by omega
    rw [place_succ l k hlt, List.take_succ_eq_append_getElem hlt, List.count_append]
    simp only [lineStart, List.getElem?_eq_getElem hlt, Option.some.injEq, pstep]
    by_cases h10 : l[k] = 10
    · simp only [h10, if_true]
      simp
      omega
    · simp only [h10, if_false]
      have := lineStart_le l k
      refine ⟨?_, by omega⟩
      rw [ih.1]
      simp [h10]
end Lx

theorem lastIdx_start (s : ByteArray) : ∀ k, k ≤ s.size → Lib.lastIdx s 10 k + 1 = (Lx.lineStart s.data.toList k : Int)
  | 0, _ => rfl
  | k + 1, h => by
    have hlt : k < s.data.toList.length := by simp; omega
    have hg : s.data[k]! = s.data.toList[k] := by
      rw [getElem!_pos s.data k (by simpa using hlt)]; simp
    simp only [Lx.lineStart, List.getElem?_eq_getElem hlt, Option.some.injEq]
    by_cases h10 : s.data.toList[k] = 10
    · rw [if_pos h10, Lib.lastIdx_hit s 10 k (by rw [hg, h10]; rfl)]
      simp
    · rw [if_neg h10, Lib.lastIdx_miss s 10 k (by
        rw [hg]; intro e; apply h10; apply UInt8.toNat_inj.1; rw [show (10 : UInt8).toNat = 10 from rfl]; omega)]
      exact lastIdx_start s k (by omega)
theorem lineStart_take (l : List UInt8) (k : Nat) : ∀ j, j ≤ k → Lx.lineStart (l.take k) j = Lx.lineStart l j
  | 0, _ => rfl
  | j + 1, h => by
    simp only [Lx.lineStart]
    rw [lineStart_take l k j (by omega), show (l.take k)[j]? = l[j]? from by rw [List.getElem?_take, if_pos (by omega)]]
theorem last_start (s : ByteArray) (k : Nat) (h : k ≤ s.size) : Lib.lastIndexByte (s.extract 0 k) 10 + 1 = (Lx.lineStart s.data.toList k : Int) := by
  have h2 : (s.extract 0 k).size = k := by simp; omega
  unfold Lib.lastIndexByte
  rw [lastIdx_start (s.extract 0 k) _ (Nat.le_refl _), h2]
  rw [show (s.extract 0 k).data.toList = s.data.toList.take k from by rw [Lib.extract_data]; simp]
  rw [lineStart_take _ _ _ (Nat.le_refl _)]

theorem lineStart_any (s : ByteArray) (k : Nat) (w : World) (hs : s.size ≤ 900000) (hk : k ≤ s.size) :
    Calls Tryd.prog 83 #[.string s, .int .i64 k] w fun e w' => e = .returned (.int .i64 (Lx.lineStart s.data.toList k)) ∧ w' = w := by
  have hst := last_start s k hk
  have hle := Lx.lineStart_le s.data.toList k
  have cL := Tryd.strings_LastIndexByte (s.extract 0 k) 10 (by simp; omega) w
  generalize Lib.lastIndexByte (s.extract 0 k) 10 = n at *
  generalize Lx.lineStart s.data.toList k = m at *
  have CL := Lib.hid cL
  clear cL
  go_enter Tryd.func83, Tryd.ntmps83
  go_wp2_with (go_at_call 75; refine CL.out.mono ?_; rintro e w' ⟨rfl, rfl⟩)
  go_ret
  exact ⟨by rw [← hst]; rfl, rfl⟩

theorem lineEnd_any (s : ByteArray) (k : Nat) (w : World) (hs : s.size ≤ 900000) (hk : k ≤ s.size) :
    Calls Tryd.prog 84 #[.string s, .int .i64 k] w fun e w' => e = .returned (.int .i64 (Lx.lineEnd s.data.toList k)) ∧ w' = w := by
  have cL := Tryd.strings_IndexByte (s.extract k s.size) 10 w
  have hd : (s.extract k s.size).data.toList = s.data.toList.drop k := by rw [Lib.extract_data, List.take_of_length_le (by simp)]
  have hen : Lx.lineEnd s.data.toList k = if 0 ≤ Lib.indexByte (s.data.toList.drop k) 10 then k + (Lib.indexByte (s.data.toList.drop k) 10).toNat else s.size := by
    unfold Lx.lineEnd; rw [show s.data.toList.length = s.size from by simp]
  rw [hd, show (10 : Int).toNat.toUInt8 = 10 from rfl] at cL
  have hge := Lib.indexByte_ge (s.data.toList.drop k) 10
  have hlt : Lib.indexByte (s.data.toList.drop k) 10 ≤ s.size - k := by
    by_cases h : 0 ≤ Lib.indexByte (s.data.toList.drop k) 10
    · have h1 := (Lib.indexByte_some (l := s.data.toList.drop k) (c := 10) (o := (Lib.indexByte (s.data.toList.drop k) 10).toNat) (by omega)).1
      have h2 := (List.getElem?_eq_some_iff.1 h1).1
      rw [List.length_drop, show s.data.toList.length = s.size from by simp] at h2
      omega
    · omega
  generalize Lib.indexByte (s.data.toList.drop k) 10 = n at *
  generalize Lx.lineEnd s.data.toList k = m at *
  have CL := Lib.hid cL
  have HEN := Lib.hid hen
  clear cL hen hd
  go_enter Tryd.func84, Tryd.ntmps84
  by_cases h0 : 0 ≤ n
  · go_wp2_with (go_at_call 116; refine CL.out.mono ?_; rintro e w' ⟨rfl, rfl⟩)
    go_ret
    refine ⟨?_, rfl⟩
    rw [HEN.out, if_pos h0]
    go_num
  · go_wp2_with (go_at_call 116; refine CL.out.mono ?_; rintro e w' ⟨rfl, rfl⟩)
    go_ret
    refine ⟨?_, rfl⟩
    rw [HEN.out, if_neg (by omega)]
    rfl

/-- A change's value. -/
abbrev chVal (f t : Int) (x : ByteArray) : Value := .agg #[.int .i64 f, .int .i64 t, .string x]

theorem editError_any (s x : ByteArray) (f t : Int) (w : World) (hs : s.size ≤ 900000) (hx : x.size ≤ 900000) :
    Calls Tryd.prog 77 #[.string s, chVal f t x] w fun e w' => e = .returned (.int .i64 (Lx.editErr s.size f t x.size)) ∧ Below w.heap.size w w' := by
  have hb : Below w.heap.size w (w.alloc (.cells #[.int .i64 f, .int .i64 t, .string x] 60)) := (Below.refl _ _).alloc (Nat.le_refl _) _
  have HB := Lib.hid hb
  clear hb
  by_cases h1 : f < 0
  · have he : Lx.editErr s.size f t x.size = 1 := by unfold Lx.editErr; rw [if_pos (.inl h1)]
    rw [he]
    clear he
    go_enter Tryd.func77, Tryd.ntmps77
    go_wp2
    go_ret
    exact ⟨rfl, HB.out⟩
  · by_cases h2 : t < f
    · have he : Lx.editErr s.size f t x.size = 1 := by unfold Lx.editErr; rw [if_pos (.inr (.inl h2))]
      rw [he]
      clear he
      go_enter Tryd.func77, Tryd.ntmps77
      go_wp2
      go_ret
      exact ⟨rfl, HB.out⟩
    · by_cases h3 : (s.size : Int) < t
      · have he : Lx.editErr s.size f t x.size = 1 := by unfold Lx.editErr; rw [if_pos (.inr (.inr h3))]
        rw [he]
        clear he
        go_enter Tryd.func77, Tryd.ntmps77
        go_wp2
        go_ret
        exact ⟨rfl, HB.out⟩
      · by_cases h4 : (20000 : Int) < s.size - (t - f) + x.size
        · have he : Lx.editErr s.size f t x.size = 3 := by unfold Lx.editErr; rw [if_neg (by omega), if_pos h4]
          rw [he]
          clear he
          go_enter Tryd.func77, Tryd.ntmps77
          go_wp2
          go_ret
          exact ⟨rfl, HB.out⟩
        · have he : Lx.editErr s.size f t x.size = 0 := by unfold Lx.editErr; rw [if_neg (by omega), if_neg h4]
          rw [he]
          clear he
          go_enter Tryd.func77, Tryd.ntmps77
          go_wp2
          go_ret
          exact ⟨rfl, HB.out⟩

namespace Lx
def edited (l x : List UInt8) (f t : Int) : List UInt8 × Int :=
  if editErr l.length f t x.length = 0 then (l.take f.toNat ++ x ++ l.drop t.toNat, 0) else ([], editErr l.length f t x.length)
theorem editErr_ok {n f t m : Int} (h : editErr n f t m = 0) : 0 ≤ f ∧ f ≤ t ∧ t ≤ n ∧ n - (t - f) + m ≤ 20000 := by
  unfold editErr at h
  split at h
  · cases h
  · split at h
    · cases h
    · omega
end Lx

set_option maxHeartbeats 1000000 in
theorem Edit_any (s x : ByteArray) (f t : Int) (w : World) (hs : s.size ≤ 900000) (hx : x.size ≤ 900000) :
    Calls Tryd.prog 37 #[.string s, chVal f t x] w fun e w' => e = .returned (.tuple #[.string ⟨(Lx.edited s.data.toList x.data.toList f t).1.toArray⟩, .int .i64 (Lx.edited s.data.toList x.data.toList f t).2]) ∧ Below w.heap.size w w' := by
  have hE := fun w => editError_any s x f t w hs hx
  have hed : Lx.edited s.data.toList x.data.toList f t = if Lx.editErr s.size f t x.size = 0 then (s.data.toList.take f.toNat ++ x.data.toList ++ s.data.toList.drop t.toNat, 0) else ([], Lx.editErr s.size f t x.size) := by
    unfold Lx.edited
    rw [show s.data.toList.length = s.size from by simp, show x.data.toList.length = x.size from by simp]
  rw [hed]
  clear hed
  have hok := fun h => Lx.editErr_ok (n := s.size) (f := f) (t := t) (m := x.size) h
  generalize Lx.editErr s.size f t x.size = er at *
  have HE := Lib.hid hE
  have hb : Below w.heap.size w (w.alloc (.cells #[.int .i64 f, .int .i64 t, .string x] 60)) := (Below.refl _ _).alloc (Nat.le_refl _) _
  have HB := Lib.hid hb
  clear hE hb
  by_cases h0 : er = 0
  · subst h0
    obtain ⟨k1, k2, k3, k4⟩ := hok rfl
    obtain ⟨f', rfl⟩ := Int.eq_ofNat_of_zero_le k1
    obtain ⟨t', rfl⟩ := Int.eq_ofNat_of_zero_le (Int.le_trans k1 k2)
    have hcat : (⟨(s.data.toList.take f' ++ x.data.toList ++ s.data.toList.drop t').toArray⟩ : ByteArray) = s.extract 0 f' ++ x ++ s.extract t' s.size := by
      apply ByteArray.ext
      apply Array.toList_inj.1
      simp only [ByteArray.data_append, Array.toList_append, Lib.extract_data]
      simp
      rw [List.take_of_length_le (by simp)]
    rw [if_pos rfl]
    dsimp only [Int.toNat_natCast]
    rw [hcat]
    clear hcat
    go_enter Tryd.func37, Tryd.ntmps37
    go_wp2_with (go_at_call 77; refine (HE.out _).mono ?_; rintro e w' ⟨e1, hb⟩; subst e1)
    have c1 : (w.alloc (.cells #[.int .i64 f', .int .i64 t', .string x] 60)).cell? ⟨w.heap.size, 0, none⟩ = some (.int .i64 f') := (Has.new w 60 #[.int .i64 f', .int .i64 t', .string x]).cell 0
    have c2 : (w.alloc (.cells #[.int .i64 f', .int .i64 t', .string x] 60)).cell? ⟨w.heap.size, 1, none⟩ = some (.int .i64 t') := (Has.new w 60 #[.int .i64 f', .int .i64 t', .string x]).cell 1
    have c3 : (w.alloc (.cells #[.int .i64 f', .int .i64 t', .string x] 60)).cell? ⟨w.heap.size, 2, none⟩ = some (.string x) := (Has.new w 60 #[.int .i64 f', .int .i64 t', .string x]).cell 2
    have d1 := kept_below hb (Nat.le_refl _) _ _ c1
    have d2 := kept_below hb (Nat.le_refl _) _ _ c2
    have d3 := kept_below hb (Nat.le_refl _) _ _ c3
    have hlt : w.heap.size < w'.heap.size := by have := hb.size; simp at this; omega
    have hb2 := HB.out.trans (hb.mono (by simp))
    have HB2 := Lib.hid hb2
    clear c1 c2 c3 hb2 hb HB HE
    go_quiet (fail)
    go_wp2
    go_ret2
    exact ⟨rfl, HB2.out.trans ⟨rfl, rfl, rfl, Nat.le_refl _, fun _ _ => rfl⟩⟩
  · rw [if_neg h0]
    go_enter Tryd.func37, Tryd.ntmps37
    go_wp2_with (go_at_call 77; refine (HE.out _).mono ?_; rintro e w' ⟨rfl, hb⟩)
    go_ret2
    exact ⟨rfl, HB.out.trans (hb.mono (by simp))⟩

set_option maxHeartbeats 1000000 in
theorem PlaceOf_bad (s : ByteArray) (k : Int) (w : World) (hs : s.size ≤ 900000) (hk : k < 0 ∨ (s.size : Int) < k) :
    Calls Tryd.prog 35 #[.string s, .int .i64 k] w fun e w' => e = .returned (.tuple #[.agg #[.int .i64 0, .int .i64 0], .int .i64 1]) ∧ Below w.heap.size w w' := by
  have c0 : (w.alloc (.cells #[.int .i64 0, .int .i64 0] 37)).cell? ⟨w.heap.size, 0, none⟩ = some (.int .i64 0) := (Has.new w 37 #[.int .i64 0, .int .i64 0]).cell 0
  have c1 : (w.alloc (.cells #[.int .i64 0, .int .i64 0] 37)).cell? ⟨w.heap.size, 1, none⟩ = some (.int .i64 0) := (Has.new w 37 #[.int .i64 0, .int .i64 0]).cell 1
  by_cases h0 : k < 0
  · go_enter Tryd.func35, Tryd.ntmps35
    go_wp2
    refine bodyPost_ret (v := .tuple #[.agg #[.int .i64 0, .int .i64 0], .int .i64 1]) ?_ rfl ⟨rfl, (Below.refl _ _).alloc (Nat.le_refl _) _⟩
    simp [results, Tryd.results35, go_sem, c0, c1]
  · go_enter Tryd.func35, Tryd.ntmps35
    go_wp2
    refine bodyPost_ret (v := .tuple #[.agg #[.int .i64 0, .int .i64 0], .int .i64 1]) ?_ rfl ⟨rfl, (Below.refl _ _).alloc (Nat.le_refl _) _⟩
    simp [results, Tryd.results35, go_sem, c0, c1]

set_option maxHeartbeats 1000000 in
theorem PlaceOf_any (s : ByteArray) (k : Nat) (w : World) (hs : s.size ≤ 900000) (hk : k ≤ s.size) :
    Calls Tryd.prog 35 #[.string s, .int .i64 k] w fun e w' => e = .returned (.tuple #[.agg #[.int .i64 (Lx.place s.data.toList k).1, .int .i64 (Lx.place s.data.toList k).2], .int .i64 0]) ∧ Below w.heap.size w w' := by
  have hpl := Lx.place_line s.data.toList k (by simpa using hk)
  have hst := last_start s k hk
  have hle := Lx.lineStart_le s.data.toList k
  have hcl := List.count_le_length (l := s.data.toList.take k) (a := (10 : UInt8))
  rw [List.length_take] at hcl
  have cC := fun w => Tryd.strings_Count_one (s.extract 0 k) 10 w
  have cL := fun w => Tryd.strings_LastIndexByte (s.extract 0 k) 10 (by simp; omega) w
  rw [show (s.extract 0 k).data.toList = s.data.toList.take k from by rw [Lib.extract_data]; simp, show Lib.countByte (s.data.toList.take k) 10 = (s.data.toList.take k).count 10 from rfl] at cC
  generalize Lib.lastIndexByte (s.extract 0 k) 10 = n at *
  generalize Lx.lineStart s.data.toList k = m at *
  generalize (s.data.toList.take k).count 10 = c at *
  have hp1 : ((Lx.place s.data.toList k).1 : Int) = c + 1 := by omega
  have hp2 : ((Lx.place s.data.toList k).2 : Int) = k - n := by omega
  rw [hp1, hp2]
  clear hp1 hp2 hpl
  have CC := Lib.hid cC
  have CL := Lib.hid cL
  clear cC cL
  have hpn : Has (w.alloc (.cells #[.int .i64 0, .int .i64 0] 37)) w.heap.size 37 #[.int .i64 0, .int .i64 0] := Has.new _ _ _
  have f0 := hpn.free 0
  have f1 := hpn.free 1
  have a0 := hpn.cell 0
  have a1 := hpn.cell 1
  simp only [List.getElem?_toArray, List.getElem?_cons_zero, List.getElem?_cons_succ] at a0 a1
  go_enter Tryd.func35, Tryd.ntmps35
  go_wp2_with (first | (go_at_call 74; refine (CC.out _).mono ?_; rintro e w' ⟨rfl, rfl⟩) | (go_at_call 75; refine (CL.out _).mono ?_; rintro e w' ⟨rfl, rfl⟩))
  refine bodyPost_ret (v := .tuple #[.agg #[.int .i64 ((c : Int) + 1), .int .i64 ((k : Int) - n)], .int .i64 0]) ?_ rfl ⟨rfl, ?_⟩
  · simp [results, Tryd.results35, go_sem]
  · exact (Below.refl _ _).alloc (Nat.le_refl _) _
end Go.Proofs.YtadicempblgmhaaDoor
