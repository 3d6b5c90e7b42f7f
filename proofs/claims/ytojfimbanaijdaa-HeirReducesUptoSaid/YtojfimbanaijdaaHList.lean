/-
  What className, parentName and each of them return, in package heir.
-/
import Derived.Test.YtojfimbanaijdaaHIs
namespace Go.Proofs.Ytojfimbanaijdaa
open Go.RowKit Go.Shelf

theorem className_any (N : Hr.Nm) (d : Bool) (A2 A3 A4 A5 A6 : Option Addr) (n2 c2 n3 c3 n4 c4 n5 c5 n6 c6 : Nat) (w : World) :
    Calls Try.prog 37 #[.agg #[nm N, .bool d, .slice A2 n2 c2, .slice A3 n3 c3, .slice A4 n4 c4, .slice A5 n5 c5, .slice A6 n6 c6]] w fun e w' => e = .returned (nm N) ∧ w' = w.alloc (.cells #[nm N, .bool d, .slice A2 n2 c2, .slice A3 n3 c3, .slice A4 n4 c4, .slice A5 n5 c5, .slice A6 n6 c6] 48) := by
  go_enter Try.func37, Try.ntmps37
  go_wp2_with fail
  go_ret
  exact ⟨rfl, rfl⟩
theorem parentName_any (N : Hr.Nm) (A2 A3 A4 A5 A6 : Option Addr) (n2 c2 n3 c3 n4 c4 n5 c5 n6 c6 : Nat) (w : World) :
    Calls Try.prog 79 #[.agg #[nm N, .slice A2 n2 c2, .slice A3 n3 c3, .slice A4 n4 c4, .slice A5 n5 c5, .slice A6 n6 c6]] w fun e w' => e = .returned (nm N) ∧ w' = w.alloc (.cells #[nm N, .slice A2 n2 c2, .slice A3 n3 c3, .slice A4 n4 c4, .slice A5 n5 c5, .slice A6 n6 c6] 52) := by
  go_enter Try.func79, Try.ntmps79
  go_wp2_with fail
  go_ret
  exact ⟨rfl, rfl⟩

theorem one_new (w : World) (x : Value) (t : TypeId) : ∀ j u, ([x] : List Value)[j]? = some u → (w.alloc (.cells #[x] t)).cell? ((⟨w.heap.size, 0, none⟩ : Addr).add j) = some u :=
  fun j u h => World.news_of_block (w := w.alloc (.cells #[x] t)) (B := w.heap.size) (cs := #[x]) (t := t) (fr := (0, 0)) (Has.new w t #[x]) j u h

set_option maxRecDepth 100000 in
set_option maxHeartbeats 1000000 in
theorem eachClass_any (v : Value) (S : List Hr.Cls) (w : World) (h : SysAt w v S) (hS : S.length ≤ 1000000) :
    Calls Try.prog 36 #[v, .func (.func 37) #[] #[]] w fun e w' => ∃ o, e = .returned o ∧ w'.ownsRow w.heap.size 9 1 o (S.map (·.name)).length (nmRow (S.map (·.name))) ∧ Below w.heap.size w w' := by
  obtain ⟨i0, hi, hz0, hz1, hz2⟩ := info_parts strInfo
  have HC := Lib.hid h
  obtain ⟨A, c, rfl, -⟩ := h
  go_enter Try.func36, Try.ntmps36
  go_wp2_with fail
  generalize hg : w.heap.size = g at *
  go_loopw [5, 10] (fun o i wr => ∃ k : Nat, k ≤ S.length ∧ i = .int .i64 k ∧ Hid (wr.ownsRow g 9 1 o ((S.take k).map (·.name)).length (nmRow ((S.take k).map (·.name)))) ∧ Hid (Below g w wr)) (fun _ i _ => S.length - (intOf i).toNat)
  case atStart => exact ⟨0, Nat.zero_le _, rfl, World.ownsRow_nil _ _ _ _, by rw [← hg]; exact Below.refl _ _⟩
  case round =>
    obtain ⟨k, hk, rfl, HO, HB⟩ := hrel
    by_cases hlt : k < S.length
    · obtain ⟨A', c', hv, hat1⟩ := HC.out.below HB.out (by omega)
      cases hv
      obtain ⟨b, o, hA, hat⟩ := hat1 (by omega)
      subst hA
      clear hat1
      obtain ⟨hn, c0, d1, A2, n2, k2, A3, k3, A4, n4, k4, A5, n5, k5, A6, n6, k6, c1, c2, c3, -, c4, c5, c6⟩ := hat k hlt
      have hblt := World.block_lt_of_cell? _ _ c0
      have hst : (S.take (k + 1)).map (·.name) = (S.take k).map (·.name) ++ [S[k].name] := by rw [List.take_succ_eq_append_getElem hlt, List.map_append]; rfl
      have hln : ((S.take k).map (·.name)).length = k := by rw [List.length_map, List.length_take]; omega
      have hw1 : IntKind.i64.wrap ((k : Int) + 1) = (k : Int) + 1 := IntWalk.i64_in _ (by omega)
      have hltI : (k : Int) < S.length := by omega
      have HST := Lib.hid hst
      have HLN := Lib.hid hln
      clear hst hln hat
      generalize (S.take k).map (·.name) = pre at *
      generalize S[k].name = N at *
      generalize S[k].ups.length = n3 at *
      have hpl : pre.length ≤ 1000000 := by rw [HLN.out]; omega
      have hBs := HB.out.size
      have O5 : Hid (World.ownsRow (((wr.alloc (.cells #[nm N, .bool d1, .slice A2 n2 k2, .slice A3 n3 k3, .slice A4 n4 k4, .slice A5 n5 k5, .slice A6 n6 k6] 48)).alloc (.cells #[nm N, .bool d1, .slice A2 n2 k2, .slice A3 n3 k3, .slice A4 n4 k4, .slice A5 n5 k5, .slice A6 n6 k6] 48)).alloc (.cells #[nm N] 9)) g 9 1 u5 pre.length (nmRow pre)) := ((HO.out.alloc _).alloc _).alloc _
      have B5 : Hid (Below g w (((wr.alloc (.cells #[nm N, .bool d1, .slice A2 n2 k2, .slice A3 n3 k3, .slice A4 n4 k4, .slice A5 n5 k5, .slice A6 n6 k6] 48)).alloc (.cells #[nm N, .bool d1, .slice A2 n2 k2, .slice A3 n3 k3, .slice A4 n4 k4, .slice A5 n5 k5, .slice A6 n6 k6] 48)).alloc (.cells #[nm N] 9))) := ((HB.out.alloc (by omega) _).alloc (by simp; omega) _).alloc (by simp; omega) _
      have N1 := Lib.hid (one_new ((wr.alloc (.cells #[nm N, .bool d1, .slice A2 n2 k2, .slice A3 n3 k3, .slice A4 n4 k4, .slice A5 n5 k5, .slice A6 n6 k6] 48)).alloc (.cells #[nm N, .bool d1, .slice A2 n2 k2, .slice A3 n3 k3, .slice A4 n4 k4, .slice A5 n5 k5, .slice A6 n6 k6] 48)) (nm N) 9)
      rw [World.size_alloc, World.size_alloc] at N1
      have N7 : Hid (g ≤ (((wr.alloc (.cells #[nm N, .bool d1, .slice A2 n2 k2, .slice A3 n3 k3, .slice A4 n4 k4, .slice A5 n5 k5, .slice A6 n6 k6] 48)).alloc (.cells #[nm N, .bool d1, .slice A2 n2 k2, .slice A3 n3 k3, .slice A4 n4 k4, .slice A5 n5 k5, .slice A6 n6 k6] 48)).alloc (.cells #[nm N] 9)).heap.size) := by show _ ≤ _; simp; omega
      have N8 : Hid (pre.length + 1 ≤ maxLen) := by show _ ≤ _; unfold maxLen; omega
      have N9 : Hid ((pre.length + 1) * 16 ≤ 140737488355328) := by show _ ≤ _; omega
      go_wp2_with (first
        | (go_at_call 37; refine (className_any N d1 A2 _ A4 A5 A6 n2 k2 n3 k3 n4 k4 n5 k5 n6 k6 _).mono ?_; rintro e w' ⟨rfl, rfl⟩)
        | (at_builtin; refine wpList_append_own_at _ rfl _ _ 26 rfl g 9 i0 (.string ⟨#[]⟩) 1 16 Try.underlying26 hi hz0 hz1 hz2 rfl (by decide) _ _ _ rfl O5.out ⟨wr.heap.size + 1 + 1, 0, none⟩ 1 1 [nm N] rfl rfl N1.out (by simp [Value.oneCell']) N8.out N9.out N7.out ?_))
      intro v' w5 hown5 hg5 _ hat5
      have hb5 := Below.grown B5.out hg5 N7.out (fun g hg => own_ge O5.out hg)
      have R1 := Lib.hid hown5
      have R2 := Lib.hid hb5
      clear hown5 hb5 hg5 hat5
      go_wp2_with fail
      go_roundw
      case rel =>
        refine ⟨k + 1, by omega, by go_num, ?_, R2⟩
        show World.ownsRow _ _ _ _ _ _ _
        rw [HST.out, nmRow_snoc, List.length_append]
        exact R1.out
      case measure => simp [intOf]; omega
    · obtain rfl : k = S.length := by omega
      go_wp2_with fail
      go_ret
      refine ⟨_, rfl, ?_, ?_⟩
      · have h := HO.out
        rw [List.take_length] at h
        first | exact h | (rw [List.length_map] at h; exact h) | (rw [hg]; exact h)
      · first | exact HB.out | (rw [hg]; exact HB.out)
set_option maxRecDepth 100000 in
set_option maxHeartbeats 1000000 in
theorem eachParent_any (v : Value) (l : List Hr.Nm) (w : World) (h : UpsAt w v l) (hl : l.length ≤ 1000000) :
    Calls Try.prog 78 #[v, .func (.func 79) #[] #[]] w fun e w' => ∃ o, e = .returned o ∧ w'.ownsRow w.heap.size 9 1 o l.length (nmRow l) ∧ Below w.heap.size w w' := by
  obtain ⟨i0, hi, hz0, hz1, hz2⟩ := info_parts strInfo
  have HC := Lib.hid h
  obtain ⟨A, c, rfl, -⟩ := h
  go_enter Try.func78, Try.ntmps78
  go_wp2_with fail
  generalize hg : w.heap.size = g at *
  go_loopw [5, 10] (fun o i wr => ∃ k : Nat, k ≤ l.length ∧ i = .int .i64 k ∧ Hid (wr.ownsRow g 9 1 o (l.take k).length (nmRow (l.take k))) ∧ Hid (Below g w wr)) (fun _ i _ => l.length - (intOf i).toNat)
  case atStart => exact ⟨0, Nat.zero_le _, rfl, World.ownsRow_nil _ _ _ _, by rw [← hg]; exact Below.refl _ _⟩
  case round =>
    obtain ⟨k, hk, rfl, HO, HB⟩ := hrel
    by_cases hlt : k < l.length
    · obtain ⟨A', c', hv, hat1⟩ := HC.out.keep (kept_below HB.out (by omega))
      cases hv
      obtain ⟨b, o, hA, hat⟩ := hat1 (by omega)
      subst hA
      clear hat1
      obtain ⟨hn, c0, A2, n2, k2, A3, n3, k3, A4, n4, k4, A5, n5, k5, A6, n6, k6, c1, c2, c3, c4, c5⟩ := hat k hlt
      have hblt := World.block_lt_of_cell? _ _ c0
      have hst : l.take (k + 1) = l.take k ++ [l[k]] := by rw [List.take_succ_eq_append_getElem hlt]
      have hln : (l.take k).length = k := by rw [List.length_take]; omega
      have hw1 : IntKind.i64.wrap ((k : Int) + 1) = (k : Int) + 1 := IntWalk.i64_in _ (by omega)
      have hltI : (k : Int) < l.length := by omega
      have HST := Lib.hid hst
      have HLN := Lib.hid hln
      clear hst hln hat
      generalize l.take k = pre at *
      generalize l[k] = N at *
      have hpl : pre.length ≤ 1000000 := by rw [HLN.out]; omega
      have hBs := HB.out.size
      have O5 : Hid (World.ownsRow (((wr.alloc (.cells #[nm N, .slice A2 n2 k2, .slice A3 n3 k3, .slice A4 n4 k4, .slice A5 n5 k5, .slice A6 n6 k6] 52)).alloc (.cells #[nm N, .slice A2 n2 k2, .slice A3 n3 k3, .slice A4 n4 k4, .slice A5 n5 k5, .slice A6 n6 k6] 52)).alloc (.cells #[nm N] 9)) g 9 1 u5 pre.length (nmRow pre)) := ((HO.out.alloc _).alloc _).alloc _
      have B5 : Hid (Below g w (((wr.alloc (.cells #[nm N, .slice A2 n2 k2, .slice A3 n3 k3, .slice A4 n4 k4, .slice A5 n5 k5, .slice A6 n6 k6] 52)).alloc (.cells #[nm N, .slice A2 n2 k2, .slice A3 n3 k3, .slice A4 n4 k4, .slice A5 n5 k5, .slice A6 n6 k6] 52)).alloc (.cells #[nm N] 9))) := ((HB.out.alloc (by omega) _).alloc (by simp; omega) _).alloc (by simp; omega) _
      have N1 := Lib.hid (one_new ((wr.alloc (.cells #[nm N, .slice A2 n2 k2, .slice A3 n3 k3, .slice A4 n4 k4, .slice A5 n5 k5, .slice A6 n6 k6] 52)).alloc (.cells #[nm N, .slice A2 n2 k2, .slice A3 n3 k3, .slice A4 n4 k4, .slice A5 n5 k5, .slice A6 n6 k6] 52)) (nm N) 9)
      rw [World.size_alloc, World.size_alloc] at N1
      have N7 : Hid (g ≤ (((wr.alloc (.cells #[nm N, .slice A2 n2 k2, .slice A3 n3 k3, .slice A4 n4 k4, .slice A5 n5 k5, .slice A6 n6 k6] 52)).alloc (.cells #[nm N, .slice A2 n2 k2, .slice A3 n3 k3, .slice A4 n4 k4, .slice A5 n5 k5, .slice A6 n6 k6] 52)).alloc (.cells #[nm N] 9)).heap.size) := by show _ ≤ _; simp; omega
      have N8 : Hid (pre.length + 1 ≤ maxLen) := by show _ ≤ _; unfold maxLen; omega
      have N9 : Hid ((pre.length + 1) * 16 ≤ 140737488355328) := by show _ ≤ _; omega
      go_wp2_with (first
        | (go_at_call 79; refine (parentName_any N A2 A3 A4 A5 A6 n2 k2 n3 k3 n4 k4 n5 k5 n6 k6 _).mono ?_; rintro e w' ⟨rfl, rfl⟩)
        | (at_builtin; refine wpList_append_own_at _ rfl _ _ 26 rfl g 9 i0 (.string ⟨#[]⟩) 1 16 Try.underlying26 hi hz0 hz1 hz2 rfl (by decide) _ _ _ rfl O5.out ⟨wr.heap.size + 1 + 1, 0, none⟩ 1 1 [nm N] rfl rfl N1.out (by simp [Value.oneCell']) N8.out N9.out N7.out ?_))
      intro v' w5 hown5 hg5 _ hat5
      have hb5 := Below.grown B5.out hg5 N7.out (fun g hg => own_ge O5.out hg)
      have R1 := Lib.hid hown5
      have R2 := Lib.hid hb5
      clear hown5 hb5 hg5 hat5
      go_wp2_with fail
      go_roundw
      case rel =>
        refine ⟨k + 1, by omega, by go_num, ?_, R2⟩
        show World.ownsRow _ _ _ _ _ _ _
        rw [HST.out, nmRow_snoc, List.length_append]
        exact R1.out
      case measure => simp [intOf]; omega
    · obtain rfl : k = l.length := by omega
      go_wp2_with fail
      go_ret
      refine ⟨_, rfl, ?_, ?_⟩
      · have h := HO.out
        rw [List.take_length] at h
        first | exact h | (rw [List.length_map] at h; exact h) | (rw [hg]; exact h)
      · first | exact HB.out | (rw [hg]; exact HB.out)
end Go.Proofs.Ytojfimbanaijdaa
