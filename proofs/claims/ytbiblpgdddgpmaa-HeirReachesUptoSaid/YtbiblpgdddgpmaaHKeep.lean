/-
  What keep returns of names, in package heir, whatever function it is given.
-/
import Derived.Test.YtbiblpgdddgpmaaHSources
namespace Go.Proofs.Ytbiblpgdddgpmaa
open Go.RowKit Go.Shelf

set_option maxRecDepth 100000 in
set_option maxHeartbeats 1000000 in
theorem keep_any (fn : Nat) (lb : Array Value) (eg : ∀ args w, (callFunc fn args).run Try.prog w = .ok (.enter fn args) w) (want : Hr.Nm → Bool) (v : Value) (l : List Hr.Nm) (w : World) (h : NmsAt w v l) (hl : l.length ≤ 1000000)
    (hF : ∀ x ∈ l, ∀ W, Below w.heap.size w W → Calls Try.prog fn (#[nm x] ++ lb) W fun e W' => e = .returned (.bool (want x)) ∧ Below W.heap.size W W') :
    Calls Try.prog 35 #[v, .func (.func fn) #[] lb] w fun e w' => ∃ o, e = .returned o ∧ w'.ownsRow w.heap.size 9 1 o (l.filter want).length (nmRow (l.filter want)) ∧ Below w.heap.size w w' := by
  obtain ⟨i0, hi, hz0, hz1, hz2⟩ := info_parts strInfo
  have HC := Lib.hid h
  have HF := Lib.hid hF
  obtain ⟨A, c, rfl, -⟩ := h
  clear hF
  go_enter Try.func35, Try.ntmps35
  go_wp2_with fail
  generalize hg : w.heap.size = g at *
  go_loopw [5, 10] (fun o i wr => ∃ k : Nat, k ≤ l.length ∧ i = .int .i64 k ∧ Hid (wr.ownsRow g 9 1 o ((l.take k).filter want).length (nmRow ((l.take k).filter want))) ∧ Hid (Below g w wr)) (fun _ i _ => l.length - (intOf i).toNat)
  case atStart => exact ⟨0, Nat.zero_le _, rfl, World.ownsRow_nil _ _ _ _, by rw [← hg]; exact Below.refl _ _⟩
  case round =>
    obtain ⟨k, hk, rfl, HO, HB⟩ := hrel
    by_cases hlt : k < l.length
    · obtain ⟨A', c', hv, hat1⟩ := HC.out.below HB.out (by omega)
      cases hv
      obtain ⟨b, o, hA, hat⟩ := hat1 (by omega)
      subst hA
      have c0 := hat k hlt
      have hblt := World.block_lt_of_cell? _ _ c0
      have hcall := HF.out l[k] (List.getElem_mem hlt) wr HB.out
      have hst : (l.take (k + 1)).filter want = (l.take k).filter want ++ (if want l[k] then [l[k]] else []) := by
        rw [List.take_succ_eq_append_getElem hlt, List.filter_append]
        congr 1
        cases hwl : want l[k] <;> simp [hwl]
      have hfl : ((l.take k).filter want).length ≤ 1000000 := Nat.le_trans (List.length_filter_le _ _) (by rw [List.length_take]; omega)
      have hw1 : IntKind.i64.wrap ((k : Int) + 1) = (k : Int) + 1 := IntWalk.i64_in _ (by omega)
      have hltI : (k : Int) < l.length := by omega
      have HST := Lib.hid hst
      have HCL := Lib.hid hcall
      clear hst hcall hat hat1
      generalize (l.take k).filter want = pre at *
      generalize want l[k] = bw at *
      generalize l[k] = N at *
      cases bw with
      | false =>
        go_wp2_with (refine HCL.out.mono ?_; rintro e w4 ⟨rfl, hb4⟩)
        have h4 := own_below HO.out hb4 (Nat.le_refl _)
        have hs := HB.out.size
        go_roundw
        case rel =>
          refine ⟨k + 1, by omega, by go_num, ?_, HB.out.trans (hb4.mono (by omega))⟩
          show World.ownsRow _ _ _ _ _ _ _
          rw [HST.out]
          simpa using h4
        case measure => simp [intOf]; omega
      | true =>
        have hs : g ≤ wr.heap.size := by have := HB.out.size; omega
        go_wp2_with (first
          | (refine HCL.out.mono ?_
             rintro e w4 ⟨rfl, hb4⟩
             have hs4 := hb4.size
             have O5 : Hid ((w4.alloc (.cells #[nm N] 9)).ownsRow g 9 1 u5 pre.length (nmRow pre)) := (own_below HO.out hb4 (Nat.le_refl _)).alloc _
             have B5 : Hid (Below g w (w4.alloc (.cells #[nm N] 9))) := (HB.out.trans (hb4.mono hs)).alloc (by omega) _
             have N1 := Lib.hid (one_new w4 (nm N) 9)
             have N7 : Hid (g ≤ (w4.alloc (.cells #[nm N] 9)).heap.size) := by show _ ≤ _; simp; omega
             have N8 : Hid (pre.length + 1 ≤ maxLen) := by show _ ≤ _; unfold maxLen; omega
             have N9 : Hid ((pre.length + 1) * 16 ≤ 140737488355328) := by show _ ≤ _; omega
             clear hb4)
          | (at_builtin; refine wpList_append_own_at _ rfl _ _ 26 rfl g 9 i0 (.string ⟨#[]⟩) 1 16 Try.underlying26 hi hz0 hz1 hz2 rfl (by decide) _ _ _ rfl O5.out ⟨w4.heap.size, 0, none⟩ 1 1 [nm N] rfl rfl N1.out (by simp [Value.oneCell']) N8.out N9.out N7.out ?_
             intro v' w5 hown5 hg5 _ hat5
             have R1 := Lib.hid hown5
             have R2 := Lib.hid (Below.grown B5.out hg5 N7.out (fun g hg => own_ge O5.out hg))
             clear hown5 hg5 hat5))
        go_roundw
        case rel =>
          refine ⟨k + 1, by omega, by go_num, ?_, R2⟩
          show World.ownsRow _ _ _ _ _ _ _
          rw [HST.out]
          simp only [if_true]
          rw [nmRow_snoc, List.length_append]
          exact R1.out
        case measure => simp [intOf]; omega
    · obtain rfl : k = l.length := by omega
      go_wp2_with fail
      go_ret
      refine ⟨_, rfl, ?_, ?_⟩
      · have h := HO.out
        rw [List.take_length] at h
        first | exact h | (rw [hg]; exact h)
      · first | exact HB.out | (rw [hg]; exact HB.out)
end Go.Proofs.Ytbiblpgdddgpmaa
