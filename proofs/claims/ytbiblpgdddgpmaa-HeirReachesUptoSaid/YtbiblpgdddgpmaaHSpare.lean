/-
  What keep returns of links, in package heir, whatever function it is given; what Needless returns of a valid system.
-/
import Derived.Test.YtbiblpgdddgpmaaHLeast
namespace Go.Proofs.Ytbiblpgdddgpmaa
open Go.RowKit Go.Shelf
attribute [local go_sem] Oper.semAt_some

theorem linkInfoK : (Try.prog.info? 64).map (fun i => (i.zero, i.size, i.bytes)) = some (some (.agg #[.string ⟨#[]⟩, .string ⟨#[]⟩]), 2, 32) := by kernel_rfl
theorem link_new (w : World) (x : Hr.Nm × Hr.Nm) : ∀ i u, ([nm x.1, nm x.2] : List Value)[i]? = some u → (w.alloc (.cells #[nm x.1, nm x.2] 64)).cell? ((⟨w.heap.size, 0, none⟩ : Addr).add i) = some u := fun i u hu => by
  have := (Has.new w 64 #[nm x.1, nm x.2]).cell i
  rw [show ((⟨w.heap.size, 0, none⟩ : Addr).add i) = ⟨w.heap.size, i, none⟩ from by unfold Addr.add; split <;> simp_all]
  rw [this]; simpa using hu

set_option maxRecDepth 100000 in
set_option maxHeartbeats 1000000 in
theorem keepL_any (fn : Nat) (lb : Array Value) (eg : ∀ args w, (callFunc fn args).run Try.prog w = .ok (.enter fn args) w) (want : Hr.Nm × Hr.Nm → Bool) (v : Value) (l : List (Hr.Nm × Hr.Nm)) (w : World) (h : LinksAt w v l) (hl : l.length ≤ 1000000)
    (hF : ∀ x ∈ l, ∀ W, Below w.heap.size w W → Calls Try.prog fn (#[.agg #[nm x.1, nm x.2]] ++ lb) W fun e W' => e = .returned (.bool (want x)) ∧ Below W.heap.size W W') :
    Calls Try.prog 72 #[v, .func (.func fn) #[] lb] w fun e w' => ∃ o, e = .returned o ∧ w'.ownsRow w.heap.size 64 2 o (l.filter want).length (linkCells (l.filter want)) ∧ Below w.heap.size w w' := by
  obtain ⟨i0, hi, hz0, hz1, hz2⟩ := info_parts linkInfoK
  have HC := Lib.hid h
  have HF := Lib.hid hF
  obtain ⟨-, A, c, rfl, -⟩ := h
  clear hF
  go_enter Try.func72, Try.ntmps72
  go_wp2_with fail
  generalize hg : w.heap.size = g at *
  go_loopw [5, 10] (fun o i wr => ∃ k : Nat, k ≤ l.length ∧ i = .int .i64 k ∧ Hid (wr.ownsRow g 64 2 o ((l.take k).filter want).length (linkCells ((l.take k).filter want))) ∧ Hid (Below g w wr)) (fun _ i _ => l.length - (intOf i).toNat)
  case atStart => exact ⟨0, Nat.zero_le _, rfl, World.ownsRow_nil _ _ _ _, by rw [← hg]; exact Below.refl _ _⟩
  case round =>
    obtain ⟨k, hk, rfl, HO, HB⟩ := hrel
    by_cases hlt : k < l.length
    · obtain ⟨-, A', c', hv, -, hat1⟩ := HC.out.below HB.out (by omega)
      cases hv
      obtain ⟨b, o, hA, hat⟩ := hat1 (by omega)
      subst hA
      obtain ⟨c0, c1⟩ := hat k hlt
      have hblt := World.block_lt_of_cell? _ _ c0
      have hs : g ≤ wr.heap.size := by have := HB.out.size; omega
      have hb1 : Below wr.heap.size wr (wr.alloc (.cells #[nm l[k].1, nm l[k].2] 64)) := (Below.refl _ _).alloc (Nat.le_refl _) _
      have hcall := HF.out l[k] (List.getElem_mem hlt) _ (HB.out.alloc hs (.cells #[nm l[k].1, nm l[k].2] 64))
      have hst : (l.take (k + 1)).filter want = (l.take k).filter want ++ (if want l[k] then [l[k]] else []) := by
        rw [List.take_succ_eq_append_getElem hlt, List.filter_append]
        congr 1
        cases hwl : want l[k] <;> simp [hwl]
      have hfl : ((l.take k).filter want).length ≤ 1000000 := Nat.le_trans (List.length_filter_le _ _) (by rw [List.length_take]; omega)
      have hw1 : IntKind.i64.wrap ((k : Int) + 1) = (k : Int) + 1 := IntWalk.i64_in _ (by omega)
      have hltI : (k : Int) < l.length := by omega
      have HST := Lib.hid hst
      have HCL := Lib.hid hcall
      have HB1 := Lib.hid (HB.out.alloc hs (.cells #[nm l[k].1, nm l[k].2] 64))
      have HO1 := Lib.hid (HO.out.alloc (.cells #[nm l[k].1, nm l[k].2] 64))
      have HX1 : Hid (Has (wr.alloc (.cells #[nm l[k].1, nm l[k].2] 64)) wr.heap.size 64 #[nm l[k].1, nm l[k].2]) := Has.new _ _ _
      clear hst hcall hat hat1 hb1
      generalize (l.take k).filter want = pre at *
      generalize want l[k] = bw at *
      generalize l[k] = X at *
      obtain ⟨N, M⟩ := X
      dsimp only at *
      cases bw with
      | false =>
        go_wp2_with (refine HCL.out.mono ?_; rintro e w4 ⟨rfl, hb4⟩)
        have h4 := own_below HO1.out hb4 (Nat.le_refl _)
        have hs := HB1.out.size
        go_roundw
        case rel =>
          refine ⟨k + 1, by omega, by go_num, ?_, HB1.out.trans (hb4.mono (by omega))⟩
          show World.ownsRow _ _ _ _ _ _ _
          rw [HST.out]
          simpa using h4
        case measure => simp [intOf]; omega
      | true =>
        go_wp2_with (first
          | (refine HCL.out.mono ?_
             rintro e w4 ⟨rfl, hb4⟩
             have hs4 := hb4.size
             have hx4 := HX1.out.below hb4 HX1.out.lt
             have y0 := hx4.cell 0
             have y1 := hx4.cell 1
             have ylt := hx4.lt
             simp only [List.getElem?_toArray, List.getElem?_cons_zero, List.getElem?_cons_succ] at y0 y1
             have hs1 : g ≤ w4.heap.size := by rw [World.size_alloc] at hs4; omega
             have O5 : Hid ((w4.alloc (.cells #[nm N, nm M] 64)).ownsRow g 64 2 u5 pre.length (linkCells pre)) := (own_below HO1.out hb4 (Nat.le_refl _)).alloc _
             have B5 : Hid (Below g w (w4.alloc (.cells #[nm N, nm M] 64))) := (HB1.out.trans (hb4.mono (by rw [World.size_alloc]; omega))).alloc hs1 _
             have N1 := Lib.hid (link_new w4 (N, M))
             have N7 : Hid (g ≤ (w4.alloc (.cells #[nm N, nm M] 64)).heap.size) := by show _ ≤ _; simp; omega
             have N8 : Hid (pre.length + 1 ≤ maxLen) := by show _ ≤ _; unfold maxLen; omega
             have N9 : Hid ((pre.length + 1) * 32 ≤ 140737488355328) := by show _ ≤ _; omega
             clear hb4 hx4)
          | (at_builtin; refine wpList_append_own_at _ rfl _ _ 59 rfl g 64 i0 (.agg #[.string ⟨#[]⟩, .string ⟨#[]⟩]) 2 32 Try.underlying59 hi hz0 hz1 hz2 rfl (by decide) _ _ _ rfl O5.out ⟨w4.heap.size, 0, none⟩ 1 1 [nm N, nm M] rfl rfl N1.out (by simp [Value.oneCell']) N8.out N9.out N7.out ?_
             intro v' w5 hown5 hg5 _ hat5
             have R1 := Lib.hid hown5
             have R2 := Lib.hid (Below.grown B5.out hg5 N7.out (fun g hg => own_ge O5.out hg))
             clear hown5 hg5 hat5))
        go_roundw
        case rel =>
          refine ⟨k + 1, by omega, by go_num, ?_, R2⟩
          show World.ownsRow _ _ _ _ _ _ _
          rw [HST.out]
          simp only [if_true]
          rw [linkCells_append, List.length_append]
          exact R1.out
        case measure => simp [intOf]; omega
    · obtain rfl : k = l.length := by omega
      go_wp2_with fail
      go_ret
      refine ⟨_, rfl, ?_, ?_⟩
      · have h := HO.out
        rw [List.take_length] at h
        first | exact h | (rw [hg]; exact h)
      · first | exact HB.out | (rw [hg]; exact HB.out)
end Go.Proofs.Ytbiblpgdddgpmaa
