/-
  What graphOf returns, in package heir: the graph of some links.
-/
import Derived.Test.YtojfimbanaijdaaHFirsts
namespace Go.Proofs.Ytojfimbanaijdaa
open Go.RowKit Go.Shelf

set_option maxRecDepth 100000 in
set_option maxHeartbeats 1000000 in
theorem graphOf_any (v : Value) (L : List (Hr.Nm × Hr.Nm)) (w : World) (h : LinksAt w v L) (hL : L.length ≤ 1000000) :
    Calls Try.prog 46 #[v] w fun e w' => ∃ x, e = .returned x ∧ GraphAt w' w'.heap.size x L ∧ Below w.heap.size w w' := by
  have HC := Lib.hid h
  obtain ⟨hfine, A, c, rfl, hcap, -⟩ := h
  have HFI := Lib.hid hfine
  clear hfine
  have hE : ∃ wE g : _, g = w.heap.size ∧ wE = ((w.alloc (.cells #[.slice none 0 0, .map none] 73)).alloc (.map #[] 0)).alloc (.cells #[.slice A L.length c, .map (some (w.heap.size + 1))] 73) := ⟨_, _, rfl, rfl⟩
  have h0 : MI (((w.alloc (.cells #[.slice none 0 0, .map none] 73)).alloc (.map #[] 0)).alloc (.cells #[.slice A L.length c, .map (some (w.heap.size + 1))] 73)) (w.heap.size + 1) 0 (fun s => (Hr.firstLink (L.take 0) s).map Int.ofNat) := by
    have h := MapI.made (P := Try.prog) (k := 9) (e := 3) (w.alloc (.cells #[.slice none 0 0, .map none] 73))
    rw [World.size_alloc] at h
    exact h.alloc _
  have h1 : Has (((w.alloc (.cells #[.slice none 0 0, .map none] 73)).alloc (.map #[] 0)).alloc (.cells #[.slice A L.length c, .map (some (w.heap.size + 1))] 73)) w.heap.size 73 #[.slice none 0 0, .map none] := ((Has.new _ _ _).alloc _).alloc _
  have h2 : Has (((w.alloc (.cells #[.slice none 0 0, .map none] 73)).alloc (.map #[] 0)).alloc (.cells #[.slice A L.length c, .map (some (w.heap.size + 1))] 73)) (w.heap.size + 1 + 1) 73 #[.slice A L.length c, .map (some (w.heap.size + 1))] := by
    have h := Has.new ((w.alloc (.cells #[.slice none 0 0, .map none] 73)).alloc (.map #[] 0)) 73 #[.slice A L.length c, .map (some (w.heap.size + 1))]
    rw [World.size_alloc, World.size_alloc] at h
    exact h
  have h3 : Below w.heap.size w (((w.alloc (.cells #[.slice none 0 0, .map none] 73)).alloc (.map #[] 0)).alloc (.cells #[.slice A L.length c, .map (some (w.heap.size + 1))] 73)) :=
    (((Below.refl _ _).alloc (Nat.le_refl _) _).alloc (by simp) _).alloc (by simp; omega) _
  have H0 := Lib.hid h0
  have H1 := Lib.hid h1
  have H2 := Lib.hid h2
  have H3 := Lib.hid h3
  clear h0 h1 h2 h3 hE
  have hmm := @run_makeMap Try.prog
  go_enter Try.func46, Try.ntmps46
  go_wp2_with fail
  generalize ((w.alloc (.cells #[.slice none 0 0, .map none] 73)).alloc (.map #[] 0)).alloc (.cells #[.slice A L.length c, .map (some (w.heap.size + 1))] 73) = wE at *
  generalize hg : w.heap.size = g at *
  go_loopw [11] (fun i wr => ∃ k : Nat, k ≤ L.length ∧ i = .int .i64 k ∧ Hid (MI wr (g + 1) k (fun s => (Hr.firstLink (L.take k) s).map Int.ofNat)) ∧ Hid (Below g w wr) ∧ Hid (Has wr g 73 #[.slice none 0 0, .map none]) ∧ Hid (Has wr (g + 1 + 1) 73 #[.slice A L.length c, .map (some (g + 1))])) (fun i _ => L.length - (intOf i).toNat)
  case atStart => exact ⟨0, Nat.zero_le _, rfl, H0, H3, H1, H2⟩
  case round =>
    obtain ⟨k, hk, rfl, HM, HB, HG0, HG2⟩ := hrel
    have e0 := HG2.out.cell 0
    have e1 := HG2.out.cell 1
    simp only [List.getElem?_toArray, List.getElem?_cons_zero, List.getElem?_cons_succ] at e0 e1
    have glt := HG2.out.lt
    by_cases hlt : k < L.length
    · obtain ⟨-, A', c', hv, hcap', hat1⟩ := HC.out.below HB.out (by omega)
      cases hv
      obtain ⟨b, o, hA, hat⟩ := hat1 (by omega)
      subst hA
      clear hat1
      obtain ⟨c0, c1⟩ := hat k hlt
      have hn := (HFI.out L[k] (List.getElem_mem _)).1
      have hblt := World.block_lt_of_cell? _ _ c0
      have hkt : ((fun s => (Hr.firstLink (L.take k) s).map Int.ofNat) L[k].1).isSome = false → upd (fun s => (Hr.firstLink (L.take k) s).map Int.ofNat) L[k].1 (k : Int) = fun s => (Hr.firstLink (L.take (k + 1)) s).map Int.ofNat :=
        fun h => Hr.firstLink_upd L k hlt (by cases hx : Hr.firstLink (L.take k) L[k].1 <;> simp_all)
      have hkk : ((fun s => (Hr.firstLink (L.take k) s).map Int.ofNat) L[k].1).isSome = true → (fun s => (Hr.firstLink (L.take k) s).map Int.ofNat) = fun s => (Hr.firstLink (L.take (k + 1)) s).map Int.ofNat :=
        fun h => Hr.firstLink_keep L k hlt (by intro hx; simp [hx] at h)
      have HKT := Lib.hid hkt
      have HKK := Lib.hid hkk
      clear hkt hkk hat
      have hw1 : IntKind.i64.wrap ((k : Int) + 1) = (k : Int) + 1 := IntWalk.i64_in _ (by omega)
      have hltI : (k : Int) < L.length := by omega
      generalize (fun s => (Hr.firstLink (L.take k) s).map Int.ofNat) = fk at *
      obtain ⟨fk', hfk'⟩ : ∃ f, f = fun s => (Hr.firstLink (L.take (k + 1)) s).map Int.ofNat := ⟨_, rfl⟩
      rw [← hfk'] at HKT HKK
      have HFK := Lib.hid hfk'
      clear hfk'
      generalize L[k].1 = N at *
      generalize L[k].2 = N2 at *
      have HM1 := Lib.hid (HM.out.alloc (.cells #[nm N, nm N2] 64))
      have hgr : g + 1 < wr.heap.size := HM.out.lt
      clear HM
      have HB1 := Lib.hid (HB.out.alloc (by omega) (.cells #[nm N, nm N2] 64))
      have HG0' := Lib.hid (HG0.out.alloc (.cells #[nm N, nm N2] 64))
      have HG2' := Lib.hid (HG2.out.alloc (.cells #[nm N, nm N2] 64))
      clear HG0 HG2
      by_cases hf : (fk N).isSome = true
      · have HF := Lib.hid (HKK.out hf)
        have hf2 : (fk N).isNone = false := by cases hx : fk N <;> simp_all
        clear HKT HKK HB
        go_wp2_with (go_at_call 45; refine (has_any (g + 1) k _ _ _ hn HM1.out).mono ?_; rintro e w' ⟨rfl, rfl⟩)
        go_roundw
        case rel => exact ⟨k + 1, by omega, by go_num, by have h := HM1.out.mono (Nat.le_succ k); rw [HF.out, HFK.out] at h; exact h, HB1.out, HG0', HG2'⟩
        case measure => simp [intOf]; omega
      · have hf' : (fk N).isSome = false := by simpa using hf
        have HF := Lib.hid (HKT.out hf')
        have hf2 : (fk N).isNone = true := by cases hx : fk N <;> simp_all
        have hwf : (Lit.int .i64 (k : Int)).wf = true := WalkArith.wf_i64 (by omega)
        clear HKT HKK HB hf
        go_wp2_with (first
          | (go_at_call 45; refine (has_any (g + 1) k _ _ _ hn HM1.out).mono ?_; rintro e w' ⟨rfl, rfl⟩)
          | (at_mapUpdate; refine wpI_store rfl _ _ _ rfl Try.underlying9 tMap Try.underlying3 rfl HM1.out (by simp [maxLen]; omega) _ rfl (size_fine hn) _ rfl hwf (fun w' hm' hg' => ?_); clear HM1))
        have hB2 : Below g w w' := HB1.out.grown hg' (by rw [World.size_alloc]; omega) (fun r e => by cases e; omega)
        go_roundw
        case rel => exact ⟨k + 1, by omega, by go_num, by have h := hm'; rw [HF.out, HFK.out] at h; exact h, hB2, HG0'.out.grown hg' (by simp), HG2'.out.grown hg' (by simp)⟩
        case measure => simp [intOf]; omega
    · obtain rfl : k = L.length := by omega
      have z0 := HG0.out.cell 0
      have z1 := HG0.out.cell 1
      simp only [List.getElem?_toArray, List.getElem?_cons_zero, List.getElem?_cons_succ] at z0 z1
      have zf0 := HG0.out.free 0
      have zf1 := HG0.out.free 1
      have zlt := HG0.out.lt
      have hB1 : Below g w (wr.setCell ⟨g, 0, none⟩ (.slice A L.length c)) := HB.out.grown (grown_set _ _ _ _) (by omega) (fun r e => by cases e; omega)
      have hB2 : Below g w ((wr.setCell ⟨g, 0, none⟩ (.slice A L.length c)).setCell ⟨g, 1, none⟩ (.map (some (g + 1)))) := hB1.grown (grown_set _ _ _ _) (by have := hB1.size; omega) (fun r e => by cases e; omega)
      have hM1 := (HM.out.kept (grown_set wr g 0 (.slice A L.length c)) (by simp)).kept (grown_set _ g 1 (.map (some (g + 1)))) (by simp)
      rw [List.take_length] at hM1
      have hH1 := ((HG0.out.set 0 (.slice A L.length c)).set 1 (.map (some (g + 1))))
      have r0 := hH1.cell 0
      have r1 := hH1.cell 1
      simp only [List.getElem?_toArray, List.setIfInBounds_toArray, List.set_cons_zero, List.set_cons_succ, List.getElem?_cons_zero, List.getElem?_cons_succ] at r0 r1
      have HB2 := Lib.hid hB2
      have HM1 := Lib.hid hM1
      clear hB1 hB2 hM1 hH1
      go_wp2_with fail
      refine bodyPost_ret (v := .agg #[.slice A L.length c, .map (some (g + 1))]) ?_ rfl ⟨_, rfl, ⟨A, c, g + 1, L.length, rfl, HC.out.below HB2.out (by omega), HM1.out.lt, HM1.out⟩, ?_⟩
      · simp [results, Try.results46, go_sem, r0, r1]
      · rw [hg]; exact HB2.out
end Go.Proofs.Ytojfimbanaijdaa
