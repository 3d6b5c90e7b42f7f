/-
  What withoutNote and Strip return, in package lex.
-/
import Derived.Test.YtadicempblgmhaaDoorStripP
import Derived.Test.YtadicempblgmhaaDoorText
namespace Go.Proofs.YtadicempblgmhaaDoor
open Go.RowKit Go.Shelf
attribute [local go_sem] Oper.semAt_some

namespace Lx
theorem find_not {l : List (Nat × List UInt8)} {p : Nat × List UInt8 → Bool} (h : ∀ x ∈ l, p x = false) : l.find? p = none := by
  rw [List.find?_eq_none]
  intro x hx
  rw [h x hx]
  decide
theorem find_at {l pre : List (Nat × List UInt8)} {x : Nat × List UInt8} {p : Nat × List UInt8 → Bool} (hl : pre ++ [x] <+: l) (h : ∀ y ∈ pre, p y = false) (hx : p x = true) : l.find? p = some x := by
  obtain ⟨t, rfl⟩ := hl
  rw [List.append_assoc, List.find?_append, find_not h, List.singleton_append, List.find?_cons, hx]
  rfl
end Lx

/-- A run, its offset ahead of it, within a line of n bytes. -/
abbrev RunIn (n : Nat) := { x : Nat × List UInt8 // x.1 ≤ n ∧ x.2.length ≤ 900000 }
abbrev encRunIn {n : Nat} (x : RunIn n) : Array Value := #[.int .i64 x.1.1, .string ⟨x.1.2.toArray⟩]
set_option maxRecDepth 100000 in
set_option maxHeartbeats 1000000 in
theorem runs_stopsIn (n : Nat) (hn : 1 ≤ n) (bx : Nat) (s : ByteArray) (w : World) (hs : s.size ≤ 900000) (hbx : w.cell? ⟨bx, 0, none⟩ = some (.string s)) (hE : Env w) :
    SeqStopsK Fence.wide n Tryd.prog 127 #[.pointer (some ⟨bx, 0, none⟩)] (encRunIn (n := s.size)) (KeptBox bx) (fun xs => xs.map (·.1) = Lx.runs s.data.toList) (fun pre => pre.map (·.1) <+: Lx.runs s.data.toList) (Lx.runs s.data.toList).length w := fun l J Jx W hW _ _ hY h0 => by
  have hb0 : W.cell? ⟨bx, 0, none⟩ = some (.string s) := (hW.cell (p := ⟨bx, 0, none⟩) (World.block_lt_of_cell? w _ hbx)).trans hbx
  have hE0 := hE.below hW (Nat.le_refl _)
  refine callsIn_of_wp Tryd.func127 rfl trivial ?_ rfl
  simp only [Tryd.ntmps127, List.size_toArray, List.length_cons, List.length_nil, Nat.reduceAdd, Nat.reduceSub, Array.replicate_succ, Array.replicate_zero, List.push_toArray, List.append_toArray, List.nil_append, List.cons_append]
  gi_wp2
  gi_loopw [3] (fun v wr => ∃ (k : Nat) (pre : List (RunIn s.size)), v = .int .i64 k ∧ k ≤ s.size ∧ Hid (pre.map (·.1) ++ Lx.runsAt s.data.toList k = Lx.runs s.data.toList) ∧ J pre wr ∧ wr.cell? ⟨bx, 0, none⟩ = some (.string s) ∧ Env wr) (fun v wr => s.size - (intOf v).toNat)
  case atStart => exact ⟨0, [], rfl, Nat.zero_le _, rfl, h0, hb0, hE0⟩
  case round =>
    obtain ⟨k, pre, rfl, hk, HP, hJ, hc, hEr⟩ := hrel
    by_cases hlt : k < s.size
    · have hdl : (s.extract k s.size).data.toList = s.data.toList.drop k := by
        rw [Lib.extract_data, List.take_of_length_le (by simp)]
      have hk' : k < s.data.toList.length := by simpa using hlt
      have hst := Lx.runsAt_step s.data.toList k hk'
      have hle := Lx.runLength_le (s.data.toList.drop k)
      have hps : 1 ≤ Lx.runLength (s.data.toList.drop k) := by
        rw [List.drop_eq_getElem_cons (by simpa using hlt)]; exact Lx.runLength_pos _ _
      rw [List.length_drop, show s.data.toList.length = s.size from by simp] at hle
      have cR := fun w hE => runLength_in (n - 1) (s.extract k s.size) w (by simp; omega) hE (by simp; omega)
      rw [hdl] at cR
      have hsub : (⟨((s.data.toList.drop k).take (Lx.runLength (s.data.toList.drop k))).toArray⟩ : ByteArray) = s.extract k (k + Lx.runLength (s.data.toList.drop k)) := by
        rw [Lib.extract_eq, Nat.add_sub_cancel_left]
      have hbd : ((s.data.toList.drop k).take (Lx.runLength (s.data.toList.drop k))).length ≤ 900000 := by
        rw [List.length_take]; simp; omega
      generalize hN : Lx.runLength (s.data.toList.drop k) = N at hst hle hps cR hsub hbd
      have CR := Lib.hid cR
      have HST := Lib.hid hst
      have HSUB := Lib.hid hsub
      clear cR hst hsub hdl hN
      by_cases h32 : ((s[k].toNat : Int) != 32) = true
      · have hnot : s.data.toList[k]'hk' ≠ 32 := by
          intro h
          rw [getElem_toList] at h
          rw [h] at h32
          simp at h32
        have HP2 : (pre ++ [(⟨(k, (s.data.toList.drop k).take N), ⟨by omega, hbd⟩⟩ : RunIn s.size)]).map (·.1) ++ Lx.runsAt s.data.toList (k + N) = Lx.runs s.data.toList := by
          rw [← HP.out, HST.out, if_neg hnot]; simp
        have hlt2 : pre.length < (Lx.runs s.data.toList).length := by
          rw [← HP2]; simp
        obtain ⟨fn, tmps, assign, body, hy, hR⟩ := hY pre ⟨(k, (s.data.toList.drop k).take N), ⟨by omega, hbd⟩⟩ wr hJ hlt2
        dsimp only [encRunIn] at hy
        rw [HSUB.out] at hy
        have HP2' := Lib.hid HP2
        clear hlt2 HP2 hnot HP
        gi_wp2_with (refine ⟨trivial, ?_⟩; gi_at_call 107; refine (CR.out _ hEr).mono ?_; rintro e w1 ⟨rfl, rfl⟩)
        refine hR.mono ?_
        rintro e W3 (⟨rfl, hJ3, hk3⟩ | ⟨rfl, hJx3⟩)
        · gi_wp2
          go_roundw
          case rel => exact ⟨k + N, _, by go_num, by omega, HP2', hJ3, hk3.1 _ hc, hk3.2 hEr⟩
          case measure => simp [intOf]; omega
        · gi_wp2
          refine bodyPost_ret (results_none rfl _ _ _) rfl ?_
          exact ⟨⟨_, rfl⟩, .inr ⟨_, ⟨_, HP2'.out⟩, hJx3⟩⟩
      · have h32' : ((s[k].toNat : Int) != 32) = false := by simpa using h32
        clear h32
        have hyes : s.data.toList[k]'hk' = 32 := by
          rw [getElem_toList]
          apply UInt8.toNat_inj.1
          simp at h32'
          simp; omega
        have HP2 : pre.map (·.1) ++ Lx.runsAt s.data.toList (k + N) = Lx.runs s.data.toList := by
          rw [← HP.out, HST.out, if_pos hyes]; simp
        have HP2' := Lib.hid HP2
        clear HP2 hyes HP
        gi_wp2_with (refine ⟨trivial, ?_⟩; gi_at_call 107; refine (CR.out _ hEr).mono ?_; rintro e w1 ⟨rfl, rfl⟩)
        refine ⟨fun _ h => (by cases h), ?_⟩
        gi_wp2
        go_roundw
        case rel => exact ⟨k + N, _, by go_num, by omega, HP2', hJ, hc, hEr⟩
        case measure => simp [intOf]; omega
    · gi_wp2
      go_end0
      refine ⟨⟨_, rfl⟩, .inl ⟨pre, ?_, hJ⟩⟩
      have := HP.out
      rw [Lx.runsAt_end _ _ (by simp; omega), List.append_nil] at this
      exact this
theorem hasMark_any (s : ByteArray) (w : World) :
    Calls Tryd.prog 47 #[.string s, .string ⟨#[45, 45]⟩] w fun e w' => e = .returned (.bool ([45, 45].isPrefixOf s.data.toList)) ∧ w = w' :=
  (Tryd.strings_HasPrefix s ⟨#[45, 45]⟩ w).mono fun _ _ ⟨he, hw⟩ => ⟨he, hw.symm⟩

set_option maxRecDepth 100000 in
set_option maxHeartbeats 2000000 in
theorem withoutNote_any (s : ByteArray) (w : World) (hs : s.size ≤ 100000) (hE : Env w) :
    Calls Tryd.prog 93 #[.string s] w fun e w' => e = .returned (.string ⟨(Lx.cut s.data.toList).toArray⟩) ∧ Below w.heap.size w w' := by
  refine (callsIn_wide (n := 5)).1 ?_
  refine callsIn_of_wp_marks Tryd.func93 rfl trivial ?_ rfl
  simp only [Tryd.ntmps93, List.size_toArray, List.length_cons, List.length_nil, Nat.reduceAdd, Nat.reduceSub, Array.replicate_succ, Array.replicate_zero, List.push_toArray, List.append_toArray, List.nil_append, List.cons_append]
  have RS := fun w => runs_in 4 s w
  gi_wp2_with (refine ⟨trivial, ?_⟩; gi_at_call 114; refine (RS _).mono ?_; rintro e w' ⟨rfl, rfl⟩)
  clear RS
  obtain ⟨w4, hw4⟩ : ∃ w4, w4 = ((w.alloc (.cells #[.string s] 9)).alloc (.cells #[.string ⟨#[]⟩] 9)).alloc (.cells #[.string s] 9) := ⟨_, rfl⟩
  rw [← hw4]
  have hB4 : Below w.heap.size w w4 := by rw [hw4]; exact (((Below.refl _ _).alloc (Nat.le_refl _) _).alloc (by simp) _).alloc (by simp; omega) _
  have hp : Has w4 w.heap.size 9 #[.string s] := by rw [hw4]; exact ((Has.new _ _ _).alloc _).alloc _
  have h4 : Has w4 (w.heap.size + 1) 9 #[.string ⟨#[]⟩] := by
    rw [hw4]; have := (Has.new (w.alloc (.cells #[.string s] 9)) 9 #[.string ⟨#[]⟩]).alloc (.cells #[.string s] 9)
    rw [World.size_alloc] at this; exact this
  have hb : Has w4 (w.heap.size + 1 + 1) 9 #[.string s] := by
    rw [hw4]; have := Has.new ((w.alloc (.cells #[.string s] 9)).alloc (.cells #[.string ⟨#[]⟩] 9)) 9 #[.string s]
    rw [World.size_alloc, World.size_alloc] at this; exact this
  have hsz4 : w4.heap.size = w.heap.size + 3 := by rw [hw4]; simp
  clear hw4
  have hcut := Lx.without_cut s.data.toList
  have HCUT := Lib.hid hcut
  clear hcut
  have hE' : ∀ W, Below w.heap.size w W → Env W := fun W h => hE.below h (Nat.le_refl _)
  generalize hBw : w.heap.size = B at *
  refine wpIn_rangeFunc_ownG rfl (by decide) (gf := 127) (lb := #[.pointer (some ⟨B + 1 + 1, 0, none⟩)]) rfl trivial (enters_of Tryd.func127 (by kernel_rfl) rfl)
    (runs_stopsIn 4 (by decide) (B + 1 + 1) s w4 (by omega) (by rw [hb.cell 0]; rfl) (hE' _ hB4)) (fun h k => h.trans k) (keptBox_put w4) (Below.refl _ _) (fun _ => rfl)
    (fun pre W => Below B w W ∧ Has W B 9 #[.string s] ∧ Has W (B + 1) 9 #[.string ⟨#[]⟩] ∧ Has W (B + 1 + 1) 9 #[.string s] ∧ Hid (∀ x ∈ pre.map (·.1), [45, 45].isPrefixOf x.2 = false))
    (fun c pre W => c = .ret ∧ Below B w W ∧ ∃ (pre' : List (RunIn s.size)) (x : RunIn s.size), pre = pre' ++ [x] ∧ (∀ y ∈ pre'.map (·.1), [45, 45].isPrefixOf y.2 = false) ∧ [45, 45].isPrefixOf x.1.2 = true ∧ Has W (B + 1) 9 #[.string ⟨(s.data.toList.take x.1.1).toArray⟩])
    ?hI ?hIx ⟨hB4, hp, h4, hb, fun _ h => by cases h⟩
    (fun y : RunIn s.size => { tmps := #[.string s, .pointer (some ⟨B, 0, none⟩), .pointer (some ⟨B + 1, 0, none⟩), .int .i64 y.1.1, .string ⟨y.1.2.toArray⟩, .string s, .func (.func 127) #[] #[.pointer (some ⟨B + 1 + 1, 0, none⟩)], .int .i64 y.1.1, .string ⟨y.1.2.toArray⟩, undef, undef, undef, undef, undef, undef], defers := [] }) ?assign ?body ?done ?stop
  case hI =>
    intro pre X Y row hs hg hr
    obtain ⟨h1, h2, h3, h5, h6⟩ := hs
    have := h2.lt
    exact ⟨h1.grown hg (by omega) (fun k e => by have := (hr k e).1; omega), h2.grown hg (fun e => by have := (hr _ e.symm).1; omega), h3.grown hg (fun e => by have := (hr _ e.symm).1; omega), h5.grown hg (fun e => by have := (hr _ e.symm).1; omega), h6⟩
  case hIx =>
    intro c pre X Y row hs hg hr
    obtain ⟨h1, h2, pre', x, h3, h5, h6, h7⟩ := hs
    have := h7.lt
    exact ⟨h1, h2.grown hg (by omega) (fun k e => by have := (hr k e).1; omega), pre', x, h3, h5, h6, h7.grown hg (fun e => by have := (hr _ e.symm).1; omega)⟩
  case assign =>
    intro l y W K hK
    gi_wp2
    exact hK
  case body =>
    rintro l pre y W ⟨hB, hp, h4, hb, hn⟩ hlN
    have HM := Lib.hid (fun w => hasMark_any ⟨y.1.2.toArray⟩ w)
    have HN := Lib.hid hn
    have hbc := hb.cell 0
    have p0 := hp.cell 0
    have f4 := h4.free 0
    have lt4 := h4.lt
    have ltp := hp.lt
    have r4 := h4.cell 0
    have hyb := y.2.1
    have hsub : s.extract 0 y.1.1 = ⟨(s.data.toList.take y.1.1).toArray⟩ := Lib.extract_upto s y.1.1
    have HSUB := Lib.hid hsub
    clear hsub
    simp only [List.getElem?_toArray, List.getElem?_cons_zero] at hbc p0 r4
    clear hn
    obtain ⟨b, hbd⟩ : ∃ b, b = [45, 45].isPrefixOf y.1.2 := ⟨_, rfl⟩
    rw [show (⟨y.1.2.toArray⟩ : ByteArray).data.toList = y.1.2 from by simp, ← hbd] at HM
    have HBD := Lib.hid hbd
    clear hbd
    cases b with
    | false =>
      gi_wp2_with (refine ⟨trivial, ?_⟩; gi_at_call 47; refine (CallsIn.inRound l (callsIn_wide.2 (HM.out _))).mono ?_; rintro e w2 ⟨rfl, rfl⟩)
      refine ⟨KeepsFrom.refl _ _, ⟨fun _ h => h, fun h => h⟩, hB, hp, h4, hb, fun x hx => ?_⟩
      rw [List.map_append] at hx
      rcases List.mem_append.1 hx with h | h
      · exact HN.out.out x h
      · rw [List.mem_singleton.1 h]; exact HBD.out.symm
    | true =>
      gi_wp2_with (refine ⟨trivial, ?_⟩; gi_at_call 47; refine (CallsIn.inRound l (callsIn_wide.2 (HM.out _))).mono ?_; rintro e w2 ⟨rfl, rfl⟩)
      refine ⟨(KeepsOthers.setCell _ _ _).from _, rfl, hB.setCell (by show B ≤ B + 1; omega) _, pre, y, rfl, HN.out.out, HBD.out.symm, ?_⟩
      have := h4.set 0 (.string (s.extract 0 y.1.1))
      rw [← HSUB.out]
      exact this
  case done =>
    rintro D xs W hD hS ⟨hB, hp, h4, hb, hn⟩ hK
    have p0 := hp.cell 0
    have f4 := h4.free 0
    have lt4 := h4.lt
    have ltp := hp.lt
    have r4 := h4.cell 0
    simp only [List.getElem?_toArray, List.getElem?_cons_zero] at p0 r4
    have hfin : Lx.cut s.data.toList = s.data.toList := by
      rw [← HCUT.out]
      unfold Lx.without
      rw [Lx.find_not (fun x hx => hn.out x (by rw [hS]; exact hx))]
    have HF := Lib.hid hfin
    clear hfin hn hS
    gi_wp2
    rw [HF.out]
    have hK' : (W.setCell ⟨B + 1, 0, none⟩ (.string s)).heap[D]? = some (.deferred (some [])) := (Below.heap_setCell _ _ _ _ (by show D ≠ B + 1; omega)).trans hK
    refine leaves_marks [D] _ (by simp) (fun E hE => by rw [List.mem_singleton.1 hE]; exact hK') ?_
    obtain ⟨g1, g2, g3, g4, g5⟩ := shut_grown [D] (W.setCell ⟨B + 1, 0, none⟩ (.string s))
    have s4 : Has (shut [D] (W.setCell ⟨B + 1, 0, none⟩ (.string s))) (B + 1) 9 #[.string s] := (g5 _ (by simp; omega)).trans (h4.set 0 (.string s))
    have c4 := s4.cell 0
    simp only [List.getElem?_toArray, List.getElem?_cons_zero] at c4
    refine ⟨.string s, ?_, by rw [Lib.mk_data], ?_⟩
    · simp [results, Tryd.results93, go_sem, c4]
    · rw [hBw]
      exact ⟨g2.trans hB.os, g3.trans hB.tape, g4.trans hB.output, by rw [g1]; simp [World.setCell]; exact hB.size, fun k hk => (g5 k (by simp; omega)).trans ((Below.heap_setCell _ _ _ _ (by show k ≠ B + 1; omega)).trans (hB.block k hk))⟩
  case stop =>
    rintro D c pre W hD hSp ⟨rfl, hB, pre', x, rfl, hn, hx, h4⟩ hK
    have hfin : Lx.cut s.data.toList = s.data.toList.take x.1.1 := by
      rw [← HCUT.out]
      unfold Lx.without
      rw [List.map_append, List.map_cons, List.map_nil] at hSp
      rw [Lx.find_at hSp hn hx]
    have HF := Lib.hid hfin
    clear hfin hn hSp hx
    gi_wp2
    rw [HF.out]
    refine leaves_marks [D] _ (by simp) (fun E hE => by rw [List.mem_singleton.1 hE]; exact hK) ?_
    obtain ⟨g1, g2, g3, g4, g5⟩ := shut_grown [D] W
    have s4 : Has (shut [D] W) (B + 1) 9 #[.string ⟨(s.data.toList.take x.1.1).toArray⟩] := (g5 _ (by simp; omega)).trans h4
    have c4 := s4.cell 0
    simp only [List.getElem?_toArray, List.getElem?_cons_zero] at c4
    refine ⟨.string ⟨(s.data.toList.take x.1.1).toArray⟩, ?_, rfl, ?_⟩
    · simp [results, Tryd.results93, go_sem, c4]
    · rw [hBw]
      exact ⟨g2.trans hB.os, g3.trans hB.tape, g4.trans hB.output, by rw [g1]; exact hB.size, fun k hk => (g5 k (by simp; omega)).trans (hB.block k hk)⟩
end Go.Proofs.YtadicempblgmhaaDoor
