/-
  The reference's Join, by contract: it is the program's.
-/
import Derived.Test.YtmmemkkljadglaaDoorRefL
import Derived.Test.YtmmemkkljadglaaDoorJoin
namespace Go.Proofs.YtmmemkkljadglaaDoor
open Go.RowKit Go.Shelf

structure JInv (L : List ByteArray) (w wr : World) (k : Nat) (T : ByteArray) (vl : Value) : Prop where
  hk : k ≤ L.length
  hT : T.data.toList = Lx.joinText (L.take k)
  hz : T.size ≤ 20000
  hb : Has wr (w.heap.size + 1) 74 #[.string T, vl, .int .i64 0]
  ho : wr.ownsRow w.heap.size 3 1 vl k (intCells (Lx.joinLines 1 (L.take k)))
  hr : Has wr w.heap.size 74 #[.string ⟨#[]⟩, .slice none 0 0, .int .i64 0]
  hB : Below w.heap.size w wr
theorem JInv.below {L : List ByteArray} {w wr W : World} {k : Nat} {T : ByteArray} {vl : Value} (h : JInv L w wr k T vl) (hb : Below wr.heap.size wr W) : JInv L w W k T vl :=
  ⟨h.hk, h.hT, h.hz, h.hb.below hb h.hb.lt, own_below h.ho hb (Nat.le_refl _), h.hr.below hb h.hr.lt, h.hB.trans (hb.mono h.hB.size)⟩
/-- The text has grown. -/
theorem JInv.size {L : List ByteArray} {w wr : World} {k : Nat} {T : ByteArray} {vl : Value} (h : JInv L w wr k T vl) : T.size = Lx.joinSize (L.take k) := by
  have := congrArg List.length h.hT
  rw [Lx.joinText_length] at this
  simpa using this

/-- What Join hands back. -/
def JEnd (w : World) (r : List UInt8 × List Nat × Int) (e : Ending) (w' : World) : Prop :=
  ∃ A c, e = .returned (.agg #[.string ⟨r.1.toArray⟩, .slice A r.2.1.length c, .int .i64 r.2.2]) ∧ w'.ownsRow w.heap.size 3 1 (.slice A r.2.1.length c) r.2.1.length (intCells r.2.1) ∧ Below w.heap.size w w'

set_option maxRecDepth 100000 in
set_option maxHeartbeats 4000000 in
theorem rJoin_any (v : Value) (L : List ByteArray) (w : World) (hl : StrsAt w v L) (hlen : L.length ≤ 100000) (hs : ∀ s ∈ L, s.size ≤ 100000) :
    Calls Tryd.prog 34 #[v] w (JEnd w (Lx.joined L)) := by
  have HL := Lib.hid hl
  obtain ⟨A, c, rfl, -⟩ := hl
  obtain ⟨i0, hi, hz0, hz1, hz2⟩ := info_parts intInfo
  have hdef : Lx.joined L = if 24 < L.length then ([], [], 3) else if 20000 < Lx.joinSize L then ([], [], 3) else (Lx.joinText L, Lx.joinLines 1 L, 0) := rfl
  generalize Lx.joined L = fin at *
  have HD := Lib.hid hdef
  clear hdef
  by_cases h24 : (24 : Int) < L.length
  · have HF := Lib.hid (HD.out.trans (if_pos (by omega)))
    go_enter Tryd.func34, Tryd.ntmps34
    go_wp2_with fail
    refine bodyPost_ret (v := .agg #[.string ⟨#[]⟩, .slice none 0 0, .int .i64 3]) (by simp [results, Tryd.results34, go_sem]) rfl ?_
    rw [HF.out]
    exact ⟨_, _, rfl, World.ownsRow_nil _ _ _ _, (Below.refl _ _).alloc (Nat.le_refl _) _⟩
  · have HF := Lib.hid (HD.out.trans (if_neg (by omega)))
    clear HD
    go_enter Tryd.func34, Tryd.ntmps34
    go_wp2_with fail
    go_loopw [4, 5] (fun ln i wr => ∃ (k : Nat) (T : ByteArray) (vl : Value), i = .int .i64 k ∧ ln = .int .i64 (Lx.lineAfter 1 (L.take k)) ∧ JInv L w wr k T vl) (fun _ i _ => L.length - (intOf i).toNat)
    case atStart =>
      refine ⟨0, ⟨#[]⟩, .slice none 0 0, rfl, by simp [Lx.lineAfter], ⟨Nat.zero_le _, by simp [Lx.joinText], Nat.zero_le _, ?_, World.ownsRow_nil _ _ _ _, ?_, ?_⟩⟩
      · have := Has.new (w.alloc (.cells #[.string ⟨#[]⟩, .slice none 0 0, .int .i64 0] 74)) 74 #[.string ⟨#[]⟩, .slice none 0 0, .int .i64 0]
        rw [World.size_alloc] at this
        exact this
      · exact (Has.new _ _ _).alloc _
      · exact ((Below.refl _ _).alloc (Nat.le_refl _) _).alloc (by simp) _
    case round =>
      obtain ⟨k, T, vl, rfl, rfl, hI⟩ := hrel
      have hk := hI.hk
      have hz := hI.hz
      have hTs := hI.size
      obtain ⟨Av, cv, rfl⟩ := own_len hI.ho
      have I := Lib.hid hI
      clear hI
      have r0 := I.out.hr.cell 0
      have r1 := I.out.hr.cell 1
      have r2 := I.out.hr.cell 2
      have fr0 := I.out.hr.free 0
      have fr1 := I.out.hr.free 1
      have fr2 := I.out.hr.free 2
      have d0 := I.out.hb.cell 0
      have d1 := I.out.hb.cell 1
      have d2 := I.out.hb.cell 2
      have fd0 := I.out.hb.free 0
      have fd1 := I.out.hb.free 1
      simp only [List.getElem?_toArray, List.getElem?_cons_zero, List.getElem?_cons_succ] at r0 r1 r2 d0 d1 d2
      have hlt1 := I.out.hb.lt
      by_cases hlt : k < L.length
      · have hltI : (k : Int) < L.length := by omega
        obtain ⟨A', c', hv, hc⟩ := HL.out
        cases hv
        obtain ⟨b, o, hA, hc2⟩ := hc (by omega)
        have cw := hc2 k hlt
        have c0 := kept_below I.out.hB (Nat.le_refl _) _ _ cw
        subst hA
        clear hc hc2
        have hsz := hs L[k] (List.getElem_mem hlt)
        have hsn : Lx.joinSize (L.take (k + 1)) = Lx.joinSize (L.take k) + (L[k].size + 1) := by rw [List.take_succ_eq_append_getElem hlt, Lx.joinSize_snoc]
        have hst := Lx.joinSize_take L (k + 1)
        have htx : Lx.joinText (L.take (k + 1)) = Lx.joinText (L.take k) ++ L[k].data.toList ++ [10] := by rw [List.take_succ_eq_append_getElem hlt, Lx.joinText_snoc]
        have hln : Lx.joinLines 1 (L.take (k + 1)) = Lx.joinLines 1 (L.take k) ++ [Lx.lineAfter 1 (L.take k)] := by rw [List.take_succ_eq_append_getElem hlt, Lx.joinLines_snoc]
        have haf : Lx.lineAfter 1 (L.take (k + 1)) = Lx.lineAfter 1 (L.take k) + (L[k].data.toList.count 10 + 1) := by rw [List.take_succ_eq_append_getElem hlt, Lx.lineAfter_snoc]
        have hla := Lx.lineAfter_le 1 (L.take k)
        have hcn := List.count_le_length (l := L[k].data.toList) (a := (10 : UInt8))
        rw [show L[k].data.toList.length = L[k].size from by simp] at hcn
        have HTX := Lib.hid htx
        have HLN := Lib.hid hln
        have HAF := Lib.hid haf
        clear htx hln haf
        generalize L[k] = s at *
        by_cases hbig : (20000 : Int) < T.size + s.size + 1
        · have HF2 := Lib.hid (HF.out.trans (if_pos (by omega)))
          have g1 : decide ((20000 : Int) < T.size + s.size + 1) = true := decide_eq_true hbig
          go_wp2_with fail
          go_quiet (fail)
          go_wp2_with fail
          clear r0 r1 r2
          have hf := ((Has.set (w := wr.drewN nq) I.out.hr 0 (.string ⟨#[]⟩)).set 1 (.slice none 0 0)).set 2 (.int .i64 3)
          have r0 := hf.cell 0
          have r1 := hf.cell 1
          have r2 := hf.cell 2
          refine bodyPost_ret (v := .agg #[.string ⟨#[]⟩, .slice none 0 0, .int .i64 3]) (by simp [results, Tryd.results34, go_sem, r0, r1, r2]) rfl ?_
          rw [HF2.out]
          exact ⟨_, _, rfl, World.ownsRow_nil _ _ _ _, (((below_drewN I.out.hB nq).setCell (p := ⟨w.heap.size, 0, none⟩) (Nat.le_refl _) _).setCell (p := ⟨w.heap.size, 1, none⟩) (Nat.le_refl _) _).setCell (p := ⟨w.heap.size, 2, none⟩) (Nat.le_refl _) _⟩
        · have g1 : decide ((20000 : Int) < T.size + s.size + 1) = false := decide_eq_false hbig
          have CW := Lib.hid cw
          clear cw
          go_wp2_with fail
          go_quiet (fail)
          have hbW : Has ((wr.drewN (nq + 1)).setCell ⟨w.heap.size + 1, 0, none⟩ (.string (T ++ s ++ ⟨#[10]⟩))) (w.heap.size + 1) 74 #[.string (T ++ s ++ ⟨#[10]⟩), .slice Av k cv, .int .i64 0] := Has.set (w := wr.drewN (nq + 1)) I.out.hb 0 (.string (T ++ s ++ ⟨#[10]⟩))
          have hrW : Has ((wr.drewN (nq + 1)).setCell ⟨w.heap.size + 1, 0, none⟩ (.string (T ++ s ++ ⟨#[10]⟩))) w.heap.size 74 #[.string ⟨#[]⟩, .slice none 0 0, .int .i64 0] := Has.other (w := wr.drewN (nq + 1)) I.out.hr (by simp) _
          have ho0 : World.ownsRow (wr.drewN (nq + 1)) w.heap.size 3 1 (.slice Av k cv) k (intCells (Lx.joinLines 1 (L.take k))) := I.out.ho
          have hoW : World.ownsRow ((wr.drewN (nq + 1)).setCell ⟨w.heap.size + 1, 0, none⟩ (.string (T ++ s ++ ⟨#[10]⟩))) w.heap.size 3 1 (.slice Av k cv) k (intCells (Lx.joinLines 1 (L.take k))) := ho0.kept (grown_set _ _ _ _) (.inr (own_apart ho0 (show Has (wr.drewN (nq + 1)) (w.heap.size + 1) _ _ from I.out.hb) (by decide)).symm)
          have hBW : Below w.heap.size w ((wr.drewN (nq + 1)).setCell ⟨w.heap.size + 1, 0, none⟩ (.string (T ++ s ++ ⟨#[10]⟩))) := (below_drewN I.out.hB (nq + 1)).setCell (p := ⟨w.heap.size + 1, 0, none⟩) (by simp) _
          have hsW : (World.heap ((wr.drewN (nq + 1)).setCell ⟨w.heap.size + 1, 0, none⟩ (.string (T ++ s ++ ⟨#[10]⟩)))).size = wr.heap.size := by
            have hh : (wr.drewN (nq + 1)).heap = wr.heap := rfl
            simp [World.setCell, hh]
          have ZB := Lib.hid hbW
          have ZR := Lib.hid hrW
          have O5 := Lib.hid (hoW.alloc (.cells #[.int .i64 (Lx.lineAfter 1 (L.take k) : Nat)] 3))
          have B5 := Lib.hid (hBW.alloc hBW.size (.cells #[.int .i64 (Lx.lineAfter 1 (L.take k) : Nat)] 3))
          have hc1 := cell_one_new ((wr.drewN (nq + 1)).setCell ⟨w.heap.size + 1, 0, none⟩ (.string (T ++ s ++ ⟨#[10]⟩))) (.int .i64 (Lx.lineAfter 1 (L.take k) : Nat)) 3
          rw [hsW] at hc1
          have N1 := Lib.hid hc1
          have N7 := Lib.hid B5.out.size
          have N8 : Hid (k + 1 ≤ maxLen) := by show _ ≤ _; unfold maxLen; omega
          have N9 : Hid ((k + 1) * 8 ≤ 140737488355328) := by show _ ≤ _; omega
          have z0 := hbW.cell 1
          have hTn : Hid ((T ++ s ++ ⟨#[10]⟩ : ByteArray).data.toList = Lx.joinText (L.take (k + 1)) ∧ (T ++ s ++ ⟨#[10]⟩ : ByteArray).size ≤ 20000) := by
            refine ⟨?_, ?_⟩
            · rw [HTX.out, ← I.out.hT]
              simp [ByteArray.data_append]
            · simp only [ByteArray.size_append]
              have : (⟨#[10]⟩ : ByteArray).size = 1 := rfl
              omega
          clear hbW hrW ho0 hoW hBW hc1
          simp only [List.getElem?_toArray, List.getElem?_cons_zero, List.getElem?_cons_succ] at z0
          go_wp2_with fail
          go_region
          all_goals
            go_wp2_with (at_builtin; refine wpList_append_own_at _ rfl _ _ 70 rfl w.heap.size 3 i0 (.int .i64 0) 1 8 Tryd.underlying70 hi hz0 hz1 hz2 rfl (by decide) _ _ _ rfl O5.out ⟨wr.heap.size, 0, none⟩ 1 1 [.int .i64 (Lx.lineAfter 1 (L.take k) : Nat)] rfl rfl N1.out (by simp [Value.oneCell']) N8.out N9.out N7.out ?_)
            intro v' w7 hown7 hg7 _ _
            obtain ⟨Av', cv', rfl⟩ := own_len hown7
            have hb7 := Has.grown (ZB.out.alloc _) hg7 (own_apart O5.out (ZB.out.alloc _) (by decide))
            have hr7 := Has.grown (ZR.out.alloc _) hg7 (own_apart O5.out (ZR.out.alloc _) (by decide))
            have k1 := hb7.cell 1
            have q1 := hb7.free 1
            simp only [List.getElem?_toArray, List.getElem?_cons_zero, List.getElem?_cons_succ] at k1
            have J8 : Hid (JInv L w (w7.setCell ⟨w.heap.size + 1, 1, none⟩ (.slice Av' (k + 1) cv')) (k + 1) (T ++ s ++ ⟨#[10]⟩) (.slice Av' (k + 1) cv')) := by
              refine ⟨hlt, hTn.out.1, hTn.out.2, hb7.set 1 _, ?_, hr7.other (by simp) _, (Below.grown B5.out hg7 N7.out (fun g hg => own_ge O5.out hg)).setCell (p := ⟨w.heap.size + 1, 1, none⟩) (by simp) _⟩
              rw [HLN.out]
              have h8 := hown7.kept (grown_set w7 (w.heap.size + 1) 1 (.slice Av' (k + 1) cv')) (.inr (own_apart hown7 hb7 (by decide)).symm)
              simpa only [intCells, List.map_append, List.map_cons, List.map_nil] using h8
            have c8 := kept_below J8.out.hB (Nat.le_refl _) _ _ CW.out
            clear hown7 hg7 hb7 hr7
            go_wp2_with fail
            refine (rlines_any s _ (by omega)).mono ?_
            rintro e w9 ⟨vv, rfl, ho9, hb9⟩
            obtain ⟨A9, c9, rfl⟩ := own_len ho9
            have J9 := Lib.hid (J8.out.below hb9)
            have hlc := Lx.lines_count s.data.toList
            rw [hlc]
            clear ho9 hb9 c8 hlc
            generalize List.count 10 s.data.toList = cn at *
            go_wp2_with fail
            go_roundw
            case rel =>
              refine ⟨k + 1, _, _, by go_num, ?_, J9.out⟩
              rw [HAF.out]
              go_num
            case measure => simp [intOf]; omega
      · obtain rfl : k = L.length := by omega
        have hfull : L.take L.length = L := List.take_length
        rw [hfull] at hTs
        have HF2 := Lib.hid (HF.out.trans (if_neg (by omega)))
        have hT := I.out.hT
        have ho := I.out.ho
        rw [hfull] at hT ho
        have HT := Lib.hid hT
        have HO := Lib.hid ho
        clear hT ho
        go_wp2_with fail
        clear r0 r1 r2
        have hf := ((I.out.hr.set 0 (.string T)).set 1 (.slice Av L.length cv)).set 2 (.int .i64 0)
        have r0 := hf.cell 0
        have r1 := hf.cell 1
        have r2 := hf.cell 2
        refine bodyPost_ret (v := .agg #[.string T, .slice Av L.length cv, .int .i64 0]) (by simp [results, Tryd.results34, go_sem, r0, r1, r2]) rfl ?_
        rw [HF2.out]
        have hg := ((I.out.hr.set 0 (.string T)).set 1 (.slice Av L.length cv))
        have hTe : (⟨(Lx.joinText L).toArray⟩ : ByteArray) = T := by rw [← HT.out]
        have hll := Lx.joinLines_length 1 L
        refine ⟨Av, cv, by simp only [hTe, hll], ?_, ((I.out.hB.setCell (p := ⟨w.heap.size, 0, none⟩) (Nat.le_refl _) _).setCell (p := ⟨w.heap.size, 1, none⟩) (Nat.le_refl _) _).setCell (p := ⟨w.heap.size, 2, none⟩) (Nat.le_refl _) _⟩
        simp only [hll]
        have o1 := HO.out.kept (grown_set wr w.heap.size 0 (.string T)) (.inr (own_apart HO.out I.out.hr (by decide)).symm)
        have o2 := o1.kept (grown_set _ w.heap.size 1 (.slice Av L.length cv)) (.inr (own_apart o1 (I.out.hr.set 0 (.string T)) (by decide)).symm)
        exact o2.kept (grown_set _ w.heap.size 2 (.int .i64 0)) (.inr (own_apart o2 hg (by decide)).symm)
end Go.Proofs.YtmmemkkljadglaaDoor
