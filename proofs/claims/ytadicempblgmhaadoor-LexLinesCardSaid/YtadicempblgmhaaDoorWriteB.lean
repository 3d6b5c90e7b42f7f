/-
  What Write and Tight return, in package lex: with a blank between all; by what is needed.
-/
import Derived.Test.YtadicempblgmhaaDoorWrite
namespace Go.Proofs.YtadicempblgmhaaDoor
open Go.RowKit

theorem always_any (a b : Lx.Tok) (w : World) : Calls Tryd.prog 66 #[tokVal a, tokVal b] w fun e w' => e = .returned (.bool (Lx.always a b)) ∧ Below w.heap.size w w' := by
  go_enter Tryd.func66, Tryd.ntmps66
  go_wp2
  go_ret
  exact ⟨rfl, (((Below.refl _ _).alloc (Nat.le_refl _) _).alloc (by simp) _)⟩

set_option maxRecDepth 100000 in
set_option maxHeartbeats 2000000 in
theorem write_blank (v : Value) (l : List Lx.Tok) (w : World) (hl : ToksAt w v l) (hlen : l.length ≤ 100000) (ht : ∀ t ∈ l, t.text.length ≤ 400) (hE : Env w) :
    Calls Tryd.prog 65 #[v, .func (.func 66) #[] #[]] w fun e w' => e = .returned (.tuple #[.string ⟨(Lx.written Lx.always l).1.toArray⟩, .int .i64 (Lx.written Lx.always l).2]) ∧ Below w.heap.size w w' := by
  have hE' : ∀ W, Below w.heap.size w W → Env W := fun W h => hE.below h (Nat.le_refl _)
  have hl' : ∀ W, Below w.heap.size w W → ToksAt W v l := fun W h => hl.below h (Nat.le_refl _)
  obtain ⟨A, c, rfl, -⟩ := hl
  by_cases h6 : (6000 : Int) < l.length
  · have hsp : Lx.written Lx.always l = ([], 3) := by unfold Lx.written; rw [if_pos (by omega)]
    have HSP := Lib.hid hsp
    clear hsp
    go_enter Tryd.func65, Tryd.ntmps65
    go_wp2_with fail
    go_ret2
    exact ⟨by rw [HSP.out]; rfl, Below.refl _ _⟩
  · have HL := Lib.hid hl'
    have HE := Lib.hid hE'
    clear hl' hE'
    go_enter Tryd.func65, Tryd.ntmps65
    go_wp2
    go_loopw [16] (fun i wr => ∃ k : Nat, k ≤ l.length ∧ i = .int .i64 k ∧ Below w.heap.size w wr ∧ Hid (∀ j (_ : j < k) (h : j < l.length), Lx.right l[j] = true)) (fun i _ => l.length - (intOf i).toNat)
    case atStart => exact ⟨0, Nat.zero_le _, rfl, Below.refl _ _, fun j hj => by omega⟩
    case round =>
      obtain ⟨k, hk, rfl, hB, HR⟩ := hrel
      have hBs := hB.size
      by_cases hlt : k < l.length
      · obtain ⟨A', c', hv, hc⟩ := HL.out wr hB
        cases hv
        obtain ⟨b, o, hA, hc2⟩ := hc (by omega)
        obtain ⟨c0, c1, c2, c3⟩ := hc2 k hlt
        have CR := Lib.hid (fun W hW => isRight_any l[k] W (by have := ht l[k] (List.getElem_mem _); omega) (HE.out W hW))
        subst hA
        clear hc hc2
        have hblt := World.block_lt_of_cell? _ _ c0
        by_cases hrt : Lx.right l[k] = true
        · have hR' : ∀ j (_ : j < k + 1) (h : j < l.length), Lx.right l[j] = true := fun j hj h => by
            by_cases e : j = k
            · subst e; exact hrt
            · exact HR.out j (by omega) h
          have HR2 := Lib.hid hR'
          clear hR' HR
          go_wp2_with (go_at_call 69; refine (CR.out _ (hB.alloc hBs _)).mono ?_; rintro e w2 ⟨rfl, hb2⟩)
          go_roundw
          case rel => exact ⟨k + 1, by omega, by go_num, (hB.alloc hBs _).trans (hb2.mono (by simp; omega)), HR2⟩
          case measure => simp [intOf]; omega
        · have hrf : Lx.right l[k] = false := by simpa using hrt
          have hsp : Lx.written Lx.always l = ([], 1) := by
            unfold Lx.written
            rw [if_neg (by omega), if_pos]
            rw [List.all_eq_false]
            exact ⟨l[k], List.getElem_mem _, by rw [hrf]; decide⟩
          have HSP := Lib.hid hsp
          clear hsp hrt
          go_wp2_with (go_at_call 69; refine (CR.out _ (hB.alloc hBs _)).mono ?_; rintro e w2 ⟨rfl, hb2⟩)
          go_ret2
          exact ⟨by rw [HSP.out]; rfl, (hB.alloc hBs _).trans (hb2.mono (by simp; omega))⟩
      · have hkk : k = l.length := by omega
        have hall : ∀ j (h : j < l.length), Lx.right l[j] = true := fun j h => HR.out j (by omega) h
        have HALL := Lib.hid hall
        have hLW := HL.out wr hB
        clear hall HR
        go_wp2
        obtain ⟨W0, hW0⟩ : ∃ W0, W0 = wr.heap.size := ⟨_, rfl⟩
        rw [← hW0]
        have hH0 := Holds.new wr
        rw [← hW0] at hH0 hBs
        have hB1 := hB.alloc (by omega) (.cells #[.pointer none, .slice none 0 0] 114)
        have hWs : W0 < (wr.alloc (.cells #[.pointer none, .slice none 0 0] 114)).heap.size := by simp; omega
        generalize hW1 : wr.alloc (.cells #[.pointer none, .slice none 0 0] 114) = w1 at *
        have HW := Lib.hid hW0
        clear hW0 hW1 hkk hlt hk
        go_loopw [26] (fun i wx => ∃ k : Nat, k ≤ l.length ∧ i = .int .i64 k ∧ Below w.heap.size w wx ∧ W0 < wx.heap.size ∧ Holds W0 W0 (Lx.textOf Lx.always (l.take k)) wx) (fun i _ => l.length - (intOf i).toNat)
        case atStart => exact ⟨0, Nat.zero_le _, rfl, hB1, hWs, hH0⟩
        case round =>
          clear hB hB1 hH0
          obtain ⟨k, hk, rfl, hB, hWx, hH⟩ := hrel
          have hBs := hB.size
          by_cases hlt : k < l.length
          · obtain ⟨A', c', hv, hc⟩ := HL.out wr hB
            cases hv
            obtain ⟨b, o, hA, hc2⟩ := hc (by omega)
            subst hA
            obtain ⟨c0, c1, c2, c3⟩ := hc2 k hlt
            have hblt := World.block_lt_of_cell? _ _ c0
            have hsc := Lx.textOf_succ Lx.always l k hlt
            have HSC := Lib.hid hsc
            have htk := ht l[k] (List.getElem_mem _)
            have hwl : (Lx.textOf Lx.always (l.take k)).length ≤ 3000000 := by
              have := Lx.textFrom_length Lx.always 400 none (l.take k) (fun t h => ht t (List.mem_of_mem_take h))
              rw [List.length_take] at this
              unfold Lx.textOf
              have : (min k l.length) * (400 + 1) ≤ 6000 * 401 := Nat.mul_le_mul (by omega) (by omega)
              omega
            clear hc
            cases k with
            | zero =>
              have hd : decide ((0 : Int) < ((0 : Nat) : Int)) = false := by simp
              clear hc2 hsc
              simp only [Nat.zero_mul, Nat.add_zero] at c0 c1 c2 c3
              go_wp2_with fail
              obtain ⟨wA, hwA⟩ : ∃ wA, wA = wr.alloc (.cells #[.int .i64 l[0].kind, .string ⟨l[0].text.toArray⟩, .int .i64 l[0].line, .int .i64 l[0].col] 55) := ⟨_, rfl⟩
              rw [← hwA]
              have hBA : Below w.heap.size w wA := by rw [hwA]; exact hB.alloc hBs _
              have hpA : Has wA wr.heap.size 55 #[.int .i64 l[0].kind, .string ⟨l[0].text.toArray⟩, .int .i64 l[0].line, .int .i64 l[0].col] := by rw [hwA]; exact Has.new _ _ _
              have hHA : Holds W0 W0 (Lx.textOf Lx.always (l.take 0)) wA := by rw [hwA]; exact hH.alloc _
              have hsA : wA.heap.size = wr.heap.size + 1 := by rw [hwA]; simp
              have hkA : ∀ (p : Addr) (v : Value), wr.cell? p = some v → wA.cell? p = some v := by rw [hwA]; exact kept_below (B := wr.heap.size) ((Below.refl _ _).alloc (Nat.le_refl _) _) (Nat.le_refl _)
              clear hwA hB hH
              generalize wr.heap.size = i0 at *
              have p0 := hpA.cell 0
              have p1 := hpA.cell 1
              have p2 := hpA.cell 2
              have p3 := hpA.cell 3
              clear hkA c0 c1 c2 c3
              go_quiet (fail)
              have hH1 : Holds W0 W0 (Lx.textOf Lx.always (l.take 0)) (wA.drewN nq) := hHA
              have hB1 : Below w.heap.size w (wA.drewN nq) := hBA.trans ⟨rfl, rfl, rfl, Nat.le_refl _, fun _ _ => rfl⟩
              have CW := Lib.hid (writeString_any W0 W0 _ ⟨l[0].text.toArray⟩ _ hH1 (by rw [show (⟨l[0].text.toArray⟩ : ByteArray).size = l[0].text.length from by simp [ByteArray.size]]; omega) (by show W0 ≤ wA.heap.size; omega))
              have hs1 : (wA.drewN nq).heap.size = i0 + 1 := hsA
              go_wp2_with (go_at_call 78; refine CW.out.mono ?_; rintro e w3 ⟨rfl, hH3, hb3⟩)
              have hs3 := hb3.below.size
              go_roundw
              case rel => exact ⟨1, by omega, by go_num, hB1.trans (hb3.below.mono (by omega)), by omega, by rw [HSC.out]; simpa using hH3⟩
              case measure => simp [intOf]; omega
            | succ j =>
              obtain ⟨d0, d1, d2, d3⟩ := hc2 j (by omega)
              have CN := Lib.hid (fun (W : World) (_ : Below w.heap.size w W) => always_any l[j] l[j + 1] W)
              clear hc2
              have hsc2 := hsc
              rw [dif_pos (by omega)] at hsc2
              simp only [Nat.add_sub_cancel] at hsc2
              have HSC2 := Lib.hid hsc2
              clear hsc hsc2
              have hj0 : (0 : Int) ≤ (j : Int) := by omega
              have hj1 : (j : Int) < (l.length : Int) := by omega
              have hjn : j < l.length := by omega
              have hjd : decide ((0 : Int) < (j : Int) + 1) = true := by simp
              have hj2 : (0 : Int) < (j : Int) + 1 := by omega
              go_wp2_with fail
              obtain ⟨wA, hwA⟩ : ∃ wA, wA = wr.alloc (.cells #[.int .i64 l[j + 1].kind, .string ⟨l[j + 1].text.toArray⟩, .int .i64 l[j + 1].line, .int .i64 l[j + 1].col] 55) := ⟨_, rfl⟩
              rw [← hwA]
              have hBA : Below w.heap.size w wA := by rw [hwA]; exact hB.alloc hBs _
              have hpA : Has wA wr.heap.size 55 #[.int .i64 l[j + 1].kind, .string ⟨l[j + 1].text.toArray⟩, .int .i64 l[j + 1].line, .int .i64 l[j + 1].col] := by rw [hwA]; exact Has.new _ _ _
              have hHA : Holds W0 W0 (Lx.textOf Lx.always (l.take (j + 1))) wA := by rw [hwA]; exact hH.alloc _
              have hsA : wA.heap.size = wr.heap.size + 1 := by rw [hwA]; simp
              have hkA : ∀ (p : Addr) (v : Value), wr.cell? p = some v → wA.cell? p = some v := by rw [hwA]; exact kept_below (B := wr.heap.size) ((Below.refl _ _).alloc (Nat.le_refl _) _) (Nat.le_refl _)
              clear hwA hB hH
              generalize wr.heap.size = i0 at *
              have p0 := hpA.cell 0
              have p1 := hpA.cell 1
              have p2 := hpA.cell 2
              have p3 := hpA.cell 3
              have e0 := hkA _ _ d0
              have e1 := hkA _ _ d1
              have e2 := hkA _ _ d2
              have e3 := hkA _ _ d3
              clear hkA c0 c1 c2 c3 d0 d1 d2 d3
              have hjw : IntKind.i64.wrap (j : Int) = j := IntWalk.i64_in _ (by omega)
              refine wp_region_still_tail 10 (by kernel_rfl) (by kernel_rfl) ?_
              simp only [List.take_succ_cons, List.take_zero, List.drop_succ_cons, List.drop_zero]
              change wpStill _ _ (World.drew wA) (fun a' => wpList _ _ _ _ a' (World.drew wA)) _ _
              repeat still_step
              refine wpStill_nil ?_
              clear hjw
              go_wp2_with fail
              refine (CN.out _ hBA.drew).mono ?_
              rintro e w2 ⟨rfl, hb2⟩
              have hs2 : wA.heap.size ≤ w2.heap.size := hb2.size
              have hp2 := (show Has wA.drew i0 55 _ from hpA).below hb2 (by show i0 < wA.heap.size; omega)
              have hH2 : Holds W0 W0 (Lx.textOf Lx.always (l.take (j + 1))) w2 := (hHA.drew).later hb2 (Nat.le_refl _)
              have hB2 : Below w.heap.size w w2 := hBA.drew.trans (hb2.mono (by show _ ≤ wA.heap.size; omega))
              have q1 := hp2.cell 1
              clear hb2 hHA hBA hpA e0 e1 e2 e3 p0 p1 p2 p3
              generalize Lx.always l[j] l[j + 1] = nb at *
              cases nb with
              | true =>
                have CB := Lib.hid (writeByte_any W0 W0 _ 32 w2 hH2 (by omega) (by omega))
                go_wp2_with fail
                refine CB.out.mono ?_
                rintro e w3 ⟨rfl, hH3, hb3⟩
                have hs3 := hb3.below.size
                have hp3 := hb3.has hp2 (by omega) (by decide)
                have r1 := hp3.cell 1
                have CW := Lib.hid (writeString_any W0 W0 _ ⟨l[j + 1].text.toArray⟩ _ hH3 (by rw [show (⟨l[j + 1].text.toArray⟩ : ByteArray).size = l[j + 1].text.length from by simp [ByteArray.size]]; first | omega | (simp; omega)) (by omega))
                go_wp2_with (go_at_call 78; refine CW.out.mono ?_; rintro e w4 ⟨rfl, hH4, hb4⟩)
                have hs4 := hb4.below.size
                go_roundw
                case rel => exact ⟨j + 1 + 1, by omega, by go_num, (hB2.trans (hb3.below.mono (by omega))).trans (hb4.below.mono (by omega)), by omega, by rw [HSC2.out]; simpa using hH4⟩
                case measure => simp [intOf]; omega
              | false =>
                have CW := Lib.hid (writeString_any W0 W0 _ ⟨l[j + 1].text.toArray⟩ _ hH2 (by rw [show (⟨l[j + 1].text.toArray⟩ : ByteArray).size = l[j + 1].text.length from by simp [ByteArray.size]]; first | omega | (simp; omega)) (by omega))
                go_wp2_with (go_at_call 78; refine CW.out.mono ?_; rintro e w4 ⟨rfl, hH4, hb4⟩)
                have hs4 := hb4.below.size
                go_roundw
                case rel => exact ⟨j + 1 + 1, by omega, by go_num, hB2.trans (hb4.below.mono (by omega)), by omega, by rw [HSC2.out]; simpa using hH4⟩
                case measure => simp [intOf]; omega
          · have hkl : l.take k = l := List.take_of_length_le (by omega)
            rw [hkl] at hH
            have hwl : (Lx.textOf Lx.always l).length ≤ 3000000 := by
              have := Lx.textFrom_length Lx.always 400 none l ht
              unfold Lx.textOf
              have : l.length * (400 + 1) ≤ 6000 * 401 := Nat.mul_le_mul (by omega) (by omega)
              omega
            have hal : l.all Lx.right = true := by
              rw [List.all_eq_true]
              intro t htm
              obtain ⟨j, hj, rfl⟩ := List.getElem_of_mem htm
              exact HALL.out j hj
            have hsp : Lx.written Lx.always l = if 20000 < (Lx.textOf Lx.always l).length then ([], 3) else (Lx.textOf Lx.always l, 0) := by
              unfold Lx.written
              rw [if_neg (by omega), if_neg (by rw [hal]; decide)]
            have HSP := Lib.hid hsp
            have CL := Lib.hid (builderLen_any W0 W0 _ wr hH)
            have CT := Lib.hid (builderString_any W0 W0 _ wr hH (by omega))
            clear hkl hal hsp
            generalize Lx.textOf Lx.always l = T at *
            by_cases hT : (20000 : Int) < T.length
            · go_wp2_with (go_at_call 106; refine CL.out.mono ?_; rintro e w3 ⟨rfl, rfl⟩)
              go_ret2
              exact ⟨by rw [HSP.out, if_pos (by omega)]; rfl, hB⟩
            · go_wp2_with (first | (go_at_call 106; refine CL.out.mono ?_; rintro e w3 ⟨rfl, rfl⟩) | (go_at_call 80; refine CT.out.mono ?_; rintro e w3 ⟨rfl, hw3⟩))
              go_ret2
              exact ⟨by rw [HSP.out, if_neg (by omega)]; rfl, hB.trans (hw3.below.mono (by omega))⟩
theorem Write_any (v : Value) (l : List Lx.Tok) (w : World) (hl : ToksAt w v l) (hlen : l.length ≤ 100000) (ht : ∀ t ∈ l, t.text.length ≤ 400) (hE : Env w) :
    Calls Tryd.prog 27 #[v] w fun e w' => e = .returned (.tuple #[.string ⟨(Lx.written Lx.always l).1.toArray⟩, .int .i64 (Lx.written Lx.always l).2]) ∧ Below w.heap.size w w' := by
  have C := Lib.hid (write_blank v l w hl hlen ht hE)
  have hmf : ∀ (fn : Fn) (first cap : Array Value) (w : World), (Instr.makeFunc fn first cap).run Tryd.prog w = .ok (.func fn first cap) w := fun _ _ _ _ => rfl
  generalize Lx.written Lx.always l = r at *
  go_enter Tryd.func27, Tryd.ntmps27
  go_wp2_with (go_at_call 65; refine C.out.mono ?_; rintro e w1 ⟨rfl, hb⟩)
  go_ret2
  exact ⟨rfl, hb⟩

theorem Tight_any (v : Value) (l : List Lx.Tok) (w : World) (hl : ToksAt w v l) (hlen : l.length ≤ 100000) (ht : ∀ t ∈ l, t.text.length ≤ 400) (hE : Env w) :
    Calls Tryd.prog 29 #[v] w fun e w' => e = .returned (.tuple #[.string ⟨(Lx.written Lx.needs l).1.toArray⟩, .int .i64 (Lx.written Lx.needs l).2]) ∧ Below w.heap.size w w' := by
  have C := Lib.hid (write_tight v l w hl hlen ht hE)
  generalize Lx.written Lx.needs l = r at *
  go_enter Tryd.func29, Tryd.ntmps29
  go_wp2_with (go_at_call 65; refine C.out.mono ?_; rintro e w1 ⟨rfl, hb⟩)
  go_ret2
  exact ⟨rfl, hb⟩
end Go.Proofs.YtadicempblgmhaaDoor
