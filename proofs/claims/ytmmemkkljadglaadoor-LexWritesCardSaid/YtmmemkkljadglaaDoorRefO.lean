/-
  The reference's put, by contract: the text of tokens, with a blank between all, or where it is needed alone.
-/
import Derived.Test.YtmmemkkljadglaaDoorRefN
import Derived.Deep.RegionHeld3
import Derived.OwnWalk
import Derived.Lib.AppendStr
import Derived.Maps.AppendAt
import Derived.Laws.IdiomStrings
import Derived.Laws.BytesArg
namespace Go.Proofs.YtmmemkkljadglaaDoor
open Go.RowKit Go.Shelf

namespace Lx
def gapOf (al : Bool) : Tok → Tok → Bool := if al then always else needs
/-- Whether something stands ahead of the k-th token. -/
def parted (P : Tok → Tok → Bool) (l : List Tok) (k : Nat) : Bool := match k, l[k]? with
  | 0, _ => false
  | j + 1, some t => match l[j]? with
    | some p => P p t
    | none => false
  | _ + 1, none => false
theorem textOf_next (P : Tok → Tok → Bool) (l : List Tok) (k : Nat) (h : k < l.length) : textOf P (l.take (k + 1)) = textOf P (l.take k) ++ (if parted P l k then [32] else []) ++ l[k].text := by
  rw [textOf_succ P l k h]
  cases k with
  | zero => simp [parted]
  | succ j =>
    have h1 : l[j]? = some l[j] := List.getElem?_eq_getElem (by omega)
    have h2 : l[j + 1]? = some l[j + 1] := List.getElem?_eq_getElem h
    rw [dif_pos (by omega)]
    simp only [parted, h1, h2, Nat.add_sub_cancel]
theorem parted_zero (P : Tok → Tok → Bool) (l : List Tok) : parted P l 0 = false := rfl
theorem parted_succ (P : Tok → Tok → Bool) (l : List Tok) (j : Nat) (h : j + 1 < l.length) : parted P l (j + 1) = P (l[j]'(by omega)) l[j + 1] := by
  have h1 : l[j]? = some (l[j]'(by omega)) := List.getElem?_eq_getElem (by omega)
  have h2 : l[j + 1]? = some l[j + 1] := List.getElem?_eq_getElem h
  simp only [parted, h1, h2]
end Lx

structure PInv (w wr : World) : Prop where
  hr : Has wr w.heap.size 50 #[.string ⟨#[]⟩, .int .i64 0]
  hB : Below w.heap.size w wr
theorem PInv.below {w wr W : World} (h : PInv w wr) (hb : Below wr.heap.size wr W) : PInv w W := ⟨h.hr.below hb h.hr.lt, h.hB.trans (hb.mono h.hB.size)⟩

theorem byteInfo : (Tryd.prog.info? 5).map (fun i => (i.zero, i.size, i.bytes)) = some (some (.int .u8 0), 1, 1) := by kernel_rfl
abbrev bcells (l : List UInt8) : List Value := l.map fun b => Value.int .u8 (b.toNat : Int)

set_option maxRecDepth 100000 in
set_option maxHeartbeats 8000000 in
theorem rput_any (al : Bool) (v : Value) (l : List Lx.Tok) (w : World) (hl : ToksAt w v l) (hlen : l.length ≤ 100000) (ht : ∀ t ∈ l, t.text.length ≤ 400) :
    Calls Tryd.prog 56 #[v, .bool al] w fun e w' => e = .returned (.agg #[.string ⟨(Lx.written (Lx.gapOf al) l).1.toArray⟩, .int .i64 (Lx.written (Lx.gapOf al) l).2]) ∧ Below w.heap.size w w' := by
  have HL := Lib.hid (fun W (hb : Below w.heap.size w W) => hl.below hb (Nat.le_refl _))
  obtain ⟨A, c, rfl, -⟩ := hl
  have hdef : Lx.written (Lx.gapOf al) l = if 6000 < l.length then ([], 3) else if l.all Lx.right = false then ([], 1) else if 20000 < (Lx.textOf (Lx.gapOf al) l).length then ([], 3) else (Lx.textOf (Lx.gapOf al) l, 0) := rfl
  generalize Lx.written (Lx.gapOf al) l = fin at *
  obtain ⟨r, er⟩ := fin
  have HD := Lib.hid hdef
  clear hdef
  by_cases h6 : (6000 : Int) < l.length
  · obtain ⟨rfl, rfl⟩ := Prod.mk.inj (HD.out.trans (if_pos (by omega)))
    go_enter Tryd.func56, Tryd.ntmps56
    go_wp2_with fail
    refine bodyPost_ret (v := .agg #[.string ⟨#[]⟩, .int .i64 3]) (by simp [results, Tryd.results56, go_sem]) rfl ⟨rfl, (Below.refl _ _).alloc (Nat.le_refl _) _⟩
  · have HD2 := Lib.hid (HD.out.trans (if_neg (by omega)))
    clear HD
    go_enter Tryd.func56, Tryd.ntmps56
    go_wp2_with fail
    go_loopw [6] (fun i wr => ∃ k : Nat, k ≤ l.length ∧ i = .int .i64 k ∧ Hid (PInv w wr) ∧ Hid (∀ i (_ : i < k) (h : i < l.length), Lx.right l[i] = true)) (fun i _ => l.length - (intOf i).toNat)
    case atStart => exact ⟨0, Nat.zero_le _, rfl, ⟨Has.new _ _ _, (Below.refl _ _).alloc (Nat.le_refl _) _⟩, fun i hi => absurd hi (Nat.not_lt_zero _)⟩
    case round =>
      obtain ⟨k, hk, rfl, HI, hall⟩ := hrel
      by_cases hlt : k < l.length
      · have hltI : (k : Int) < l.length := by omega
        obtain ⟨bt, ot, ct, hv, hc⟩ := (HL.out _ HI.out.hB).first (by omega)
        cases hv
        obtain ⟨x0, x1, x2, x3⟩ := hc k hlt
        clear hc
        have htk := ht l[k] (List.getElem_mem hlt)
        have hnext : Lx.right l[k] = true → ∀ i (_ : i < k + 1) (h : i < l.length), Lx.right l[i] = true := fun h i hi h2 => by
          by_cases e : i = k
          · subst e; exact h
          · exact hall.out i (by omega) h2
        have hstop : Lx.right l[k] = false → l.all Lx.right = false := fun h => by
          rw [List.all_eq_false]
          exact ⟨l[k], List.getElem_mem hlt, by rw [h]; exact Bool.noConfusion⟩
        have CR := Lib.hid (rright_any l[k] wr (by omega))
        have HNX := Lib.hid hnext
        have HST := Lib.hid hstop
        clear hnext hstop
        generalize Lx.right l[k] = rk at *
        generalize l[k] = t at *
        obtain ⟨tk, tt, tl, tc⟩ := t
        dsimp only at x0 x1 x2 x3
        go_wp2_with fail
        refine CR.out.mono ?_
        rintro e w1 ⟨rfl, hb1⟩
        have I1 := Lib.hid (HI.out.below hb1)
        clear hb1 x0 x1 x2 x3
        cases rk
        · obtain ⟨rfl, rfl⟩ := Prod.mk.inj (HD2.out.trans (if_pos (HST.out rfl)))
          have z0 := I1.out.hr.cell 0
          have z1 := I1.out.hr.cell 1
          have f0 := I1.out.hr.free 0
          have f1 := I1.out.hr.free 1
          simp only [List.getElem?_toArray, List.getElem?_cons_zero, List.getElem?_cons_succ] at z0 z1
          go_wp2_with fail
          clear z0 z1
          have hf := (I1.out.hr.set 0 (.string ⟨#[]⟩)).set 1 (.int .i64 1)
          have z0 := hf.cell 0
          have z1 := hf.cell 1
          refine bodyPost_ret (v := .agg #[.string ⟨#[]⟩, .int .i64 1]) (by simp [results, Tryd.results56, go_sem, z0, z1]) rfl ⟨rfl, ?_⟩
          exact (I1.out.hB.setCell (p := ⟨w.heap.size, 0, none⟩) (Nat.le_refl _) _).setCell (p := ⟨w.heap.size, 1, none⟩) (Nat.le_refl _) _
        · have NX := Lib.hid (HNX.out rfl)
          go_wp2_with fail
          go_roundw
          case rel => exact ⟨k + 1, hlt, by go_num, I1, NX⟩
          case measure => simp [intOf]; omega
      · obtain rfl : k = l.length := by omega
        have hright : l.all Lx.right = true := List.all_eq_true.2 (fun t htm => by
          obtain ⟨i, hi, rfl⟩ := List.getElem_of_mem htm
          exact hall.out i hi hi)
        have HR := Lib.hid hall.out
        have HD3 := Lib.hid (HD2.out.trans (if_neg (by rw [hright]; exact Bool.noConfusion)))
        have hbound : ∀ k, (Lx.textOf (Lx.gapOf al) (l.take k)).length ≤ 6000 * 401 := fun k => by
          have h1 := Lx.textFrom_length (Lx.gapOf al) 400 none (l.take k) (fun t h => ht t (List.mem_of_mem_take h))
          rw [List.length_take] at h1
          unfold Lx.textOf
          have : (min k l.length) * (400 + 1) ≤ 6000 * 401 := Nat.mul_le_mul (by omega) (by omega)
          omega
        have HBD := Lib.hid hbound
        have HNXT := Lib.hid (fun k h => Lx.textOf_next (Lx.gapOf al) l k h)
        clear hbound hright HD2 hall
        go_wp2_with fail
        go_loopw [5, 8] (fun n i wr => ∃ k : Nat, k ≤ l.length ∧ i = .int .i64 k ∧ n = .int .i64 ((Lx.textOf (Lx.gapOf al) (l.take k)).length : Nat) ∧ Hid (PInv w wr)) (fun _ i _ => l.length - (intOf i).toNat)
        case atStart => exact ⟨0, Nat.zero_le _, rfl, by simp [Lx.textOf, Lx.textFrom], HI⟩
        case round =>
          obtain ⟨k, hk, rfl, rfl, HI2⟩ := hrel
          by_cases hlt : k < l.length
          · have hltI : (k : Int) < l.length := by omega
            obtain ⟨bt, ot, ct, hv, hc⟩ := (HL.out _ HI2.out.hB).first (by omega)
            cases hv
            obtain ⟨x0, x1, x2, x3⟩ := hc k hlt
            have htk := ht l[k] (List.getElem_mem hlt)
            have hnx := congrArg List.length (HNXT.out k hlt)
            rw [List.length_append, List.length_append] at hnx
            have hb1 := HBD.out k
            have hb2 := HBD.out (k + 1)
            rw [hnx] at hb2
            generalize (Lx.textOf (Lx.gapOf al) (l.take k)).length = n0 at *
            cases k with
            | zero =>
              rw [Lx.parted_zero] at hnx hb2
              clear hc
              generalize l[0] = t at *
              obtain ⟨tk, tt, tl, tc⟩ := t
              simp only [Nat.zero_mul, Nat.add_zero] at x0 x1 x2 x3
              dsimp only at x0 x1 x2 x3 htk hnx hb2
              have hd : decide ((0 : Int) < ((0 : Nat) : Int)) = false := by simp
              have hn1 : (Lx.textOf (Lx.gapOf al) (l.take (0 + 1))).length = n0 + tt.length := by rw [hnx]; simp
              have HN1 := Lib.hid hn1
              clear hnx hn1 hb2
              go_wp2_with fail
              go_quiet (fail)
              go_wp2_with fail
              exact ⟨⟨1, hlt, by go_num, by rw [HN1.out]; go_num, ⟨HI2.out.hr, below_drewN HI2.out.hB nq⟩⟩, by simp [intOf]; omega⟩
            | succ j =>
              obtain ⟨d0, d1, d2, d3⟩ := hc j (by omega)
              have hps := Lx.parted_succ (Lx.gapOf al) l j hlt
              have hra := HR.out j (by omega) (by omega)
              have hrb := HR.out (j + 1) hlt hlt
              have htj := ht (l[j]'(by omega)) (List.getElem_mem _)
              rw [hps] at hnx hb2
              clear hc hps
              have hd : decide ((0 : Int) < (j : Int) + 1) = true := decide_eq_true (by omega)
              have hd2 : (0 : Int) < (j : Int) + 1 := by omega
              have hj1 : (0 : Int) ≤ (j : Int) + 1 := by omega
              have hjt : ((j : Int) + 1).toNat = j + 1 := by omega
              have hwj2 : IntKind.i64.wrap (j : Int) = (j : Int) := IntWalk.i64_in _ (by omega)
              have hm : max (0 : Int) (j : Int) = j := by omega
              have hj0 : (0 : Int) ≤ (j : Int) := by omega
              have hjI : (j : Int) < l.length := by omega
              have hwj : IntKind.i64.wrap ((j : Int) + 1 - 1) = (j : Int) := by rw [IntWalk.i64_in _ (by omega)]; omega
              have hltI2 : (j : Int) + 1 < l.length := by omega
              cases al
              case true =>
                have hpt : Lx.gapOf true (l[j]'(by omega)) l[j + 1] = true := rfl
                rw [hpt] at hnx hb2
                generalize l[j + 1] = t at *
                obtain ⟨tk, tt, tl, tc⟩ := t
                dsimp only at x0 x1 x2 x3 htk hnx hb2
                have hn1 : (Lx.textOf (Lx.gapOf true) (l.take (j + 1 + 1))).length = n0 + 1 + tt.length := by rw [hnx]; simp
                have hb3 : n0 + 1 + tt.length ≤ 6000 * 401 := by simpa using hb2
                have HN1 := Lib.hid hn1
                clear hnx hn1 hb2 hra hrb hpt
                go_wp2_with fail
                go_quiet (fail)
                go_wp2_with fail
                exact ⟨⟨j + 2, hlt, by go_num, by rw [HN1.out]; go_num, ⟨HI2.out.hr, below_drewN HI2.out.hB nq⟩⟩, by simp [intOf]; omega⟩
              case false =>
                have CN := Lib.hid (fun (W : World) (hW : Below wr.heap.size wr W) => (rneeds_any (l[j]'(by omega)) l[j + 1] W (by omega) (by omega) hra hrb).mono (fun e w' (h : e = .returned (.bool (Lx.needs (l[j]'(by omega)) l[j + 1])) ∧ Below W.heap.size W w') => (⟨h.1, stepN hW h.2⟩ : e = .returned (.bool (Lx.needs (l[j]'(by omega)) l[j + 1])) ∧ Below wr.heap.size wr w')))
                have hpt : Lx.gapOf false (l[j]'(by omega)) l[j + 1] = Lx.needs (l[j]'(by omega)) l[j + 1] := rfl
                rw [hpt] at hnx hb2
                generalize Lx.needs (l[j]'(by omega)) l[j + 1] = pb at *
                generalize l[j + 1] = t at *
                generalize l[j] = u at *
                obtain ⟨tk, tt, tl, tc⟩ := t
                obtain ⟨uk, ut, ul, uc⟩ := u
                dsimp only at x0 x1 x2 x3 d0 d1 d2 d3 htk htj hnx hb2
                have hn1 : (Lx.textOf (Lx.gapOf false) (l.take (j + 1 + 1))).length = n0 + (if pb = true then 1 else 0) + tt.length := by rw [hnx]; cases pb <;> simp
                have hb3 : n0 + (if pb = true then 1 else 0) + tt.length ≤ 6000 * 401 := by rw [← hn1, hnx]; exact hb2
                have HN1 := Lib.hid hn1
                have HB3 := Lib.hid hb3
                have GIVE := Lib.hid (fun (W : World) (hW : Below wr.heap.size wr W) => (⟨kept_below hW (Nat.le_refl _) _ _ d0, kept_below hW (Nat.le_refl _) _ _ d1, kept_below hW (Nat.le_refl _) _ _ d2, kept_below hW (Nat.le_refl _) _ _ d3, kept_below hW (Nat.le_refl _) _ _ x0, kept_below hW (Nat.le_refl _) _ _ x1, kept_below hW (Nat.le_refl _) _ _ x2, kept_below hW (Nat.le_refl _) _ _ x3, hW⟩ :
                  W.cell? ⟨bt, ot + j * 4, none⟩ = some (.int .i64 uk) ∧ W.cell? ⟨bt, ot + j * 4 + 1, none⟩ = some (.string ⟨ut.toArray⟩) ∧ W.cell? ⟨bt, ot + j * 4 + 2, none⟩ = some (.int .i64 ul) ∧ W.cell? ⟨bt, ot + j * 4 + 3, none⟩ = some (.int .i64 uc) ∧
                  W.cell? ⟨bt, ot + (j + 1) * 4, none⟩ = some (.int .i64 tk) ∧ W.cell? ⟨bt, ot + (j + 1) * 4 + 1, none⟩ = some (.string ⟨tt.toArray⟩) ∧ W.cell? ⟨bt, ot + (j + 1) * 4 + 2, none⟩ = some (.int .i64 tl) ∧ W.cell? ⟨bt, ot + (j + 1) * 4 + 3, none⟩ = some (.int .i64 tc) ∧ Below wr.heap.size wr W))
                clear hnx hn1 hb2 hb3 hra hrb hpt
                go_wp2_with fail
                clear x0 x1 x2 x3 d0 d1 d2 d3
                go_region_held3 (fun W => W.cell? ⟨bt, ot + j * 4, none⟩ = some (.int .i64 uk) ∧ W.cell? ⟨bt, ot + j * 4 + 1, none⟩ = some (.string ⟨ut.toArray⟩) ∧ W.cell? ⟨bt, ot + j * 4 + 2, none⟩ = some (.int .i64 ul) ∧ W.cell? ⟨bt, ot + j * 4 + 3, none⟩ = some (.int .i64 uc) ∧
                  W.cell? ⟨bt, ot + (j + 1) * 4, none⟩ = some (.int .i64 tk) ∧ W.cell? ⟨bt, ot + (j + 1) * 4 + 1, none⟩ = some (.string ⟨tt.toArray⟩) ∧ W.cell? ⟨bt, ot + (j + 1) * 4 + 2, none⟩ = some (.int .i64 tl) ∧ W.cell? ⟨bt, ot + (j + 1) * 4 + 3, none⟩ = some (.int .i64 tc) ∧ Below wr.heap.size wr W)
                  (with_reducible (refine GIVE.out _ ?_; first | exact hbx | exact (Below.refl _ _).drew))
                  (first
                    | (go_at_call 60; refine (CN.out _ (by with_reducible first | exact hbx | exact (Below.refl _ _).drew)).mono ?_; rintro e wx ⟨rfl, hbx⟩))
                have IX := Lib.hid (HI2.out.below hbx)
                have hb4 := HB3.out
                cases pb
                · go_wp2_with fail
                  go_roundw
                  case rel => exact ⟨j + 2, hlt, by go_num, by rw [HN1.out]; go_num, IX⟩
                  case measure => simp [intOf]; omega
                · go_wp2_with fail
                  go_roundw
                  case rel => exact ⟨j + 2, hlt, by go_num, by rw [HN1.out]; go_num, IX⟩
                  case measure => simp [intOf]; omega
          · obtain rfl : k = l.length := by omega
            have hfull : l.take l.length = l := List.take_length
            have hbd := HBD.out l.length
            rw [hfull] at hbd ⊢
            by_cases hbig : 20000 < (Lx.textOf (Lx.gapOf al) l).length
            · obtain ⟨rfl, rfl⟩ := Prod.mk.inj (HD3.out.trans (if_pos hbig))
              have hbigI : (20000 : Int) < ((Lx.textOf (Lx.gapOf al) l).length : Nat) := by omega
              generalize (Lx.textOf (Lx.gapOf al) l).length = N at *
              have z0 := HI2.out.hr.cell 0
              have z1 := HI2.out.hr.cell 1
              have f0 := HI2.out.hr.free 0
              have f1 := HI2.out.hr.free 1
              simp only [List.getElem?_toArray, List.getElem?_cons_zero, List.getElem?_cons_succ] at z0 z1
              go_wp2_with fail
              clear z0 z1
              have hf := (HI2.out.hr.set 0 (.string ⟨#[]⟩)).set 1 (.int .i64 3)
              have z0 := hf.cell 0
              have z1 := hf.cell 1
              refine bodyPost_ret (v := .agg #[.string ⟨#[]⟩, .int .i64 3]) (by simp [results, Tryd.results56, go_sem, z0, z1]) rfl ⟨rfl, ?_⟩
              exact (HI2.out.hB.setCell (p := ⟨w.heap.size, 0, none⟩) (Nat.le_refl _) _).setCell (p := ⟨w.heap.size, 1, none⟩) (Nat.le_refl _) _
            · obtain ⟨rfl, rfl⟩ := Prod.mk.inj (HD3.out.trans (if_neg hbig))
              have hsmI : ¬ (20000 : Int) < ((Lx.textOf (Lx.gapOf al) l).length : Nat) := by omega
              obtain ⟨i0, hi, hz0, hz1, hz2⟩ := info_parts byteInfo
              go_wp2_with (at_make; refine wpList_make_own _ rfl _ _ 105 rfl w.heap.size 5 i0 (.int .u8 0) 1 Tryd.underlying105 hi hz0 hz1 .i64 .i64 _ (Lx.textOf (Lx.gapOf al) l).length rfl rfl rfl (by rw [hz2]; omega) (by unfold maxLen; omega) HI2.out.hB.size ?_)
              intro w0 hown0 hgrow0
              have hI0 : PInv w w0 := ⟨HI2.out.hr.grown hgrow0 (by simp), Below.grown HI2.out.hB hgrow0 HI2.out.hB.size (fun g hg => by cases hg)⟩
              have HI0 := Lib.hid hI0
              have HO0 := Lib.hid hown0
              clear hI0 hown0 hgrow0
              go_wp2_with fail
              go_loopw [9, 10] (fun b i wr => ∃ k : Nat, k ≤ l.length ∧ i = .int .i64 k ∧ Hid (wr.ownsRow w.heap.size 5 1 b (Lx.textOf (Lx.gapOf al) (l.take k)).length (bcells (Lx.textOf (Lx.gapOf al) (l.take k)))) ∧ Hid (PInv w wr)) (fun _ i _ => l.length - (intOf i).toNat)
              case atStart => exact ⟨0, Nat.zero_le _, rfl, (by simpa [Lx.textOf, Lx.textFrom, bcells] using HO0.out : w0.ownsRow w.heap.size 5 1 _ (Lx.textOf (Lx.gapOf al) (l.take 0)).length (bcells (Lx.textOf (Lx.gapOf al) (l.take 0)))), HI0⟩
              case round =>
                obtain ⟨k, hk, rfl, HO, HI3⟩ := hrel
                by_cases hlt : k < l.length
                · have hltI : (k : Int) < l.length := by omega
                  obtain ⟨bt, ot, ct, hv, hc⟩ := (HL.out _ (Below.refl _ _)).first (by omega)
                  cases hv
                  have hw0 := hc k hlt
                  obtain ⟨x0, x1, x2, x3⟩ := hw0.below HI3.out.hB (Nat.le_refl _)
                  have htk := ht l[k] (List.getElem_mem hlt)
                  have hnx := HNXT.out k hlt
                  have hb1 := HBD.out k
                  have XW := Lib.hid hw0.2.1
                  have HO' : Hid (∀ X0, Lx.textOf (Lx.gapOf al) (l.take k) = X0 → wr.ownsRow w.heap.size 5 1 u9 X0.length (bcells X0)) := fun X0 e => by rw [← e]; exact HO.out
                  generalize hX0 : Lx.textOf (Lx.gapOf al) (l.take k) = X0 at *
                  have HOX := Lib.hid (HO'.out X0 rfl)
                  clear HO HO' hX0 hw0
                  cases k with
                  | zero =>
                    rw [Lx.parted_zero] at hnx
                    clear hc
                    generalize l[0] = t at *
                    obtain ⟨tk, tt, tl, tc⟩ := t
                    simp only [Nat.zero_mul, Nat.add_zero] at x0 x1 x2 x3 XW
                    dsimp only at x0 x1 x2 x3 htk hnx XW
                    have hd : decide ((0 : Int) < ((0 : Nat) : Int)) = false := by simp
                    have HN := Lib.hid hnx
                    clear hnx
                    go_wp2_with fail
                    go_quiet (fail)
                    have PQ : Hid (PInv w (wr.drewN nq)) := ⟨HI3.out.hr, below_drewN HI3.out.hB nq⟩
                    have OQ : Hid (World.ownsRow (wr.drewN nq) w.heap.size 5 1 u9 X0.length (bcells X0)) := HOX.out
                    have xs1 := kept_below PQ.out.hB (Nat.le_refl _) _ _ XW.out
                    go_wp2_with (at_builtin; refine Lib.wpList_append_own_string _ rfl _ _ 105 9 rfl w.heap.size 5 i0 Tryd.underlying105 Tryd.underlying9 hi hz0 hz1 hz2 _ _ _ rfl OQ.out ⟨tt.toArray⟩ rfl (by simp [ByteArray.size]; unfold maxLen; omega) (by simp [ByteArray.size]; omega) PQ.out.hB.size ?_)
                    intro v6 w6 hown6 hg6 _
                    have PW6 : Hid (PInv w w6) := ⟨PQ.out.hr.grown hg6 (own_apart OQ.out PQ.out.hr (by decide)), Below.grown PQ.out.hB hg6 PQ.out.hB.size (fun g hg => own_ge OQ.out hg)⟩
                    have O6 : Hid (w6.ownsRow w.heap.size 5 1 v6 (Lx.textOf (Lx.gapOf al) (l.take (0 + 1))).length (bcells (Lx.textOf (Lx.gapOf al) (l.take (0 + 1))))) := by
                      show World.ownsRow _ _ _ _ _ _ _
                      rw [HN.out]
                      simpa [bcells, Lib.strCells, ByteArray.size, Nat.add_assoc, Nat.add_comm 1] using hown6
                    clear hown6 hg6
                    go_wp2_with fail
                    go_roundw
                    case rel => exact ⟨0 + 1, hlt, by go_num, O6, PW6⟩
                    case measure => simp [intOf]; omega

                  | succ j =>
                    obtain ⟨d0, d1, d2, d3⟩ := (hc j (by omega)).below HI3.out.hB (Nat.le_refl _)
                    have hps := Lx.parted_succ (Lx.gapOf al) l j hlt
                    have hra := HR.out j (by omega) (by omega)
                    have hrb := HR.out (j + 1) hlt hlt
                    have htj := ht (l[j]'(by omega)) (List.getElem_mem _)
                    rw [hps] at hnx
                    clear hc hps
                    have hd : decide ((0 : Int) < (j : Int) + 1) = true := decide_eq_true (by omega)
                    have hd2 : (0 : Int) < (j : Int) + 1 := by omega
                    have hj1 : (0 : Int) ≤ (j : Int) + 1 := by omega
                    have hjt : ((j : Int) + 1).toNat = j + 1 := by omega
                    have hwj2 : IntKind.i64.wrap (j : Int) = (j : Int) := IntWalk.i64_in _ (by omega)
                    have hm : max (0 : Int) (j : Int) = j := by omega
                    have hj0 : (0 : Int) ≤ (j : Int) := by omega
                    have hjI : (j : Int) < l.length := by omega
                    have hwj : IntKind.i64.wrap ((j : Int) + 1 - 1) = (j : Int) := by rw [IntWalk.i64_in _ (by omega)]; omega
                    have hltI2 : (j : Int) + 1 < l.length := by omega
                    cases al
                    case true =>
                      have hpt : Lx.gapOf true (l[j]'(by omega)) l[j + 1] = true := rfl
                      rw [hpt] at hnx
                      generalize l[j + 1] = t at *
                      obtain ⟨tk, tt, tl, tc⟩ := t
                      dsimp only at x0 x1 x2 x3 htk hnx XW
                      have HN := Lib.hid hnx
                      clear hnx hra hrb hpt
                      go_wp2_with fail
                      go_quiet (fail)
                      have PQ : Hid (PInv w (wr.drewN nq)) := ⟨HI3.out.hr, below_drewN HI3.out.hB nq⟩
                      have OQ : Hid (World.ownsRow (wr.drewN nq) w.heap.size 5 1 u9 X0.length (bcells X0)) := HOX.out
                      have OA : Hid (World.ownsRow ((wr.drewN nq).alloc (.cells #[.int .u8 32] 5)) w.heap.size 5 1 u9 X0.length (bcells X0)) := OQ.out.alloc _
                      have PA : Hid (PInv w ((wr.drewN nq).alloc (.cells #[.int .u8 32] 5))) := PQ.out.below ((Below.refl _ _).alloc (Nat.le_refl _) _)
                      have N1 := Lib.hid (cell_one_new (wr.drewN nq) (.int .u8 32) 5)
                      have N8 : Hid (X0.length + 1 ≤ maxLen) := by show _ ≤ _; unfold maxLen; omega
                      have N9 : Hid ((X0.length + 1) * 1 ≤ 140737488355328) := by show _ ≤ _; omega
                      go_wp2_with (at_builtin; refine wpList_append_own_at _ rfl _ _ 105 rfl w.heap.size 5 i0 (.int .u8 0) 1 1 Tryd.underlying105 hi hz0 hz1 hz2 rfl (by decide) _ _ _ rfl OA.out ⟨wr.heap.size, 0, none⟩ 1 1 [.int .u8 32] rfl rfl N1.out (by simp [Value.oneCell']) N8.out N9.out PA.out.hB.size ?_)
                      intro v5 w5 hown5 hg5 _ _
                      have P5 : Hid (PInv w w5) := ⟨PA.out.hr.grown hg5 (own_apart OA.out PA.out.hr (by decide)), Below.grown PA.out.hB hg5 PA.out.hB.size (fun g hg => own_ge OA.out hg)⟩
                      have O5 := Lib.hid hown5
                      clear hown5 hg5

                      have xs1 := kept_below P5.out.hB (Nat.le_refl _) _ _ XW.out
                      go_wp2_with (at_builtin; refine Lib.wpList_append_own_string _ rfl _ _ 105 9 rfl w.heap.size 5 i0 Tryd.underlying105 Tryd.underlying9 hi hz0 hz1 hz2 _ _ _ rfl O5.out ⟨tt.toArray⟩ rfl (by simp [ByteArray.size]; unfold maxLen; omega) (by simp [ByteArray.size]; omega) P5.out.hB.size ?_)
                      intro v6 w6 hown6 hg6 _
                      have PW6 : Hid (PInv w w6) := ⟨P5.out.hr.grown hg6 (own_apart O5.out P5.out.hr (by decide)), Below.grown P5.out.hB hg6 P5.out.hB.size (fun g hg => own_ge O5.out hg)⟩
                      have O6 : Hid (w6.ownsRow w.heap.size 5 1 v6 (Lx.textOf (Lx.gapOf true) (l.take ((j + 1) + 1))).length (bcells (Lx.textOf (Lx.gapOf true) (l.take ((j + 1) + 1))))) := by
                        show World.ownsRow _ _ _ _ _ _ _
                        rw [HN.out]
                        simpa [bcells, Lib.strCells, ByteArray.size, Nat.add_assoc, Nat.add_comm 1] using hown6
                      clear hown6 hg6
                      go_wp2_with fail
                      go_roundw
                      case rel => exact ⟨(j + 1) + 1, hlt, by go_num, O6, PW6⟩
                      case measure => simp [intOf]; omega

                    case false =>
                      have CN := Lib.hid (fun (W : World) (hW : Below wr.heap.size wr W) => (rneeds_any (l[j]'(by omega)) l[j + 1] W (by omega) (by omega) hra hrb).mono (fun e w' (h : e = .returned (.bool (Lx.needs (l[j]'(by omega)) l[j + 1])) ∧ Below W.heap.size W w') => (⟨h.1, stepN hW h.2⟩ : e = .returned (.bool (Lx.needs (l[j]'(by omega)) l[j + 1])) ∧ Below wr.heap.size wr w')))
                      have hpt : Lx.gapOf false (l[j]'(by omega)) l[j + 1] = Lx.needs (l[j]'(by omega)) l[j + 1] := rfl
                      rw [hpt] at hnx
                      generalize Lx.needs (l[j]'(by omega)) l[j + 1] = pb at *
                      generalize l[j + 1] = t at *
                      generalize l[j] = u at *
                      obtain ⟨tk, tt, tl, tc⟩ := t
                      obtain ⟨uk, ut, ul, uc⟩ := u
                      dsimp only at x0 x1 x2 x3 d0 d1 d2 d3 htk htj hnx XW
                      have HN := Lib.hid hnx
                      have GIVE := Lib.hid (fun (W : World) (hW : Below wr.heap.size wr W) => (⟨kept_below hW (Nat.le_refl _) _ _ d0, kept_below hW (Nat.le_refl _) _ _ d1, kept_below hW (Nat.le_refl _) _ _ d2, kept_below hW (Nat.le_refl _) _ _ d3, kept_below hW (Nat.le_refl _) _ _ x0, kept_below hW (Nat.le_refl _) _ _ x1, kept_below hW (Nat.le_refl _) _ _ x2, kept_below hW (Nat.le_refl _) _ _ x3, hW⟩ :
                        W.cell? ⟨bt, ot + j * 4, none⟩ = some (.int .i64 uk) ∧ W.cell? ⟨bt, ot + j * 4 + 1, none⟩ = some (.string ⟨ut.toArray⟩) ∧ W.cell? ⟨bt, ot + j * 4 + 2, none⟩ = some (.int .i64 ul) ∧ W.cell? ⟨bt, ot + j * 4 + 3, none⟩ = some (.int .i64 uc) ∧
                        W.cell? ⟨bt, ot + (j + 1) * 4, none⟩ = some (.int .i64 tk) ∧ W.cell? ⟨bt, ot + (j + 1) * 4 + 1, none⟩ = some (.string ⟨tt.toArray⟩) ∧ W.cell? ⟨bt, ot + (j + 1) * 4 + 2, none⟩ = some (.int .i64 tl) ∧ W.cell? ⟨bt, ot + (j + 1) * 4 + 3, none⟩ = some (.int .i64 tc) ∧ Below wr.heap.size wr W))
                      clear hnx hra hrb hpt
                      go_wp2_with fail
                      clear x0 x1 x2 x3 d0 d1 d2 d3
                      go_region_held3 (fun W => W.cell? ⟨bt, ot + j * 4, none⟩ = some (.int .i64 uk) ∧ W.cell? ⟨bt, ot + j * 4 + 1, none⟩ = some (.string ⟨ut.toArray⟩) ∧ W.cell? ⟨bt, ot + j * 4 + 2, none⟩ = some (.int .i64 ul) ∧ W.cell? ⟨bt, ot + j * 4 + 3, none⟩ = some (.int .i64 uc) ∧
                        W.cell? ⟨bt, ot + (j + 1) * 4, none⟩ = some (.int .i64 tk) ∧ W.cell? ⟨bt, ot + (j + 1) * 4 + 1, none⟩ = some (.string ⟨tt.toArray⟩) ∧ W.cell? ⟨bt, ot + (j + 1) * 4 + 2, none⟩ = some (.int .i64 tl) ∧ W.cell? ⟨bt, ot + (j + 1) * 4 + 3, none⟩ = some (.int .i64 tc) ∧ Below wr.heap.size wr W)
                        (with_reducible (refine GIVE.out _ ?_; first | exact hbx | exact (Below.refl _ _).drew))
                        (first
                          | (go_at_call 60; refine (CN.out _ (by with_reducible first | exact hbx | exact (Below.refl _ _).drew)).mono ?_; rintro e wx ⟨rfl, hbx⟩))
                      have PQ := Lib.hid (HI3.out.below hbx)
                      have OQ := Lib.hid (own_below HOX.out hbx (Nat.le_refl _))
                      clear hbx
                      cases pb
                      · have xs1 := kept_below PQ.out.hB (Nat.le_refl _) _ _ XW.out
                        go_wp2_with (at_builtin; refine Lib.wpList_append_own_string _ rfl _ _ 105 9 rfl w.heap.size 5 i0 Tryd.underlying105 Tryd.underlying9 hi hz0 hz1 hz2 _ _ _ rfl OQ.out ⟨tt.toArray⟩ rfl (by simp [ByteArray.size]; unfold maxLen; omega) (by simp [ByteArray.size]; omega) PQ.out.hB.size ?_)
                        intro v6 w6 hown6 hg6 _
                        have PW6 : Hid (PInv w w6) := ⟨PQ.out.hr.grown hg6 (own_apart OQ.out PQ.out.hr (by decide)), Below.grown PQ.out.hB hg6 PQ.out.hB.size (fun g hg => own_ge OQ.out hg)⟩
                        have O6 : Hid (w6.ownsRow w.heap.size 5 1 v6 (Lx.textOf (Lx.gapOf false) (l.take ((j + 1) + 1))).length (bcells (Lx.textOf (Lx.gapOf false) (l.take ((j + 1) + 1))))) := by
                          show World.ownsRow _ _ _ _ _ _ _
                          rw [HN.out]
                          simpa [bcells, Lib.strCells, ByteArray.size, Nat.add_assoc, Nat.add_comm 1] using hown6
                        clear hown6 hg6
                        go_wp2_with fail
                        go_roundw
                        case rel => exact ⟨(j + 1) + 1, hlt, by go_num, O6, PW6⟩
                        case measure => simp [intOf]; omega

                      · have OA : Hid (World.ownsRow (wx.alloc (.cells #[.int .u8 32] 5)) w.heap.size 5 1 u9 X0.length (bcells X0)) := OQ.out.alloc _
                        have PA : Hid (PInv w (wx.alloc (.cells #[.int .u8 32] 5))) := PQ.out.below ((Below.refl _ _).alloc (Nat.le_refl _) _)
                        have N1 := Lib.hid (cell_one_new wx (.int .u8 32) 5)
                        have N8 : Hid (X0.length + 1 ≤ maxLen) := by show _ ≤ _; unfold maxLen; omega
                        have N9 : Hid ((X0.length + 1) * 1 ≤ 140737488355328) := by show _ ≤ _; omega
                        go_wp2_with (at_builtin; refine wpList_append_own_at _ rfl _ _ 105 rfl w.heap.size 5 i0 (.int .u8 0) 1 1 Tryd.underlying105 hi hz0 hz1 hz2 rfl (by decide) _ _ _ rfl OA.out ⟨wx.heap.size, 0, none⟩ 1 1 [.int .u8 32] rfl rfl N1.out (by simp [Value.oneCell']) N8.out N9.out PA.out.hB.size ?_)
                        intro v5 w5 hown5 hg5 _ _
                        have P5 : Hid (PInv w w5) := ⟨PA.out.hr.grown hg5 (own_apart OA.out PA.out.hr (by decide)), Below.grown PA.out.hB hg5 PA.out.hB.size (fun g hg => own_ge OA.out hg)⟩
                        have O5 := Lib.hid hown5
                        clear hown5 hg5

                        have xs1 := kept_below P5.out.hB (Nat.le_refl _) _ _ XW.out
                        go_wp2_with (at_builtin; refine Lib.wpList_append_own_string _ rfl _ _ 105 9 rfl w.heap.size 5 i0 Tryd.underlying105 Tryd.underlying9 hi hz0 hz1 hz2 _ _ _ rfl O5.out ⟨tt.toArray⟩ rfl (by simp [ByteArray.size]; unfold maxLen; omega) (by simp [ByteArray.size]; omega) P5.out.hB.size ?_)
                        intro v6 w6 hown6 hg6 _
                        have PW6 : Hid (PInv w w6) := ⟨P5.out.hr.grown hg6 (own_apart O5.out P5.out.hr (by decide)), Below.grown P5.out.hB hg6 P5.out.hB.size (fun g hg => own_ge O5.out hg)⟩
                        have O6 : Hid (w6.ownsRow w.heap.size 5 1 v6 (Lx.textOf (Lx.gapOf false) (l.take ((j + 1) + 1))).length (bcells (Lx.textOf (Lx.gapOf false) (l.take ((j + 1) + 1))))) := by
                          show World.ownsRow _ _ _ _ _ _ _
                          rw [HN.out]
                          simpa [bcells, Lib.strCells, ByteArray.size, Nat.add_assoc, Nat.add_comm 1] using hown6
                        clear hown6 hg6
                        go_wp2_with fail
                        go_roundw
                        case rel => exact ⟨(j + 1) + 1, hlt, by go_num, O6, PW6⟩
                        case measure => simp [intOf]; omega

                · obtain rfl : k = l.length := by omega
                  have hfull : l.take l.length = l := List.take_length
                  have hO := HO.out
                  rw [hfull] at hO
                  generalize hX : Lx.textOf (Lx.gapOf al) l = X at *
                  have HX := Lib.hid hX
                  clear hX
                  obtain ⟨Ab, cb, rfl⟩ := own_len hO
                  have kc : (convert 105 9 (.slice Ab X.length cb)).run Tryd.prog wr = .ok (.string ⟨X.toArray⟩) wr := by
                    rcases hO.2 with ⟨hv, h0⟩ | ⟨g, cap, cur, hv, _⟩
                    · injection hv with h1 h2 h3
                      subst h1
                      have hX : X = [] := List.eq_nil_of_length_eq_zero h2
                      subst hX
                      exact run_convert_bytes_nil wr 105 5 Tryd.underlying105 Tryd.underlying5 _ _ 9 Tryd.underlying9
                    · cases hv
                      have hc := hO.cells (g := g) rfl
                      exact run_convert_bytes_back wr 105 9 5 ⟨g, 0, none⟩ cb X Tryd.underlying105 Tryd.underlying5 Tryd.underlying9 (fun j hj => hc j _ (by simp [bcells, hj]))
                  have z0 := HI3.out.hr.cell 0
                  have z1 := HI3.out.hr.cell 1
                  have f0 := HI3.out.hr.free 0
                  have f1 := HI3.out.hr.free 1
                  simp only [List.getElem?_toArray, List.getElem?_cons_zero, List.getElem?_cons_succ] at z0 z1
                  clear hO HO
                  go_wp2_with fail
                  clear z0 z1
                  have hf := (HI3.out.hr.set 0 (.string ⟨X.toArray⟩)).set 1 (.int .i64 0)
                  have z0 := hf.cell 0
                  have z1 := hf.cell 1
                  refine bodyPost_ret (v := .agg #[.string ⟨X.toArray⟩, .int .i64 0]) (by simp [results, Tryd.results56, go_sem, z0, z1]) rfl ⟨by rw [HX.out], ?_⟩
                  exact (HI3.out.hB.setCell (p := ⟨w.heap.size, 0, none⟩) (Nat.le_refl _) _).setCell (p := ⟨w.heap.size, 1, none⟩) (Nat.le_refl _) _
end Go.Proofs.YtmmemkkljadglaaDoor
