/-
  The iterator over the runs of a line, in package lex.
-/
import Derived.Test.YtadicempblgmhaaDoorTake
import Derived.Shelf.Abstract
import Derived.Shelf.RegionOpen
import Derived.OwnWalkIn
import Derived.TacticsInMore
import Derived.LoopNIn
import Derived.LoopIn
namespace Go.Proofs.YtadicempblgmhaaDoor
open Go.RowKit Go.Shelf

namespace Lx
theorem runsFrom_fuel : ∀ (n m k : Nat) (l : List UInt8), l.length ≤ n → l.length ≤ m → runsFrom n k l = runsFrom m k l
  | 0, 0, _, _, _, _ => rfl
  | 0, m + 1, k, l, h, _ => by
    have : l = [] := List.eq_nil_of_length_eq_zero (by omega)
    subst this; rfl
  | n + 1, 0, k, l, _, h => by
    have : l = [] := List.eq_nil_of_length_eq_zero (by omega)
    subst this; rfl
  | n + 1, m + 1, k, [], _, _ => rfl
  | n + 1, m + 1, k, c :: r, h1, h2 => by
    have hp := runLength_pos c r
    simp only [runsFrom]
    rw [runsFrom_fuel n m _ _ (by rw [List.length_drop]; omega) (by rw [List.length_drop]; omega)]

/-- The runs from an offset on. -/
def runsAt (l : List UInt8) (k : Nat) : List (Nat × List UInt8) := runsFrom l.length k (l.drop k)
theorem runsAt_zero (l : List UInt8) : runsAt l 0 = runs l := rfl
theorem runsAt_end (l : List UInt8) (k : Nat) (h : l.length ≤ k) : runsAt l k = [] := by
  unfold runsAt
  rw [List.drop_of_length_le h]
  cases l.length <;> rfl
theorem runsAt_step (l : List UInt8) (k : Nat) (h : k < l.length) :
    runsAt l k = (if l[k] = 32 then [] else [(k, (l.drop k).take (runLength (l.drop k)))]) ++ runsAt l (k + runLength (l.drop k)) := by
  unfold runsAt
  have hd : l.drop k = l[k] :: l.drop (k + 1) := List.drop_eq_getElem_cons h
  obtain ⟨n, hn⟩ : ∃ n, l.length = n + 1 := ⟨l.length - 1, by omega⟩
  have hp := runLength_pos l[k] (l.drop (k + 1))
  rw [← hd] at hp
  rw [hn]
  conv => lhs; rw [hd]
  simp only [runsFrom]
  rw [← hd, List.drop_drop]
  rw [runsFrom_fuel n (n + 1) _ _ (by rw [List.length_drop]; omega) (by rw [List.length_drop]; omega)]
end Lx

theorem getElem_toList (s : ByteArray) (k : Nat) (h : k < s.data.toList.length) : s.data.toList[k] = s[k]'(by simpa using h) := rfl
/-- A run, its offset ahead of it. -/
abbrev Run := { x : Nat × List UInt8 // x.1 ≤ 900000 ∧ x.2.length ≤ 900000 }
abbrev encRun (x : Run) : Array Value := #[.int .i64 x.1.1, .string ⟨x.1.2.toArray⟩]
def KeptBox (bx : Nat) (W W' : World) : Prop := (∀ v, W.cell? ⟨bx, 0, none⟩ = some v → W'.cell? ⟨bx, 0, none⟩ = some v) ∧ (Env W → Env W')
theorem KeptBox.trans {bx : Nat} {X Y Z : World} (h : KeptBox bx X Y) (k : KeptBox bx Y Z) : KeptBox bx X Z := ⟨fun v hv => k.1 v (h.1 v hv), fun hE => k.2 (h.2 hE)⟩

attribute [local go_sem] Oper.semAt_some

theorem runLength_in (n : Nat) (s : ByteArray) (w : World) (hs : s.size ≤ 1000000) (hE : Env w) (h0 : 0 < s.size) :
    CallsIn Fence.wide n Tryd.prog 107 #[.string s] w fun e w' => e = .returned (.int .i64 (Lx.runLength s.data.toList)) ∧ w = w' := callsIn_wide.2 (runLength_any s w hs hE h0)

set_option maxRecDepth 100000 in
set_option maxHeartbeats 1000000 in
theorem runs_stops (n : Nat) (hn : 1 ≤ n) (bx : Nat) (s : ByteArray) (w : World) (hs : s.size ≤ 900000) (hbx : w.cell? ⟨bx, 0, none⟩ = some (.string s)) (hE : Env w) :
    SeqStopsK Fence.wide n Tryd.prog 127 #[.pointer (some ⟨bx, 0, none⟩)] encRun (KeptBox bx) (fun xs => xs.map (·.1) = Lx.runs s.data.toList) (fun pre => pre.map (·.1) <+: Lx.runs s.data.toList) (Lx.runs s.data.toList).length w := fun l J Jx W hW _ _ hY h0 => by
  have hb0 : W.cell? ⟨bx, 0, none⟩ = some (.string s) := (hW.cell (p := ⟨bx, 0, none⟩) (World.block_lt_of_cell? w _ hbx)).trans hbx
  have hE0 := hE.below hW (Nat.le_refl _)
  refine callsIn_of_wp Tryd.func127 rfl trivial ?_ rfl
  simp only [Tryd.ntmps127, List.size_toArray, List.length_cons, List.length_nil, Nat.reduceAdd, Nat.reduceSub, Array.replicate_succ, Array.replicate_zero, List.push_toArray, List.append_toArray, List.nil_append, List.cons_append]
  gi_wp2
  gi_loopw [3] (fun v wr => ∃ (k : Nat) (pre : List Run), v = .int .i64 k ∧ k ≤ s.size ∧ Hid (pre.map (·.1) ++ Lx.runsAt s.data.toList k = Lx.runs s.data.toList) ∧ J pre wr ∧ wr.cell? ⟨bx, 0, none⟩ = some (.string s) ∧ Env wr) (fun v wr => s.size - (intOf v).toNat)
  case atStart => exact ⟨0, [], rfl, Nat.zero_le _, rfl, h0, hb0, hE0⟩
  case round =>
    obtain ⟨k, pre, rfl, hk, HP, hJ, hc, hEr⟩ := hrel
    by_cases hlt : k < s.size
    · have hdl : (s.extract k s.size).data.toList = s.data.toList.drop k := by
        rw [Lib.extract_data, List.take_of_length_le (by simp)]
      have hk' : k < s.data.toList.length := by simpa using hlt
      have hst := Lx.runsAt_step s.data.toList k hk'
      have hle := Lx.runLength_le (s.data.toList.drop k)
      have hps : 1 ≤ Lx.runLength (s.data.toList.drop k) := by
        rw [List.drop_eq_getElem_cons (by simpa using hlt)]; exact Lx.runLength_pos _ _
      rw [List.length_drop, show s.data.toList.length = s.size from by simp] at hle
      have cR := fun w hE => runLength_in (n - 1) (s.extract k s.size) w (by simp; omega) hE (by simp; omega)
      rw [hdl] at cR
      have hsub : (⟨((s.data.toList.drop k).take (Lx.runLength (s.data.toList.drop k))).toArray⟩ : ByteArray) = s.extract k (k + Lx.runLength (s.data.toList.drop k)) := by
        rw [Lib.extract_eq, Nat.add_sub_cancel_left]
      have hbd : ((s.data.toList.drop k).take (Lx.runLength (s.data.toList.drop k))).length ≤ 900000 := by
        rw [List.length_take]; simp; omega
      generalize hN : Lx.runLength (s.data.toList.drop k) = N at hst hle hps cR hsub hbd
      have CR := Lib.hid cR
      have HST := Lib.hid hst
      have HSUB := Lib.hid hsub
      clear cR hst hsub hdl hN
      by_cases h32 : ((s[k].toNat : Int) != 32) = true
      · have hnot : s.data.toList[k]'hk' ≠ 32 := by
          intro h
          rw [getElem_toList] at h
          rw [h] at h32
          simp at h32
        have HP2 : (pre ++ [(⟨(k, (s.data.toList.drop k).take N), ⟨by omega, hbd⟩⟩ : Run)]).map (·.1) ++ Lx.runsAt s.data.toList (k + N) = Lx.runs s.data.toList := by
          rw [← HP.out, HST.out, if_neg hnot]; simp
        have hlt2 : pre.length < (Lx.runs s.data.toList).length := by
          rw [← HP2]; simp
        obtain ⟨fn, tmps, assign, body, hy, hR⟩ := hY pre ⟨(k, (s.data.toList.drop k).take N), ⟨by omega, hbd⟩⟩ wr hJ hlt2
        dsimp only [encRun] at hy
        rw [HSUB.out] at hy
        have HP2' := Lib.hid HP2
        clear hlt2 HP2 hnot HP
        gi_wp2_with (refine ⟨trivial, ?_⟩; gi_at_call 107; refine (CR.out _ hEr).mono ?_; rintro e w1 ⟨rfl, rfl⟩)
        refine hR.mono ?_
        rintro e W3 (⟨rfl, hJ3, hk3⟩ | ⟨rfl, hJx3⟩)
        · gi_wp2
          go_roundw
          case rel => exact ⟨k + N, _, by go_num, by omega, HP2', hJ3, hk3.1 _ hc, hk3.2 hEr⟩
          case measure => simp [intOf]; omega
        · gi_wp2
          refine bodyPost_ret (results_none rfl _ _ _) rfl ?_
          exact ⟨⟨_, rfl⟩, .inr ⟨_, ⟨_, HP2'.out⟩, hJx3⟩⟩
      · have h32' : ((s[k].toNat : Int) != 32) = false := by simpa using h32
        clear h32
        have hyes : s.data.toList[k]'hk' = 32 := by
          rw [getElem_toList]
          apply UInt8.toNat_inj.1
          simp at h32'
          simp; omega
        have HP2 : pre.map (·.1) ++ Lx.runsAt s.data.toList (k + N) = Lx.runs s.data.toList := by
          rw [← HP.out, HST.out, if_pos hyes]; simp
        have HP2' := Lib.hid HP2
        clear HP2 hyes HP
        gi_wp2_with (refine ⟨trivial, ?_⟩; gi_at_call 107; refine (CR.out _ hEr).mono ?_; rintro e w1 ⟨rfl, rfl⟩)
        refine ⟨fun _ h => (by cases h), ?_⟩
        gi_wp2
        go_roundw
        case rel => exact ⟨k + N, _, by go_num, by omega, HP2', hJ, hc, hEr⟩
        case measure => simp [intOf]; omega
    · gi_wp2
      go_end0
      refine ⟨⟨_, rfl⟩, .inl ⟨pre, ?_, hJ⟩⟩
      have := HP.out
      rw [Lx.runsAt_end _ _ (by simp; omega), List.append_nil] at this
      exact this
end Go.Proofs.YtadicempblgmhaaDoor
