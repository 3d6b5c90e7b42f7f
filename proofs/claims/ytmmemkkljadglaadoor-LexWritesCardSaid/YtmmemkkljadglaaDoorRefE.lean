/-
  The reference's words and kinds, by contract: they are the program's.
-/
import Derived.Test.YtmmemkkljadglaaDoorRefD
namespace Go.Proofs.YtmmemkkljadglaaDoor
open Go.RowKit Go.Shelf

theorem has_laid (ws : List (List UInt8)) (hws : ws.length ≤ 1000) (n : Nat) (hn : n = ws.length) (x : ByteArray) (W : World) (g : Nat) (hg : g = W.heap.size) (cs : Array Value) (hcs : cs = ((bytesOf ws).map Value.string).toArray) (b : Bool) (hb : decide (x.data.toList ∈ ws) = b) :
    Calls Tryd.prog 45 #[.slice (some ⟨g, 0, none⟩) n n, .string x] (W.alloc (.cells cs 9)) fun e w' => e = .returned (.bool b) ∧ w' = W.alloc (.cells cs 9) := by
  have hl := StrsAt.laid W (bytesOf ws) n g hg cs hcs
  have hlen : (bytesOf ws).length = ws.length := by simp
  rw [hlen, ← hn] at hl
  have := rhas_any _ _ x _ hl (by rw [hlen]; omega)
  refine this.mono ?_
  rintro e w' ⟨rfl, rfl⟩
  exact ⟨ret_bool (by rw [← hb]; congr 1; exact propext (bytesOf_mem ws x.data.toList)), rfl⟩

theorem any_snoc (p : UInt8 → Bool) (s : ByteArray) (k : Nat) (h : k < s.size) : (s.data.toList.take (k + 1)).any p = ((s.data.toList.take k).any p || p s[k]) := by
  rw [take_snoc s k h, List.any_append]
  simp

/-- The error's cell and the kind's, and what lay before. -/
structure Pair (w : World) (t : TypeId) (W : World) : Prop where
  below : Below w.heap.size w W
  has : Has W w.heap.size t #[.int .i64 0, .int .i64 0]
theorem Pair.new (w : World) (t : TypeId) : Pair w t (w.alloc (.cells #[.int .i64 0, .int .i64 0] t)) := ⟨(Below.refl _ _).alloc (Nat.le_refl _) _, Has.new _ _ _⟩
theorem Pair.later {w W W' : World} {t : TypeId} (h : Pair w t W) (hb : Below W.heap.size W W') : Pair w t W' := ⟨h.below.trans (hb.mono h.below.size), h.has.below hb h.has.lt⟩
theorem Pair.alloc {w W : World} {t : TypeId} (h : Pair w t W) (o : Obj) : Pair w t (W.alloc o) := h.later ((Below.refl _ _).alloc (Nat.le_refl _) o)
theorem Pair.c0 {w W : World} {t : TypeId} (h : Pair w t W) : W.cell? ⟨w.heap.size, 0, none⟩ = some (.int .i64 0) := (h.has.cell 0).trans rfl
theorem Pair.c1 {w W : World} {t : TypeId} (h : Pair w t W) : W.cell? ⟨w.heap.size, 1, none⟩ = some (.int .i64 0) := (h.has.cell 1).trans rfl
theorem Pair.set {w W : World} {t : TypeId} (h : Pair w t W) (K E : Int) : Has ((W.setCell ⟨w.heap.size, 0, none⟩ (.int .i64 K)).setCell ⟨w.heap.size, 1, none⟩ (.int .i64 E)) w.heap.size t #[.int .i64 K, .int .i64 E] := (h.has.set 0 (.int .i64 K)).set 1 (.int .i64 E)
theorem Pair.kept {w W : World} {t : TypeId} (h : Pair w t W) (u v : Value) : Below w.heap.size w ((W.setCell ⟨w.heap.size, 0, none⟩ u).setCell ⟨w.heap.size, 1, none⟩ v) := (h.below.setCell (p := ⟨w.heap.size, 0, none⟩) (Nat.le_refl _) u).setCell (p := ⟨w.heap.size, 1, none⟩) (Nat.le_refl _) v

set_option maxRecDepth 100000 in
set_option maxHeartbeats 2000000 in
theorem rword_any (s : ByteArray) (w : World) (hs : s.size ≤ 1000000) :
    Calls Tryd.prog 50 #[.string s] w fun e w' => e = .returned (.agg #[.int .i64 (Lx.refWord s.data.toList).1, .int .i64 (Lx.refWord s.data.toList).2]) ∧ Below w.heap.size w w' := by
  have hsp : Lx.refWord s.data.toList = if decide (s.data.toList ∈ Lx.keywords) || decide (s.data.toList ∈ Lx.capitals) then (3, 0) else if decide (s.data.toList ∈ Lx.smalls) then (0, 4) else if s.data.toList.any Lx.lower && s.data.toList.any Lx.upper then (0, 2) else if 20 < s.size then (0, 3) else if s.data.toList.any Lx.lower then (1, 0) else (2, 0) := by
    unfold Lx.refWord
    have e : s.data.toList.length = s.size := by simp
    rw [e]
    simp only [Bool.or_eq_true, decide_eq_true_eq]
  have CH := fun W v (hv : StrsAt W v (bytesOf Lx.keywords)) => rhas_any v (bytesOf Lx.keywords) s W hv (by rw [List.length_map, Lx.keywords_length]; decide)
  have hkm : decide (s.data.toList ∈ (bytesOf Lx.keywords).map fun s => s.data.toList) = decide (s.data.toList ∈ Lx.keywords) := decide_eq_decide.2 (bytesOf_mem _ _)
  simp only [hkm] at CH
  clear hkm
  have CC := fun W g hg cs hcs => has_laid Lx.capitals (by decide) 5 rfl s W g hg cs hcs _ rfl
  have CM := fun W g hg cs hcs => has_laid Lx.smalls (by decide) 5 rfl s W g hg cs hcs _ rfl
  have hend1 : s.data.toList.take s.size = s.data.toList := List.take_of_length_le (by simp)
  have hlo := fun k h => any_snoc Lx.lower s k h
  have hup := fun k h => any_snoc Lx.upper s k h
  generalize decide (s.data.toList ∈ Lx.keywords) = b1 at *
  generalize decide (s.data.toList ∈ Lx.capitals) = b2 at *
  generalize decide (s.data.toList ∈ Lx.smalls) = b3 at *
  generalize Lx.refWord s.data.toList = fin at *
  have HS := Lib.hid hsp
  have HCH := Lib.hid CH
  have HCC := Lib.hid CC
  have HCM := Lib.hid CM
  have HLO := Lib.hid hlo
  have HUP := Lib.hid hup
  have HEND := Lib.hid hend1
  have P0 := Lib.hid (Pair.new w 27)
  clear hsp CH CC CM hend1 hlo hup
  go_enter Tryd.func50, Tryd.ntmps50
  go_wp2_with fail
  refine (rKeywords_any _).mono ?_
  rintro e w1 ⟨Ak, rfl, hk1, hb1⟩
  have P1 := Lib.hid (P0.out.later hb1)
  have HK1 := Lib.hid hk1
  clear hb1 hk1 P0
  go_wp2_with fail
  refine (HCH.out _ _ HK1.out).mono ?_
  rintro e w2 ⟨rfl, rfl⟩
  cases b1
  case true =>
    have c0 := P1.out.c0
    have c1 := P1.out.c1
    have q0 := P1.out.has.free 0
    have q1 := P1.out.has.free 1
    go_wp2_with fail
    have d0 := (P1.out.set 3 0).cell 0
    have d1 := (P1.out.set 3 0).cell 1
    simp at d0 d1
    refine bodyPost_ret (v := .agg #[.int .i64 3, .int .i64 0]) ?_ rfl ⟨?_, P1.out.kept _ _⟩
    · simp [results, Tryd.results50, go_sem, d0, d1]
    · rw [HS.out]; simp
  case false =>
    go_wp2_with fail
    refine (HCC.out _ _ rfl _ rfl).mono ?_
    rintro e w3 ⟨rfl, hw3⟩
    have P2 := Lib.hid (show Pair w 27 w3 from hw3 ▸ P1.out.alloc _)
    clear hw3
    cases b2
    case true =>
      have c0 := P2.out.c0
      have c1 := P2.out.c1
      have q0 := P2.out.has.free 0
      have q1 := P2.out.has.free 1
      go_wp2_with fail
      have d0 := (P2.out.set 3 0).cell 0
      have d1 := (P2.out.set 3 0).cell 1
      simp at d0 d1
      refine bodyPost_ret (v := .agg #[.int .i64 3, .int .i64 0]) ?_ rfl ⟨?_, P2.out.kept _ _⟩
      · simp [results, Tryd.results50, go_sem, d0, d1]
      · rw [HS.out]; simp
    case false =>
      go_wp2_with fail
      refine (HCM.out _ _ rfl _ rfl).mono ?_
      rintro e w4 ⟨rfl, hw4⟩
      have P3 := Lib.hid (show Pair w 27 w4 from hw4 ▸ P2.out.alloc _)
      clear hw4
      have c0 := P3.out.c0
      have c1 := P3.out.c1
      have q0 := P3.out.has.free 0
      have q1 := P3.out.has.free 1
      cases b3
      case true =>
        go_wp2_with fail
        have d0 := (P3.out.set 0 4).cell 0
        have d1 := (P3.out.set 0 4).cell 1
        simp at d0 d1
        refine bodyPost_ret (v := .agg #[.int .i64 0, .int .i64 4]) ?_ rfl ⟨?_, P3.out.kept _ _⟩
        · simp [results, Tryd.results50, go_sem, d0, d1]
        · rw [HS.out]; simp
      case false =>
        go_wp2_with fail
        go_loop [3, 4, 5] (fun lo hi n => ∃ k : Nat, k ≤ s.size ∧ n = .int .i64 k ∧ lo = .bool ((s.data.toList.take k).any Lx.lower) ∧ hi = .bool ((s.data.toList.take k).any Lx.upper)) (fun _ _ n => s.size - (intOf n).toNat)
        case atStart => exact ⟨0, Nat.zero_le _, rfl, rfl, rfl⟩
        case round =>
          obtain ⟨k, hk, rfl, rfl, rfl⟩ := hrel
          by_cases hlt : k < s.size
          · have e1 := HLO.out k hlt
            have e2 := HUP.out k hlt
            have CS := Lib.hid (fun W => rsmall_any s[k] W)
            have CA := Lib.hid (fun W => rcapital_any s[k] W)
            generalize (s.data.toList.take k).any Lx.lower = lo at *
            generalize (s.data.toList.take k).any Lx.upper = up at *
            generalize Lx.lower s[k] = la at *
            generalize Lx.upper s[k] = ua at *
            have E1 := Lib.hid e1
            have E2 := Lib.hid e2
            clear e1 e2
            cases lo <;> cases up
            all_goals
              go_wp2_with (first
                | (go_at_call 82; refine (CS.out _).mono ?_; rintro e w' ⟨rfl, rfl⟩)
                | (go_at_call 83; refine (CA.out _).mono ?_; rintro e w' ⟨rfl, rfl⟩))
              go_round
              case rel => exact ⟨k + 1, by omega, by go_num, by rw [E1.out]; simp, by rw [E2.out]; simp⟩
              case measure => simp [intOf]; omega
          · obtain rfl : k = s.size := by omega
            rw [HEND.out]
            generalize s.data.toList.any Lx.lower = lo at *
            generalize s.data.toList.any Lx.upper = up at *
            cases lo <;> cases up
            · by_cases h20 : (20 : Int) < s.size
              · go_wp2_with fail
                have d0 := (P3.out.set 0 3).cell 0
                have d1 := (P3.out.set 0 3).cell 1
                simp at d0 d1
                refine bodyPost_ret (v := .agg #[.int .i64 0, .int .i64 3]) ?_ rfl ⟨?_, P3.out.kept _ _⟩
                · simp [results, Tryd.results50, go_sem, d0, d1]
                · rw [HS.out]; simp [show 20 < s.size from by omega]
              · go_wp2_with fail
                have d0 := (P3.out.set 2 0).cell 0
                have d1 := (P3.out.set 2 0).cell 1
                simp at d0 d1
                refine bodyPost_ret (v := .agg #[.int .i64 2, .int .i64 0]) ?_ rfl ⟨?_, P3.out.kept _ _⟩
                · simp [results, Tryd.results50, go_sem, d0, d1]
                · rw [HS.out]; simp [show ¬ 20 < s.size from by omega]
            · by_cases h20 : (20 : Int) < s.size
              · go_wp2_with fail
                have d0 := (P3.out.set 0 3).cell 0
                have d1 := (P3.out.set 0 3).cell 1
                simp at d0 d1
                refine bodyPost_ret (v := .agg #[.int .i64 0, .int .i64 3]) ?_ rfl ⟨?_, P3.out.kept _ _⟩
                · simp [results, Tryd.results50, go_sem, d0, d1]
                · rw [HS.out]; simp [show 20 < s.size from by omega]
              · go_wp2_with fail
                have d0 := (P3.out.set 2 0).cell 0
                have d1 := (P3.out.set 2 0).cell 1
                simp at d0 d1
                refine bodyPost_ret (v := .agg #[.int .i64 2, .int .i64 0]) ?_ rfl ⟨?_, P3.out.kept _ _⟩
                · simp [results, Tryd.results50, go_sem, d0, d1]
                · rw [HS.out]; simp [show ¬ 20 < s.size from by omega]
            · by_cases h20 : (20 : Int) < s.size
              · go_wp2_with fail
                have d0 := (P3.out.set 0 3).cell 0
                have d1 := (P3.out.set 0 3).cell 1
                simp at d0 d1
                refine bodyPost_ret (v := .agg #[.int .i64 0, .int .i64 3]) ?_ rfl ⟨?_, P3.out.kept _ _⟩
                · simp [results, Tryd.results50, go_sem, d0, d1]
                · rw [HS.out]; simp [show 20 < s.size from by omega]
              · go_wp2_with fail
                have d0 := (P3.out.set 1 0).cell 0
                have d1 := (P3.out.set 1 0).cell 1
                simp at d0 d1
                refine bodyPost_ret (v := .agg #[.int .i64 1, .int .i64 0]) ?_ rfl ⟨?_, P3.out.kept _ _⟩
                · simp [results, Tryd.results50, go_sem, d0, d1]
                · rw [HS.out]; simp [show ¬ 20 < s.size from by omega]
            · go_wp2_with fail
              have d0 := (P3.out.set 0 2).cell 0
              have d1 := (P3.out.set 0 2).cell 1
              simp at d0 d1
              refine bodyPost_ret (v := .agg #[.int .i64 0, .int .i64 2]) ?_ rfl ⟨?_, P3.out.kept _ _⟩
              · simp [results, Tryd.results50, go_sem, d0, d1]
              · rw [HS.out]; simp
end Go.Proofs.YtmmemkkljadglaaDoor
