/-
  What Above and Is return, in package heir, of a valid system and its classes.
-/
import Derived.Test.YtbiblpgdddgpmaaHEnter
namespace Go.Proofs.Ytbiblpgdddgpmaa
open Go.RowKit Go.Shelf

theorem nms_laid (w : World) (l : List Hr.Nm) (c : Nat) : NmsAt (w.alloc (.cells (nmRow l).toArray 9)) (.slice (some ⟨w.heap.size, 0, none⟩) l.length c) l := by
  refine ⟨_, c, rfl, fun h0 => ⟨w.heap.size, 0, rfl, fun i hi => ?_⟩⟩
  rw [(Has.new w 9 (nmRow l).toArray).cell]
  simp [nmRow, hi]

set_option maxRecDepth 100000 in
set_option maxHeartbeats 1000000 in
theorem Above_ok (v : Value) (S : List Hr.Cls) (c : Hr.Nm) (w : World) (h : SysAt w v S) (hV : Hr.Valid S) (hc : c.length ≤ 140737488355328) (hin : (Hr.firstAt S c).isSome = true) :
    Calls Try.prog 24 #[v, nm c] w fun e w' => ∃ o, e = .returned (.tuple #[o, .int .i64 0]) ∧ w'.ownsRow w.heap.size 9 1 o (Hr.above (Hr.links S) c).length (nmRow (Hr.above (Hr.links S) c)) ∧ Below w.heap.size w w' := by
  have hLL := hV.hL
  have hB1 : Below w.heap.size w (w.alloc (.cells #[nm c] 9)) := (Below.refl _ _).alloc (Nat.le_refl _) _
  have HE := Lib.hid (enter_ok v _ S [c] _ (h.below hB1 (Nat.le_refl _)) hV (nms_laid w [c] 1) (by simp) (fun s hs => by rw [List.mem_singleton.1 hs]; exact hc) (fun s hs => by rw [List.mem_singleton.1 hs]; exact hin))
  have HB1 := Lib.hid hB1
  clear h hV hin hB1
  generalize Hr.links S = L at *
  go_enter Try.func24, Try.ntmps24
  go_wp2_with (first
    | (go_at_call 34; refine HE.out.mono ?_
       rintro e w2 ⟨x, rfl, ⟨A, cp, m, k, rfl, hl2, -, hm2⟩, hb2⟩
       have HB2 := Lib.hid (stepA (Below.refl _ _) _ hb2)
       have hb3 : Below w2.heap.size w2 (w2.alloc (.cells #[.slice A L.length cp, .map (some m)] 73)) := (Below.refl _ _).alloc (Nat.le_refl _) _
       have HA := Lib.hid (above_any A cp m k L c _ (hl2.below hb3 (Nat.le_refl _)) (hm2.below hb3 hm2.lt) hc (by omega))
       have HB3 := Lib.hid (stepN HB2.out hb3)
       clear hl2 hm2 hb2 hb3)
    | (go_at_call 57; refine HA.out.mono ?_
       rintro e w4 ⟨o, rfl, ho4, hb4⟩
       have HO := Lib.hid (own_base ho4 HB3.out.size)
       have HB4 := Lib.hid (stepN HB3.out hb4)
       clear ho4 hb4))
  refine bodyPost_ret (v := .tuple #[o, .int .i64 0]) ?_ rfl ⟨o, rfl, HO.out, HB4.out⟩
  simp [results, Try.results24, go_sem]

set_option maxRecDepth 100000 in
set_option maxHeartbeats 1000000 in
theorem Is_ok (v : Value) (S : List Hr.Cls) (c a : Hr.Nm) (w : World) (h : SysAt w v S) (hV : Hr.Valid S) (hc : c.length ≤ 140737488355328) (ha : a.length ≤ 140737488355328) (hin : (Hr.firstAt S c).isSome = true) (hina : (Hr.firstAt S a).isSome = true) :
    Calls Try.prog 40 #[v, nm c, nm a] w fun e w' => e = .returned (.tuple #[.bool (Hr.isUp (Hr.links S) c a), .int .i64 0]) ∧ Below w.heap.size w w' := by
  have hLL := hV.hL
  have hB1 : Below w.heap.size w (w.alloc (.cells #[nm c, nm a] 9)) := (Below.refl _ _).alloc (Nat.le_refl _) _
  have HE := Lib.hid (enter_ok v _ S [c, a] _ (h.below hB1 (Nat.le_refl _)) hV (nms_laid w [c, a] 2) (by simp) (fun s hs => by
    rcases List.mem_cons.1 hs with h | h
    · rw [h]; exact hc
    · rw [List.mem_singleton.1 h]; exact ha) (fun s hs => by
    rcases List.mem_cons.1 hs with h | h
    · rw [h]; exact hin
    · rw [List.mem_singleton.1 h]; exact hina))
  have HB1 := Lib.hid hB1
  clear h hV hin hina hB1
  generalize Hr.links S = L at *
  go_enter Try.func40, Try.ntmps40
  go_wp2_with (first
    | (go_at_call 34; refine HE.out.mono ?_
       rintro e w2 ⟨x, rfl, ⟨A, cp, m, k, rfl, hl2, -, hm2⟩, hb2⟩
       have HB2 := Lib.hid (stepA (Below.refl _ _) _ hb2)
       have hb3 : Below w2.heap.size w2 (w2.alloc (.cells #[.slice A L.length cp, .map (some m)] 73)) := (Below.refl _ _).alloc (Nat.le_refl _) _
       have HA := Lib.hid (is_any A cp m k L c a _ (hl2.below hb3 (Nat.le_refl _)) (hm2.below hb3 hm2.lt) hc (by omega))
       have HB3 := Lib.hid (stepN HB2.out hb3)
       clear hl2 hm2 hb2 hb3)
    | (go_at_call 39; refine HA.out.mono ?_
       rintro e w4 ⟨rfl, hb4⟩
       have HB4 := Lib.hid (stepN HB3.out hb4)
       clear hb4))
  refine bodyPost_ret (v := .tuple #[.bool (Hr.isUp L c a), .int .i64 0]) ?_ rfl ⟨rfl, HB4.out⟩
  simp [results, Try.results40, go_sem]
end Go.Proofs.Ytbiblpgdddgpmaa
