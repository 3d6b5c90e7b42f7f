/-
  What enter returns, in package heir, of a valid system and names of its classes.
-/
import Derived.Test.YtbiblpgdddgpmaaHCheckO
namespace Go.Proofs.Ytbiblpgdddgpmaa
open Go.RowKit Go.Shelf

set_option maxRecDepth 100000 in
set_option maxHeartbeats 2000000 in
theorem enter_ok (v u : Value) (S : List Hr.Cls) (l : List Hr.Nm) (w : World) (h : SysAt w v S) (hV : Hr.Valid S) (hu : NmsAt w u l) (hl : l.length ≤ 1000000) (hf : FineN l) (hin : ∀ s ∈ l, (Hr.firstAt S s).isSome = true) :
    Calls Try.prog 34 #[v, u] w fun e w' => ∃ x, e = .returned (.tuple #[x, .int .i64 0]) ∧ GraphAt w' w'.heap.size x (Hr.links S) ∧ Below w.heap.size w w' := by
  have HV := Lib.hid hV
  have HU := Lib.hid hu
  have HFN := Lib.hid hf
  have HIN := Lib.hid hin
  have h24 := hV.h24
  have hLL := hV.hL
  have hB1 : Below w.heap.size w (w.alloc (.cells #[.slice none 0 0, .map none] 73)) := (Below.refl _ _).alloc (Nat.le_refl _) _
  have HR1 : Hid (Has (w.alloc (.cells #[.slice none 0 0, .map none] 73)) w.heap.size 73 #[.slice none 0 0, .map none]) := Has.new _ _ _
  have HC := Lib.hid (Check_ok v S _ (h.below hB1 (Nat.le_refl _)) hV)
  have HB1 := Lib.hid hB1
  have HS := Lib.hid h
  have HFI := Lib.hid (links_fine h)
  obtain ⟨uA, uc, rfl, -⟩ := hu
  clear h hV hf hin hB1
  go_enter Try.func34, Try.ntmps34
  go_wp2_with (first
    | (go_at_call 16; refine HC.out.mono ?_
       rintro e w2 ⟨rfl, hb2⟩
       have HB2 := Lib.hid (stepA (Below.refl _ _) _ hb2)
       have HR2 := Lib.hid (HR1.out.below hb2 HR1.out.lt)
       have HF := Lib.hid (firsts_any v S w2 (HS.out.below HB2.out (Nat.le_refl _)) (by omega))
       clear hb2)
    | (go_at_call 41; refine HF.out.mono ?_
       rintro e w3 ⟨m, rfl, -, hm3, hb3⟩
       have HB3 := Lib.hid (stepN HB2.out hb3)
       have HR3 := Lib.hid (HR2.out.below hb3 HR2.out.lt)
       have HM3 := Lib.hid hm3
       clear hb3 hm3))
  go_loopw [24] (fun i wr => ∃ j : Nat, j ≤ l.length ∧ i = .int .i64 j ∧ w3 = wr) (fun i _ => l.length - (intOf i).toNat)
  case atStart => exact ⟨0, Nat.zero_le _, rfl, rfl⟩
  case round =>
    obtain ⟨j, hj, rfl, rfl⟩ := hrel
    by_cases hlt : j < l.length
    · obtain ⟨A', c', hv', hat⟩ := HU.out.below HB3.out (Nat.le_refl _)
      cases hv'
      obtain ⟨b, ob, hA, hat2⟩ := hat (by omega)
      subst hA
      have c0 := hat2 j hlt
      have hblt := World.block_lt_of_cell? _ _ c0
      have hw1 : IntKind.i64.wrap ((j : Int) + 1) = (j : Int) + 1 := IntWalk.i64_in _ (by omega)
      have hltI : (j : Int) < l.length := by omega
      have hn := HFN.out l[j] (List.getElem_mem hlt)
      have hsome : ((fun s => (Hr.firstAt S s).map Int.ofNat) l[j]).isSome = true := by
        have := HIN.out l[j] (List.getElem_mem hlt)
        cases hx : Hr.firstAt S l[j] <;> simp_all
      have HH := Lib.hid (has_any m S.length _ l[j] w3 hn HM3.out)
      rw [hsome] at HH
      clear hat hat2 hsome
      generalize l[j] = N at *
      go_wp2_with (go_at_call 45; refine HH.out.mono ?_; rintro e w' ⟨rfl, rfl⟩)
      go_roundw
      case rel => exact ⟨j + 1, by omega, by go_num, by trivial⟩
      case measure => simp [intOf]; omega
    · obtain rfl : j = l.length := by omega
      have HLK := Lib.hid (linksOf_any v S w3 (HS.out.below HB3.out (Nat.le_refl _)) (by omega) (by omega))
      generalize hLS : Hr.links S = L at *
      go_wp2_with (first
        | (go_at_call 47; refine HLK.out.mono ?_
           rintro e w4 ⟨x1, rfl, ho4, hb4⟩
           have HG := Lib.hid (graphOf_any x1 L w4 (LinksAt.of_own HFI.out ho4) (by omega))
           have HB4 := Lib.hid (stepN HB3.out hb4)
           have HR4 := Lib.hid (HR3.out.below hb4 HR3.out.lt)
           clear ho4 hb4)
        | (go_at_call 46; refine HG.out.mono ?_
           rintro e w5 ⟨x2, rfl, hg5, hb5⟩
           obtain ⟨A, cp, m2, k2, rfl, hl5, hm5, hmi5⟩ := hg5
           have HB5 := Lib.hid (stepN HB4.out hb5)
           have HR5 := Lib.hid (HR4.out.below hb5 HR4.out.lt)
           have z0 := HR5.out.cell 0
           have z1 := HR5.out.cell 1
           have zf0 := HR5.out.free 0
           have zf1 := HR5.out.free 1
           have zlt := HR5.out.lt
           simp only [List.getElem?_toArray, List.getElem?_cons_zero, List.getElem?_cons_succ] at z0 z1
           have HL5 := Lib.hid hl5
           have HM5 := Lib.hid hmi5
           clear hl5 hmi5 hb5))
      have hmr : m2 ≠ w.heap.size := fun e => by
        obtain ⟨D, ⟨es, clock, h4, _⟩, _⟩ := HM5.out
        have h5 := HR5.out
        unfold Has at h5
        rw [e, h5] at h4
        cases h4
      have hB6 : Below w.heap.size w ((w5.setCell ⟨w.heap.size, 0, none⟩ (.slice A L.length cp)).setCell ⟨w.heap.size, 1, none⟩ (.map (some m2))) :=
        (HB5.out.setCell (p := ⟨w.heap.size, 0, none⟩) (Nat.le_refl _) _).setCell (p := ⟨w.heap.size, 1, none⟩) (Nat.le_refl _) _
      have hM6 := (HM5.out.kept (grown_set w5 w.heap.size 0 (.slice A L.length cp)) (by simpa using hmr)).kept (grown_set _ w.heap.size 1 (.map (some m2))) (by simpa using hmr)
      have hL6 : LinksAt ((w5.setCell ⟨w.heap.size, 0, none⟩ (.slice A L.length cp)).setCell ⟨w.heap.size, 1, none⟩ (.map (some m2))) (.slice A L.length cp) L := by
        obtain ⟨hf, A', c', hv, hc, hh⟩ := HL5.out
        cases hv
        refine ⟨hf, A, cp, rfl, hc, fun h0 => ?_⟩
        obtain ⟨b, o, hb, hcs⟩ := hh h0
        have hbr : b ≠ w.heap.size := fun e => by
          have h1 := (hcs 0 h0).1
          rw [e, HR5.out.cell] at h1
          generalize o + 0 * 2 = q at h1
          rcases q with _ | _ | q <;> simp at h1
        have far : ∀ j, ((w5.setCell ⟨w.heap.size, 0, none⟩ (.slice A L.length cp)).setCell ⟨w.heap.size, 1, none⟩ (.map (some m2))).cell? ⟨b, j, none⟩ = w5.cell? ⟨b, j, none⟩ := fun j =>
          (World.cell?_of_block (Below.heap_setCell _ _ _ _ hbr)).trans (World.cell?_of_block (Below.heap_setCell _ _ _ _ hbr))
        exact ⟨b, o, hb, fun i hi => ⟨(far _).trans (hcs i hi).1, (far _).trans (hcs i hi).2⟩⟩
      have hR6 := (HR5.out.set 0 (.slice A L.length cp)).set 1 (.map (some m2))
      have r0 := hR6.cell 0
      have r1 := hR6.cell 1
      simp only [List.setIfInBounds_toArray, List.set_cons_zero, List.set_cons_succ, List.getElem?_toArray, List.getElem?_cons_zero, List.getElem?_cons_succ] at r0 r1
      refine bodyPost_ret (v := .tuple #[.agg #[.slice A L.length cp, .map (some m2)], .int .i64 0]) ?_ rfl ⟨_, rfl, ?_, hB6⟩
      · simp [results, Try.results34, go_sem, r0, r1]
      · rw [hLS]
        exact ⟨A, cp, m2, k2, rfl, hL6, hM6.lt, hM6⟩
end Go.Proofs.Ytbiblpgdddgpmaa
