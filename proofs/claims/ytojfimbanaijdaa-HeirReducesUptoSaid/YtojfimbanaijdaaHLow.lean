/-
  What enter returns, in package heir, of a valid system and names of its classes. What Above and Is return, in package heir, of a valid system and its classes. What Below returns, in package heir, of a valid system and a class of it.
-/
import Derived.Test.YtojfimbanaijdaaHCheckO
namespace Go.Proofs.Ytojfimbanaijdaa
open Go.RowKit Go.Shelf

set_option maxRecDepth 100000 in
set_option maxHeartbeats 2000000 in
theorem enter_ok (v u : Value) (S : List Hr.Cls) (l : List Hr.Nm) (w : World) (h : SysAt w v S) (hV : Hr.Valid S) (hu : NmsAt w u l) (hl : l.length ≤ 1000000) (hf : FineN l) (hin : ∀ s ∈ l, (Hr.firstAt S s).isSome = true) :
    Calls Try.prog 34 #[v, u] w fun e w' => ∃ x, e = .returned (.tuple #[x, .int .i64 0]) ∧ GraphAt w' w'.heap.size x (Hr.links S) ∧ Below w.heap.size w w' := by
  have HV := Lib.hid hV
  have HU := Lib.hid hu
  have HFN := Lib.hid hf
  have HIN := Lib.hid hin
  have h24 := hV.h24
  have hLL := hV.hL
  have hB1 : Below w.heap.size w (w.alloc (.cells #[.slice none 0 0, .map none] 73)) := (Below.refl _ _).alloc (Nat.le_refl _) _
  have HR1 : Hid (Has (w.alloc (.cells #[.slice none 0 0, .map none] 73)) w.heap.size 73 #[.slice none 0 0, .map none]) := Has.new _ _ _
  have HC := Lib.hid (Check_ok v S _ (h.below hB1 (Nat.le_refl _)) hV)
  have HB1 := Lib.hid hB1
  have HS := Lib.hid h
  have HFI := Lib.hid (links_fine h)
  obtain ⟨uA, uc, rfl, -⟩ := hu
  clear h hV hf hin hB1
  go_enter Try.func34, Try.ntmps34
  go_wp2_with (first
    | (go_at_call 16; refine HC.out.mono ?_
       rintro e w2 ⟨rfl, hb2⟩
       have HB2 := Lib.hid (stepA (Below.refl _ _) _ hb2)
       have HR2 := Lib.hid (HR1.out.below hb2 HR1.out.lt)
       have HF := Lib.hid (firsts_any v S w2 (HS.out.below HB2.out (Nat.le_refl _)) (by omega))
       clear hb2)
    | (go_at_call 41; refine HF.out.mono ?_
       rintro e w3 ⟨m, rfl, -, hm3, hb3⟩
       have HB3 := Lib.hid (stepN HB2.out hb3)
       have HR3 := Lib.hid (HR2.out.below hb3 HR2.out.lt)
       have HM3 := Lib.hid hm3
       clear hb3 hm3))
  go_loopw [24] (fun i wr => ∃ j : Nat, j ≤ l.length ∧ i = .int .i64 j ∧ w3 = wr) (fun i _ => l.length - (intOf i).toNat)
  case atStart => exact ⟨0, Nat.zero_le _, rfl, rfl⟩
  case round =>
    obtain ⟨j, hj, rfl, rfl⟩ := hrel
    by_cases hlt : j < l.length
    · obtain ⟨A', c', hv', hat⟩ := HU.out.below HB3.out (Nat.le_refl _)
      cases hv'
      obtain ⟨b, ob, hA, hat2⟩ := hat (by omega)
      subst hA
      have c0 := hat2 j hlt
      have hblt := World.block_lt_of_cell? _ _ c0
      have hw1 : IntKind.i64.wrap ((j : Int) + 1) = (j : Int) + 1 := IntWalk.i64_in _ (by omega)
      have hltI : (j : Int) < l.length := by omega
      have hn := HFN.out l[j] (List.getElem_mem hlt)
      have hsome : ((fun s => (Hr.firstAt S s).map Int.ofNat) l[j]).isSome = true := by
        have := HIN.out l[j] (List.getElem_mem hlt)
        cases hx : Hr.firstAt S l[j] <;> simp_all
      have HH := Lib.hid (has_any m S.length _ l[j] w3 hn HM3.out)
      rw [hsome] at HH
      clear hat hat2 hsome
      generalize l[j] = N at *
      go_wp2_with (go_at_call 45; refine HH.out.mono ?_; rintro e w' ⟨rfl, rfl⟩)
      go_roundw
      case rel => exact ⟨j + 1, by omega, by go_num, by trivial⟩
      case measure => simp [intOf]; omega
    · obtain rfl : j = l.length := by omega
      have HLK := Lib.hid (linksOf_any v S w3 (HS.out.below HB3.out (Nat.le_refl _)) (by omega) (by omega))
      generalize hLS : Hr.links S = L at *
      go_wp2_with (first
        | (go_at_call 47; refine HLK.out.mono ?_
           rintro e w4 ⟨x1, rfl, ho4, hb4⟩
           have HG := Lib.hid (graphOf_any x1 L w4 (LinksAt.of_own HFI.out ho4) (by omega))
           have HB4 := Lib.hid (stepN HB3.out hb4)
           have HR4 := Lib.hid (HR3.out.below hb4 HR3.out.lt)
           clear ho4 hb4)
        | (go_at_call 46; refine HG.out.mono ?_
           rintro e w5 ⟨x2, rfl, hg5, hb5⟩
           obtain ⟨A, cp, m2, k2, rfl, hl5, hm5, hmi5⟩ := hg5
           have HB5 := Lib.hid (stepN HB4.out hb5)
           have HR5 := Lib.hid (HR4.out.below hb5 HR4.out.lt)
           have z0 := HR5.out.cell 0
           have z1 := HR5.out.cell 1
           have zf0 := HR5.out.free 0
           have zf1 := HR5.out.free 1
           have zlt := HR5.out.lt
           simp only [List.getElem?_toArray, List.getElem?_cons_zero, List.getElem?_cons_succ] at z0 z1
           have HL5 := Lib.hid hl5
           have HM5 := Lib.hid hmi5
           clear hl5 hmi5 hb5))
      have hmr : m2 ≠ w.heap.size := fun e => by
        obtain ⟨D, ⟨es, clock, h4, _⟩, _⟩ := HM5.out
        have h5 := HR5.out
        unfold Has at h5
        rw [e, h5] at h4
        cases h4
      have hB6 : Below w.heap.size w ((w5.setCell ⟨w.heap.size, 0, none⟩ (.slice A L.length cp)).setCell ⟨w.heap.size, 1, none⟩ (.map (some m2))) :=
        (HB5.out.setCell (p := ⟨w.heap.size, 0, none⟩) (Nat.le_refl _) _).setCell (p := ⟨w.heap.size, 1, none⟩) (Nat.le_refl _) _
      have hM6 := (HM5.out.kept (grown_set w5 w.heap.size 0 (.slice A L.length cp)) (by simpa using hmr)).kept (grown_set _ w.heap.size 1 (.map (some m2))) (by simpa using hmr)
      have hL6 : LinksAt ((w5.setCell ⟨w.heap.size, 0, none⟩ (.slice A L.length cp)).setCell ⟨w.heap.size, 1, none⟩ (.map (some m2))) (.slice A L.length cp) L := by
        obtain ⟨hf, A', c', hv, hc, hh⟩ := HL5.out
        cases hv
        refine ⟨hf, A, cp, rfl, hc, fun h0 => ?_⟩
        obtain ⟨b, o, hb, hcs⟩ := hh h0
        have hbr : b ≠ w.heap.size := fun e => by
          have h1 := (hcs 0 h0).1
          rw [e, HR5.out.cell] at h1
          generalize o + 0 * 2 = q at h1
          rcases q with _ | _ | q <;> simp at h1
        have far : ∀ j, ((w5.setCell ⟨w.heap.size, 0, none⟩ (.slice A L.length cp)).setCell ⟨w.heap.size, 1, none⟩ (.map (some m2))).cell? ⟨b, j, none⟩ = w5.cell? ⟨b, j, none⟩ := fun j =>
          (World.cell?_of_block (Below.heap_setCell _ _ _ _ hbr)).trans (World.cell?_of_block (Below.heap_setCell _ _ _ _ hbr))
        exact ⟨b, o, hb, fun i hi => ⟨(far _).trans (hcs i hi).1, (far _).trans (hcs i hi).2⟩⟩
      have hR6 := (HR5.out.set 0 (.slice A L.length cp)).set 1 (.map (some m2))
      have r0 := hR6.cell 0
      have r1 := hR6.cell 1
      simp only [List.setIfInBounds_toArray, List.set_cons_zero, List.set_cons_succ, List.getElem?_toArray, List.getElem?_cons_zero, List.getElem?_cons_succ] at r0 r1
      refine bodyPost_ret (v := .tuple #[.agg #[.slice A L.length cp, .map (some m2)], .int .i64 0]) ?_ rfl ⟨_, rfl, ?_, hB6⟩
      · simp [results, Try.results34, go_sem, r0, r1]
      · rw [hLS]
        exact ⟨A, cp, m2, k2, rfl, hL6, hM6.lt, hM6⟩
end Go.Proofs.Ytojfimbanaijdaa
namespace Go.Proofs.Ytojfimbanaijdaa
open Go.RowKit Go.Shelf

theorem nms_laid (w : World) (l : List Hr.Nm) (c : Nat) : NmsAt (w.alloc (.cells (nmRow l).toArray 9)) (.slice (some ⟨w.heap.size, 0, none⟩) l.length c) l := by
  refine ⟨_, c, rfl, fun h0 => ⟨w.heap.size, 0, rfl, fun i hi => ?_⟩⟩
  rw [(Has.new w 9 (nmRow l).toArray).cell]
  simp [nmRow, hi]

set_option maxRecDepth 100000 in
set_option maxHeartbeats 1000000 in
theorem Above_ok (v : Value) (S : List Hr.Cls) (c : Hr.Nm) (w : World) (h : SysAt w v S) (hV : Hr.Valid S) (hc : c.length ≤ 140737488355328) (hin : (Hr.firstAt S c).isSome = true) :
    Calls Try.prog 24 #[v, nm c] w fun e w' => ∃ o, e = .returned (.tuple #[o, .int .i64 0]) ∧ w'.ownsRow w.heap.size 9 1 o (Hr.above (Hr.links S) c).length (nmRow (Hr.above (Hr.links S) c)) ∧ Below w.heap.size w w' := by
  have hLL := hV.hL
  have hB1 : Below w.heap.size w (w.alloc (.cells #[nm c] 9)) := (Below.refl _ _).alloc (Nat.le_refl _) _
  have HE := Lib.hid (enter_ok v _ S [c] _ (h.below hB1 (Nat.le_refl _)) hV (nms_laid w [c] 1) (by simp) (fun s hs => by rw [List.mem_singleton.1 hs]; exact hc) (fun s hs => by rw [List.mem_singleton.1 hs]; exact hin))
  have HB1 := Lib.hid hB1
  clear h hV hin hB1
  generalize Hr.links S = L at *
  go_enter Try.func24, Try.ntmps24
  go_wp2_with (first
    | (go_at_call 34; refine HE.out.mono ?_
       rintro e w2 ⟨x, rfl, ⟨A, cp, m, k, rfl, hl2, -, hm2⟩, hb2⟩
       have HB2 := Lib.hid (stepA (Below.refl _ _) _ hb2)
       have hb3 : Below w2.heap.size w2 (w2.alloc (.cells #[.slice A L.length cp, .map (some m)] 73)) := (Below.refl _ _).alloc (Nat.le_refl _) _
       have HA := Lib.hid (above_any A cp m k L c _ (hl2.below hb3 (Nat.le_refl _)) (hm2.below hb3 hm2.lt) hc (by omega))
       have HB3 := Lib.hid (stepN HB2.out hb3)
       clear hl2 hm2 hb2 hb3)
    | (go_at_call 57; refine HA.out.mono ?_
       rintro e w4 ⟨o, rfl, ho4, hb4⟩
       have HO := Lib.hid (own_base ho4 HB3.out.size)
       have HB4 := Lib.hid (stepN HB3.out hb4)
       clear ho4 hb4))
  refine bodyPost_ret (v := .tuple #[o, .int .i64 0]) ?_ rfl ⟨o, rfl, HO.out, HB4.out⟩
  simp [results, Try.results24, go_sem]

set_option maxRecDepth 100000 in
set_option maxHeartbeats 1000000 in
theorem Is_ok (v : Value) (S : List Hr.Cls) (c a : Hr.Nm) (w : World) (h : SysAt w v S) (hV : Hr.Valid S) (hc : c.length ≤ 140737488355328) (ha : a.length ≤ 140737488355328) (hin : (Hr.firstAt S c).isSome = true) (hina : (Hr.firstAt S a).isSome = true) :
    Calls Try.prog 40 #[v, nm c, nm a] w fun e w' => e = .returned (.tuple #[.bool (Hr.isUp (Hr.links S) c a), .int .i64 0]) ∧ Below w.heap.size w w' := by
  have hLL := hV.hL
  have hB1 : Below w.heap.size w (w.alloc (.cells #[nm c, nm a] 9)) := (Below.refl _ _).alloc (Nat.le_refl _) _
  have HE := Lib.hid (enter_ok v _ S [c, a] _ (h.below hB1 (Nat.le_refl _)) hV (nms_laid w [c, a] 2) (by simp) (fun s hs => by
    rcases List.mem_cons.1 hs with h | h
    · rw [h]; exact hc
    · rw [List.mem_singleton.1 h]; exact ha) (fun s hs => by
    rcases List.mem_cons.1 hs with h | h
    · rw [h]; exact hin
    · rw [List.mem_singleton.1 h]; exact hina))
  have HB1 := Lib.hid hB1
  clear h hV hin hina hB1
  generalize Hr.links S = L at *
  go_enter Try.func40, Try.ntmps40
  go_wp2_with (first
    | (go_at_call 34; refine HE.out.mono ?_
       rintro e w2 ⟨x, rfl, ⟨A, cp, m, k, rfl, hl2, -, hm2⟩, hb2⟩
       have HB2 := Lib.hid (stepA (Below.refl _ _) _ hb2)
       have hb3 : Below w2.heap.size w2 (w2.alloc (.cells #[.slice A L.length cp, .map (some m)] 73)) := (Below.refl _ _).alloc (Nat.le_refl _) _
       have HA := Lib.hid (is_any A cp m k L c a _ (hl2.below hb3 (Nat.le_refl _)) (hm2.below hb3 hm2.lt) hc (by omega))
       have HB3 := Lib.hid (stepN HB2.out hb3)
       clear hl2 hm2 hb2 hb3)
    | (go_at_call 39; refine HA.out.mono ?_
       rintro e w4 ⟨rfl, hb4⟩
       have HB4 := Lib.hid (stepN HB3.out hb4)
       clear hb4))
  refine bodyPost_ret (v := .tuple #[.bool (Hr.isUp L c a), .int .i64 0]) ?_ rfl ⟨rfl, HB4.out⟩
  simp [results, Try.results40, go_sem]
end Go.Proofs.Ytojfimbanaijdaa
namespace Go.Proofs.Ytojfimbanaijdaa
open Go.RowKit Go.Shelf

/-- A graph in a cell of its own. -/
def GC (W : World) (gb : Nat) (L : List (Hr.Nm × Hr.Nm)) : Prop :=
  ∃ A cp m k, Has W gb 73 #[.slice A L.length cp, .map (some m)] ∧ LinksAt W (.slice A L.length cp) L ∧ MI W m k (fun s => (Hr.firstLink L s).map Int.ofNat)
theorem GC.below {W W' : World} {gb : Nat} {L : List (Hr.Nm × Hr.Nm)} (h : GC W gb L) (hb : Below W.heap.size W W') : GC W' gb L := by
  obtain ⟨A, cp, m, k, h1, h2, h3⟩ := h
  exact ⟨A, cp, m, k, h1.below hb h1.lt, h2.below hb (Nat.le_refl _), h3.below hb h3.lt⟩
theorem GC.of {w : World} {B : Nat} {x : Value} {L : List (Hr.Nm × Hr.Nm)} (h : GraphAt w B x L) : ∃ A cp m, x = .agg #[.slice A L.length cp, .map (some m)] ∧ GC (w.alloc (.cells #[.slice A L.length cp, .map (some m)] 73)) w.heap.size L := by
  obtain ⟨A, cp, m, k, rfl, h1, -, h3⟩ := h
  have hb : Below w.heap.size w (w.alloc (.cells #[.slice A L.length cp, .map (some m)] 73)) := (Below.refl _ _).alloc (Nat.le_refl _) _
  exact ⟨A, cp, m, rfl, A, cp, m, k, Has.new _ _ _, h1.below hb (Nat.le_refl _), h3.below hb h3.lt⟩

theorem names_fine {w : World} {v : Value} {S : List Hr.Cls} (h : SysAt w v S) : FineN (S.map (·.name)) := fun s hs => by
  obtain ⟨c, hc, rfl⟩ := List.mem_map.1 hs
  obtain ⟨i, hi, rfl⟩ := List.getElem_of_mem hc
  obtain ⟨A, cp, rfl, h⟩ := h
  obtain ⟨b, o, _, h⟩ := h (by omega)
  exact (h i hi).1

/-- Functions that look up ancestors: of the graph, of a name in a cell. -/
theorem below1_any (x c : Hr.Nm) (gb cb : Nat) (L : List (Hr.Nm × Hr.Nm)) (w : World) (hG : GC w gb L) (hcb : Has w cb 9 #[nm c]) (hx : x.length ≤ 140737488355328) (hL : L.length ≤ 900000) :
    Calls Try.prog 38 #[nm x, .pointer (some ⟨gb, 0, none⟩), .pointer (some ⟨cb, 0, none⟩)] w fun e w' => e = .returned (.bool (Hr.isUp L x c)) ∧ Below w.heap.size w w' := by
  obtain ⟨A, cp, m, k, hg, hl, hm⟩ := hG
  have HI := Lib.hid (is_any A cp m k L x c w hl hm hx hL)
  have g0 := hg.cell 0
  have g1 := hg.cell 1
  have glt := hg.lt
  have c0 := hcb.cell 0
  have clt := hcb.lt
  simp only [List.getElem?_toArray, List.getElem?_cons_zero, List.getElem?_cons_succ] at g0 g1 c0
  clear hg hl hm hcb
  go_enter Try.func38, Try.ntmps38
  go_wp2_with (go_at_call 39; refine HI.out.mono ?_; rintro e w' ⟨rfl, hb⟩)
  go_ret
  exact ⟨rfl, hb⟩

def Hr.below (S : List Hr.Cls) (c : Hr.Nm) : List Hr.Nm := (S.map (·.name)).filter fun x => Hr.isUp (Hr.links S) x c

set_option maxRecDepth 100000 in
set_option maxHeartbeats 1000000 in
theorem Below_ok (v : Value) (S : List Hr.Cls) (c : Hr.Nm) (w : World) (h : SysAt w v S) (hV : Hr.Valid S) (hc : c.length ≤ 140737488355328) (hin : (Hr.firstAt S c).isSome = true) :
    Calls Try.prog 13 #[v, nm c] w fun e w' => ∃ o, e = .returned (.tuple #[o, .int .i64 0]) ∧ w'.ownsRow w.heap.size 9 1 o (Hr.below S c).length (nmRow (Hr.below S c)) ∧ Below w.heap.size w w' := by
  have hLL := hV.hL
  have h24 := hV.h24
  have hB1 : Below w.heap.size w ((w.alloc (.cells #[nm c] 9)).alloc (.cells #[nm c] 9)) := ((Below.refl _ _).alloc (Nat.le_refl _) _).alloc (by simp) _
  have hc1 : Has ((w.alloc (.cells #[nm c] 9)).alloc (.cells #[nm c] 9)) w.heap.size 9 #[nm c] := (Has.new _ _ _).alloc _
  have hnl := nms_laid (w.alloc (.cells #[nm c] 9)) [c] 1
  rw [World.size_alloc] at hnl
  have HE := Lib.hid (enter_ok v _ S [c] _ (h.below hB1 (Nat.le_refl _)) hV hnl (by simp) (fun s hs => by rw [List.mem_singleton.1 hs]; exact hc) (fun s hs => by rw [List.mem_singleton.1 hs]; exact hin))
  have HB1 := Lib.hid hB1
  have HC1 := Lib.hid hc1
  have HS := Lib.hid h
  have HFN := Lib.hid (names_fine h)
  clear h hV hin hB1 hc1 hnl
  have hbdef : Hr.below S c = (S.map (·.name)).filter fun x => Hr.isUp (Hr.links S) x c := rfl
  have HBD := Lib.hid hbdef
  clear hbdef
  generalize Hr.links S = L at *
  go_enter Try.func13, Try.ntmps13
  go_wp2_with (first
    | (go_at_call 34; refine HE.out.mono ?_
       rintro e w2 ⟨x, rfl, hg2, hb2⟩
       obtain ⟨A, cp, m, rfl, hgc⟩ := GC.of hg2
       have HB2 := Lib.hid (stepN HB1.out hb2)
       have HG2 := Lib.hid hgc
       have hb3 : Below w2.heap.size w2 (w2.alloc (.cells #[.slice A L.length cp, .map (some m)] 73)) := (Below.refl _ _).alloc (Nat.le_refl _) _
       have hc2 := HC1.out.below hb2 HC1.out.lt
       have HC3 := Lib.hid (hc2.below hb3 hc2.lt)
       have HB3 := Lib.hid (stepN HB2.out hb3)
       have HEA := Lib.hid (eachClass_any v S _ (HS.out.below HB3.out (Nat.le_refl _)) (by omega))
       clear hg2 hb2 hb3 hgc)
    | (go_at_call 36; refine HEA.out.mono ?_
       rintro e w4 ⟨o1, rfl, ho4, hb4⟩
       have HK := Lib.hid (keep_any 38 #[.pointer (some ⟨w2.heap.size, 0, none⟩), .pointer (some ⟨w.heap.size, 0, none⟩)] (enters_of Try.func38 (by kernel_rfl) rfl) (fun x => Hr.isUp L x c) o1 (S.map (·.name)) w4 (NmsAt.of_own ho4) (by rw [List.length_map]; omega) (fun x hx W hW => below1_any x c _ _ L W ((HG2.out.below hb4).below hW) ((HC3.out.below hb4 HC3.out.lt).below hW (HC3.out.below hb4 HC3.out.lt).lt) (HFN.out x hx) (by omega)))
       have HB4 := Lib.hid (stepN HB3.out hb4)
       clear ho4 hb4)
    | (go_at_call 35; refine HK.out.mono ?_
       rintro e w5 ⟨o, rfl, ho5, hb5⟩
       have HO := Lib.hid (own_base ho5 HB4.out.size)
       have HB5 := Lib.hid (stepN HB4.out hb5)
       clear ho5 hb5))
  refine bodyPost_ret (v := .tuple #[o, .int .i64 0]) ?_ rfl ⟨o, rfl, by rw [HBD.out]; exact HO.out, HB5.out⟩
  simp [results, Try.results13, go_sem]
end Go.Proofs.Ytojfimbanaijdaa
