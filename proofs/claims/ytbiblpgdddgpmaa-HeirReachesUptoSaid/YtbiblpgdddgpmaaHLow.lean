/-
  What Below returns, in package heir, of a valid system and a class of it.
-/
import Derived.Test.YtbiblpgdddgpmaaHAboveO
namespace Go.Proofs.Ytbiblpgdddgpmaa
open Go.RowKit Go.Shelf

/-- A graph in a cell of its own. -/
def GC (W : World) (gb : Nat) (L : List (Hr.Nm × Hr.Nm)) : Prop :=
  ∃ A cp m k, Has W gb 73 #[.slice A L.length cp, .map (some m)] ∧ LinksAt W (.slice A L.length cp) L ∧ MI W m k (fun s => (Hr.firstLink L s).map Int.ofNat)
theorem GC.below {W W' : World} {gb : Nat} {L : List (Hr.Nm × Hr.Nm)} (h : GC W gb L) (hb : Below W.heap.size W W') : GC W' gb L := by
  obtain ⟨A, cp, m, k, h1, h2, h3⟩ := h
  exact ⟨A, cp, m, k, h1.below hb h1.lt, h2.below hb (Nat.le_refl _), h3.below hb h3.lt⟩
theorem GC.of {w : World} {B : Nat} {x : Value} {L : List (Hr.Nm × Hr.Nm)} (h : GraphAt w B x L) : ∃ A cp m, x = .agg #[.slice A L.length cp, .map (some m)] ∧ GC (w.alloc (.cells #[.slice A L.length cp, .map (some m)] 73)) w.heap.size L := by
  obtain ⟨A, cp, m, k, rfl, h1, -, h3⟩ := h
  have hb : Below w.heap.size w (w.alloc (.cells #[.slice A L.length cp, .map (some m)] 73)) := (Below.refl _ _).alloc (Nat.le_refl _) _
  exact ⟨A, cp, m, rfl, A, cp, m, k, Has.new _ _ _, h1.below hb (Nat.le_refl _), h3.below hb h3.lt⟩

theorem names_fine {w : World} {v : Value} {S : List Hr.Cls} (h : SysAt w v S) : FineN (S.map (·.name)) := fun s hs => by
  obtain ⟨c, hc, rfl⟩ := List.mem_map.1 hs
  obtain ⟨i, hi, rfl⟩ := List.getElem_of_mem hc
  obtain ⟨A, cp, rfl, h⟩ := h
  obtain ⟨b, o, _, h⟩ := h (by omega)
  exact (h i hi).1

/-- Functions that look up ancestors: of the graph, of a name in a cell. -/
theorem below1_any (x c : Hr.Nm) (gb cb : Nat) (L : List (Hr.Nm × Hr.Nm)) (w : World) (hG : GC w gb L) (hcb : Has w cb 9 #[nm c]) (hx : x.length ≤ 140737488355328) (hL : L.length ≤ 900000) :
    Calls Try.prog 38 #[nm x, .pointer (some ⟨gb, 0, none⟩), .pointer (some ⟨cb, 0, none⟩)] w fun e w' => e = .returned (.bool (Hr.isUp L x c)) ∧ Below w.heap.size w w' := by
  obtain ⟨A, cp, m, k, hg, hl, hm⟩ := hG
  have HI := Lib.hid (is_any A cp m k L x c w hl hm hx hL)
  have g0 := hg.cell 0
  have g1 := hg.cell 1
  have glt := hg.lt
  have c0 := hcb.cell 0
  have clt := hcb.lt
  simp only [List.getElem?_toArray, List.getElem?_cons_zero, List.getElem?_cons_succ] at g0 g1 c0
  clear hg hl hm hcb
  go_enter Try.func38, Try.ntmps38
  go_wp2_with (go_at_call 39; refine HI.out.mono ?_; rintro e w' ⟨rfl, hb⟩)
  go_ret
  exact ⟨rfl, hb⟩

def Hr.below (S : List Hr.Cls) (c : Hr.Nm) : List Hr.Nm := (S.map (·.name)).filter fun x => Hr.isUp (Hr.links S) x c

set_option maxRecDepth 100000 in
set_option maxHeartbeats 1000000 in
theorem Below_ok (v : Value) (S : List Hr.Cls) (c : Hr.Nm) (w : World) (h : SysAt w v S) (hV : Hr.Valid S) (hc : c.length ≤ 140737488355328) (hin : (Hr.firstAt S c).isSome = true) :
    Calls Try.prog 13 #[v, nm c] w fun e w' => ∃ o, e = .returned (.tuple #[o, .int .i64 0]) ∧ w'.ownsRow w.heap.size 9 1 o (Hr.below S c).length (nmRow (Hr.below S c)) ∧ Below w.heap.size w w' := by
  have hLL := hV.hL
  have h24 := hV.h24
  have hB1 : Below w.heap.size w ((w.alloc (.cells #[nm c] 9)).alloc (.cells #[nm c] 9)) := ((Below.refl _ _).alloc (Nat.le_refl _) _).alloc (by simp) _
  have hc1 : Has ((w.alloc (.cells #[nm c] 9)).alloc (.cells #[nm c] 9)) w.heap.size 9 #[nm c] := (Has.new _ _ _).alloc _
  have hnl := nms_laid (w.alloc (.cells #[nm c] 9)) [c] 1
  rw [World.size_alloc] at hnl
  have HE := Lib.hid (enter_ok v _ S [c] _ (h.below hB1 (Nat.le_refl _)) hV hnl (by simp) (fun s hs => by rw [List.mem_singleton.1 hs]; exact hc) (fun s hs => by rw [List.mem_singleton.1 hs]; exact hin))
  have HB1 := Lib.hid hB1
  have HC1 := Lib.hid hc1
  have HS := Lib.hid h
  have HFN := Lib.hid (names_fine h)
  clear h hV hin hB1 hc1 hnl
  have hbdef : Hr.below S c = (S.map (·.name)).filter fun x => Hr.isUp (Hr.links S) x c := rfl
  have HBD := Lib.hid hbdef
  clear hbdef
  generalize Hr.links S = L at *
  go_enter Try.func13, Try.ntmps13
  go_wp2_with (first
    | (go_at_call 34; refine HE.out.mono ?_
       rintro e w2 ⟨x, rfl, hg2, hb2⟩
       obtain ⟨A, cp, m, rfl, hgc⟩ := GC.of hg2
       have HB2 := Lib.hid (stepN HB1.out hb2)
       have HG2 := Lib.hid hgc
       have hb3 : Below w2.heap.size w2 (w2.alloc (.cells #[.slice A L.length cp, .map (some m)] 73)) := (Below.refl _ _).alloc (Nat.le_refl _) _
       have hc2 := HC1.out.below hb2 HC1.out.lt
       have HC3 := Lib.hid (hc2.below hb3 hc2.lt)
       have HB3 := Lib.hid (stepN HB2.out hb3)
       have HEA := Lib.hid (eachClass_any v S _ (HS.out.below HB3.out (Nat.le_refl _)) (by omega))
       clear hg2 hb2 hb3 hgc)
    | (go_at_call 36; refine HEA.out.mono ?_
       rintro e w4 ⟨o1, rfl, ho4, hb4⟩
       have HK := Lib.hid (keep_any 38 #[.pointer (some ⟨w2.heap.size, 0, none⟩), .pointer (some ⟨w.heap.size, 0, none⟩)] (enters_of Try.func38 (by kernel_rfl) rfl) (fun x => Hr.isUp L x c) o1 (S.map (·.name)) w4 (NmsAt.of_own ho4) (by rw [List.length_map]; omega) (fun x hx W hW => below1_any x c _ _ L W ((HG2.out.below hb4).below hW) ((HC3.out.below hb4 HC3.out.lt).below hW (HC3.out.below hb4 HC3.out.lt).lt) (HFN.out x hx) (by omega)))
       have HB4 := Lib.hid (stepN HB3.out hb4)
       clear ho4 hb4)
    | (go_at_call 35; refine HK.out.mono ?_
       rintro e w5 ⟨o, rfl, ho5, hb5⟩
       have HO := Lib.hid (own_base ho5 HB4.out.size)
       have HB5 := Lib.hid (stepN HB4.out hb5)
       clear ho5 hb5))
  refine bodyPost_ret (v := .tuple #[o, .int .i64 0]) ?_ rfl ⟨o, rfl, by rw [HBD.out]; exact HO.out, HB5.out⟩
  simp [results, Try.results13, go_sem]
end Go.Proofs.Ytbiblpgdddgpmaa
