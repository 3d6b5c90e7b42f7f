/-
  What Needless returns, in package heir, of a valid system.
-/
import Derived.Test.YtbiblpgdddgpmaaHSpare
import Derived.Deep.RegionHeld3
namespace Go.Proofs.Ytbiblpgdddgpmaa
open Go.RowKit Go.Shelf
attribute [local go_sem] Oper.semAt_some

theorem need11_any (x y : Hr.Nm × Hr.Nm) (xb : Nat) (w : World) (hx : Has w xb 64 #[nm x.1, nm x.2]) :
    Calls Try.prog 74 #[.agg #[nm y.1, nm y.2], .pointer (some ⟨xb, 0, none⟩)] w fun e w' => e = .returned (.bool (y != x)) ∧ Below w.heap.size w w' := by
  obtain ⟨x1, x2⟩ := x
  obtain ⟨y1, y2⟩ := y
  have x0 := hx.cell 0
  have x1' := hx.cell 1
  have xlt := hx.lt
  simp only [List.getElem?_toArray, List.getElem?_cons_zero, List.getElem?_cons_succ] at x0 x1'
  clear hx
  by_cases h1 : y1 = x1
  · subst h1
    by_cases h2 : y2 = x2
    · subst h2
      go_enter Try.func74, Try.ntmps74
      go_wp2_with fail
      go_ret
      exact ⟨by simp, (Below.refl _ _).alloc (Nat.le_refl _) _⟩
    · have heb : (y2 == x2) = false := by simpa using h2
      go_enter Try.func74, Try.ntmps74
      go_wp2_with fail
      go_ret
      exact ⟨by simp [h2], (Below.refl _ _).alloc (Nat.le_refl _) _⟩
  · have heb : (y1 == x1) = false := by simpa using h1
    go_enter Try.func74, Try.ntmps74
    go_wp2_with fail
    go_ret
    exact ⟨by simp [h1], (Below.refl _ _).alloc (Nat.le_refl _) _⟩

set_option maxRecDepth 100000 in
set_option maxHeartbeats 1000000 in
theorem need1_any (x : Hr.Nm × Hr.Nm) (gb : Nat) (L : List (Hr.Nm × Hr.Nm)) (w : World) (hG : GC w gb L) (hx : x.1.length ≤ 140737488355328) (hL : L.length ≤ 400000) :
    Calls Try.prog 73 #[.agg #[nm x.1, nm x.2], .pointer (some ⟨gb, 0, none⟩)] w fun e w' => e = .returned (.bool (Hr.isUp (L.filter fun y => y != x) x.1 x.2)) ∧ Below w.heap.size w w' := by
  have hf := hG.fine
  have hb1 : Below w.heap.size w (w.alloc (.cells #[nm x.1, nm x.2] 64)) := (Below.refl _ _).alloc (Nat.le_refl _) _
  have hx1 : Has (w.alloc (.cells #[nm x.1, nm x.2] 64)) w.heap.size 64 #[nm x.1, nm x.2] := Has.new _ _ _
  have hlf := List.length_filter_le (fun y => y != x) L
  have hff : Fine (L.filter fun y => y != x) := fun y hy => hf y (List.mem_filter.1 hy).1
  obtain ⟨A, cp, m, k, hg, hl, hm⟩ := hG
  have HK := Lib.hid (keepL_any 74 #[.pointer (some ⟨w.heap.size, 0, none⟩)] (enters_of Try.func74 (by kernel_rfl) rfl) (fun y => y != x) (.slice A L.length cp) L _ (hl.below hb1 (Nat.le_refl _)) (by omega) (fun y hy W hW => need11_any x y _ W (hx1.below hW hx1.lt)))
  have g0 := hg.cell 0
  have glt := hg.lt
  simp only [List.getElem?_toArray, List.getElem?_cons_zero] at g0
  have HX1 := Lib.hid hx1
  have HB1 := Lib.hid hb1
  clear hg hl hm hb1 hx1 hf
  generalize (L.filter fun y => y != x) = R at *
  obtain ⟨N, M⟩ := x
  dsimp only at *
  go_enter Try.func73, Try.ntmps73
  go_wp2_with (first
    | (go_at_call 72; refine HK.out.mono ?_
       rintro e w4 ⟨o, rfl, ho4, hb4⟩
       have HX4 := Lib.hid (HX1.out.below hb4 HX1.out.lt)
       have HB4 := Lib.hid (stepN HB1.out hb4)
       have HL4 := Lib.hid (LinksAt.of_own hff ho4)
       clear ho4 hb4))
  obtain ⟨-, A2, c2, rfl, -⟩ := id HL4.out
  have x0 := HX4.out.cell 0
  have x1 := HX4.out.cell 1
  have xlt := HX4.out.lt
  simp only [List.getElem?_toArray, List.getElem?_cons_zero, List.getElem?_cons_succ] at x0 x1
  have GR := Lib.hid (fun (W : World) (hW : Below w4.heap.size w4 W) => (graphOf_any (.slice A2 R.length c2) R W (HL4.out.below hW (Nat.le_refl _)) (by omega)).mono (fun e w' (h : ∃ x2, e = .returned x2 ∧ GraphAt w' w'.heap.size x2 R ∧ Below W.heap.size W w') => (by
    obtain ⟨x2, h1, h2, h3⟩ := h
    obtain ⟨A', c', m', k', h4, h5, h6, h7⟩ := h2
    exact ⟨A', c', m', k', by rw [h1, h4], h5, h7, stepN hW h3⟩ : ∃ A' c' m' k', e = .returned (.agg #[.slice A' R.length c', .map (some m')]) ∧ LinksAt w' (.slice A' R.length c') R ∧ MI w' m' k' (fun s => (Hr.firstLink R s).map Int.ofNat) ∧ Below w4.heap.size w4 w')))
  have IS := Lib.hid (fun (A' : Option Addr) (c' m' k' : Nat) (W : World) (h1 : LinksAt W (.slice A' R.length c') R) (h2 : MI W m' k' (fun s => (Hr.firstLink R s).map Int.ofNat)) (hW : Below w4.heap.size w4 W) => (is_any A' c' m' k' R N M W h1 h2 hx (by omega)).mono (fun e w' (h : e = .returned (.bool (Hr.isUp R N M)) ∧ Below W.heap.size W w') => (⟨h.1, stepN hW h.2⟩ : e = .returned (.bool (Hr.isUp R N M)) ∧ Below w4.heap.size w4 w')))
  have GIVE := Lib.hid (fun (W : World) (hW : Below w4.heap.size w4 W) => (⟨kept_below hW (Nat.le_refl _) _ _ x0, kept_below hW (Nat.le_refl _) _ _ x1, hW⟩ :
    W.cell? ⟨w.heap.size, 0, none⟩ = some (nm N) ∧ W.cell? ⟨w.heap.size, 1, none⟩ = some (nm M) ∧ Below w4.heap.size w4 W))
  clear x0 x1 HX4 HX1 HL4 HK HB1
  generalize hwq : w.heap.size = q at *
  go_region_held3 (fun W => W.cell? ⟨q, 0, none⟩ = some (nm N) ∧ W.cell? ⟨q, 1, none⟩ = some (nm M) ∧ Below w4.heap.size w4 W)
    (with_reducible (refine GIVE.out _ ?_; first | exact hbx | exact hby | exact (Below.refl _ _).drew))
    (first
      | (go_at_call 46; refine (GR.out _ (by with_reducible first | exact hbx | exact (Below.refl _ _).drew)).mono ?_; rintro e wx ⟨A', c', m', k', rfl, hl', hm', hbx⟩)
      | (go_at_call 39; refine (IS.out _ _ _ _ _ hl' hm' (by with_reducible first | exact hbx | exact (Below.refl _ _).drew)).mono ?_; rintro e wy ⟨rfl, hby⟩))
  all_goals
    go_wp2_with fail
    go_ret
    refine ⟨rfl, ?_⟩
    subst hwq
    exact stepN HB4.out hby

set_option maxRecDepth 100000 in
set_option maxHeartbeats 1000000 in
theorem Needless_ok (v : Value) (S : List Hr.Cls) (w : World) (h : SysAt w v S) (hV : Hr.Valid S) :
    Calls Try.prog 26 #[v] w fun e w' => ∃ o, e = .returned (.tuple #[o, .int .i64 0]) ∧ w'.ownsRow w.heap.size 64 2 o (Hr.needless (Hr.links S)).length (linkCells (Hr.needless (Hr.links S))) ∧ Below w.heap.size w w' := by
  have hLL := hV.hL
  have HE := Lib.hid (enter_ok v (.slice none 0 0) S [] w h hV ⟨none, 0, rfl, fun h => by simp at h⟩ (by simp) (fun s hs => by cases hs) (fun s hs => by cases hs))
  have hbdef : Hr.needless (Hr.links S) = (Hr.links S).filter fun x => Hr.isUp ((Hr.links S).filter fun y => y != x) x.1 x.2 := rfl
  have HBD := Lib.hid hbdef
  clear h hV hbdef
  generalize Hr.needless (Hr.links S) = res at *
  generalize Hr.links S = L at *
  go_enter Try.func26, Try.ntmps26
  go_wp2_with (first
    | (go_at_call 34; refine HE.out.mono ?_
       rintro e w2 ⟨x, rfl, hg2, hb2⟩
       obtain ⟨A, cp, m, rfl, hgc⟩ := GC.of hg2
       have hb3 : Below w2.heap.size w2 (w2.alloc (.cells #[.slice A L.length cp, .map (some m)] 73)) := (Below.refl _ _).alloc (Nat.le_refl _) _
       have HB3 := Lib.hid (stepN hb2 hb3)
       have hfl := hgc.fine
       have hlk : LinksAt (w2.alloc (.cells #[.slice A L.length cp, .map (some m)] 73)) (.slice A L.length cp) L := by
         obtain ⟨A', cp', m', k', hgg, hll, -⟩ := id hgc
         have hvv := hgg.cell 0
         rw [(Has.new w2 _ _).cell] at hvv
         simp only [List.getElem?_toArray, List.getElem?_cons_zero] at hvv
         cases hvv
         exact hll
       have HK := Lib.hid (keepL_any 73 #[.pointer (some ⟨w2.heap.size, 0, none⟩)] (enters_of Try.func73 (by kernel_rfl) rfl) (fun x => Hr.isUp (L.filter fun y => y != x) x.1 x.2) (.slice A L.length cp) L _ hlk (by omega) (fun x hx W hW => need1_any x _ L W (hgc.below hW) (hfl x hx).1 hLL))
       clear hg2 hb2 hb3 hgc hfl hlk)
    | (go_at_call 72; refine HK.out.mono ?_
       rintro e w5 ⟨o, rfl, ho5, hb5⟩
       have HO := Lib.hid (own_base ho5 HB3.out.size)
       have HB5 := Lib.hid (stepN HB3.out hb5)
       clear ho5 hb5))
  refine bodyPost_ret (v := .tuple #[o, .int .i64 0]) ?_ rfl ⟨o, rfl, by rw [HBD.out]; exact HO.out, HB5.out⟩
  simp [results, Try.results26, go_sem]
end Go.Proofs.Ytbiblpgdddgpmaa
