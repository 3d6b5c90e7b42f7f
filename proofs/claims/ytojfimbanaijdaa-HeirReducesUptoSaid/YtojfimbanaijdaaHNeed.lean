/-
  What keep returns of links, in package heir, whatever function it is given; what Needless returns of a valid system. What Needless returns, in package heir, of a valid system.
-/
import Derived.Test.YtojfimbanaijdaaHLeast
import Derived.Deep.RegionHeld3
namespace Go.Proofs.Ytojfimbanaijdaa
open Go.RowKit Go.Shelf
attribute [local go_sem] Oper.semAt_some

theorem linkInfoK : (Try.prog.info? 64).map (fun i => (i.zero, i.size, i.bytes)) = some (some (.agg #[.string ⟨#[]⟩, .string ⟨#[]⟩]), 2, 32) := by kernel_rfl
theorem link_new (w : World) (x : Hr.Nm × Hr.Nm) : ∀ i u, ([nm x.1, nm x.2] : List Value)[i]? = some u → (w.alloc (.cells #[nm x.1, nm x.2] 64)).cell? ((⟨w.heap.size, 0, none⟩ : Addr).add i) = some u := fun i u hu => by
  have := (Has.new w 64 #[nm x.1, nm x.2]).cell i
  rw [show ((⟨w.heap.size, 0, none⟩ : Addr).add i) = ⟨w.heap.size, i, none⟩ from by unfold Addr.add; split <;> simp_all]
  rw [this]; simpa using hu

set_option maxRecDepth 100000 in
set_option maxHeartbeats 1000000 in
theorem keepL_any (fn : Nat) (lb : Array Value) (eg : ∀ args w, (callFunc fn args).run Try.prog w = .ok (.enter fn args) w) (want : Hr.Nm × Hr.Nm → Bool) (v : Value) (l : List (Hr.Nm × Hr.Nm)) (w : World) (h : LinksAt w v l) (hl : l.length ≤ 1000000)
    (hF : ∀ x ∈ l, ∀ W, Below w.heap.size w W → Calls Try.prog fn (#[.agg #[nm x.1, nm x.2]] ++ lb) W fun e W' => e = .returned (.bool (want x)) ∧ Below W.heap.size W W') :
    Calls Try.prog 72 #[v, .func (.func fn) #[] lb] w fun e w' => ∃ o, e = .returned o ∧ w'.ownsRow w.heap.size 64 2 o (l.filter want).length (linkCells (l.filter want)) ∧ Below w.heap.size w w' := by
  obtain ⟨i0, hi, hz0, hz1, hz2⟩ := info_parts linkInfoK
  have HC := Lib.hid h
  have HF := Lib.hid hF
  obtain ⟨-, A, c, rfl, -⟩ := h
  clear hF
  go_enter Try.func72, Try.ntmps72
  go_wp2_with fail
  generalize hg : w.heap.size = g at *
  go_loopw [5, 10] (fun o i wr => ∃ k : Nat, k ≤ l.length ∧ i = .int .i64 k ∧ Hid (wr.ownsRow g 64 2 o ((l.take k).filter want).length (linkCells ((l.take k).filter want))) ∧ Hid (Below g w wr)) (fun _ i _ => l.length - (intOf i).toNat)
  case atStart => exact ⟨0, Nat.zero_le _, rfl, World.ownsRow_nil _ _ _ _, by rw [← hg]; exact Below.refl _ _⟩
  case round =>
    obtain ⟨k, hk, rfl, HO, HB⟩ := hrel
    by_cases hlt : k < l.length
    · obtain ⟨-, A', c', hv, -, hat1⟩ := HC.out.below HB.out (by omega)
      cases hv
      obtain ⟨b, o, hA, hat⟩ := hat1 (by omega)
      subst hA
      obtain ⟨c0, c1⟩ := hat k hlt
      have hblt := World.block_lt_of_cell? _ _ c0
      have hs : g ≤ wr.heap.size := by have := HB.out.size; omega
      have hb1 : Below wr.heap.size wr (wr.alloc (.cells #[nm l[k].1, nm l[k].2] 64)) := (Below.refl _ _).alloc (Nat.le_refl _) _
      have hcall := HF.out l[k] (List.getElem_mem hlt) _ (HB.out.alloc hs (.cells #[nm l[k].1, nm l[k].2] 64))
      have hst : (l.take (k + 1)).filter want = (l.take k).filter want ++ (if want l[k] then [l[k]] else []) := by
        rw [List.take_succ_eq_append_getElem hlt, List.filter_append]
        congr 1
        cases hwl : want l[k] <;> simp [hwl]
      have hfl : ((l.take k).filter want).length ≤ 1000000 := Nat.le_trans (List.length_filter_le _ _) (by rw [List.length_take]; omega)
      have hw1 : IntKind.i64.wrap ((k : Int) + 1) = (k : Int) + 1 := IntWalk.i64_in _ (by omega)
      have hltI : (k : Int) < l.length := by omega
      have HST := Lib.hid hst
      have HCL := Lib.hid hcall
      have HB1 := Lib.hid (HB.out.alloc hs (.cells #[nm l[k].1, nm l[k].2] 64))
      have HO1 := Lib.hid (HO.out.alloc (.cells #[nm l[k].1, nm l[k].2] 64))
      have HX1 : Hid (Has (wr.alloc (.cells #[nm l[k].1, nm l[k].2] 64)) wr.heap.size 64 #[nm l[k].1, nm l[k].2]) := Has.new _ _ _
      clear hst hcall hat hat1 hb1
      generalize (l.take k).filter want = pre at *
      generalize want l[k] = bw at *
      generalize l[k] = X at *
      obtain ⟨N, M⟩ := X
      dsimp only at *
      cases bw with
      | false =>
        go_wp2_with (refine HCL.out.mono ?_; rintro e w4 ⟨rfl, hb4⟩)
        have h4 := own_below HO1.out hb4 (Nat.le_refl _)
        have hs := HB1.out.size
        go_roundw
        case rel =>
          refine ⟨k + 1, by omega, by go_num, ?_, HB1.out.trans (hb4.mono (by omega))⟩
          show World.ownsRow _ _ _ _ _ _ _
          rw [HST.out]
          simpa using h4
        case measure => simp [intOf]; omega
      | true =>
        go_wp2_with (first
          | (refine HCL.out.mono ?_
             rintro e w4 ⟨rfl, hb4⟩
             have hs4 := hb4.size
             have hx4 := HX1.out.below hb4 HX1.out.lt
             have y0 := hx4.cell 0
             have y1 := hx4.cell 1
             have ylt := hx4.lt
             simp only [List.getElem?_toArray, List.getElem?_cons_zero, List.getElem?_cons_succ] at y0 y1
             have hs1 : g ≤ w4.heap.size := by rw [World.size_alloc] at hs4; omega
             have O5 : Hid ((w4.alloc (.cells #[nm N, nm M] 64)).ownsRow g 64 2 u5 pre.length (linkCells pre)) := (own_below HO1.out hb4 (Nat.le_refl _)).alloc _
             have B5 : Hid (Below g w (w4.alloc (.cells #[nm N, nm M] 64))) := (HB1.out.trans (hb4.mono (by rw [World.size_alloc]; omega))).alloc hs1 _
             have N1 := Lib.hid (link_new w4 (N, M))
             have N7 : Hid (g ≤ (w4.alloc (.cells #[nm N, nm M] 64)).heap.size) := by show _ ≤ _; simp; omega
             have N8 : Hid (pre.length + 1 ≤ maxLen) := by show _ ≤ _; unfold maxLen; omega
             have N9 : Hid ((pre.length + 1) * 32 ≤ 140737488355328) := by show _ ≤ _; omega
             clear hb4 hx4)
          | (at_builtin; refine wpList_append_own_at _ rfl _ _ 59 rfl g 64 i0 (.agg #[.string ⟨#[]⟩, .string ⟨#[]⟩]) 2 32 Try.underlying59 hi hz0 hz1 hz2 rfl (by decide) _ _ _ rfl O5.out ⟨w4.heap.size, 0, none⟩ 1 1 [nm N, nm M] rfl rfl N1.out (by simp [Value.oneCell']) N8.out N9.out N7.out ?_
             intro v' w5 hown5 hg5 _ hat5
             have R1 := Lib.hid hown5
             have R2 := Lib.hid (Below.grown B5.out hg5 N7.out (fun g hg => own_ge O5.out hg))
             clear hown5 hg5 hat5))
        go_roundw
        case rel =>
          refine ⟨k + 1, by omega, by go_num, ?_, R2⟩
          show World.ownsRow _ _ _ _ _ _ _
          rw [HST.out]
          simp only [if_true]
          rw [linkCells_append, List.length_append]
          exact R1.out
        case measure => simp [intOf]; omega
    · obtain rfl : k = l.length := by omega
      go_wp2_with fail
      go_ret
      refine ⟨_, rfl, ?_, ?_⟩
      · have h := HO.out
        rw [List.take_length] at h
        first | exact h | (rw [hg]; exact h)
      · first | exact HB.out | (rw [hg]; exact HB.out)
end Go.Proofs.Ytojfimbanaijdaa
namespace Go.Proofs.Ytojfimbanaijdaa
open Go.RowKit Go.Shelf
attribute [local go_sem] Oper.semAt_some

theorem need11_any (x y : Hr.Nm × Hr.Nm) (xb : Nat) (w : World) (hx : Has w xb 64 #[nm x.1, nm x.2]) :
    Calls Try.prog 74 #[.agg #[nm y.1, nm y.2], .pointer (some ⟨xb, 0, none⟩)] w fun e w' => e = .returned (.bool (y != x)) ∧ Below w.heap.size w w' := by
  obtain ⟨x1, x2⟩ := x
  obtain ⟨y1, y2⟩ := y
  have x0 := hx.cell 0
  have x1' := hx.cell 1
  have xlt := hx.lt
  simp only [List.getElem?_toArray, List.getElem?_cons_zero, List.getElem?_cons_succ] at x0 x1'
  clear hx
  by_cases h1 : y1 = x1
  · subst h1
    by_cases h2 : y2 = x2
    · subst h2
      go_enter Try.func74, Try.ntmps74
      go_wp2_with fail
      go_ret
      exact ⟨by simp, (Below.refl _ _).alloc (Nat.le_refl _) _⟩
    · have heb : (y2 == x2) = false := by simpa using h2
      go_enter Try.func74, Try.ntmps74
      go_wp2_with fail
      go_ret
      exact ⟨by simp [h2], (Below.refl _ _).alloc (Nat.le_refl _) _⟩
  · have heb : (y1 == x1) = false := by simpa using h1
    go_enter Try.func74, Try.ntmps74
    go_wp2_with fail
    go_ret
    exact ⟨by simp [h1], (Below.refl _ _).alloc (Nat.le_refl _) _⟩

set_option maxRecDepth 100000 in
set_option maxHeartbeats 1000000 in
theorem need1_any (x : Hr.Nm × Hr.Nm) (gb : Nat) (L : List (Hr.Nm × Hr.Nm)) (w : World) (hG : GC w gb L) (hx : x.1.length ≤ 140737488355328) (hL : L.length ≤ 400000) :
    Calls Try.prog 73 #[.agg #[nm x.1, nm x.2], .pointer (some ⟨gb, 0, none⟩)] w fun e w' => e = .returned (.bool (Hr.isUp (L.filter fun y => y != x) x.1 x.2)) ∧ Below w.heap.size w w' := by
  have hf := hG.fine
  have hb1 : Below w.heap.size w (w.alloc (.cells #[nm x.1, nm x.2] 64)) := (Below.refl _ _).alloc (Nat.le_refl _) _
  have hx1 : Has (w.alloc (.cells #[nm x.1, nm x.2] 64)) w.heap.size 64 #[nm x.1, nm x.2] := Has.new _ _ _
  have hlf := List.length_filter_le (fun y => y != x) L
  have hff : Fine (L.filter fun y => y != x) := fun y hy => hf y (List.mem_filter.1 hy).1
  obtain ⟨A, cp, m, k, hg, hl, hm⟩ := hG
  have HK := Lib.hid (keepL_any 74 #[.pointer (some ⟨w.heap.size, 0, none⟩)] (enters_of Try.func74 (by kernel_rfl) rfl) (fun y => y != x) (.slice A L.length cp) L _ (hl.below hb1 (Nat.le_refl _)) (by omega) (fun y hy W hW => need11_any x y _ W (hx1.below hW hx1.lt)))
  have g0 := hg.cell 0
  have glt := hg.lt
  simp only [List.getElem?_toArray, List.getElem?_cons_zero] at g0
  have HX1 := Lib.hid hx1
  have HB1 := Lib.hid hb1
  clear hg hl hm hb1 hx1 hf
  generalize (L.filter fun y => y != x) = R at *
  obtain ⟨N, M⟩ := x
  dsimp only at *
  go_enter Try.func73, Try.ntmps73
  go_wp2_with (first
    | (go_at_call 72; refine HK.out.mono ?_
       rintro e w4 ⟨o, rfl, ho4, hb4⟩
       have HX4 := Lib.hid (HX1.out.below hb4 HX1.out.lt)
       have HB4 := Lib.hid (stepN HB1.out hb4)
       have HL4 := Lib.hid (LinksAt.of_own hff ho4)
       clear ho4 hb4))
  obtain ⟨-, A2, c2, rfl, -⟩ := id HL4.out
  have x0 := HX4.out.cell 0
  have x1 := HX4.out.cell 1
  have xlt := HX4.out.lt
  simp only [List.getElem?_toArray, List.getElem?_cons_zero, List.getElem?_cons_succ] at x0 x1
  have GR := Lib.hid (fun (W : World) (hW : Below w4.heap.size w4 W) => (graphOf_any (.slice A2 R.length c2) R W (HL4.out.below hW (Nat.le_refl _)) (by omega)).mono (fun e w' (h : ∃ x2, e = .returned x2 ∧ GraphAt w' w'.heap.size x2 R ∧ Below W.heap.size W w') => (by
    obtain ⟨x2, h1, h2, h3⟩ := h
    obtain ⟨A', c', m', k', h4, h5, h6, h7⟩ := h2
    exact ⟨A', c', m', k', by rw [h1, h4], h5, h7, stepN hW h3⟩ : ∃ A' c' m' k', e = .returned (.agg #[.slice A' R.length c', .map (some m')]) ∧ LinksAt w' (.slice A' R.length c') R ∧ MI w' m' k' (fun s => (Hr.firstLink R s).map Int.ofNat) ∧ Below w4.heap.size w4 w')))
  have IS := Lib.hid (fun (A' : Option Addr) (c' m' k' : Nat) (W : World) (h1 : LinksAt W (.slice A' R.length c') R) (h2 : MI W m' k' (fun s => (Hr.firstLink R s).map Int.ofNat)) (hW : Below w4.heap.size w4 W) => (is_any A' c' m' k' R N M W h1 h2 hx (by omega)).mono (fun e w' (h : e = .returned (.bool (Hr.isUp R N M)) ∧ Below W.heap.size W w') => (⟨h.1, stepN hW h.2⟩ : e = .returned (.bool (Hr.isUp R N M)) ∧ Below w4.heap.size w4 w')))
  have GIVE := Lib.hid (fun (W : World) (hW : Below w4.heap.size w4 W) => (⟨kept_below hW (Nat.le_refl _) _ _ x0, kept_below hW (Nat.le_refl _) _ _ x1, hW⟩ :
    W.cell? ⟨w.heap.size, 0, none⟩ = some (nm N) ∧ W.cell? ⟨w.heap.size, 1, none⟩ = some (nm M) ∧ Below w4.heap.size w4 W))
  clear x0 x1 HX4 HX1 HL4 HK HB1
  generalize hwq : w.heap.size = q at *
  go_region_held3 (fun W => W.cell? ⟨q, 0, none⟩ = some (nm N) ∧ W.cell? ⟨q, 1, none⟩ = some (nm M) ∧ Below w4.heap.size w4 W)
    (with_reducible (refine GIVE.out _ ?_; first | exact hbx | exact hby | exact (Below.refl _ _).drew))
    (first
      | (go_at_call 46; refine (GR.out _ (by with_reducible first | exact hbx | exact (Below.refl _ _).drew)).mono ?_; rintro e wx ⟨A', c', m', k', rfl, hl', hm', hbx⟩)
      | (go_at_call 39; refine (IS.out _ _ _ _ _ hl' hm' (by with_reducible first | exact hbx | exact (Below.refl _ _).drew)).mono ?_; rintro e wy ⟨rfl, hby⟩))
  all_goals
    go_wp2_with fail
    go_ret
    refine ⟨rfl, ?_⟩
    subst hwq
    exact stepN HB4.out hby

set_option maxRecDepth 100000 in
set_option maxHeartbeats 1000000 in
theorem Needless_ok (v : Value) (S : List Hr.Cls) (w : World) (h : SysAt w v S) (hV : Hr.Valid S) :
    Calls Try.prog 26 #[v] w fun e w' => ∃ o, e = .returned (.tuple #[o, .int .i64 0]) ∧ w'.ownsRow w.heap.size 64 2 o (Hr.needless (Hr.links S)).length (linkCells (Hr.needless (Hr.links S))) ∧ Below w.heap.size w w' := by
  have hLL := hV.hL
  have HE := Lib.hid (enter_ok v (.slice none 0 0) S [] w h hV ⟨none, 0, rfl, fun h => by simp at h⟩ (by simp) (fun s hs => by cases hs) (fun s hs => by cases hs))
  have hbdef : Hr.needless (Hr.links S) = (Hr.links S).filter fun x => Hr.isUp ((Hr.links S).filter fun y => y != x) x.1 x.2 := rfl
  have HBD := Lib.hid hbdef
  clear h hV hbdef
  generalize Hr.needless (Hr.links S) = res at *
  generalize Hr.links S = L at *
  go_enter Try.func26, Try.ntmps26
  go_wp2_with (first
    | (go_at_call 34; refine HE.out.mono ?_
       rintro e w2 ⟨x, rfl, hg2, hb2⟩
       obtain ⟨A, cp, m, rfl, hgc⟩ := GC.of hg2
       have hb3 : Below w2.heap.size w2 (w2.alloc (.cells #[.slice A L.length cp, .map (some m)] 73)) := (Below.refl _ _).alloc (Nat.le_refl _) _
       have HB3 := Lib.hid (stepN hb2 hb3)
       have hfl := hgc.fine
       have hlk : LinksAt (w2.alloc (.cells #[.slice A L.length cp, .map (some m)] 73)) (.slice A L.length cp) L := by
         obtain ⟨A', cp', m', k', hgg, hll, -⟩ := id hgc
         have hvv := hgg.cell 0
         rw [(Has.new w2 _ _).cell] at hvv
         simp only [List.getElem?_toArray, List.getElem?_cons_zero] at hvv
         cases hvv
         exact hll
       have HK := Lib.hid (keepL_any 73 #[.pointer (some ⟨w2.heap.size, 0, none⟩)] (enters_of Try.func73 (by kernel_rfl) rfl) (fun x => Hr.isUp (L.filter fun y => y != x) x.1 x.2) (.slice A L.length cp) L _ hlk (by omega) (fun x hx W hW => need1_any x _ L W (hgc.below hW) (hfl x hx).1 hLL))
       clear hg2 hb2 hb3 hgc hfl hlk)
    | (go_at_call 72; refine HK.out.mono ?_
       rintro e w5 ⟨o, rfl, ho5, hb5⟩
       have HO := Lib.hid (own_base ho5 HB3.out.size)
       have HB5 := Lib.hid (stepN HB3.out hb5)
       clear ho5 hb5))
  refine bodyPost_ret (v := .tuple #[o, .int .i64 0]) ?_ rfl ⟨o, rfl, by rw [HBD.out]; exact HO.out, HB5.out⟩
  simp [results, Try.results26, go_sem]
end Go.Proofs.Ytojfimbanaijdaa
