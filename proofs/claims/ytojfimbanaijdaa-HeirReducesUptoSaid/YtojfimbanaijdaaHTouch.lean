/-
  What slices.IndexFunc and slices.ContainsFunc return of names, in package heir, whatever function they are given. What Touched returns, in package heir, of a valid system and at most 48 names.
-/
import Derived.Test.YtojfimbanaijdaaHLow
import Derived.Deep.RegionHeld3
namespace Go.Proofs.Ytojfimbanaijdaa
open Go.RowKit Go.Shelf

/-- An index, or -1. -/
def Hr.idxI : Option Nat → Int
  | some k => k
  | none => -1

set_option maxRecDepth 100000 in
set_option maxHeartbeats 1000000 in
theorem indexFuncN_any (fn : Nat) (lb : Array Value) (eg : ∀ args w, (callFunc fn args).run Try.prog w = .ok (.enter fn args) w) (want : Hr.Nm → Bool) (v : Value) (l : List Hr.Nm) (w : World) (h : NmsAt w v l) (hl : l.length ≤ 1000000)
    (hF : ∀ x ∈ l, ∀ W, Below w.heap.size w W → Calls Try.prog fn (#[nm x] ++ lb) W fun e W' => e = .returned (.bool (want x)) ∧ Below W.heap.size W W') :
    Calls Try.prog 59 #[v, .func (.func fn) #[] lb] w fun e w' => e = .returned (.int .i64 (Hr.idxI (l.findIdx? want))) ∧ Below w.heap.size w w' := by
  have HC := Lib.hid h
  have HF := Lib.hid hF
  obtain ⟨A, c, rfl, -⟩ := h
  clear hF
  go_enter Try.func59, Try.ntmps59
  go_wp2_with fail
  go_loopw [8] (fun i wr => ∃ k : Nat, k ≤ l.length ∧ i = .int .i64 k ∧ Hid ((l.take k).any want = false) ∧ Hid (Below w.heap.size w wr)) (fun i _ => l.length - (intOf i).toNat)
  case atStart => exact ⟨0, Nat.zero_le _, rfl, rfl, Below.refl _ _⟩
  case round =>
    obtain ⟨k, hk, rfl, HA, HB⟩ := hrel
    by_cases hlt : k < l.length
    · obtain ⟨A', c', hv, hat1⟩ := HC.out.below HB.out (Nat.le_refl _)
      cases hv
      obtain ⟨b, o, hA, hat⟩ := hat1 (by omega)
      subst hA
      have c0 := hat k hlt
      have hblt := World.block_lt_of_cell? _ _ c0
      have hcall := HF.out l[k] (List.getElem_mem hlt) wr HB.out
      have hst : (l.take (k + 1)).any want = want l[k] := by
        rw [List.take_succ_eq_append_getElem hlt, List.any_append, HA.out]
        simp
      have hyes : want l[k] = true → l.findIdx? want = some k := fun h => by
        rw [List.findIdx?_eq_some_iff_getElem]
        refine ⟨hlt, h, fun j hj => ?_⟩
        have h1 := HA.out
        rw [List.any_eq_false] at h1
        exact h1 _ (List.mem_take_iff_getElem.2 ⟨j, by omega, rfl⟩)
      have hw1 : IntKind.i64.wrap ((k : Int) + 1) = (k : Int) + 1 := IntWalk.i64_in _ (by omega)
      have hltI : (k : Int) < l.length := by omega
      have HST := Lib.hid hst
      have HY := Lib.hid hyes
      have HCL := Lib.hid hcall
      clear hst hyes hcall hat hat1
      generalize want l[k] = bw at *
      generalize l[k] = N at *
      cases bw with
      | false =>
        go_wp2_with (refine HCL.out.mono ?_; rintro e w4 ⟨rfl, hb4⟩)
        have HB4 := Lib.hid (stepN HB.out hb4)
        clear hb4
        go_roundw
        case rel => exact ⟨k + 1, by omega, by go_num, HST, HB4⟩
        case measure => simp [intOf]; omega
      | true =>
        go_wp2_with (refine HCL.out.mono ?_; rintro e w4 ⟨rfl, hb4⟩)
        go_ret
        exact ⟨by rw [HY.out (by trivial)]; rfl, stepN HB.out hb4⟩
    · obtain rfl : k = l.length := by omega
      go_wp2_with fail
      go_ret
      have h := HA.out
      rw [List.take_length] at h
      have hn : l.findIdx? want = none := by
        rw [List.findIdx?_eq_none_iff]
        intro x hx
        rw [List.any_eq_false] at h
        simpa using h x hx
      exact ⟨by rw [hn]; rfl, HB.out⟩

theorem containsFuncN_any (fn : Nat) (lb : Array Value) (eg : ∀ args w, (callFunc fn args).run Try.prog w = .ok (.enter fn args) w) (want : Hr.Nm → Bool) (v : Value) (l : List Hr.Nm) (w : World) (h : NmsAt w v l) (hl : l.length ≤ 1000000)
    (hF : ∀ x ∈ l, ∀ W, Below w.heap.size w W → Calls Try.prog fn (#[nm x] ++ lb) W fun e W' => e = .returned (.bool (want x)) ∧ Below W.heap.size W W') :
    Calls Try.prog 68 #[v, .func (.func fn) #[] lb] w fun e w' => e = .returned (.bool (l.any want)) ∧ Below w.heap.size w w' := by
  have HI := Lib.hid (indexFuncN_any fn lb eg want v l w h hl hF)
  have hd : decide ((0 : Int) ≤ (Hr.idxI (l.findIdx? want))) = l.any want := by
    rw [← List.findIdx?_isSome]
    cases l.findIdx? want with
    | some k => simp [Hr.idxI]
    | none => rfl
  have HD := Lib.hid hd
  clear h hF hd
  go_enter Try.func68, Try.ntmps68
  generalize Hr.idxI (l.findIdx? want) = i at *
  go_wp2_with (first
    | (go_at_call 59; refine HI.out.mono ?_
       rintro e w4 ⟨rfl, hb4⟩
       have HB := Lib.hid hb4
       clear hb4))
  go_ret
  exact ⟨by rw [← HD.out]; rfl, HB.out⟩
end Go.Proofs.Ytojfimbanaijdaa
namespace Go.Proofs.Ytojfimbanaijdaa
open Go.RowKit Go.Shelf
attribute [local go_sem] Oper.semAt_some

theorem touched1_any (x : Hr.Nm) (cb : Nat) (chv : Value) (ch : List Hr.Nm) (w : World) (hcb : Has w cb 26 #[chv]) (hch : NmsAt w chv ch) (hl : ch.length ≤ 1000000) :
    Calls Try.prog 75 #[nm x, .pointer (some ⟨cb, 0, none⟩)] w fun e w' => e = .returned (.bool (ch.contains x)) ∧ Below w.heap.size w w' := by
  have HC := Lib.hid (contains_any chv ch x w hch hl)
  have c0 := hcb.cell 0
  have clt := hcb.lt
  simp only [List.getElem?_toArray, List.getElem?_cons_zero] at c0
  clear hcb hch
  go_enter Try.func75, Try.ntmps75
  go_wp2_with (go_at_call 65; refine HC.out.mono ?_; rintro e w' ⟨rfl, rfl⟩)
  go_ret
  exact ⟨by simp, Below.refl _ _⟩

set_option maxRecDepth 100000 in
set_option maxHeartbeats 1000000 in
theorem touched2_any (c : Hr.Nm) (gb fb cb : Nat) (chv : Value) (ch : List Hr.Nm) (L : List (Hr.Nm × Hr.Nm)) (w : World) (hG : GC w gb L) (hfb : Has w fb 80 #[.func (.func 75) #[] #[.pointer (some ⟨cb, 0, none⟩)]]) (hcb : Has w cb 26 #[chv]) (hch : NmsAt w chv ch) (hl : ch.length ≤ 1000000) (hc : c.length ≤ 140737488355328) (hL : L.length ≤ 900000) :
    Calls Try.prog 76 #[nm c, .pointer (some ⟨gb, 0, none⟩), .pointer (some ⟨fb, 0, none⟩)] w fun e w' => e = .returned (.bool ((Hr.above L c).any fun a => ch.contains a)) ∧ Below w.heap.size w w' := by
  obtain ⟨A, cp, m, k, hg, hlk, hm⟩ := hG
  have hal := Hr.above_length L c
  have AB := Lib.hid (fun (W : World) (hW : Below w.heap.size w W) => (above_any A cp m k L c W (hlk.below hW (Nat.le_refl _)) (hm.below hW hm.lt) hc hL).mono (fun e w' (h : ∃ o, e = .returned o ∧ w'.ownsRow W.heap.size 9 1 o (Hr.above L c).length (nmRow (Hr.above L c)) ∧ Below W.heap.size W w') => (by
    obtain ⟨o, h1, h2, h3⟩ := h
    exact ⟨o, h1, NmsAt.of_own h2, stepN hW h3⟩ : ∃ o, e = .returned o ∧ NmsAt w' o (Hr.above L c) ∧ Below w.heap.size w w')))
  have CF := Lib.hid (fun (o : Value) (W : World) (hn : NmsAt W o (Hr.above L c)) (hW : Below w.heap.size w W) => (containsFuncN_any 75 #[.pointer (some ⟨cb, 0, none⟩)] (enters_of Try.func75 (by kernel_rfl) rfl) (fun a => ch.contains a) o _ W hn (by omega) (fun x hx W' hW' => touched1_any x cb chv ch W' ((hcb.below hW hcb.lt).below hW' (hcb.below hW hcb.lt).lt) ((hch.below hW (Nat.le_refl _)).below hW' (Nat.le_refl _)) hl)).mono (fun e w' (h : e = .returned (.bool ((Hr.above L c).any fun a => ch.contains a)) ∧ Below W.heap.size W w') => (⟨h.1, stepN hW h.2⟩ : e = .returned (.bool ((Hr.above L c).any fun a => ch.contains a)) ∧ Below w.heap.size w w')))
  have g0 := hg.cell 0
  have g1 := hg.cell 1
  have glt := hg.lt
  have f0 := hfb.cell 0
  have flt := hfb.lt
  simp only [List.getElem?_toArray, List.getElem?_cons_zero, List.getElem?_cons_succ] at g0 g1 f0
  have GIVE := Lib.hid (fun (W : World) (hW : Below w.heap.size w W) => (⟨kept_below hW (Nat.le_refl _) _ _ g0, kept_below hW (Nat.le_refl _) _ _ g1, kept_below hW (Nat.le_refl _) _ _ f0, hW⟩ :
    W.cell? ⟨gb, 0, none⟩ = some (.slice A L.length cp) ∧ W.cell? ⟨gb, 1, none⟩ = some (.map (some m)) ∧ W.cell? ⟨fb, 0, none⟩ = some (.func (.func 75) #[] #[.pointer (some ⟨cb, 0, none⟩)]) ∧ Below w.heap.size w W))
  clear hg hlk hm hfb hcb hch
  generalize hR : (Hr.above L c).any (fun a => ch.contains a) = R at *
  generalize Hr.above L c = ab at *
  go_enter Try.func76, Try.ntmps76
  go_wp2_with fail
  go_region_held3 (fun W => W.cell? ⟨gb, 0, none⟩ = some (.slice A L.length cp) ∧ W.cell? ⟨gb, 1, none⟩ = some (.map (some m)) ∧ W.cell? ⟨fb, 0, none⟩ = some (.func (.func 75) #[] #[.pointer (some ⟨cb, 0, none⟩)]) ∧ Below w.heap.size w W)
    (with_reducible (refine GIVE.out _ ?_; first | exact hbx | exact hby | exact (Below.refl _ _).drew))
    (first
      | (go_at_call 57; refine (AB.out _ (by with_reducible first | exact hbx | exact (Below.refl _ _).drew)).mono ?_; rintro e wx ⟨o, rfl, hno, hbx⟩)
      | (go_at_call 68; refine (CF.out _ _ hno (by with_reducible first | exact hbx | exact (Below.refl _ _).drew)).mono ?_; rintro e wy ⟨rfl, hby⟩))
  all_goals
    go_wp2_with fail
    go_ret
    exact ⟨rfl, hby⟩

set_option maxRecDepth 100000 in
set_option maxHeartbeats 1000000 in
theorem Touched_ok (v u : Value) (S : List Hr.Cls) (ch : List Hr.Nm) (w : World) (h : SysAt w v S) (hV : Hr.Valid S) (hu : NmsAt w u ch) (hch : ch.length ≤ 48) :
    Calls Try.prog 28 #[v, u] w fun e w' => ∃ o, e = .returned (.tuple #[o, .int .i64 0]) ∧ w'.ownsRow w.heap.size 9 1 o (Hr.touched S ch).length (nmRow (Hr.touched S ch)) ∧ Below w.heap.size w w' := by
  have hLL := hV.hL
  have h24 := hV.h24
  obtain ⟨uA, uc, rfl, -⟩ := id hu
  have hB1 : Below w.heap.size w (w.alloc (.cells #[.slice uA ch.length uc] 26)) := (Below.refl _ _).alloc (Nat.le_refl _) _
  have HC1 := Lib.hid (Has.new w 26 #[.slice uA ch.length uc])
  have HE := Lib.hid (enter_ok v (.slice none 0 0) S [] _ (h.below hB1 (Nat.le_refl _)) hV ⟨none, 0, rfl, fun h => by simp at h⟩ (by simp) (fun s hs => by cases hs) (fun s hs => by cases hs))
  have HU := Lib.hid hu
  have HB1 := Lib.hid hB1
  have HS := Lib.hid h
  have HFN := Lib.hid (names_fine h)
  have hbdef : Hr.touched S ch = (S.map (·.name)).filter fun c => (Hr.above (Hr.links S) c).any fun a => ch.contains a := rfl
  have HBD := Lib.hid hbdef
  have hgt : ¬ ((48 : Int) < ch.length) := by omega
  clear h hV hu hB1 hbdef
  generalize Hr.links S = L at *
  have hst := fun (a : Addr) m W => run_store Try.prog W a (.func (.func 75) #[] #[.pointer (some ⟨w.heap.size, 0, none⟩)]) m rfl
  go_enter Try.func28, Try.ntmps28
  go_wp2_with (first
    | (go_at_call 34; refine HE.out.mono ?_
       rintro e w2 ⟨x, rfl, hg2, hb2⟩
       obtain ⟨A, cp, m, rfl, hgc⟩ := GC.of hg2
       have HB2 := Lib.hid (stepN HB1.out hb2)
       have HG2 := Lib.hid hgc
       have hb3 : Below w2.heap.size w2 (w2.alloc (.cells #[.slice A L.length cp, .map (some m)] 73)) := (Below.refl _ _).alloc (Nat.le_refl _) _
       have hb4 : Below (w2.alloc (.cells #[.slice A L.length cp, .map (some m)] 73)).heap.size (w2.alloc (.cells #[.slice A L.length cp, .map (some m)] 73)) ((w2.alloc (.cells #[.slice A L.length cp, .map (some m)] 73)).alloc (.cells #[.func (.func 75) #[] #[.pointer (some ⟨w.heap.size, 0, none⟩)]] 80)) := (Below.refl _ _).alloc (Nat.le_refl _) _
       have hfc := Has.new (w2.alloc (.cells #[.slice A L.length cp, .map (some m)] 73)) 80 #[.func (.func 75) #[] #[.pointer (some ⟨w.heap.size, 0, none⟩)]]
       rw [World.size_alloc] at hfc
       have HFC := Lib.hid hfc
       have HG3 := Lib.hid (hgc.below hb4)
       have hc2 := HC1.out.below hb2 HC1.out.lt
       have hc3 := hc2.below hb3 hc2.lt
       have HC3 := Lib.hid (hc3.below hb4 hc3.lt)
       have HB3 := Lib.hid (stepN (stepN HB2.out hb3) hb4)
       have HEA := Lib.hid (eachClass_any v S _ (HS.out.below HB3.out (Nat.le_refl _)) (by omega))
       clear hg2 hb2 hb3 hb4 hgc hfc hc2 hc3)
    | (go_at_call 36; refine HEA.out.mono ?_
       rintro e w4 ⟨o1, rfl, ho4, hb4⟩
       have HK := Lib.hid (keep_any 76 #[.pointer (some ⟨w2.heap.size, 0, none⟩), .pointer (some ⟨w2.heap.size + 1, 0, none⟩)] (enters_of Try.func76 (by kernel_rfl) rfl) (fun c => (Hr.above L c).any fun a => ch.contains a) o1 (S.map (·.name)) w4 (NmsAt.of_own ho4) (by rw [List.length_map]; omega) (fun x hx W hW => touched2_any x _ _ w.heap.size _ ch L W ((HG3.out.below hb4).below hW) ((HFC.out.below hb4 HFC.out.lt).below hW (HFC.out.below hb4 HFC.out.lt).lt) ((HC3.out.below hb4 HC3.out.lt).below hW (HC3.out.below hb4 HC3.out.lt).lt) (((HU.out.below HB3.out (Nat.le_refl _)).below hb4 (Nat.le_refl _)).below hW (Nat.le_refl _)) (by omega) (HFN.out x hx) (by omega)))
       have HB4 := Lib.hid (stepN HB3.out hb4)
       clear ho4 hb4)
    | (go_at_call 35; refine HK.out.mono ?_
       rintro e w5 ⟨o, rfl, ho5, hb5⟩
       have HO := Lib.hid (own_base ho5 HB4.out.size)
       have HB5 := Lib.hid (stepN HB4.out hb5)
       clear ho5 hb5))
  refine bodyPost_ret (v := .tuple #[o, .int .i64 0]) ?_ rfl ⟨o, rfl, by rw [HBD.out]; exact HO.out, HB5.out⟩
  simp [results, Try.results28, go_sem]
end Go.Proofs.Ytojfimbanaijdaa
