/-
  What Least returns, in package heir, of a valid system and two classes of it.
-/
import Derived.Test.YtojfimbanaijdaaHTouch
import Derived.Test.YtojfimbanaijdaaHReach
namespace Go.Proofs.Ytojfimbanaijdaa
open Go.RowKit Go.Shelf
attribute [local go_sem] Oper.semAt_some

theorem reach_fine {L : List (Hr.Nm × Hr.Nm)} (hf : Fine L) {a x : Hr.Nm} (h : Hr.Reach L a x) (ha : a.length ≤ 140737488355328) : x.length ≤ 140737488355328 := by
  induction h with
  | refl => exact ha
  | step hp _ ih => exact ih (hf _ (Hr.parents_mem L _ _ hp)).2
theorem above_fine {L : List (Hr.Nm × Hr.Nm)} (hf : Fine L) {a : Hr.Nm} (ha : a.length ≤ 140737488355328) : FineN (Hr.above L a) := fun _ hs => reach_fine hf ((Hr.mem_above L a _).1 hs) ha
theorem GC.fine {W : World} {gb : Nat} {L : List (Hr.Nm × Hr.Nm)} (h : GC W gb L) : Fine L := by
  obtain ⟨A, cp, m, k, _, h, _⟩ := h
  exact h.1

theorem least1_any (x b : Hr.Nm) (gb bb : Nat) (L : List (Hr.Nm × Hr.Nm)) (w : World) (hG : GC w gb L) (hbb : Has w bb 9 #[nm b]) (hb : b.length ≤ 140737488355328) (hL : L.length ≤ 900000) :
    Calls Try.prog 66 #[nm x, .pointer (some ⟨gb, 0, none⟩), .pointer (some ⟨bb, 0, none⟩)] w fun e w' => e = .returned (.bool (Hr.isUp L b x)) ∧ Below w.heap.size w w' := by
  obtain ⟨A, cp, m, k, hg, hl, hm⟩ := hG
  have HI := Lib.hid (is_any A cp m k L b x w hl hm hb hL)
  have g0 := hg.cell 0
  have g1 := hg.cell 1
  have glt := hg.lt
  have c0 := hbb.cell 0
  have clt := hbb.lt
  simp only [List.getElem?_toArray, List.getElem?_cons_zero, List.getElem?_cons_succ] at g0 g1 c0
  clear hg hl hm hbb
  go_enter Try.func66, Try.ntmps66
  go_wp2_with (go_at_call 39; refine HI.out.mono ?_; rintro e w' ⟨rfl, hb⟩)
  go_ret
  exact ⟨rfl, hb⟩

theorem least21_any (o c : Hr.Nm) (gb cb : Nat) (L : List (Hr.Nm × Hr.Nm)) (w : World) (hG : GC w gb L) (hcb : Has w cb 9 #[nm c]) (ho : o.length ≤ 140737488355328) (hL : L.length ≤ 900000) :
    Calls Try.prog 69 #[nm o, .pointer (some ⟨cb, 0, none⟩), .pointer (some ⟨gb, 0, none⟩)] w fun e w' => e = .returned (.bool (o != c && Hr.isUp L o c)) ∧ Below w.heap.size w w' := by
  obtain ⟨A, cp, m, k, hg, hl, hm⟩ := hG
  have HI := Lib.hid (is_any A cp m k L o c w hl hm ho hL)
  have g0 := hg.cell 0
  have g1 := hg.cell 1
  have glt := hg.lt
  have c0 := hcb.cell 0
  have clt := hcb.lt
  simp only [List.getElem?_toArray, List.getElem?_cons_zero, List.getElem?_cons_succ] at g0 g1 c0
  clear hg hl hm hcb
  by_cases he : o = c
  · subst he
    have hr : (o != o && Hr.isUp L o o) = false := by simp
    rw [hr]
    go_enter Try.func69, Try.ntmps69
    go_wp2_with fail
    go_ret
    exact ⟨rfl, Below.refl _ _⟩
  · have hr : (o != c && Hr.isUp L o c) = Hr.isUp L o c := by
      have : (o != c) = true := by simpa using he
      rw [this, Bool.true_and]
    rw [hr]
    have heb : (o == c) = false := by simpa using he
    go_enter Try.func69, Try.ntmps69
    go_wp2_with (go_at_call 39; refine HI.out.mono ?_; rintro e w' ⟨rfl, hb⟩)
    go_ret
    exact ⟨rfl, hb⟩

set_option maxRecDepth 100000 in
set_option maxHeartbeats 1000000 in
theorem least2_any (c : Hr.Nm) (ob gb : Nat) (cv : Value) (common : List Hr.Nm) (L : List (Hr.Nm × Hr.Nm)) (w : World) (hG : GC w gb L) (hob : Has w ob 26 #[cv]) (hcv : NmsAt w cv common) (hf : FineN common) (hcl : common.length ≤ 1000000) (hL : L.length ≤ 900000) :
    Calls Try.prog 67 #[nm c, .pointer (some ⟨ob, 0, none⟩), .pointer (some ⟨gb, 0, none⟩)] w fun e w' => e = .returned (.bool (common.any fun o => o != c && Hr.isUp L o c)) ∧ Below w.heap.size w w' := by
  have hB1 : Below w.heap.size w (w.alloc (.cells #[nm c] 9)) := (Below.refl _ _).alloc (Nat.le_refl _) _
  have hc1 : Has (w.alloc (.cells #[nm c] 9)) w.heap.size 9 #[nm c] := Has.new _ _ _
  have CF := Lib.hid (containsFuncN_any 69 #[.pointer (some ⟨w.heap.size, 0, none⟩), .pointer (some ⟨gb, 0, none⟩)] (enters_of Try.func69 (by kernel_rfl) rfl) (fun o => o != c && Hr.isUp L o c) cv common _ (hcv.below hB1 (Nat.le_refl _)) hcl (fun x hx W hW => least21_any x c gb _ L W ((hG.below hB1).below hW) (hc1.below hW hc1.lt) (hf x hx) hL))
  have c0 := hob.cell 0
  have clt := hob.lt
  simp only [List.getElem?_toArray, List.getElem?_cons_zero] at c0
  have HB1 := Lib.hid hB1
  clear hG hob hcv hf hB1 hc1
  generalize (common.any fun o => o != c && Hr.isUp L o c) = R at *
  go_enter Try.func67, Try.ntmps67
  go_wp2_with (go_at_call 68; refine CF.out.mono ?_; rintro e w' ⟨rfl, hb⟩)
  go_ret
  exact ⟨rfl, stepN HB1.out hb⟩

set_option maxRecDepth 100000 in
theorem least3_any (c : Hr.Nm) (fb ob gb : Nat) (cv : Value) (common : List Hr.Nm) (L : List (Hr.Nm × Hr.Nm)) (w : World) (hG : GC w gb L) (hob : Has w ob 26 #[cv]) (hcv : NmsAt w cv common) (hf : FineN common) (hcl : common.length ≤ 1000000) (hL : L.length ≤ 900000)
    (hfb : Has w fb 80 #[.func (.func 67) #[] #[.pointer (some ⟨ob, 0, none⟩), .pointer (some ⟨gb, 0, none⟩)]]) :
    Calls Try.prog 70 #[nm c, .pointer (some ⟨fb, 0, none⟩)] w fun e w' => e = .returned (.bool (!common.any fun o => o != c && Hr.isUp L o c)) ∧ Below w.heap.size w w' := by
  have CF := Lib.hid (least2_any c ob gb cv common L w hG hob hcv hf hcl hL)
  have f0 := hfb.cell 0
  have flt := hfb.lt
  have eg := enters_of Try.func67 (by kernel_rfl) rfl
  simp only [List.getElem?_toArray, List.getElem?_cons_zero] at f0
  clear hG hob hcv hf hfb
  generalize (common.any fun o => o != c && Hr.isUp L o c) = R at *
  go_enter Try.func70, Try.ntmps70
  go_wp2_with (first | (go_at_call 67; refine CF.out.mono ?_; rintro e w' ⟨rfl, hb⟩) | (refine CF.out.mono ?_; rintro e w' ⟨rfl, hb⟩))
  go_ret
  exact ⟨rfl, hb⟩

set_option maxRecDepth 100000 in
set_option maxHeartbeats 2000000 in
theorem Least_ok (v : Value) (S : List Hr.Cls) (a b : Hr.Nm) (w : World) (h : SysAt w v S) (hV : Hr.Valid S) (ha : a.length ≤ 140737488355328) (hb : b.length ≤ 140737488355328) (hin : (Hr.firstAt S a).isSome = true) (hinb : (Hr.firstAt S b).isSome = true) :
    Calls Try.prog 25 #[v, nm a, nm b] w fun e w' => ∃ o, e = .returned (.tuple #[o, .int .i64 0]) ∧ w'.ownsRow w.heap.size 9 1 o (Hr.least (Hr.links S) a b).length (nmRow (Hr.least (Hr.links S) a b)) ∧ Below w.heap.size w w' := by
  have hLL := hV.hL
  have hB1 : Below w.heap.size w ((w.alloc (.cells #[nm b] 9)).alloc (.cells #[nm a, nm b] 9)) := ((Below.refl _ _).alloc (Nat.le_refl _) _).alloc (by simp) _
  have HC1 : Hid (Has ((w.alloc (.cells #[nm b] 9)).alloc (.cells #[nm a, nm b] 9)) w.heap.size 9 #[nm b]) := (Has.new _ _ _).alloc _
  have hnl := nms_laid (w.alloc (.cells #[nm b] 9)) [a, b] 2
  rw [World.size_alloc] at hnl
  have HE := Lib.hid (enter_ok v _ S [a, b] _ (h.below hB1 (Nat.le_refl _)) hV hnl (by simp) (fun s hs => by
    rcases List.mem_cons.1 hs with h | h
    · rw [h]; exact ha
    · rw [List.mem_singleton.1 h]; exact hb) (fun s hs => by
    rcases List.mem_cons.1 hs with h | h
    · rw [h]; exact hin
    · rw [List.mem_singleton.1 h]; exact hinb))
  have HB1 := Lib.hid hB1
  have hbdef : Hr.least (Hr.links S) a b = Hr.isort (((Hr.above (Hr.links S) a).filter fun c => Hr.isUp (Hr.links S) b c).filter fun c => !((Hr.above (Hr.links S) a).filter fun c => Hr.isUp (Hr.links S) b c).any fun o => o != c && Hr.isUp (Hr.links S) o c) := rfl
  have HBD := Lib.hid hbdef
  clear h hV hin hinb hB1 hnl hbdef
  generalize Hr.least (Hr.links S) a b = res at *
  generalize Hr.links S = L at *
  have hal := Hr.above_length L a
  have hst := fun (a : Addr) m W x y => run_store Try.prog W a (.func (.func 67) #[] #[.pointer (some ⟨x, 0, none⟩), .pointer (some ⟨y, 0, none⟩)]) m rfl
  go_enter Try.func25, Try.ntmps25
  go_wp2_with (first
    | (go_at_call 34; refine HE.out.mono ?_
       rintro e w2 ⟨x, rfl, hg2, hb2⟩
       obtain ⟨A, cp, m, rfl, hgc⟩ := GC.of hg2
       have hb3 : Below w2.heap.size w2 (w2.alloc (.cells #[.slice A L.length cp, .map (some m)] 73)) := (Below.refl _ _).alloc (Nat.le_refl _) _
       have HB3 := Lib.hid (stepN (stepN HB1.out hb2) hb3)
       have HG2 := Lib.hid hgc
       have hc2 := HC1.out.below hb2 HC1.out.lt
       have HC3 := Lib.hid (hc2.below hb3 hc2.lt)
       have hfl := hgc.fine
       have HFN := Lib.hid (above_fine hfl ha)
       obtain ⟨A', cp', m', k', hgg, hll, hmm⟩ := id hgc
       have hvv := hgg.cell 0
       have hvw := hgg.cell 1
       rw [(Has.new w2 _ _).cell] at hvv hvw
       simp only [List.getElem?_toArray, List.getElem?_cons_zero, List.getElem?_cons_succ] at hvv hvw
       cases hvv
       cases hvw
       have HAB := Lib.hid (above_any A cp m k' L a _ hll hmm ha (by omega))
       clear hg2 hb2 hb3 hgc hc2 hfl hgg hll hmm)
    | (go_at_call 57; refine HAB.out.mono ?_
       rintro e w4 ⟨o1, rfl, ho4, hb4⟩
       have HG4 := Lib.hid (HG2.out.below hb4)
       have HC4 := Lib.hid (HC3.out.below hb4 HC3.out.lt)
       have HK := Lib.hid (keep_any 66 #[.pointer (some ⟨w2.heap.size, 0, none⟩), .pointer (some ⟨w.heap.size, 0, none⟩)] (enters_of Try.func66 (by kernel_rfl) rfl) (fun x => Hr.isUp L b x) o1 (Hr.above L a) w4 (NmsAt.of_own ho4) (by omega) (fun x hx W hW => least1_any x b _ _ L W (HG4.out.below hW) (HC4.out.below hW HC4.out.lt) hb (by omega)))
       have HB4 := Lib.hid (stepN HB3.out hb4)
       clear ho4 hb4)
    | (go_at_call 35; refine HK.out.mono ?_
       rintro e w5 ⟨o2, rfl, ho5, hb5⟩
       have hcl := List.length_filter_le (fun c => Hr.isUp L b c) (Hr.above L a)
       have hfc : FineN ((Hr.above L a).filter fun c => Hr.isUp L b c) := fun s hs => HFN.out s (List.mem_filter.1 hs).1
       generalize (Hr.above L a).filter (fun c => Hr.isUp L b c) = common at *
       obtain ⟨oA, on, rfl⟩ := own_len ho5
       have hb6 : Below w5.heap.size w5 ((w5.alloc (.cells #[.slice oA common.length on] 26)).alloc (.cells #[.func (.func 67) #[] #[.pointer (some ⟨w5.heap.size, 0, none⟩), .pointer (some ⟨w2.heap.size, 0, none⟩)]] 80)) := ((Below.refl _ _).alloc (Nat.le_refl _) _).alloc (by simp) _
       have HG6 := Lib.hid ((HG4.out.below hb5).below hb6)
       have HO6 : Hid (Has ((w5.alloc (.cells #[.slice oA common.length on] 26)).alloc (.cells #[.func (.func 67) #[] #[.pointer (some ⟨w5.heap.size, 0, none⟩), .pointer (some ⟨w2.heap.size, 0, none⟩)]] 80)) w5.heap.size 26 #[.slice oA common.length on]) := (Has.new _ _ _).alloc _
       have hf6 := Has.new (w5.alloc (.cells #[.slice oA common.length on] 26)) 80 #[.func (.func 67) #[] #[.pointer (some ⟨w5.heap.size, 0, none⟩), .pointer (some ⟨w2.heap.size, 0, none⟩)]]
       rw [World.size_alloc] at hf6
       have HF6 := Lib.hid hf6
       have HN6 := Lib.hid ((NmsAt.of_own ho5).below hb6 (Nat.le_refl _))
       have HFC := Lib.hid hfc
       have HB6 := Lib.hid (stepN (stepN HB4.out hb5) hb6)
       have HK2 := Lib.hid (keep_any 70 #[.pointer (some ⟨w5.heap.size + 1, 0, none⟩)] (enters_of Try.func70 (by kernel_rfl) rfl) (fun c => !common.any fun o => o != c && Hr.isUp L o c) (.slice oA common.length on) common _ HN6.out (by omega) (fun x hx W hW => least3_any x _ w5.heap.size w2.heap.size _ common L W (HG6.out.below hW) (HO6.out.below hW HO6.out.lt) (HN6.out.below hW (Nat.le_refl _)) HFC.out (by omega) (by omega) (HF6.out.below hW HF6.out.lt)))
       clear ho5 hb5 hb6 hf6 hfc HK)
    | (go_at_call 35; refine HK2.out.mono ?_
       rintro e w7 ⟨o3, rfl, ho7, hb7⟩
       have HO7 := Lib.hid ho7
       have hl7 := List.length_filter_le (fun c => !common.any fun o => o != c && Hr.isUp L o c) common
       have HST := Lib.hid (sort_any o3 _ _ w7 ho7 (by omega))
       have HB7 := Lib.hid (stepN HB6.out hb7)
       have HS6 := Lib.hid HB6.out.size
       clear ho7 hb7)
    | (go_at_call 71; refine HST.out.mono ?_
       rintro e w8 ⟨rfl, ho8, hg8⟩
       have HO8 := Lib.hid (own_base ho8 HS6.out)
       have HB8 := Lib.hid (Below.grown HB7.out hg8 HB7.out.size (fun g hg => Nat.le_trans HS6.out (own_ge HO7.out hg)))
       clear ho8 hg8))
  refine bodyPost_ret (v := .tuple #[o3, .int .i64 0]) ?_ rfl ⟨o3, rfl, by rw [HBD.out]; exact HO8.out, HB8.out⟩
  simp [results, Try.results25, go_sem]
end Go.Proofs.Ytojfimbanaijdaa
