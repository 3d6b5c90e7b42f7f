/-
  What Ring returns, in package heir, of a system without a ring. What slices.ContainsFunc returns of parents, in package heir: whether one is no class.
-/
import Derived.Test.YtojfimbanaijdaaHKeep
import Derived.WalkMore
namespace Go.Proofs.Ytojfimbanaijdaa
open Go.RowKit Go.Shelf

theorem sources_fine {L : List (Hr.Nm × Hr.Nm)} (h : Fine L) : FineN (Hr.sources L) := fun s hs => by
  have h1 := (Hr.isort_perm _).mem_iff.1 hs
  rw [List.mem_eraseDups] at h1
  obtain ⟨x, hx, rfl⟩ := List.mem_map.1 h1
  exact (h x hx).1
theorem sources_le (L : List (Hr.Nm × Hr.Nm)) : (Hr.sources L).length ≤ L.length := by
  unfold Hr.sources
  rw [(Hr.isort_perm _).length_eq]
  refine Nat.le_trans (Hr.eraseDups_le _ _ (Nat.le_refl _)) ?_
  rw [List.length_map]
  exact Nat.le_refl _

theorem links_fine {w : World} {v : Value} {S : List Hr.Cls} (h : SysAt w v S) : Fine (Hr.links S) := by
  obtain ⟨A, c, rfl, h⟩ := h
  have key : ∀ k, k ≤ S.length → Fine (Hr.linksTo S k) := by
    intro k
    induction k with
    | zero => exact fun _ x hx => by cases hx
    | succ k ih =>
      intro hk x hx
      have hlt : k < S.length := by omega
      obtain ⟨b, o, _, hat⟩ := h (by omega)
      obtain ⟨hn, _, _, _, _, _, A3, c3, _, _, _, _, _, _, _, _, _, _, _, _, hups, _⟩ := hat k hlt
      have hx' : x ∈ Hr.linksTo S k ++ (match S[k]? with | some c => Hr.linksAt S k c | none => []) := hx
      rw [List.getElem?_eq_getElem hlt] at hx'
      rcases List.mem_append.1 hx' with h1 | h1
      · exact ih (by omega) x h1
      · dsimp only at h1
        unfold Hr.linksAt at h1
        split at h1
        · obtain ⟨p, hp, rfl⟩ := List.mem_map.1 h1
          refine ⟨hn, ?_⟩
          obtain ⟨i, hi, rfl⟩ := List.getElem_of_mem hp
          obtain ⟨A', c', hv, hh⟩ := hups
          obtain ⟨b', o', _, hh⟩ := hh (by omega)
          exact (hh i hi).1
        · cases h1
  exact key _ (Nat.le_refl _)

set_option maxRecDepth 100000 in
set_option maxHeartbeats 1000000 in
theorem Ring_none (v : Value) (S : List Hr.Cls) (w : World) (h : SysAt w v S) (hS : S.length ≤ 1000000) (hL : (Hr.links S).length ≤ 400000) (hno : (Hr.visited (Hr.links S) (Hr.sources (Hr.links S))).ring = false) :
    Calls Try.prog 17 #[v] w fun e w' => e = .returned (.tuple #[.slice none 0 0, .bool false]) ∧ Below w.heap.size w w' := by
  have hfine := links_fine h
  have HLK := Lib.hid (linksOf_any v S w h hS (by omega))
  have HNO := Lib.hid hno
  have HFI := Lib.hid hfine
  have hsl := sources_le (Hr.links S)
  clear h hno hfine
  generalize Hr.links S = L at *
  go_enter Try.func17, Try.ntmps17
  go_wp2
  go_step3
  go_wp2_with (first
    | (go_at_call 47; refine HLK.out.mono ?_
       rintro e w1 ⟨x1, rfl, ho1, hb1⟩
       have HG := Lib.hid (graphOf_any x1 L w1 (LinksAt.of_own HFI.out ho1) (by omega))
       have HB1 := Lib.hid hb1
       clear ho1 hb1)
    | (go_at_call 46; refine HG.out.mono ?_
       rintro e w2 ⟨x2, rfl, hg2, hb2⟩
       obtain ⟨A, cp, m, k, rfl, hl2, hm2, hmi2⟩ := hg2
       have HB2 := Lib.hid (stepN HB1.out hb2)
       have HL2 := Lib.hid hl2
       have HM2 := Lib.hid hmi2
       clear hl2 hmi2 hb2)
    | (go_at_call 49; refine (keys_any (some m) _).mono ?_
       rintro e w3 ⟨rfl, rfl⟩
       have hb3 : Below w2.heap.size w2 (w2.alloc (.cells #[.slice A L.length cp, .map (some m)] 73)) := (Below.refl _ _).alloc (Nat.le_refl _) _
       have HSO := sources_any m k L _ (HM2.out.below hb3 HM2.out.lt) (by omega)
       rw [World.size_alloc] at HSO
       have HSO := Lib.hid HSO
       clear hb3)
    | (go_at_call 48; refine HSO.out.mono ?_
       rintro e w5 ⟨hv, rfl, ho5, hb5⟩
       have hb4 : Below w2.heap.size w2 w5 := (((Below.refl w2.heap.size w2).alloc (Nat.le_refl _) (.cells #[.slice A L.length cp, .map (some m)] 73)).alloc (by simp) (.cells #[.map (some m)] 58)).trans (hb5.mono (by simp; omega))
       have hg5 : Has w5 w2.heap.size 73 #[.slice A L.length cp, .map (some m)] := ((Has.new w2 _ _).alloc _).below hb5 (by simp; omega)
       have gc0 := hg5.cell 0
       have gc1 := hg5.cell 1
       have glt5 := hg5.lt
       simp only [List.getElem?_toArray, List.getElem?_cons_zero, List.getElem?_cons_succ] at gc0 gc1
       have HVI := Lib.hid (visited_any A cp m k L hv (Hr.sources L) w5 (HL2.out.below hb4 (Nat.le_refl _)) (HM2.out.below hb4 HM2.out.lt) (NmsAt.of_own ho5) (sources_fine HFI.out) (by omega))
       have HB5 := Lib.hid (stepN HB2.out hb4)
       clear ho5 hb5 hb4 hg5)
    | (go_at_call 50; refine HVI.out.mono ?_
       rintro e w6 ⟨wb, mc, B, o, M, rfl, hw6, -, hb6⟩
       have z4 := hw6.hw.cell 4
       have wlt := hw6.hw.lt
       simp only [List.getElem?_toArray, List.getElem?_cons_zero, List.getElem?_cons_succ] at z4
       have HB6 := Lib.hid (stepN HB5.out hb6)
       have hrg : (Hr.visited L (Hr.sources L)).ring = false := HNO.out
       have hrg2 : (List.foldl (Hr.visit L (L.length + 1)) ⟨fun _ => none, [], false⟩ (Hr.sources L)).ring = false := hrg
       rw [hrg] at z4
       clear hw6 hb6))
  rw [Exit.noGoto_ret]
  refine bodyPost_ret (v := .tuple #[.slice none 0 0, .bool false]) ?_ rfl ⟨rfl, HB6.out⟩
  simp [results, Try.results17, go_sem]
end Go.Proofs.Ytojfimbanaijdaa
namespace Go.Proofs.Ytojfimbanaijdaa
open Go.RowKit Go.Shelf

theorem check1_any (N : Hr.Nm) (A2 A3 A4 A5 A6 : Option Addr) (n2 c2 n3 c3 n4 c4 n5 c5 n6 c6 : Nat) (mb m k : Nat) (f : Hr.Nm → Option Int) (w : World) (hn : N.length ≤ 140737488355328) (hc : w.cell? ⟨mb, 0, none⟩ = some (.map (some m))) (hm : MI w m k f) :
    Calls Try.prog 44 #[.agg #[nm N, .slice A2 n2 c2, .slice A3 n3 c3, .slice A4 n4 c4, .slice A5 n5 c5, .slice A6 n6 c6], .pointer (some ⟨mb, 0, none⟩)] w fun e w' => e = .returned (.bool (f N).isNone) ∧ w' = w.alloc (.cells #[nm N, .slice A2 n2 c2, .slice A3 n3 c3, .slice A4 n4 c4, .slice A5 n5 c5, .slice A6 n6 c6] 52) := by
  have HM := Lib.hid (hm.alloc (.cells #[nm N, .slice A2 n2 c2, .slice A3 n3 c3, .slice A4 n4 c4, .slice A5 n5 c5, .slice A6 n6 c6] 52))
  have hlt := World.block_lt_of_cell? _ _ hc
  clear hm
  go_enter Try.func44, Try.ntmps44
  go_wp2_with (go_at_call 45; refine (has_any m k _ _ _ hn HM.out).mono ?_; rintro e w' ⟨rfl, rfl⟩)
  go_ret
  exact ⟨by simp, rfl⟩

set_option maxRecDepth 100000 in
set_option maxHeartbeats 1000000 in
theorem indexFunc_any (v : Value) (l : List Hr.Nm) (mb m k : Nat) (f : Hr.Nm → Option Int) (w : World) (h : UpsAt w v l) (hl : l.length ≤ 1000000) (hc : w.cell? ⟨mb, 0, none⟩ = some (.map (some m))) (hm : MI w m k f) :
    Calls Try.prog 80 #[v, .func (.func 44) #[] #[.pointer (some ⟨mb, 0, none⟩)]] w fun e w' => ∃ i : Int, e = .returned (.int .i64 i) ∧ decide (0 ≤ i) = (l.any fun p => (f p).isNone) ∧ Below w.heap.size w w' := by
  have HC := Lib.hid h
  have HM := Lib.hid hm
  obtain ⟨A, c, rfl, -⟩ := h
  have hclt := World.block_lt_of_cell? _ _ hc
  have HCC := Lib.hid hc
  clear hm hc
  go_enter Try.func80, Try.ntmps80
  go_wp2_with fail
  go_loopw [8] (fun i wr => ∃ j : Nat, j ≤ l.length ∧ i = .int .i64 j ∧ Hid (((l.take j).any fun p => (f p).isNone) = false) ∧ Hid (Below w.heap.size w wr)) (fun i _ => l.length - (intOf i).toNat)
  case atStart => exact ⟨0, Nat.zero_le _, rfl, rfl, Below.refl _ _⟩
  case round =>
    obtain ⟨j, hj, rfl, HA, HB⟩ := hrel
    by_cases hlt : j < l.length
    · obtain ⟨A', c', hv, hat1⟩ := HC.out.keep (kept_below HB.out (Nat.le_refl _))
      cases hv
      obtain ⟨b, o, hA, hat⟩ := hat1 (by omega)
      subst hA
      obtain ⟨hn, c0, A2, n2, k2, A3, n3, k3, A4, n4, k4, A5, n5, k5, A6, n6, k6, c1, c2, c3, c4, c5⟩ := hat j hlt
      have hblt := World.block_lt_of_cell? _ _ c0
      have hBs := HB.out.size
      have hst : ((l.take (j + 1)).any fun p => (f p).isNone) = (f l[j]).isNone := by
        rw [List.take_succ_eq_append_getElem hlt, List.any_append, HA.out]
        simp
      have hyes : (f l[j]).isNone = true → (l.any fun p => (f p).isNone) = true := fun h => List.any_eq_true.2 ⟨_, List.getElem_mem hlt, h⟩
      have hw1 : IntKind.i64.wrap ((j : Int) + 1) = (j : Int) + 1 := IntWalk.i64_in _ (by omega)
      have hltI : (j : Int) < l.length := by omega
      have hj0 : (0 : Int) ≤ j := by omega
      have hC := check1_any l[j] A2 A3 A4 A5 A6 n2 k2 n3 k3 n4 k4 n5 k5 n6 k6 mb m k f wr hn (kept_below HB.out (Nat.le_refl _) _ _ HCC.out) (HM.out.below HB.out HM.out.lt)
      have HCK := Lib.hid hC
      have HST := Lib.hid hst
      have HY := Lib.hid hyes
      clear hst hyes hC hat hat1
      generalize hb : (f l[j]).isNone = bn at *
      clear hb
      generalize l[j] = N at *
      cases bn with
      | true =>
        go_wp2_with (go_at_call 44; refine HCK.out.mono ?_; rintro e w' ⟨rfl, rfl⟩)
        go_ret
        exact ⟨_, rfl, by rw [HY.out (by trivial)]; simp, HB.out.alloc hBs _⟩
      | false =>
        have HB2 := Lib.hid (HB.out.alloc hBs (.cells #[nm N, .slice A2 n2 k2, .slice A3 n3 k3, .slice A4 n4 k4, .slice A5 n5 k5, .slice A6 n6 k6] 52))
        go_wp2_with (go_at_call 44; refine HCK.out.mono ?_; rintro e w' ⟨rfl, rfl⟩)
        go_roundw
        case rel => exact ⟨j + 1, by omega, by go_num, HST, HB2⟩
        case measure => simp [intOf]; omega
    · obtain rfl : j = l.length := by omega
      go_wp2_with fail
      go_ret
      have h := HA.out
      rw [List.take_length] at h
      exact ⟨_, rfl, by rw [h]; simp, HB.out⟩

theorem containsFunc_any (v : Value) (l : List Hr.Nm) (mb m k : Nat) (f : Hr.Nm → Option Int) (w : World) (h : UpsAt w v l) (hl : l.length ≤ 1000000) (hc : w.cell? ⟨mb, 0, none⟩ = some (.map (some m))) (hm : MI w m k f) :
    Calls Try.prog 43 #[v, .func (.func 44) #[] #[.pointer (some ⟨mb, 0, none⟩)]] w fun e w' => e = .returned (.bool (l.any fun p => (f p).isNone)) ∧ Below w.heap.size w w' := by
  have HI := Lib.hid (indexFunc_any v l mb m k f w h hl hc hm)
  clear h hm
  go_enter Try.func43, Try.ntmps43
  go_wp2_with (first
    | (go_at_call 80; refine HI.out.mono ?_
       rintro e w4 ⟨i, rfl, hi, hb4⟩
       have HB := Lib.hid hb4
       have HD := Lib.hid hi
       clear hb4 hi))
  go_ret
  exact ⟨by rw [← HD.out]; rfl, HB.out⟩
end Go.Proofs.Ytojfimbanaijdaa
