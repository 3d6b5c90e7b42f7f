/-
  What slices.Clone at a list of names, and CheckRing return, in package heir.
-/
import Derived.Test.YtojfimbanaijdaaHBest
import Derived.Test.YtojfimbanaijdaaHSane
import Derived.Deep.AppendLies
import Derived.Deep.RegionHeld3
namespace Go.Proofs.Ytojfimbanaijdaa
open Go.RowKit Go.Shelf
attribute [local go_sem] Oper.semAt_some

theorem clone_any (b o n c : Nat) (l : List Hr.Nm) (w : World) (hl : n = l.length) (hb : l.length ≤ 1000000) (hc : ∀ i (h : i < l.length), w.cell? ⟨b, o + i, none⟩ = some (nm l[i])) :
    Calls Try.prog 55 #[.slice (some ⟨b, o, none⟩) n c] w fun e w' => ∃ v', e = .returned v' ∧ w'.ownsRow w.heap.size 9 1 v' l.length (nmRow l) ∧ Below w.heap.size w w' := by
  subst hl
  refine (Try.slices_Clone_string b o l.length c (l.map fun s => ⟨s.toArray⟩) w (by simp) (by omega) (fun j hj => ?_)).mono ?_
  · simp only [List.length_map] at hj
    rw [hc j hj]
    simp [List.getD, hj]
  · rintro e w' ⟨v', rfl, ho, -, hb⟩
    refine ⟨v', rfl, ?_, hb⟩
    have e : ((l.map fun s => (⟨s.toArray⟩ : ByteArray)).take l.length).map Value.string = nmRow l := by
      rw [List.take_of_length_le (by simp), List.map_map]
      rfl
    rwa [e] at ho

theorem round_fin {w1 W0 W wy : World} {vx : Value} {ns : List Hr.Nm} {N0 : Hr.Nm} {gg cap : Nat} (h1 : W.ownsRow W0.heap.size 9 1 vx ns.length (nmRow ns)) (hW : Below w1.heap.size w1 W) (h0 : w1.heap.size ≤ W0.heap.size)
    (hown : wy.ownsRow W0.heap.size 9 1 (.slice (some ⟨gg, 0, none⟩) (ns.length + 1) cap) (ns.length + 1) (nmRow ns ++ [nm N0])) (hg : W.grownBy wy vx.ownBlock) :
    NmsAt wy (.slice (some ⟨gg, 0, none⟩) (ns.length + 1) cap) (ns ++ [N0]) ∧ Below w1.heap.size w1 wy ∧ ns.length + 1 ≤ cap := by
  refine ⟨?_, hW.grown hg hW.size (fun r hr => Nat.le_trans h0 (own_ge h1 hr)), ?_⟩
  · have e : (ns ++ [N0]).length = ns.length + 1 := by simp
    refine NmsAt.of_own (B := W0.heap.size) ?_
    rw [e]
    simpa [nmRow] using hown
  · rcases hown.2 with ⟨hv, _⟩ | ⟨g', cap', cur, hv, hbase, hgb, r1, _⟩
    · cases hv
    · cases hv
      exact r1

set_option maxRecDepth 100000 in
set_option maxHeartbeats 4000000 in
theorem CheckRing_any (v : Value) (S : List Hr.Cls) (A2 : Option Addr) (c2 : Nat) (ns : List Hr.Nm) (w : World) (h : SysAt w v S) (hS : S.length ≤ 24) (hL : (Hr.links S).length ≤ 400000) (hn : NmsAt w (.slice A2 ns.length c2) ns) (hf : FineN ns) (hns : ns.length ≤ 1000000) :
    Calls Try.prog 18 #[v, .slice A2 ns.length c2] w fun e w' => ∃ r : Int, e = .returned (.int .i64 r) ∧ (r = 0 ↔ ns.length ≤ 24 ∧ Hr.isRing (Hr.links S) ns) ∧ Below w.heap.size w w' := by
  have LK := Lib.hid (fun (W : World) (hW : Below w.heap.size w W) => linksOf_any v S W (h.below hW (Nat.le_refl _)) (by omega) (by omega))
  have REP := Lib.hid (repeats_any _ ns w hn hns hf)
  have HFI := Lib.hid (links_fine h)
  obtain ⟨A, cp, rfl, -⟩ := h
  have hS1 : ¬ (24 : Int) < S.length := by omega
  generalize Hr.links S = L at *
  obtain ⟨P, hP⟩ : ∃ P : Prop, P = (ns.length ≤ 24 ∧ Hr.isRing L ns) := ⟨_, rfl⟩
  rw [← hP]
  have HP := Lib.hid hP
  clear hP
  by_cases h24 : ns.length ≤ 24
  case neg =>
    have hgt : (24 : Int) < ns.length := by omega
    have HNP : Hid ¬P := fun h => h24 (HP.out ▸ h).1
    go_enter Try.func18, Try.ntmps18
    go_wp2_with fail
    go_ret
    exact ⟨3, rfl, ⟨fun h => by omega, fun h => absurd h HNP.out⟩, Below.refl _ _⟩
  have hle : ¬ (24 : Int) < ns.length := by omega
  by_cases h0 : ns.length = 0
  case pos =>
    have hl0 : ((ns.length : Int) == 0) = true := by simp [h0]
    have h0I : (ns.length : Int) = 0 := by omega
    have hnil : ns = [] := List.length_eq_zero_iff.1 h0
    have HNP : Hid ¬P := fun h => (HP.out ▸ h).2.1 hnil
    clear hnil
    go_enter Try.func18, Try.ntmps18
    go_wp2_with fail
    go_ret
    exact ⟨11, rfl, ⟨fun h => by omega, fun h => absurd h HNP.out⟩, Below.refl _ _⟩
  have hl0 : ((ns.length : Int) == 0) = false := by simpa using h0
  have h0I : ¬ (ns.length : Int) = 0 := by omega
  have hpI : (0 : Int) < ns.length := by omega
  cases hrp : Hr.repeats ns
  case true =>
    rw [hrp] at REP
    have hnd : ¬ ns.Nodup := by
      unfold Hr.repeats at hrp
      simpa using hrp
    have HNP : Hid ¬P := fun h => hnd (HP.out ▸ h).2.2.1
    clear hnd hrp
    go_enter Try.func18, Try.ntmps18
    go_wp2_with (go_at_call 54; refine REP.out.mono ?_; rintro e w1 ⟨rfl, hb1⟩)
    go_ret
    exact ⟨11, rfl, ⟨fun h => by omega, fun h => absurd h HNP.out⟩, hb1⟩
  rw [hrp] at REP
  have hnd : ns.Nodup := by
    unfold Hr.repeats at hrp
    simpa using hrp
  obtain ⟨A', c', hv', hat⟩ := hn
  cases hv'
  obtain ⟨b, o, hA, hcell⟩ := hat (by omega)
  subst hA
  obtain ⟨N0, hN0⟩ : ∃ N0, N0 = ns[0]'(by omega) := ⟨_, rfl⟩
  have hhd : ns.headD [] = N0 := by
    rw [hN0]
    cases ns with
    | nil => simp at h0
    | cons a q => rfl
  have hR : Hid (Hr.chain L (ns ++ [N0]) ↔ P) := by
    show _ ↔ _
    rw [HP.out]
    unfold Hr.isRing
    rw [hhd]
    exact ⟨fun h => ⟨h24, fun h9 => by rw [h9] at h0; exact h0 rfl, hnd, h⟩, fun h => h.2.2.2⟩
  have HCELL := Lib.hid (fun (W : World) (hW : Below w.heap.size w W) => (⟨by have := kept_below hW (Nat.le_refl _) _ _ (hcell 0 (by omega)); rw [hN0]; simpa using this, fun i hi => kept_below hW (Nat.le_refl _) _ _ (hcell i hi), hW⟩ : W.cell? ⟨b, o, none⟩ = some (nm N0) ∧ (∀ i (hi : i < ns.length), W.cell? ⟨b, o + i, none⟩ = some (nm ns[i])) ∧ Below w.heap.size w W))
  have CL := Lib.hid (fun (W : World) (hW : Below w.heap.size w W) => clone_any b o ns.length c2 ns W rfl hns (HCELL.out W hW).2.1)
  have hblt := World.block_lt_of_cell? _ _ (hcell 0 (by omega))
  obtain ⟨i0, hi, hz0, hz1, hz2⟩ := info_parts strInfo
  have hNL : Hid (ns.length ≤ 24) := h24
  have HFN := Lib.hid hf
  clear hcell hat hhd hN0 hnd hrp hf
  go_enter Try.func18, Try.ntmps18
  go_wp2_with (go_at_call 54; refine REP.out.mono ?_; rintro e w1 ⟨rfl, hb1⟩
               have HB1 := Lib.hid hb1
               clear hb1 REP)
  have GIVE := Lib.hid (fun (W : World) (hW : Below w1.heap.size w1 W) => (⟨(HCELL.out W (stepN HB1.out hW)).1, hW⟩ : W.cell? ⟨b, o, none⟩ = some (nm N0) ∧ Below w1.heap.size w1 W))
  have CL1 := Lib.hid (fun (W : World) (hW : Below w1.heap.size w1 W) => (CL.out W (stepN HB1.out hW)).mono (fun e w' hh => (by
    obtain ⟨v', h1, h2, h3⟩ := hh
    exact ⟨v', h1, ⟨h2, h3⟩, stepN hW h3⟩ : ∃ v', e = .returned v' ∧ Hid (w'.ownsRow W.heap.size 9 1 v' ns.length (nmRow ns) ∧ Below W.heap.size W w') ∧ Below w1.heap.size w1 w')))
  have hpN : 0 < ns.length := by omega
  have hneN : ns ≠ [] := fun h => by rw [h] at h0; exact h0 rfl
  have NEWS := Lib.hid (fun (X : World) (j : Nat) (u : Value) (hj : [nm N0][j]? = some u) => (World.news_of_block (w := X.alloc (.cells #[nm N0] 9)) (B := X.heap.size) (cs := #[nm N0]) (t := 9) (fr := (0, 0)) (Has.new X _ _) j u hj : (X.alloc (.cells #[nm N0] 9)).cell? ((⟨X.heap.size, 0, none⟩ : Addr).add j) = some u))
  have MX : Hid (ns.length + 1 ≤ maxLen) := by show _ ≤ _; unfold maxLen; omega
  have MY : Hid ((ns.length + 1) * 16 ≤ 140737488355328) := by show _ ≤ _; omega
  clear CL HCELL
  go_cut [5] from 28 (fun v wx => ∃ gg cap, v = .slice (some ⟨gg, 0, none⟩) (ns.length + 1) cap ∧ ns.length + 1 ≤ cap ∧ NmsAt wx (.slice (some ⟨gg, 0, none⟩) (ns.length + 1) cap) (ns ++ [N0]) ∧ Below w.heap.size w wx)
  case first =>
    go_region_held3 (fun W => W.cell? ⟨b, o, none⟩ = some (nm N0) ∧ Below w1.heap.size w1 W)
      (with_reducible (refine GIVE.out _ ?_; first | exact FIN.out.2.1 | exact hbx | exact (Below.refl _ _).drew | exact ((Below.refl _ _).drew).alloc (Nat.le_refl _) _ | exact ((Below.refl _ _).alloc (Nat.le_refl _) _).drew | exact hbx.alloc hbx.size _))
      (first
        | (go_at_call 55; refine (CL1.out _ (by with_reducible first | exact (Below.refl _ _).drew | exact ((Below.refl _ _).drew).alloc (Nat.le_refl _) _ | exact ((Below.refl _ _).alloc (Nat.le_refl _) _).drew)).mono ?_; rintro e wx ⟨vx, rfl, hox, hbx⟩)
        | (refine step_append_lies _ (by rfl) _ _ 26 (by rfl) _ 9 i0 (.string ⟨#[]⟩) 1 16 Try.underlying26 hi hz0 hz1 hz2 (by rfl) (by decide) _ _ _ (by rfl) (own_alloc hox.out.1 _) ⟨wx.heap.size, 0, none⟩ 1 1 [nm N0] (by rfl) (by rfl) (NEWS.out wx) (by simp [Value.oneCell']) (by decide) MX.out MY.out (by simp; have := hbx.size; omega) _ rfl ?_; intro gg cap wy hown hg hat hlt; have FIN := Lib.hid (round_fin (own_alloc hox.out.1 _) (hbx.alloc hbx.size _) (by simp) hown hg))
        | (refine step_append_lies _ (by rfl) _ _ 26 (by rfl) _ 9 i0 (.string ⟨#[]⟩) 1 16 Try.underlying26 hi hz0 hz1 hz2 (by rfl) (by decide) _ _ _ (by rfl) hox.out.1 ⟨w1.heap.size, 0, none⟩ 1 1 [nm N0] (by rfl) (by rfl) (fun j u hj => kept_below hox.out.2 (Nat.le_refl _) _ _ (NEWS.out w1.drew j u hj)) (by simp [Value.oneCell']) (by decide) MX.out MY.out hox.out.2.size _ rfl ?_; intro gg cap wy hown hg hat hlt; have FIN := Lib.hid (round_fin hox.out.1 hbx (by simp) hown hg)))
    all_goals
      go_wp2_with fail
      go_meet
      exact ⟨gg, cap, rfl, FIN.out.2.2, FIN.out.1, stepN HB1.out FIN.out.2.1⟩
  case rest =>
    obtain ⟨gg, cap, rfl, hcap, hat2, hbc⟩ := hcut
    have HBC := Lib.hid hbc
    have HAT := Lib.hid hat2
    have LKC := Lib.hid (LK.out wc hbc)
    have hlen2 : (ns ++ [N0]).length = ns.length + 1 := by simp
    clear hbc hat2 LK GIVE CL1 NEWS MX MY
    go_wp2_with (first
      | (go_at_call 47; refine LKC.out.mono ?_
         rintro e w2 ⟨x2, rfl, ho2, hb2⟩
         have HG := Lib.hid (graphOf_any x2 L w2 (LinksAt.of_own HFI.out ho2) (by omega))
         have HB2 := Lib.hid (stepN HBC.out hb2)
         have HAT2 := Lib.hid (HAT.out.below hb2 (Nat.le_refl _))
         clear ho2 hb2 LKC HAT)
      | (go_at_call 46; refine HG.out.mono ?_
         rintro e w3 ⟨x3, rfl, ⟨A5, cp5, m5, k5, rfl, hl5, -, -⟩, hb3⟩
         have hch := chained_any A5 cp5 (some m5) L (some ⟨gg, 0, none⟩) cap (ns ++ [N0]) w3 hl5 (by omega) (by rw [hlen2]; exact HAT2.out.below hb3 (Nat.le_refl _)) (by omega) (by omega) (by omega)
         rw [hlen2] at hch
         have CH := Lib.hid hch
         have HB3 := Lib.hid (stepN HB2.out hb3)
         clear hl5 hb3 hch HG HAT2)
      | (go_at_call 56; refine CH.out.mono ?_
         rintro e w4 ⟨bb, rfl, hiff, hb4⟩
         have HIFF := Lib.hid hiff
         have HB4 := Lib.hid (stepN HB3.out hb4)
         clear hiff hb4 CH))
    all_goals
      go_ret
      refine ⟨_, rfl, ?_, HB4.out⟩
      have hP := HIFF.out.trans hR.out
      cases bb
      · first
          | contradiction
          | (exfalso; rename_i hz; simp at hz; done)
          | exact ⟨fun h => absurd h (by decide), fun h => (by have h9 := hP.2 h; cases h9)⟩
      · first
          | contradiction
          | (exfalso; rename_i hz; simp at hz; done)
          | exact ⟨fun _ => hP.1 rfl, fun _ => rfl⟩
end Go.Proofs.Ytojfimbanaijdaa
