/-
  What the law HeirProofs returns: true.
-/
import Derived.Test.YtojfimbanaijdaaHLawIO
import Derived.Test.YtojfimbanaijdaaHCheckR
namespace Go.Proofs.Ytojfimbanaijdaa
open Go.RowKit Go.Shelf
attribute [local go_sem] Oper.semAt_some

theorem Hr.isRing_fine {L : List (Hr.Nm × Hr.Nm)} (hL : Fine L) {ns : List Hr.Nm} (h : Hr.isRing L ns) : FineN ns := fun s hs => by
  obtain ⟨-, -, hc⟩ := h
  obtain ⟨j, hj, rfl⟩ := List.getElem_of_mem hs
  have h1 := hc j (by simp; omega)
  rw [List.getElem_append_left hj] at h1
  exact (hL _ h1).1
theorem Hr.isWay_reach {L : List (Hr.Nm × Hr.Nm)} (hL : Hr.Side L) {c a : Hr.Nm} {ns : List Hr.Nm} (h : Hr.isWay L c a ns) : Hr.Reach L c a := (h.dist hL).reach

set_option maxRecDepth 100000 in
set_option maxHeartbeats 4000000 in
theorem HeirProofs_out (v : Value) (a b : Nat) (S : List Hr.Cls) (A2 : Option Addr) (cp2 : Nat) (ns : List Hr.Nm) (w : World) (h : SysAt w v S) (hout : S.length = 0 ∨ 24 < S.length ∨ 40 < ns.length) :
    Calls Try.prog 4 #[v, .int .u8 a, .int .u8 b, .slice A2 ns.length cp2] w fun e w' => e = .returned (.bool true) ∧ Below w.heap.size w w' := by
  have SANE := Lib.hid (sanity_any w)
  obtain ⟨A, cp, rfl, -⟩ := h
  by_cases h0 : S.length = 0
  · have h0I : (S.length : Int) = 0 := by omega
    have h0B : ((S.length : Int) == 0) = true := by simp [h0]
    clear hout
    go_enter Try.func4, Try.ntmps4
    go_wp2_with (go_at_call 11; refine SANE.out.mono ?_; rintro e w1 ⟨rfl, hb1⟩)
    go_ret
    exact ⟨rfl, hb1⟩
  · have h0I : ¬ (S.length : Int) = 0 := by omega
    have h0B : ((S.length : Int) == 0) = false := by simpa using h0
    by_cases h24 : 24 < S.length
    · have h24I : (24 : Int) < S.length := by omega
      clear hout
      go_enter Try.func4, Try.ntmps4
      go_wp2_with (go_at_call 11; refine SANE.out.mono ?_; rintro e w1 ⟨rfl, hb1⟩)
      go_ret
      exact ⟨rfl, hb1⟩
    · have h24I : ¬ (24 : Int) < S.length := by omega
      have h40I : (40 : Int) < ns.length := by omega
      clear hout
      go_enter Try.func4, Try.ntmps4
      go_wp2_with (go_at_call 11; refine SANE.out.mono ?_; rintro e w1 ⟨rfl, hb1⟩)
      go_ret
      exact ⟨rfl, hb1⟩

set_option maxRecDepth 100000 in
set_option maxHeartbeats 8000000 in
theorem HeirProofs_ring (v : Value) (a b : Nat) (S : List Hr.Cls) (A2 : Option Addr) (cp2 : Nat) (ns rg : List Hr.Nm) (w : World) (h : SysAt w v S) (h0 : S.length ≠ 0) (h24 : S.length ≤ 24) (h40 : ns.length ≤ 40) (hL : (Hr.links S).length ≤ 400000) (hn : NmsAt w (.slice A2 ns.length cp2) ns) (hf : FineN ns)
    (hrg : Hr.ring (Hr.links S) = some rg) :
    Calls Try.prog 4 #[v, .int .u8 a, .int .u8 b, .slice A2 ns.length cp2] w fun e w' => e = .returned (.bool true) ∧ Below w.heap.size w w' := by
  have hv : (Hr.visited (Hr.links S) (Hr.sources (Hr.links S))).ring = true := by
    cases hx : (Hr.visited (Hr.links S) (Hr.sources (Hr.links S))).ring with
    | true => rfl
    | false =>
      rw [(Hr.ring_none_iff _).2 hx] at hrg
      cases hrg
  have hk0 := Hr.check_of_ring hrg
  have hk7 : (Hr.check S).1 = 7 → (Hr.check S).2 = rg.headD [] := fun h7 => by
    obtain ⟨rg', h1, h2⟩ := Hr.ring_of_check h7
    rw [hrg] at h1
    cases h1
    exact h2
  have hir := Hr.ring_is hrg
  have hfr := Hr.isRing_fine (links_fine h) hir
  have hsm := Hr.isRing.small hir
  have CK := Lib.hid (Check_any v S w h (by omega))
  have RG := Lib.hid (fun (W : World) (hW : Below w.heap.size w W) => (Ring_some v S W (h.below hW (Nat.le_refl _)) (by omega) hL hv).mono (fun e w' hh => (by
    obtain ⟨rg', o, h1, h2, h3, h4⟩ := hh
    rw [hrg] at h1
    cases h1
    obtain ⟨A5, c5, rfl⟩ := own_len h3
    exact ⟨A5, c5, h2, NmsAt.of_own h3, stepN hW h4⟩ : ∃ A5 c5, e = .returned (.tuple #[.slice A5 rg.length c5, .bool true]) ∧ NmsAt w' (.slice A5 rg.length c5) rg ∧ Below w.heap.size w w')))
  have C1 := Lib.hid (fun (W : World) (A5 : Option Addr) (c5 : Nat) (hW : Below w.heap.size w W) (ho : NmsAt W (.slice A5 rg.length c5) rg) => (CheckRing_any v S A5 c5 rg W (h.below hW (Nat.le_refl _)) h24 hL ho hfr (by omega)).mono (fun e w' hh => (by
    obtain ⟨r, h1, h2, h3⟩ := hh
    rw [h2.2 ⟨by omega, hir⟩] at h1
    exact ⟨h1, h3⟩ : e = .returned (.int .i64 0) ∧ Below W.heap.size W w')))
  have C2 := Lib.hid (fun (W : World) (hW : Below w.heap.size w W) => (CheckRing_any v S A2 cp2 ns W (h.below hW (Nat.le_refl _)) h24 hL (hn.below hW (Nat.le_refl _)) hf (by omega)).mono (fun e w' hh => (by
    obtain ⟨r, h1, h2, h3⟩ := hh
    exact ⟨r, h1, h2, stepN hW h3⟩ : ∃ r : Int, e = .returned (.int .i64 r) ∧ (r = 0 ↔ ns.length ≤ 24 ∧ Hr.isRing (Hr.links S) ns) ∧ Below w.heap.size w w')))
  have SANE := Lib.hid (fun (W : World) (hW : Below w.heap.size w W) => (sanity_any W).mono (fun e w' h => (⟨h.1, stepN hW h.2⟩ : e = .returned (.bool true) ∧ Below w.heap.size w w')))
  have hlen : ns.length ≤ 24 ∧ Hr.isRing (Hr.links S) ns → rg.length ≤ ns.length := fun hh => by
    obtain ⟨rg', h1, h2⟩ := hh.2.found (Hr.links_side S)
    rw [hrg] at h1
    cases h1
    exact h2
  have hpos : 0 < rg.length := List.length_pos_iff.2 hir.1
  have hR0 : rg.headD [] = rg[0] := (Hr.headD_zero rfl hpos).symm
  rw [hR0] at hk7
  have CELL := Lib.hid (fun (W : World) (A5 : Option Addr) (c5 : Nat) (ho : NmsAt W (.slice A5 rg.length c5) rg) => (by
    obtain ⟨A', c', hv', hat⟩ := ho
    cases hv'
    obtain ⟨b5, o5, hA, hc⟩ := hat hpos
    exact ⟨b5, o5, hA, by have := hc 0 hpos; rwa [Nat.add_zero] at this⟩ : ∃ b5 o5, A5 = some ⟨b5, o5, none⟩ ∧ W.cell? ⟨b5, o5, none⟩ = some (nm (rg[0]'hpos))))
  have h0I : ¬ (S.length : Int) = 0 := by omega
  have h0B : ((S.length : Int) == 0) = false := by simpa using h0
  have h24I : ¬ (24 : Int) < S.length := by omega
  have h40I : ¬ (40 : Int) < ns.length := by omega
  have hposI : (0 : Int) < rg.length := by omega
  obtain ⟨A, cp, rfl, -⟩ := h
  clear hv hir hfr hsm hR0 hrg hf hn
  generalize (Hr.check S).1 = k at *
  generalize (Hr.check S).2 = cu at *
  generalize hP : (ns.length ≤ 24 ∧ Hr.isRing (Hr.links S) ns) = P at *
  clear hP hL
  generalize rg[0] = R0 at *
  have hk0B : (k == 0) = false := by simpa using hk0
  have H7 : (k = 7 ∧ cu = R0) ∨ (k ≠ 7 ∧ (k == 7) = false) := by
    by_cases h7 : k = 7
    · exact .inl ⟨h7, hk7 h7⟩
    · exact .inr ⟨h7, by simpa using h7⟩
  have HPP : ((¬ (ns.length : Int) < rg.length) ∧ Hid (∀ r : Int, (r = 0 ↔ P) → r = 0)) ∨ Hid (∀ r : Int, (r = 0 ↔ P) → r ≠ 0 ∧ (r == 0) = false) := by
    by_cases hp : P
    · exact .inl ⟨by have := hlen hp; omega, fun r h => h.2 hp⟩
    · exact .inr (fun r h => ⟨fun h0 => hp (h.1 h0), by simpa using fun h0 => hp (h.1 h0)⟩)
  clear hlen hk7
  rcases HPP with ⟨hlnI, HZ⟩ | HNZ <;> rcases H7 with ⟨rfl, rfl⟩ | ⟨h7, h7B⟩
  all_goals
    go_enter Try.func4, Try.ntmps4
    go_wp2_with (first
      | (go_at_call 16; refine CK.out.mono ?_
         rintro e w1 ⟨rfl, hb1⟩
         have G1 := Lib.hid (RG.out w1 hb1)
         clear hb1 CK RG)
      | (go_at_call 17; refine G1.out.mono ?_
         rintro e w2 ⟨A5, c5, rfl, ho2, hb2⟩
         obtain ⟨b5, o5, hA5, -⟩ := CELL.out w2 A5 c5 ho2
         subst hA5
         have D1 := Lib.hid (C1.out w2 _ c5 hb2 ho2)
         have CE := Lib.hid (fun (W : World) (hW : Below w2.heap.size w2 W) => (by
           obtain ⟨b6, o6, hA6, h6⟩ := CELL.out W _ c5 (ho2.below hW (Nat.le_refl _))
           cases hA6
           exact ⟨h6, World.block_lt_of_cell? _ _ h6⟩ : W.cell? ⟨b5, o5, none⟩ = some (nm _) ∧ b5 < W.heap.size))
         have HB2 := Lib.hid hb2
         clear ho2 hb2 C1 G1 CELL)
      | (go_at_call 18; refine D1.out.mono ?_
         rintro e w3 ⟨rfl, hb3⟩
         obtain ⟨c6, hlt6⟩ := CE.out w3 hb3
         have D2 := Lib.hid (C2.out w3 (stepN HB2.out hb3))
         clear hb3 C2 D1 CE)
      | (go_at_call 18; refine D2.out.mono ?_
         rintro e w4 ⟨r, rfl, hr4, hb4⟩
         first
           | (have hr0 := HZ.out r hr4; subst hr0; clear HZ)
           | (obtain ⟨hr0, hr1⟩ := HNZ.out r hr4; clear HNZ)
         have HS1 := Lib.hid (SANE.out w4 hb4)
         clear hr4 hb4 D2 SANE)
      | (go_at_call 11; refine HS1.out.mono ?_
         rintro e w5 ⟨rfl, hb5⟩))
  all_goals
    go_ret
    exact ⟨rfl, hb5⟩

set_option maxRecDepth 100000 in
set_option maxHeartbeats 8000000 in
theorem HeirProofs_none (v : Value) (a b : Nat) (S : List Hr.Cls) (A2 : Option Addr) (cp2 : Nat) (ns : List Hr.Nm) (w : World) (h : SysAt w v S) (h0 : S.length ≠ 0) (h24 : S.length ≤ 24) (h40 : ns.length ≤ 40) (hL : (Hr.links S).length ≤ 400000) (ha : a ≤ 255) (hb : b ≤ 255) (hn : NmsAt w (.slice A2 ns.length cp2) ns) (hcp : ns.length ≤ cp2) (hf : FineN ns)
    (hrg : Hr.ring (Hr.links S) = none) :
    Calls Try.prog 4 #[v, .int .u8 a, .int .u8 b, .slice A2 ns.length cp2] w fun e w' => e = .returned (.bool true) ∧ Below w.heap.size w w' := by
  have hne : S ≠ [] := fun h => h0 (by rw [h]; rfl)
  have hv := (Hr.ring_none_iff _).1 hrg
  have hk7 : (Hr.check S).1 ≠ 7 := fun h7 => by
    obtain ⟨rg', h1, h2⟩ := Hr.ring_of_check h7
    rw [hrg] at h1
    cases h1
  have CK := Lib.hid (Check_any v S w h (by omega))
  have RG := Lib.hid (fun (W : World) (hW : Below w.heap.size w W) => (Ring_none v S W (h.below hW (Nat.le_refl _)) (by omega) hL hv).mono (fun e w' hh => (⟨hh.1, stepN hW hh.2⟩ : e = .returned (.tuple #[.slice none 0 0, .bool false]) ∧ Below w.heap.size w w')))
  have C2 := Lib.hid (fun (W : World) (hW : Below w.heap.size w W) => (CheckRing_any v S A2 cp2 ns W (h.below hW (Nat.le_refl _)) h24 hL (hn.below hW (Nat.le_refl _)) hf (by omega)).mono (fun e w' hh => (by
    obtain ⟨r, h1, h2, h3⟩ := hh
    have hr : r ≠ 0 := fun hr => by
      obtain ⟨rg', h4, -⟩ := (h2.1 hr).2.found (Hr.links_side S)
      rw [hrg] at h4
      cases h4
    exact ⟨r, h1, hr, by simpa using hr, stepN hW h3⟩ : ∃ r : Int, e = .returned (.int .i64 r) ∧ r ≠ 0 ∧ (r == 0) = false ∧ Below w.heap.size w w')))
  have SANE := Lib.hid (fun (W : World) (hW : Below w.heap.size w W) => (sanity_any W).mono (fun e w' h => (⟨h.1, stepN hW h.2⟩ : e = .returned (.bool true) ∧ Below w.heap.size w w')))
  have h0I : ¬ (S.length : Int) = 0 := by omega
  have h0B : ((S.length : Int) == 0) = false := by simpa using h0
  have h24I : ¬ (24 : Int) < S.length := by omega
  have h40I : ¬ (40 : Int) < ns.length := by omega
  have h7B : ((Hr.check S).1 == 7) = false := by simpa using hk7
  by_cases hk : (Hr.check S).1 = 0
  case neg =>
    have hkB : ((Hr.check S).1 == 0) = false := by simpa using hk
    obtain ⟨A, cp, rfl, -⟩ := h
    clear hv hrg hf hn
    generalize (Hr.check S).1 = k at *
    generalize (Hr.check S).2 = cu at *
    clear hL
    go_enter Try.func4, Try.ntmps4
    go_wp2_with (first
      | (go_at_call 16; refine CK.out.mono ?_
         rintro e w1 ⟨rfl, hb1⟩
         have G1 := Lib.hid (RG.out w1 hb1)
         clear hb1 CK RG)
      | (go_at_call 17; refine G1.out.mono ?_
         rintro e w2 ⟨rfl, hb2⟩
         have D2 := Lib.hid (C2.out w2 hb2)
         clear hb2 C2 G1)
      | (go_at_call 18; refine D2.out.mono ?_
         rintro e w4 ⟨r, rfl, hr0, hr1, hb4⟩
         have HS1 := Lib.hid (SANE.out w4 hb4)
         clear hb4 D2 SANE)
      | (go_at_call 11; refine HS1.out.mono ?_
         rintro e w5 ⟨rfl, hb5⟩))
    go_ret
    exact ⟨rfl, hb5⟩
  case pos =>
    have hV := (Hr.check_zero S).1 hk
    have NM := Lib.hid (fun (W : World) (hW : Below w.heap.size w W) (n : Nat) (hn : n ≤ 255) => (name_any _ n S W (h.below hW (Nat.le_refl _)) hne (by omega) hn).mono (fun e w' h => (by
      obtain ⟨s, h1, h2, h3, h4⟩ := h
      exact ⟨s, h1, ⟨h2, h3⟩, stepN hW h4⟩ : ∃ s, e = .returned (nm s) ∧ Hr.InS S s ∧ Below w.heap.size w w')))
    have IS := Lib.hid (fun (W : World) (hW : Below w.heap.size w W) (x y : Hr.Nm) (hx : Hr.InS S x) (hy : Hr.InS S y) => (is_law _ S x y W (h.below hW (Nat.le_refl _)) hV hx.2 hy.2 hx.1 hy.1))
    have WY := Lib.hid (fun (W : World) (hW : Below w.heap.size w W) (x y : Hr.Nm) (hx : Hr.InS S x) (hy : Hr.InS S y) => (Way_ok _ S x y W (h.below hW (Nat.le_refl _)) hV hx.2 hy.2 (Hr.has_first hx.1) (Hr.has_first hy.1)).mono (fun e w' hh => (by
      obtain ⟨o, h1, h2, h3⟩ := hh
      obtain ⟨A5, c5, rfl⟩ := own_len h2
      have hc5 : ((Hr.way (Hr.links S) x y).getD []).length ≤ c5 := by
        rcases h2.2 with ⟨hv, hz⟩ | ⟨g', cap', cur, hv, hbase, hgb, r1, _⟩
        · omega
        · cases hv
          exact r1
      exact ⟨A5, c5, h1, hc5, NmsAt.of_own h2, h3⟩ : ∃ A5 c5, e = .returned (.tuple #[.slice A5 ((Hr.way (Hr.links S) x y).getD []).length c5, .int .i64 (Hr.wayErr (Hr.links S) x y)]) ∧ ((Hr.way (Hr.links S) x y).getD []).length ≤ c5 ∧ NmsAt w' (.slice A5 ((Hr.way (Hr.links S) x y).getD []).length c5) ((Hr.way (Hr.links S) x y).getD []) ∧ Below W.heap.size W w')))
    have CW := Lib.hid (fun (W : World) (hW : Below w.heap.size w W) (x y : Hr.Nm) (hx : Hr.InS S x) (hy : Hr.InS S y) (A5 : Option Addr) (c5 : Nat) (l : List Hr.Nm) (hl : NmsAt W (.slice A5 l.length c5) l) (hll : l.length ≤ 1000000) (hc5 : l.length ≤ c5) => (CheckWay_ok _ S x y A5 c5 l W (h.below hW (Nat.le_refl _)) hV hx.2 hy.2 (Hr.has_first hx.1) (Hr.has_first hy.1) hl hll hc5).mono (fun e w' hh => (by
      obtain ⟨r, h1, h2, h3⟩ := hh
      exact ⟨r, h1, h2, stepN hW h3⟩ : ∃ r : Int, e = .returned (.int .i64 r) ∧ (r = 0 ↔ Hr.isWay (Hr.links S) x y l) ∧ Below w.heap.size w w')))
    have NSAT := Lib.hid hn
    have SIDE := Lib.hid (Hr.links_side S)
    have ROOM : Hid (∀ x y wy, Hr.way (Hr.links S) x y = some wy → wy.length ≤ 1000000) := fun x y wy hw => by
      have h1 := (Hr.way_best hw).1
      have h2 : wy.Nodup := by
        unfold Hr.way at hw
        obtain ⟨z, hz, rfl⟩ := Option.map_eq_some_iff.1 hw
        have hm := List.mem_of_find?_eq_some hz
        unfold Hr.wayOf
        rw [(List.reverse_perm _).nodup_iff]
        exact (Hr.steps_back _ _ z hm).nodup ((Hr.steps_best _ _).1 z hm)
      obtain ⟨hp, -, hlast, hc⟩ := h1
      have h3 : ∀ s ∈ wy, s ∈ y :: S.map (·.name) := fun s hs => by
        obtain ⟨j, hj, rfl⟩ := List.getElem_of_mem hs
        by_cases hj2 : j + 1 < wy.length
        · obtain ⟨z, hz, e, -⟩ := Hr.links_mem S (hc j hj2)
          exact List.mem_cons_of_mem _ (List.mem_map.2 ⟨z, hz, e⟩)
        · have : j = wy.length - 1 := by omega
          subst this
          rw [hlast]
          simp
      have h4 := Hr.nodup_le wy _ h2 h3
      simp at h4
      omega
    rw [hk] at CK
    clear hV hk hk7 h7B hv hrg hf hn hne
    obtain ⟨A, cp, rfl, -⟩ := h
    generalize (Hr.check S).2 = cu at *
    go_enter Try.func4, Try.ntmps4
    go_wp2_with (first
      | (go_at_call 16; refine CK.out.mono ?_
         rintro e w1 ⟨rfl, hb1⟩
         have G1 := Lib.hid (RG.out w1 hb1)
         clear hb1 CK RG)
      | (go_at_call 17; refine G1.out.mono ?_
         rintro e w2 ⟨rfl, hb2⟩
         have D2 := Lib.hid (C2.out w2 hb2)
         clear hb2 C2 G1)
      | (go_at_call 18; refine D2.out.mono ?_
         rintro e w4 ⟨r, rfl, hr0, hr1, hb4⟩
         have N1 := Lib.hid (NM.out w4 hb4 a ha)
         clear hb4 D2)
      | (go_at_call 12; refine N1.out.mono ?_
         rintro e w5 ⟨NC, rfl, hnc, hb5⟩
         have HNC := Lib.hid hnc
         have N2 := Lib.hid (NM.out w5 hb5 b hb)
         clear hnc hb5 N1 NM)
      | (go_at_call 12; refine N2.out.mono ?_
         rintro e w6 ⟨NA, rfl, hna, hb6⟩
         have HNA := Lib.hid hna
         have HB6 := Lib.hid hb6
         clear hna hb6 N2))
    have W1 := Lib.hid (WY.out w6 HB6.out NC NA HNC.out HNA.out)
    have I1 := Lib.hid (fun (W : World) (hW : Below w.heap.size w W) => IS.out W hW NC NA HNC.out HNA.out)
    have K1 := Lib.hid (fun (W : World) (hW : Below w.heap.size w W) => CW.out W hW NC NA HNC.out HNA.out)
    have hwerr : Hr.wayErr (Hr.links S) NC NA = match Hr.way (Hr.links S) NC NA with | some _ => 0 | none => 5 := rfl
    have hsome := @Hr.way_some (Hr.links S) NC NA
    rw [← Hr.isUp_iff] at hsome
    clear WY IS CW HNC HNA hL
    cases hw : Hr.way (Hr.links S) NC NA with
    | none =>
      rw [hw] at hwerr hsome
      have hup : Hr.isUp (Hr.links S) NC NA = false := by
        cases hu : Hr.isUp (Hr.links S) NC NA with
        | false => rfl
        | true => have := hsome.2 hu; cases this
      have hnw : ¬ Hr.isWay (Hr.links S) NC NA ns := fun h => by
        have := (Hr.isUp_iff _ _ _).2 (Hr.isWay_reach SIDE.out h)
        rw [hup] at this
        cases this
      have K2 := Lib.hid (fun (W : World) (hW : Below w.heap.size w W) => (K1.out W hW A2 cp2 ns (NSAT.out.below hW (Nat.le_refl _)) (by omega) hcp).mono (fun e w' hh => (by
        obtain ⟨r, h1, h2, h3⟩ := hh
        have hr : r ≠ 0 := fun hr => hnw (h2.1 hr)
        exact ⟨r, h1, hr, by simpa using hr, h3⟩ : ∃ r : Int, e = .returned (.int .i64 r) ∧ r ≠ 0 ∧ (r == 0) = false ∧ Below w.heap.size w w')))
      rw [hw] at W1
      dsimp only at hwerr
      rw [hwerr] at W1
      rw [hup] at I1
      clear hw hwerr hsome hup hnw K1 ROOM SIDE
      go_wp2_with (first
        | (go_at_call 19; refine W1.out.mono ?_
           rintro e w7 ⟨A5, c5, rfl, -, -, hb7⟩
           have I2 := Lib.hid (I1.out w7 (stepN HB6.out hb7))
           have HB7 := Lib.hid (stepN HB6.out hb7)
           clear hb7 W1 I1)
        | (go_at_call 14; refine I2.out.mono ?_
           rintro e w8 ⟨rfl, hb8⟩
           have HS1 := Lib.hid (SANE.out w8 (stepN HB7.out hb8))
           clear hb8 I2)
        | (go_at_call 11; refine HS1.out.mono ?_
           rintro e w9 ⟨rfl, hb9⟩
           have K3 := Lib.hid (K2.out w9 hb9)
           clear hb9 HS1 K2)
        | (go_at_call 20; refine K3.out.mono ?_
           rintro e w10 ⟨r2, rfl, hr2, hr3, hb10⟩))
      go_ret
      exact ⟨rfl, hb10⟩
    | some wy =>
      rw [hw] at hwerr hsome
      have hup : Hr.isUp (Hr.links S) NC NA = true := hsome.1 rfl
      obtain ⟨hiw, hmin⟩ := Hr.way_best hw
      have hroom := ROOM.out NC NA wy hw
      rw [hw] at W1
      dsimp only at hwerr
      rw [hwerr] at W1
      simp only [Option.getD_some] at W1
      rw [hup] at I1
      have K2 := Lib.hid (fun (W : World) (hW : Below w.heap.size w W) (A5 : Option Addr) (c5 : Nat) (ho : NmsAt W (.slice A5 wy.length c5) wy) (hc5 : wy.length ≤ c5) => (K1.out W hW A5 c5 wy ho hroom hc5).mono (fun e w' hh => (by
        obtain ⟨r, h1, h2, h3⟩ := hh
        rw [h2.2 hiw] at h1
        exact ⟨h1, h3⟩ : e = .returned (.int .i64 0) ∧ Below w.heap.size w w')))
      have hsplit : (Hid (∀ (W : World) (_ : Below w.heap.size w W), Calls Try.prog 20 #[.slice A S.length cp, nm NC, nm NA, .slice A2 ns.length cp2] W fun e w' => e = .returned (.int .i64 0) ∧ Below w.heap.size w w') ∧ ((wy.length : Int) ≤ ns.length)) ∨
          (Hid (∀ (W : World) (_ : Below w.heap.size w W), Calls Try.prog 20 #[.slice A S.length cp, nm NC, nm NA, .slice A2 ns.length cp2] W fun e w' => ∃ r : Int, e = .returned (.int .i64 r) ∧ r ≠ 0 ∧ (r == 0) = false ∧ Below w.heap.size w w')) := by
        by_cases hnw : Hr.isWay (Hr.links S) NC NA ns
        · refine .inl ⟨fun W hW => (K1.out W hW A2 cp2 ns (NSAT.out.below hW (Nat.le_refl _)) (by omega) hcp).mono (fun e w' hh => ?_), ?_⟩
          · obtain ⟨r, h1, h2, h3⟩ := hh
            rw [h2.2 hnw] at h1
            exact ⟨h1, h3⟩
          · have h1 := hmin _ (hnw.dist SIDE.out)
            obtain ⟨h2, -⟩ := hnw
            omega
        · refine .inr (fun W hW => (K1.out W hW A2 cp2 ns (NSAT.out.below hW (Nat.le_refl _)) (by omega) hcp).mono (fun e w' hh => ?_))
          obtain ⟨r, h1, h2, h3⟩ := hh
          have hr : r ≠ 0 := fun hr => hnw (h2.1 hr)
          exact ⟨r, h1, hr, by simpa using hr, h3⟩
      clear hw hwerr hsome hup K1 ROOM SIDE hiw hmin hroom NSAT
      rcases hsplit with ⟨K4, hlnI⟩ | K5
      all_goals
        go_wp2_with (first
          | (go_at_call 19; refine W1.out.mono ?_
             rintro e w7 ⟨A5, c5, rfl, hc5, ho5, hb7⟩
             have I2 := Lib.hid (I1.out w7 (stepN HB6.out hb7))
             have KW := Lib.hid (fun (W : World) (hW : Below w7.heap.size w7 W) => K2.out W (stepN (stepN HB6.out hb7) hW) A5 c5 (ho5.below hW (Nat.le_refl _)) hc5)
             have HB7 := Lib.hid (stepN HB6.out hb7)
             clear hb7 hc5 ho5 W1 K2)
          | (go_at_call 14; refine I2.out.mono ?_
             rintro e w8 ⟨rfl, hb8⟩
             have K3 := Lib.hid (KW.out w8 hb8)
             clear hb8 KW I2)
          | (go_at_call 20; refine K3.out.mono ?_
             rintro e w9 ⟨rfl, hb9⟩
             have HS1 := Lib.hid (SANE.out w9 hb9)
             clear hb9 K3 SANE)
          | (go_at_call 11; refine HS1.out.mono ?_
             rintro e w10 ⟨rfl, hb10⟩
             first
               | (have K6 := Lib.hid (K4.out w10 hb10); clear K4)
               | (have K7 := Lib.hid (K5.out w10 hb10); clear K5)
             clear hb10 HS1)
          | (go_at_call 20; refine K6.out.mono ?_
             rintro e w11 ⟨rfl, hb11⟩
             have I4 := Lib.hid (I1.out w11 hb11)
             have HB11 := Lib.hid hb11
             clear hb11 K6)
          | (go_at_call 20; refine K7.out.mono ?_
             rintro e w11 ⟨r2, rfl, hr2, hr3, hb11⟩)
          | (go_at_call 14; refine I4.out.mono ?_
             rintro e w12 ⟨rfl, hb12⟩
             have hb11 := stepN HB11.out hb12))
        go_ret
        exact ⟨rfl, hb11⟩

theorem HeirProofs_any (v : Value) (a b : Nat) (S : List Hr.Cls) (A2 : Option Addr) (cp2 : Nat) (ns : List Hr.Nm) (w : World) (h : SysAt w v S) (hL : (Hr.links S).length ≤ 400000) (ha : a ≤ 255) (hb : b ≤ 255) (hn : NmsAt w (.slice A2 ns.length cp2) ns) (hcp : ns.length ≤ cp2) (hf : FineN ns) :
    Calls Try.prog 4 #[v, .int .u8 a, .int .u8 b, .slice A2 ns.length cp2] w fun e w' => e = .returned (.bool true) ∧ Below w.heap.size w w' := by
  by_cases hout : S.length = 0 ∨ 24 < S.length ∨ 40 < ns.length
  · exact HeirProofs_out v a b S A2 cp2 ns w h hout
  · cases hrg : Hr.ring (Hr.links S) with
    | none => exact HeirProofs_none v a b S A2 cp2 ns w h (by omega) (by omega) (by omega) hL ha hb hn hcp hf hrg
    | some rg => exact HeirProofs_ring v a b S A2 cp2 ns rg w h (by omega) (by omega) (by omega) hL hn hf hrg
end Go.Proofs.Ytojfimbanaijdaa
