/-
  What the law HeirStands returns: true.
-/
import Derived.Test.YtojfimbanaijdaaHLawIO
import Derived.Test.YtojfimbanaijdaaHStandP
import Derived.Deep.RegionHeld3
namespace Go.Proofs.Ytojfimbanaijdaa
open Go.RowKit Go.Shelf
attribute [local go_sem] Oper.semAt_some

theorem lv_get {w : World} {G : Nat} : ∀ {vs : List Value} {V : List (List Hr.Nm)}, LvAt w G vs V → ∀ i (hi : i < V.length), ∃ h : i < vs.length, w.ownsRow G 9 1 vs[i] V[i].length (nmRow V[i])
  | [], [], _, i, hi => by simp at hi
  | v :: vs, l :: V, h, 0, _ => ⟨by simp, h.1⟩
  | v :: vs, l :: V, h, i + 1, hi => by
    obtain ⟨h1, h2⟩ := lv_get h.2 i (by simpa using hi)
    exact ⟨by simpa using h1, by simpa using h2⟩
  | [], _ :: _, h, _, _ => h.elim
  | _ :: _, [], h, _, _ => h.elim
/-- The cells of rows of names. -/
theorem lv_cells {w : World} {G B : Nat} {o : Value} {vs : List Value} {V : List (List Hr.Nm)} (ho : w.ownsRow B 26 1 o vs.length vs) (h : LvAt w G vs V) :
    ∃ A c, o = .slice A V.length c ∧ ∀ i (hi : i < V.length), ∃ b' o', A = some ⟨b', o', none⟩ ∧ ∃ A3 c3, w.cell? ⟨b', o' + i, none⟩ = some (.slice A3 V[i].length c3) ∧ NmsAt w (.slice A3 V[i].length c3) V[i] := by
  have hl := h.length
  rcases ho.2 with ⟨rfl, h0⟩ | ⟨g, cap, cur, rfl, hb, hh, hr⟩
  · refine ⟨none, 0, by rw [← hl, h0], fun i hi => by omega⟩
  · have hc := ho.cells (g := g) rfl
    refine ⟨some ⟨g, 0, none⟩, cap, by rw [hl], fun i hi => ⟨g, 0, rfl, ?_⟩⟩
    obtain ⟨h1, h2⟩ := lv_get h i hi
    obtain ⟨A3, c3, he⟩ := own_len h2
    have h3 := hc i vs[i] (List.getElem?_eq_getElem h1)
    rw [show ((⟨g, 0, none⟩ : Addr).add i) = ⟨g, 0 + i, none⟩ from by unfold Addr.add; split <;> simp_all, he] at h3
    rw [he] at h2
    exact ⟨A3, c3, h3, NmsAt.of_own h2⟩

set_option maxRecDepth 100000 in
set_option maxHeartbeats 8000000 in
theorem HeirStands_any (v : Value) (a b : Nat) (S : List Hr.Cls) (w : World) (h : SysAt w v S) (hS : S.length ≤ 1000000) (ha : a ≤ 255) (hb : b ≤ 255) :
    Calls Try.prog 6 #[v, .int .u8 a, .int .u8 b] w fun e w' => e = .returned (.bool true) ∧ Below w.heap.size w w' := by
  have HR := Lib.hid (right_any v S w h hS)
  have HSY := Lib.hid (fun (W : World) (hW : Below w.heap.size w W) => h.below hW (Nat.le_refl _))
  have SANE := Lib.hid (fun (W : World) (hW : Below w.heap.size w W) => (sanity_any W).mono (fun e w' h => (⟨h.1, stepN hW h.2⟩ : e = .returned (.bool true) ∧ Below w.heap.size w w')))
  obtain ⟨A, cp, rfl, hat⟩ := h
  by_cases hr : (Hr.check S).1 = 0 ∧ S ≠ []
  case neg =>
    have hrd : decide ((Hr.check S).1 = 0 ∧ S ≠ []) = false := by simpa using hr
    rw [hrd] at HR
    clear hr hrd hat
    go_enter Try.func6, Try.ntmps6
    go_wp2_with (first
      | (go_at_call 10; refine HR.out.mono ?_
         rintro e w1 ⟨rfl, hb1⟩
         have HS1 := Lib.hid (SANE.out w1 hb1)
         clear hb1 HR)
      | (go_at_call 11; refine HS1.out.mono ?_
         rintro e w2 ⟨rfl, hb2⟩
         have HB2 := Lib.hid hb2
         clear hb2 HS1))
    go_ret
    exact ⟨rfl, HB2.out⟩
  case pos =>
    have hrd : decide ((Hr.check S).1 = 0 ∧ S ≠ []) = true := by simpa using hr
    rw [hrd] at HR
    have hV := (Hr.check_zero S).1 hr.1
    have hne := hr.2
    have hl24 := hV.h24
    have NM := Lib.hid (fun (W : World) (hW : Below w.heap.size w W) (n : Nat) (hn : n ≤ 255) => (name_any _ n S W (HSY.out W hW) hne hS hn).mono (fun e w' h => (by
      obtain ⟨s, h1, h2, h3, h4⟩ := h
      exact ⟨s, h1, ⟨h2, h3⟩, stepN hW h4⟩ : ∃ s, e = .returned (nm s) ∧ Hr.InS S s ∧ Below w.heap.size w w')))
    have IS := Lib.hid (fun (W : World) (hW : Below w.heap.size w W) (x y : Hr.Nm) (hx : Hr.InS S x) (hy : Hr.InS S y) => (is_law _ S x y W (HSY.out W hW) hV hx.2 hy.2 hx.1 hy.1))
    have hol : (Hr.order S).length = S.length := by rw [(Hr.order_perm hV).length_eq, List.length_map]
    have ORD := Lib.hid (fun (W : World) (hW : Below w.heap.size w W) => (Order_ok _ S W (HSY.out W hW) hV).mono (fun e w' h => (by
      obtain ⟨o, h1, h2, h3⟩ := h
      obtain ⟨A5, c5, rfl⟩ := own_len h2
      have h4 := NmsAt.of_own h2
      rw [hol] at h1 h4
      exact ⟨A5, c5, h1, h4, stepN hW h3⟩ : ∃ A5 c5, e = .returned (.tuple #[.slice A5 S.length c5, .int .i64 0]) ∧ NmsAt w' (.slice A5 S.length c5) (Hr.order S) ∧ Below w.heap.size w w')))
    have LEV := Lib.hid (fun (W : World) (hW : Below w.heap.size w W) => (Levels_ok _ S W (HSY.out W hW) hV).mono (fun e w' h => (by
      obtain ⟨o, vs, h1, h2, h3, h4⟩ := h
      obtain ⟨A5, c5, rfl, hc⟩ := lv_cells h2 h3
      exact ⟨A5, c5, h1, hc, h4⟩ : ∃ A5 c5, e = .returned (.tuple #[.slice A5 (Hr.levels S).length c5, .int .i64 0]) ∧ (∀ i (hi : i < (Hr.levels S).length), ∃ b' o', A5 = some ⟨b', o', none⟩ ∧ ∃ A3 c3, w'.cell? ⟨b', o' + i, none⟩ = some (.slice A3 (Hr.levels S)[i].length c3) ∧ NmsAt w' (.slice A3 (Hr.levels S)[i].length c3) (Hr.levels S)[i]) ∧ Below W.heap.size W w')))
    have ABV := Lib.hid (fun (W : World) (hW : Below w.heap.size w W) (x : Hr.Nm) (hx : Hr.InS S x) => (Above_ok _ S x W (HSY.out W hW) hV hx.2 (Hr.has_first hx.1)).mono (fun e w' h => (by
      obtain ⟨o, h1, h2, h3⟩ := h
      obtain ⟨A5, c5, rfl⟩ := own_len h2
      exact ⟨A5, c5, h1, NmsAt.of_own h2, h3⟩ : ∃ A5 c5, e = .returned (.tuple #[.slice A5 (Hr.above (Hr.links S) x).length c5, .int .i64 0]) ∧ NmsAt w' (.slice A5 (Hr.above (Hr.links S) x).length c5) (Hr.above (Hr.links S) x) ∧ Below W.heap.size W w')))
    have hfine := links_fine (HSY.out w (Below.refl _ _))
    have hInA : ∀ x, Hr.InS S x → ∀ y ∈ Hr.above (Hr.links S) x, Hr.InS S y := fun x hx y hy => by
      have h1 := (Hr.mem_above _ _ _).1 hy
      exact ⟨hV.reach h1 hx.1, reach_fine hfine h1 hx.2⟩
    have hPure : ∀ x, Hr.InS S x → Hr.Stand (Hr.links S) (Hr.above (Hr.links S) x) ∧ (Hr.above (Hr.links S) x).Nodup ∧ ∃ l, Hr.above (Hr.links S) x = l ++ [x] := fun x _ => ⟨Hr.above_stand hV x, Hr.above_nodup _ x, Hr.above_last _ x⟩
    have hup1 : ∀ x, (Hr.above (Hr.links S) x).length ≤ 1000000 → True := fun _ _ => trivial
    have hAtO : ∀ x, Hr.InS S x → 0 ≤ Hr.atI (Hr.order S) x := fun x hx => (Hr.atI_nonneg _ _).2 ((Hr.order_perm hV).mem_iff.2 hx.1)
    have hStO : ∀ x y, Hr.InS S x → Hr.isUp (Hr.links S) x y = true → ¬ Hr.atI (Hr.order S) x < Hr.atI (Hr.order S) y := fun x y hx hu => (Hr.order_stand hV).at ((Hr.order_perm hV).mem_iff.2 hx.1) hu
    have hAl : ∀ x, Hr.InS S x → (Hr.above (Hr.links S) x).length ≤ 24 := fun x hx => by
      have := Hr.nodup_le _ (S.map (·.name)) (Hr.above_nodup (Hr.links S) x) (fun y hy => (hInA x hx y hy).1)
      simp at this
      omega
    have hLevs := Hr.levels_ok hV
    obtain ⟨hLsum, hLlen, hLall⟩ := Hr.levels_all hV
    have hLup := fun i (hi : i < S.length) => Hr.level_up hV i hi
    have hcls : ∀ k (hk : k < S.length), ∃ b5 o5, A = some ⟨b5, o5, none⟩ ∧ ClsAt w b5 (o5 + k * 7) S[k] := fun k hk => by
      obtain ⟨b5, o5, hA, h3⟩ := hat (by omega)
      exact ⟨b5, o5, hA, h3 k hk⟩
    have CLS := Lib.hid (fun (W : World) (hW : Below w.heap.size w W) (k : Nat) (hk : k < S.length) => (by
      obtain ⟨b5, o5, hA, h3⟩ := hcls k hk
      obtain ⟨h0, h1, d, A2, n2, c2, A3, c3, A4, n4, c4, Aa, na, ca, A6, n6, c6, -, -, hc3, hu, -, -, -⟩ := h3
      obtain ⟨A3', c3', hv3, hup⟩ := hu
      cases hv3
      exact ⟨b5, o5, hA, h0, kept_below hW (Nat.le_refl _) _ _ h1, A3, c3, kept_below hW (Nat.le_refl _) _ _ hc3, fun p hp => by
        obtain ⟨b6, o6, hA3, hall⟩ := hup (by omega)
        exact ⟨b6, o6, hA3, (hall p hp).1, kept_below hW (Nat.le_refl _) _ _ (hall p hp).2.1⟩⟩ :
      ∃ b5 o5, A = some ⟨b5, o5, none⟩ ∧ S[k].name.length ≤ 140737488355328 ∧ W.cell? ⟨b5, o5 + k * 7, none⟩ = some (nm S[k].name) ∧ ∃ A3 c3, W.cell? ⟨b5, o5 + k * 7 + 3, none⟩ = some (.slice A3 S[k].ups.length c3) ∧ ∀ p (hp : p < S[k].ups.length), ∃ b6 o6, A3 = some ⟨b6, o6, none⟩ ∧ S[k].ups[p].length ≤ 140737488355328 ∧ W.cell? ⟨b6, o6 + p * 6, none⟩ = some (nm S[k].ups[p])))
    have hnmf : ∀ s ∈ S.map (·.name), s.length ≤ 140737488355328 := fun s hs => by
      obtain ⟨c, hc, rfl⟩ := List.mem_map.1 hs
      obtain ⟨k, hk, rfl⟩ := List.getElem_of_mem hc
      obtain ⟨b5, o5, -, h3⟩ := hcls k hk
      exact h3.1
    have HLF := Lib.hid (fun (k : Nat) (hk : k < (Hr.levels S).length) (y : Nat) (hy : y < (Hr.levels S)[k].length) => hnmf _ ((hLall _).1 (List.mem_flatten.2 ⟨_, List.getElem_mem hk, List.getElem_mem hy⟩)))
    have HLN := Lib.hid (fun (k : Nat) (hk : k < (Hr.levels S).length) (y : Nat) (hy : y < (Hr.levels S)[k].length) => (Hr.lvlNo_at hLevs hk (List.getElem_mem hy) : Hr.lvlNo (Hr.levels S) (Hr.levels S)[k][y] = k + 1))
    have HUN := Lib.hid (fun (k : Nat) (hk : k < S.length) => ((hLall _).2 (List.mem_map.2 ⟨_, List.getElem_mem hk, rfl⟩) : S[k].name ∈ (Hr.levels S).flatten))
    have HUP := Lib.hid (fun (k : Nat) (hk : k < S.length) (p : Nat) (hp : p < S[k].ups.length) => ((hLall _).2 (hV.up (by rw [Hr.parents_eq hV k hk]; exact List.getElem_mem hp)) : S[k].ups[p] ∈ (Hr.levels S).flatten))
    have hupl : ∀ k (hk : k < S.length), S[k].ups.length ≤ 4 := fun k hk => Hr.alone_four (hV.hal k hk).1
    have HU4 := Lib.hid hupl
    have HIN := Lib.hid hInA
    have HPU := Lib.hid hPure
    have HAO := Lib.hid hAtO
    have HSO := Lib.hid hStO
    have HAL := Lib.hid hAl
    have HLU := Lib.hid hLup
    have hsl : (Hr.order S).length ≤ 1000000 := by omega
    have ATO := Lib.hid (fun (W : World) (u : Value) (x : Hr.Nm) (hu : NmsAt W u (Hr.order S)) => at_any u (Hr.order S) x W hu hsl)
    have hmm := @run_makeMap Try.prog
    clear hr hrd hV hne hat hfine hInA hPure hup1 hAtO hStO hAl hLevs hLup hcls hsl hol hnmf hLall hupl
    go_enter Try.func6, Try.ntmps6
    go_upto_region 8 with (first
      | (go_at_call 10; refine HR.out.mono ?_
         rintro e w1 ⟨rfl, hb1⟩
         have N1 := Lib.hid (NM.out w1 hb1 a ha)
         clear hb1 HR)
      | (go_at_call 12; refine N1.out.mono ?_
         rintro e w2 ⟨NC, rfl, hnc, hb2⟩
         have HNC := Lib.hid hnc
         have N2 := Lib.hid (NM.out w2 hb2 b hb)
         clear hnc hb2 N1 NM)
      | (go_at_call 12; refine N2.out.mono ?_
         rintro e w3 ⟨NA, rfl, hna, hb3⟩
         have HNA := Lib.hid hna
         have O1 := Lib.hid (ORD.out w3 hb3)
         clear hna hb3 N2 ORD)
      | (go_at_call 22; refine O1.out.mono ?_
         rintro e w4 ⟨AO, co, rfl, ho4, hb4⟩
         have HO4 := Lib.hid ho4
         have HB4 := Lib.hid hb4
         have L1 := Lib.hid (LEV.out w4 hb4)
         clear ho4 hb4 O1 LEV)
      | (go_at_call 23; refine L1.out.mono ?_
         rintro e w5 ⟨AL, cl, rfl, hlv5, hb5⟩
         have HLV5 := Lib.hid hlv5
         have HO5 := Lib.hid (HO4.out.below hb5 (Nat.le_refl _))
         have HB5 := Lib.hid (stepN HB4.out hb5)
         have U1 := Lib.hid (ABV.out w5 (stepN HB4.out hb5) NC HNC.out)
         clear hlv5 hb5 L1 ABV HO4 HB4)
      | (go_at_call 24; refine U1.out.mono ?_
         rintro e w6 ⟨AU, cu, rfl, hu6, hb6⟩
         have HU6 := Lib.hid hu6
         have HB6 := Lib.hid (stepN HB5.out hb6)
         have HB65 := Lib.hid hb6
         have HO6 := Lib.hid (HO5.out.below hb6 (Nat.le_refl _))
         clear hu6 hb6 U1 HO5 HB5))
    obtain ⟨hst, hnd, l, hl⟩ := HPU.out NC HNC.out
    have hal := HAL.out NC HNC.out
    have hin : ∀ x (hx : x < (Hr.above (Hr.links S) NC).length), Hr.InS S (Hr.above (Hr.links S) NC)[x] := fun x hx => HIN.out NC HNC.out _ (List.getElem_mem hx)
    have hmu : 0 ≤ Hr.atI (Hr.above (Hr.links S) NC) NA ↔ Hr.isUp (Hr.links S) NC NA = true := by
      rw [Hr.atI_nonneg, Hr.mem_above, Hr.isUp_iff]
    have hk1 := HAO.out NC HNC.out
    have hk14 := HSO.out NC NA HNC.out
    have I1 := Lib.hid (fun (W : World) (hW : Below w6.heap.size w6 W) => (IS.out W (stepN HB6.out hW) NC NA HNC.out HNA.out).mono (fun e w' h => (⟨h.1, stepN hW h.2⟩ : e = .returned (.bool (Hr.isUp (Hr.links S) NC NA)) ∧ Below w6.heap.size w6 w')))
    have IXY := Lib.hid (fun (W : World) (hW : Below w6.heap.size w6 W) (x y : Nat) (hx : x < (Hr.above (Hr.links S) NC).length) (hyx : y < x) => (by
      have h1 := IS.out W (stepN HB6.out hW) (Hr.above (Hr.links S) NC)[y] (Hr.above (Hr.links S) NC)[x] (hin y (by omega)) (hin x hx)
      rw [(hst.ahead hnd hx hyx).2] at h1
      exact h1 : Calls Try.prog 14 #[.slice A S.length cp, nm ((Hr.above (Hr.links S) NC)[y]'(Nat.lt_trans hyx hx)), nm ((Hr.above (Hr.links S) NC)[x]'hx)] W fun e w' => e = .returned (.bool false) ∧ Below W.heap.size W w'))
    have HNE := Lib.hid (fun (x y : Nat) (hx : x < (Hr.above (Hr.links S) NC).length) (hyx : y < x) => ((hst.ahead hnd hx hyx).1 : (Hr.above (Hr.links S) NC)[x]'hx ≠ (Hr.above (Hr.links S) NC)[y]'(Nat.lt_trans hyx hx)))
    have A1 := Lib.hid (fun (W : World) (hW : Below w6.heap.size w6 W) => (ATO.out W _ NC (HO6.out.below hW (Nat.le_refl _))).mono (fun e w' h => (⟨h.1, stepN hW h.2⟩ : e = .returned (.int .i64 (Hr.atI (Hr.order S) NC)) ∧ Below w6.heap.size w6 w')))
    have A3 := Lib.hid (fun (W : World) (hW : Below w6.heap.size w6 W) => (ATO.out W _ NA (HO6.out.below hW (Nat.le_refl _))).mono (fun e w' h => (⟨h.1, stepN hW h.2⟩ : e = .returned (.int .i64 (Hr.atI (Hr.order S) NA)) ∧ Below w6.heap.size w6 w')))
    have A2 := Lib.hid (fun (W : World) (hW : Below w6.heap.size w6 W) => (at_any _ (Hr.above (Hr.links S) NC) NA W (HU6.out.below hW (Nat.le_refl _)) (by omega)).mono (fun e w' h => (⟨h.1, stepN hW h.2⟩ : e = .returned (.int .i64 (Hr.atI (Hr.above (Hr.links S) NC) NA)) ∧ Below w6.heap.size w6 w')))
    have SN := Lib.hid (fun (W : World) (hW : Below w6.heap.size w6 W) => SANE.out W (stepN HB6.out hW))
    have LVC := Lib.hid (fun (W : World) (hW : Below w6.heap.size w6 W) (i : Nat) (hi : i < (Hr.levels S).length) => (by
      obtain ⟨b', o', hA, A3, c3, h1, h2⟩ := HLV5.out i hi
      obtain ⟨A3', c3', hv, hc⟩ := h2
      cases hv
      exact ⟨b', o', hA, A3, c3, kept_below (stepN HB65.out hW) (Nat.le_refl _) _ _ h1, fun y hy => by
        obtain ⟨b3, o3, hA3, hall⟩ := hc (by omega)
        exact ⟨b3, o3, hA3, kept_below (stepN HB65.out hW) (Nat.le_refl _) _ _ (hall y hy)⟩⟩ :
      ∃ b' o', AL = some ⟨b', o', none⟩ ∧ ∃ A3 c3, W.cell? ⟨b', o' + i, none⟩ = some (.slice A3 (Hr.levels S)[i].length c3) ∧ ∀ y (hy : y < (Hr.levels S)[i].length), ∃ b3 o3, A3 = some ⟨b3, o3, none⟩ ∧ W.cell? ⟨b3, o3 + y, none⟩ = some (nm (Hr.levels S)[i][y])))
    have CL6 := Lib.hid (fun (W : World) (hW : Below w6.heap.size w6 W) => CLS.out W (stepN HB6.out hW))
    have hlen : (Hr.above (Hr.links S) NC).length = l.length + 1 := by rw [hl]; simp
    have hlast : (Hr.above (Hr.links S) NC)[(Hr.above (Hr.links S) NC).length - 1]'(by omega) = NC := by
      have e : ∀ (L : List Hr.Nm) (h : L = l ++ [NC]) (h2 : L.length - 1 < L.length), L[L.length - 1] = NC := fun L h h2 => by
        subst h
        simp
      exact e _ hl _
    obtain ⟨AU', cu', hvu, hatu⟩ := HU6.out
    cases hvu
    obtain ⟨bU, oU, hAU, hcu⟩ := hatu (by omega)
    subst hAU
    have UPC := Lib.hid (fun (W : World) (hW : Below w6.heap.size w6 W) (x : Nat) (hx : x < (Hr.above (Hr.links S) NC).length) => (kept_below hW (Nat.le_refl _) _ _ (hcu x hx) : W.cell? ⟨bU, oU + x, none⟩ = some (nm ((Hr.above (Hr.links S) NC)[x]'hx))))
    have ULS := Lib.hid (fun (W : World) (hW : Below w6.heap.size w6 W) => (by
      have h1 := kept_below hW (Nat.le_refl _) _ _ (hcu ((Hr.above (Hr.links S) NC).length - 1) (by omega))
      rw [hlast] at h1
      exact ⟨h1, World.block_lt_of_cell? _ _ h1⟩ : W.cell? ⟨bU, oU + ((Hr.above (Hr.links S) NC).length - 1), none⟩ = some (nm NC) ∧ bU < W.heap.size))
    clear hl hlast hcu hatu hst hnd hin HPU HAL HIN HAO HSO HNC HNA HU6 HO6 ATO IS HLV5 CLS SANE
    have hb0 : Below w6.heap.size w6 w6 := Below.refl _ _
    have hul : 0 < (Hr.above (Hr.links S) NC).length := by omega
    generalize hU : Hr.above (Hr.links S) NC = U at *
    clear hU hlen
    have hws : IntKind.i64.wrap ((U.length : Int) - 1) = ((U.length - 1 : Nat) : Int) := by
      rw [IntWalk.i64_in _ (by omega)]
      omega
    have hltU : ((U.length - 1 : Nat) : Int) < U.length := by omega
    have hulI : (0 : Int) < U.length := by omega
    have hul0 : ¬ (U.length : Int) = 0 := by omega
    have hulB : ((U.length : Int) == 0) = false := by simpa using hul0
    have hk1I : ¬ Hr.atI (Hr.order S) NC < 0 := by omega
    have hab : (NC == NA) = true ∨ (NC == NA) = false := by cases (NC == NA) <;> simp
    generalize Hr.atI (Hr.order S) NC = k1 at *
    generalize Hr.atI (Hr.order S) NA = k4 at *
    generalize Hr.atI U NA = k2 at *
    generalize Hr.isUp (Hr.links S) NC NA = u at *
    have hcase : (u = true ∧ 0 ≤ k2 ∧ ¬ k1 < k4) ∨ (u = false ∧ ¬ 0 ≤ k2) := by
      cases u
      · exact .inr ⟨rfl, fun h => by have := hmu.1 h; cases this⟩
      · exact .inl ⟨rfl, hmu.2 rfl, by have := hk14 rfl; omega⟩
    clear hmu hk14 hk1
    go_cut [98] from 50 (fun v wx => v = .bool false ∧ Below w6.heap.size w6 wx)
    case first =>
      rcases hcase with ⟨rfl, hk2, hk3⟩ | ⟨rfl, hk2⟩
      all_goals
        obtain ⟨cu0, hblt0⟩ := ULS.out w6 hb0
        go_wp2_with (first
          | (go_at_call 15; with_reducible refine (A1.out _ (by assumption)).mono ?_; rintro e wz ⟨rfl, hbz⟩; obtain ⟨cuz, hbltz⟩ := ULS.out wz hbz)
          | (go_at_call 15; with_reducible refine (A2.out _ (by assumption)).mono ?_; rintro e wz ⟨rfl, hbz⟩; obtain ⟨cuz, hbltz⟩ := ULS.out wz hbz)
          | (go_at_call 14; with_reducible refine (I1.out _ (by assumption)).mono ?_; rintro e wz ⟨rfl, hbz⟩; obtain ⟨cuz, hbltz⟩ := ULS.out wz hbz))
        go_meet
        exact ⟨(by first | rfl | (simp only [Value.bool.injEq, decide_eq_false_iff_not, Bool.or_eq_false_iff]; omega)), by assumption⟩
    case rest =>
      obtain ⟨rfl, hbA⟩ := hcut
      clear hb0
      go_upto_region 10 with fail
      go_cut [116] from 99 (fun v wx => v = .bool false ∧ Below w6.heap.size w6 wx)
      case first =>
        rcases hcase with ⟨rfl, hk2, hk3⟩ | ⟨rfl, hk2⟩ <;> rcases hab with hab | hab
        all_goals
          go_wp2_with (first
            | (go_at_call 15; with_reducible refine (A1.out _ (by assumption)).mono ?_; rintro e wz ⟨rfl, hbz⟩)
            | (go_at_call 15; with_reducible refine (A3.out _ (by assumption)).mono ?_; rintro e wz ⟨rfl, hbz⟩)
            | (go_at_call 14; with_reducible refine (I1.out _ (by assumption)).mono ?_; rintro e wz ⟨rfl, hbz⟩))
          go_meet
          exact ⟨(by first | rfl | (simp only [Value.bool.injEq, decide_eq_false_iff_not]; omega)), by assumption⟩
      case rest =>
        obtain ⟨rfl, hbB⟩ := hcut
        have HBC := Lib.hid hbB
        clear hbB hbA A1 A2 A3 I1 hcase hab hk1I hul0 hulB hws hltU
        go_wp2_with fail
        go_loopw [15] (fun i wr => ∃ x : Nat, x ≤ U.length ∧ i = .int .i64 x ∧ Hid (Below w6.heap.size w6 wr)) (fun i _ => U.length - (intOf i).toNat)
        case atStart => exact ⟨0, Nat.zero_le _, rfl, HBC.out⟩
        case round =>
          obtain ⟨x, hx, rfl, HBX⟩ := hrel
          by_cases hlt : x < U.length
          · have hltI : (x : Int) < U.length := by omega
            have hx0 : (0 : Int) ≤ x := by omega
            have hw1 : IntKind.i64.wrap ((x : Int) + 1) = (x : Int) + 1 := IntWalk.i64_in _ (by omega)
            go_wp2_with fail
            go_loopw [16] (fun j wr => ∃ y : Nat, y ≤ x ∧ j = .int .i64 y ∧ Hid (Below w6.heap.size w6 wr)) (fun j _ => x - (intOf j).toNat)
            case atStart => exact ⟨0, Nat.zero_le _, rfl, HBX⟩
            case round =>
              obtain ⟨y, hy, rfl, HBY⟩ := hrel
              by_cases hlty : y < x
              · have hltyI : (y : Int) < x := by omega
                have hyl : y < U.length := by omega
                have hylI : (y : Int) < U.length := by omega
                have hy0 : (0 : Int) ≤ y := by omega
                have hw2 : IntKind.i64.wrap ((y : Int) + 1) = (y : Int) + 1 := IntWalk.i64_in _ (by omega)
                have GIVE := Lib.hid (fun (W : World) (hW : Below wr.heap.size wr W) => (⟨UPC.out W (stepN HBY.out hW) x hlt, UPC.out W (stepN HBY.out hW) y hyl, hW⟩ : W.cell? ⟨bU, oU + x, none⟩ = some (nm (U[x]'hlt)) ∧ W.cell? ⟨bU, oU + y, none⟩ = some (nm (U[y]'hyl)) ∧ Below wr.heap.size wr W))
                have KXY := Lib.hid (fun (W : World) (hW : Below wr.heap.size wr W) => (IXY.out W (stepN HBY.out hW) x y hlt hlty).mono (fun e w' h => (⟨h.1, stepN hW h.2⟩ : e = .returned (.bool false) ∧ Below wr.heap.size wr w')))
                have hxy : ((U[x]'hlt) == (U[y]'hyl)) = false := by simpa using HNE.out x y hlt hlty
                have hxy2 : (U[x]'hlt) ≠ (U[y]'hyl) := HNE.out x y hlt hlty
                generalize (U[x]'hlt) = X at *
                generalize (U[y]'hyl) = Y at *
                go_wp2_with fail
                go_region_held3 (fun W => W.cell? ⟨bU, oU + x, none⟩ = some (nm X) ∧ W.cell? ⟨bU, oU + y, none⟩ = some (nm Y) ∧ Below wr.heap.size wr W)
                  (with_reducible (refine GIVE.out _ ?_; first | exact hbx | exact (Below.refl _ _).drew))
                  (first
                    | (go_at_call 14; refine (KXY.out _ (by with_reducible first | exact hbx | exact (Below.refl _ _).drew)).mono ?_; rintro e wx ⟨rfl, hbx⟩))
                all_goals
                  have HBX2 := Lib.hid (stepN HBY.out hbx)
                  go_wp2_with fail
                  go_roundw
                  case rel => exact ⟨y + 1, by omega, by go_num, HBX2⟩
                  case measure => simp [intOf]; omega
              · obtain rfl : y = x := by omega
                go_wp2_with fail
                go_roundw
                case rel => exact ⟨y + 1, by omega, by go_num, HBY⟩
                case measure => simp [intOf]; omega
          · obtain rfl : x = U.length := by omega
            clear UPC ULS IXY HNE
            have h0 : MI (wr.alloc (.map #[] 0)) wr.heap.size 0 (fun _ => none) := MapI.made wr
            rw [← Hr.lvlMap_nil (Hr.levels S)] at h0
            have H0 := Lib.hid h0
            have HB0 := Lib.hid (HBX.out.alloc HBX.out.size (.map #[] 0))
            have hmw : Hid (w6.heap.size ≤ wr.heap.size) := HBX.out.size
            clear h0
            go_wp2_with fail
            generalize hV : Hr.levels S = V at *
            clear hV
            generalize hm : wr.heap.size = m at *
            clear hm
            go_loopw [18, 19] (fun s i wr => ∃ k : Nat, k ≤ V.length ∧ i = .int .i64 k ∧ s = .int .i64 (((V.take k).map List.length).sum : Nat) ∧ Hid (MI wr m ((V.take k).map List.length).sum (Hr.lvlMap V (V.take k).flatten)) ∧ Hid (Below w6.heap.size w6 wr)) (fun _ i _ => V.length - (intOf i).toNat)
            case atStart => exact ⟨0, Nat.zero_le _, rfl, rfl, H0.out, HB0.out⟩
            case round =>
              obtain ⟨k, hk, rfl, rfl, HM, HBK⟩ := hrel
              by_cases hltk : k < V.length
              · obtain ⟨b1, o1, hA1, A3, c3, c1, hrow⟩ := LVC.out wr HBK.out k hltk
                subst hA1
                have hblt1 := World.block_lt_of_cell? _ _ c1
                obtain ⟨hfl, hsm⟩ := Hr.flat_step V hltk
                have hst := Hr.sum_take V (k + 1)
                have hltkI : (k : Int) < V.length := by omega
                have hk0 : (0 : Int) ≤ k := by omega
                have hw1 : IntKind.i64.wrap ((k : Int) + 1) = (k : Int) + 1 := IntWalk.i64_in _ (by omega)
                have hws : IntKind.i64.wrap ((((V.take k).map List.length).sum : Nat) + (V[k].length : Int)) = (((V.take (k + 1)).map List.length).sum : Nat) := by
                  rw [IntWalk.i64_in _ (by omega)]
                  omega
                have hwf : (Lit.int .i64 ((k : Int) + 1)).wf = true := WalkArith.wf_i64 (by omega)
                have HFL := Lib.hid hfl
                have HSM := Lib.hid hsm
                have HLK := Lib.hid (fun (y : Nat) (hy : y < V[k].length) => (⟨HLN.out k hltk y hy, HLF.out k hltk y hy⟩ : Hr.lvlNo V V[k][y] = k + 1 ∧ V[k][y].length ≤ 140737488355328))
                have LVK := Lib.hid (fun (W : World) (hW : Below w6.heap.size w6 W) => (by
                  obtain ⟨b2, o2, hA2, A4, c4, c2, hrow2⟩ := LVC.out W hW k hltk
                  obtain ⟨bq, oq, hAq, Aq, cq, c1q, hrowq⟩ := LVC.out wr HBK.out k hltk
                  exact ⟨b2, o2, hA2, A4, c4, c2, hrow2⟩ : ∃ b2 o2, some (⟨b1, o1, none⟩ : Addr) = some ⟨b2, o2, none⟩ ∧ ∃ A4 c4, W.cell? ⟨b2, o2 + k, none⟩ = some (.slice A4 V[k].length c4) ∧ ∀ y (hy : y < V[k].length), ∃ b3 o3, A4 = some ⟨b3, o3, none⟩ ∧ W.cell? ⟨b3, o3 + y, none⟩ = some (nm V[k][y])))
                have hlen24 : V[k].length ≤ 24 := by omega
                have hsk : ((V.take k).map List.length).sum + V[k].length ≤ 24 := by omega
                clear hfl hst hrow
                rw [hsm] at hws
                generalize hq : V[k] = R at *
                clear hq
                generalize hT : ((V.take k).map List.length).sum = T at *
                clear hsm
                go_wp2_with fail
                go_loopw [20] (fun j wr => ∃ y : Nat, y ≤ R.length ∧ j = .int .i64 y ∧ Hid (MI wr m (T + y) (Hr.lvlMap V ((V.take k).flatten ++ R.take y))) ∧ Hid (Below w6.heap.size w6 wr)) (fun j _ => R.length - (intOf j).toNat)
                case atStart => exact ⟨0, Nat.zero_le _, rfl, (by show MI wr m (T + 0) (Hr.lvlMap V ((V.take k).flatten ++ R.take 0)); simpa using HM.out), HBK.out⟩
                case round =>
                  obtain ⟨y, hy, rfl, HMY, HBY⟩ := hrel
                  obtain ⟨b2, o2, hA2, A4, c4, c2, hrow2⟩ := LVK.out wr HBY.out
                  cases hA2
                  have hblt2 := World.block_lt_of_cell? _ _ c2
                  by_cases hlty : y < R.length
                  · obtain ⟨b3, o3, hA4, c5⟩ := hrow2 y hlty
                    subst hA4
                    have hblt3 := World.block_lt_of_cell? _ _ c5
                    have hltyI : (y : Int) < R.length := by omega
                    have hy0 : (0 : Int) ≤ y := by omega
                    have hw2 : IntKind.i64.wrap ((y : Int) + 1) = (y : Int) + 1 := IntWalk.i64_in _ (by omega)
                    obtain ⟨hno, hn⟩ := HLK.out y hlty
                    have hup := Hr.lvlMap_snoc V ((V.take k).flatten ++ R.take y) R[y] hno
                    have htk : (V.take k).flatten ++ R.take (y + 1) = (V.take k).flatten ++ R.take y ++ [R[y]] := by
                      rw [List.take_succ_eq_append_getElem hlty, List.append_assoc]
                    rw [← htk] at hup
                    have HUPD := Lib.hid hup
                    clear hup htk hno hrow2
                    generalize R[y] = N at *
                    go_wp2_with (first
                      | (at_mapUpdate; refine wpI_store rfl _ _ _ rfl Try.underlying9 tMap Try.underlying3 rfl HMY.out (by simp [maxLen]; omega) _ rfl (size_fine hn) _ rfl hwf (fun w' hm' hg' => ?_)))
                    have hB2 : Below w6.heap.size w6 w' := HBY.out.grown hg' HBY.out.size (fun r e => by cases e; exact hmw.out)
                    go_roundw
                    case rel => exact ⟨y + 1, by omega, by go_num, (by have h := hm'; rw [HUPD.out] at h; exact h), hB2⟩
                    case measure => simp [intOf]; omega
                  · obtain rfl : y = R.length := by omega
                    have hM2 := HMY.out
                    rw [List.take_length, ← HFL.out] at hM2
                    go_wp2_with fail
                    go_roundw
                    case rel => exact ⟨k + 1, by omega, by go_num, (by rw [HSM.out]; exact congrArg _ (Int.natCast_add _ _).symm), (by rw [HSM.out]; exact hM2), HBY.out⟩
                    case measure => simp [intOf]; omega
              · obtain rfl : k = V.length := by omega
                have hM := HM.out
                rw [List.take_length] at hM
                have HM2 := Lib.hid hM
                rw [List.take_length, hLsum]
                clear LVC HLF HLN HM hM
                go_wp2_with fail
                generalize hwD : wr = wD at *
                clear hwD
                go_loopw [21] (fun i wr => ∃ x : Nat, x ≤ S.length ∧ i = .int .i64 x ∧ wr = wD) (fun i _ => S.length - (intOf i).toNat)
                case atStart => exact ⟨0, Nat.zero_le _, rfl, rfl⟩
                case round =>
                  obtain ⟨x, hx, rfl, hwD⟩ := hrel
                  subst hwD
                  by_cases hltx : x < S.length
                  · obtain ⟨b5, o5, hA, hnl, cn, A3, c3, cu3, hup⟩ := CL6.out wr HBK.out x hltx
                    subst hA
                    have hblt5 := World.block_lt_of_cell? _ _ cn
                    have hmb := Hr.most_le V S[x].ups
                    have hlk2 := run_lookI HM2.out S[x].name hnl ((S[x].ups.map (Hr.lvlNo V)).foldl max 0 + 1) (by rw [Hr.lvlMap_get _ _ _ (HUN.out x hltx)]; exact HLU.out x hltx)
                    have LKP := Lib.hid (fun (p : Nat) (hp : p < S[x].ups.length) (hf : S[x].ups[p].length ≤ 140737488355328) => run_lookI HM2.out S[x].ups[p] hf (Hr.lvlNo V S[x].ups[p]) (Hr.lvlMap_get _ _ _ (HUP.out x hltx p hp)))
                    have hu4 := HU4.out x hltx
                    have hltxI : (x : Int) < S.length := by omega
                    have hx0 : (0 : Int) ≤ x := by omega
                    have hw1 : IntKind.i64.wrap ((x : Int) + 1) = (x : Int) + 1 := IntWalk.i64_in _ (by omega)
                    have hwm : IntKind.i64.wrap ((S[x].ups.map (Hr.lvlNo V)).foldl max 0 + 1) = (S[x].ups.map (Hr.lvlNo V)).foldl max 0 + 1 := IntWalk.i64_in _ (by omega)
                    have MST := Lib.hid (fun (p : Nat) (hp : p < S[x].ups.length) => Hr.most_step V S[x].ups hp)
                    have HUPS := Lib.hid hup
                    clear hup hmb
                    generalize S[x].name = N at *
                    generalize S[x].ups = us at *
                    go_wp2_with fail
                    go_loopw [22, 23] (fun s j wz => ∃ p : Nat, p ≤ us.length ∧ j = .int .i64 p ∧ s = .int .i64 (((us.take p).map (Hr.lvlNo V)).foldl max 0) ∧ wz = wr) (fun _ j _ => us.length - (intOf j).toNat)
                    case atStart => exact ⟨0, Nat.zero_le _, rfl, rfl, rfl⟩
                    case round =>
                      obtain ⟨p, hp, rfl, rfl, hwz⟩ := hrel
                      subst hwz
                      by_cases hltp : p < us.length
                      · obtain ⟨b6, o6, hA6, hfp, c6⟩ := HUPS.out p hltp
                        subst hA6
                        have hblt6 := World.block_lt_of_cell? _ _ c6
                        have hlkp := LKP.out p hltp hfp
                        have hltpI : (p : Int) < us.length := by omega
                        have hp0 : (0 : Int) ≤ p := by omega
                        have hw3 : IntKind.i64.wrap ((p : Int) + 1) = (p : Int) + 1 := IntWalk.i64_in _ (by omega)
                        have hms := MST.out p hltp
                        rw [List.map_take, List.map_take] at hms
                        have HMS := Lib.hid hms
                        clear hms
                        generalize us[p] = PN at *
                        generalize Hr.lvlNo V PN = ln at *
                        go_wp2_with fail
                        go_roundw
                        case rel => exact ⟨p + 1, by omega, by go_num, (by first | rw [HMS.out] | rw [List.map_take, HMS.out] | (simp only [List.map_take]; rw [HMS.out])), (by first | rfl | trivial)⟩
                        case measure => simp [intOf]; omega
                      · obtain rfl : p = us.length := by omega
                        rw [List.take_length]
                        clear LKP MST HUPS
                        generalize (us.map (Hr.lvlNo V)).foldl max 0 = mo at *
                        go_wp2_with fail
                        go_roundw
                        case rel => exact ⟨x + 1, by omega, by go_num, (by first | rfl | trivial)⟩
                        case measure => simp [intOf]; omega
                  · obtain rfl : x = S.length := by omega
                    have hfin := HBK.out
                    go_wp2_with (first
                      | (go_at_call 11; refine (SN.out _ hfin).mono ?_; rintro e wz ⟨rfl, hbz⟩))
                    go_ret
                    exact ⟨rfl, hbz⟩
end Go.Proofs.Ytojfimbanaijdaa
