/-
  What the law HeirReduces returns: true.
-/
import Derived.Test.YtojfimbanaijdaaHLawIO
import Derived.Test.YtojfimbanaijdaaHLinked
import Derived.Deep.RegionHeld3
namespace Go.Proofs.Ytojfimbanaijdaa
open Go.RowKit Go.Shelf
attribute [local go_sem] Oper.semAt_some

theorem Hr.less_names (S : List Hr.Cls) (G : List (Hr.Nm × Hr.Nm)) : (Hr.less S G).map (·.name) = S.map (·.name) := by
  unfold Hr.less
  rw [List.map_map]
  rfl
theorem link_laid (w : World) (N P : Hr.Nm) (hN : N.length ≤ 140737488355328) (hP : P.length ≤ 140737488355328) : LinksAt (w.alloc (.cells #[nm N, nm P] 64)) (.slice (some ⟨w.heap.size, 0, none⟩) 1 1) [(N, P)] := by
  refine ⟨fun x hx => by rw [List.mem_singleton.1 hx]; exact ⟨hN, hP⟩, _, 1, rfl, Nat.le_refl _, fun _ => ⟨w.heap.size, 0, rfl, fun i hi => ?_⟩⟩
  have hi0 : i = 0 := by simpa using hi
  subst hi0
  have h := Has.new w 64 #[nm N, nm P]
  have c0 := h.cell 0
  have c1 := h.cell 1
  exact ⟨c0, c1⟩

set_option maxRecDepth 100000 in
set_option maxHeartbeats 8000000 in
theorem HeirReduces_any (v : Value) (a b d : Nat) (S : List Hr.Cls) (w : World) (h : SysAt w v S) (hS : S.length ≤ 1000000) (ha : a ≤ 255) (hb : b ≤ 255) (hd : d ≤ 255) :
    Calls Try.prog 8 #[v, .int .u8 a, .int .u8 b, .int .u8 d] w fun e w' => e = .returned (.bool true) ∧ Below w.heap.size w w' := by
  have HR := Lib.hid (right_any v S w h hS)
  have HSY := Lib.hid (fun (W : World) (hW : Below w.heap.size w W) => h.below hW (Nat.le_refl _))
  have SANE := Lib.hid (fun (W : World) (hW : Below w.heap.size w W) => (sanity_any W).mono (fun e w' h => (⟨h.1, stepN hW h.2⟩ : e = .returned (.bool true) ∧ Below w.heap.size w w')))
  have SANL := Lib.hid (fun (W : World) => sanity_any W)
  obtain ⟨A, cp, rfl, hat⟩ := h
  by_cases hr : (Hr.check S).1 = 0 ∧ S ≠ []
  case neg =>
    have hrd : decide ((Hr.check S).1 = 0 ∧ S ≠ []) = false := by simpa using hr
    rw [hrd] at HR
    clear hr hrd hat SANL
    go_enter Try.func8, Try.ntmps8
    go_wp2_with (first
      | (go_at_call 10; refine HR.out.mono ?_
         rintro e w1 ⟨rfl, hb1⟩
         have HS1 := Lib.hid (SANE.out w1 hb1)
         clear hb1 HR)
      | (go_at_call 11; refine HS1.out.mono ?_
         rintro e w2 ⟨rfl, hb2⟩
         have HB2 := Lib.hid hb2
         clear hb2 HS1))
    go_ret
    exact ⟨rfl, HB2.out⟩
  case pos =>
    have hrd : decide ((Hr.check S).1 = 0 ∧ S ≠ []) = true := by simpa using hr
    rw [hrd] at HR
    have hV := (Hr.check_zero S).1 hr.1
    have hne := hr.2
    have hlen : 0 < S.length := List.length_pos_iff.2 hne
    have hl24 := hV.h24
    have h4 : ∀ i (hi : i < S.length), S[i].ups.length ≤ 4 := fun i hi => Hr.alone_four (hV.hal i hi).1
    have hlk := links_fine (HSY.out w (Below.refl _ _))
    have hndf : Fine (Hr.needless (Hr.links S)) := fun x hx => hlk x (List.mem_filter.1 hx).1
    have hndl : (Hr.needless (Hr.links S)).length ≤ 1000000 := Nat.le_trans (List.length_filter_le _ _) (Nat.le_trans hV.hL (by omega))
    have NM := Lib.hid (fun (W : World) (hW : Below w.heap.size w W) (n : Nat) (hn : n ≤ 255) => (name_any _ n S W (HSY.out W hW) hne hS hn).mono (fun e w' h => (by
      obtain ⟨s, h1, h2, h3, h4⟩ := h
      exact ⟨s, h1, ⟨h2, h3⟩, h4⟩ : ∃ s, e = .returned (nm s) ∧ Hr.InS S s ∧ Below W.heap.size W w')))
    have IS := Lib.hid (fun (W : World) (hW : Below w.heap.size w W) (x y : Hr.Nm) (hx : Hr.InS S x) (hy : Hr.InS S y) => (is_law _ S x y W (HSY.out W hW) hV hx.2 hy.2 hx.1 hy.1))
    have ISL := Lib.hid (fun (W : World) (o : Value) (G : List (Hr.Nm × Hr.Nm)) (ho : SysAt W o (Hr.less S G)) (x y : Hr.Nm) (hx : Hr.InS S x) (hy : Hr.InS S y) => (is_law o (Hr.less S G) x y W ho (Hr.less_valid hV G) hx.2 hy.2 (by rw [Hr.less_names]; exact hx.1) (by rw [Hr.less_names]; exact hy.1)))
    have RIL := Lib.hid (fun (W : World) (o : Value) (G : List (Hr.Nm × Hr.Nm)) (ho : SysAt W o (Hr.less S G)) => (right_any o (Hr.less S G) W ho (by simp [Hr.less]; omega)).mono (fun e w' h => (by
      have h2 : decide ((Hr.check (Hr.less S G)).1 = 0 ∧ Hr.less S G ≠ []) = true := by
        have h3 := (Hr.check_zero (Hr.less S G)).2 (Hr.less_valid hV G)
        simp only [decide_eq_true_eq]
        exact ⟨h3, by unfold Hr.less; simpa using hne⟩
      rw [h2] at h
      exact h : e = .returned (.bool true) ∧ Below W.heap.size W w')))
    have ND := Lib.hid (fun (W : World) (hW : Below w.heap.size w W) => (Needless_ok _ S W (HSY.out W hW) hV).mono (fun e w' h => (by
      obtain ⟨o, h1, h2, h3⟩ := h
      obtain ⟨A5, c5, rfl⟩ := own_len h2
      exact ⟨A5, c5, h1, LinksAt.of_own hndf h2, h3⟩ : ∃ A5 c5, e = .returned (.tuple #[.slice A5 (Hr.needless (Hr.links S)).length c5, .int .i64 0]) ∧ LinksAt w' (.slice A5 (Hr.needless (Hr.links S)).length c5) (Hr.needless (Hr.links S)) ∧ Below W.heap.size W w')))
    have LKD := Lib.hid (fun (W : World) (hW : Below w.heap.size w W) (u : Value) (G : List (Hr.Nm × Hr.Nm)) (hu : LinksAt W u G) (hG : G.length ≤ 1000000) => linked_any _ u S G W (HSY.out W hW) hl24 h4 hu hG)
    have RED := Lib.hid (fun (x y : Hr.Nm) => Hr.reduces hV x y)
    have hkl : a % S.length < S.length := Nat.mod_lt _ hlen
    have hcls : ∃ bb ob, A = some ⟨bb, ob, none⟩ ∧ ClsAt w bb (ob + a % S.length * 7) S[a % S.length] := by
      obtain ⟨bb, ob, hA, hat3⟩ := hat hlen
      exact ⟨bb, ob, hA, hat3 _ hkl⟩
    obtain ⟨bb, ob, hA, hcl⟩ := hcls
    subst hA
    have hpe := Hr.parents_eq hV (a % S.length) hkl
    have hmem : S[a % S.length].name ∈ S.map (·.name) := List.mem_map.2 ⟨_, List.getElem_mem hkl, rfl⟩
    have hu4 := h4 _ hkl
    have hrem : Int.tmod (a : Int) (S.length : Int) = ((a % S.length : Nat) : Int) := by rw [← Int.ofNat_tmod]
    have hltK : ((a % S.length : Nat) : Int) < S.length := by omega
    have hlI : ¬ (S.length : Int) = 0 := by omega
    have hwa : IntKind.i64.wrap ((a : Int)) = (a : Int) := IntWalk.i64_in _ (by omega)
    have hwd : IntKind.i64.wrap ((d : Int)) = (d : Int) := IntWalk.i64_in _ (by omega)
    have MEMN := Lib.hid (fun (p : Hr.Nm) (hp : p ∈ S[a % S.length].ups) => (⟨Hr.mem_needless hV (x := (S[a % S.length].name, p)) (Hr.parents_mem _ _ _ (by rw [hpe]; exact hp)), hV.up (by rw [hpe]; exact hp)⟩ : ((S[a % S.length].name, p) ∈ Hr.needless (Hr.links S) ↔ Hr.isUp (Hr.links (Hr.less S [(S[a % S.length].name, p)])) S[a % S.length].name p = true) ∧ p ∈ S.map (·.name)))
    clear hat hlk hndf hpe hr hrd
    generalize hcK : S[a % S.length] = cl at *
    clear hcK hkl
    obtain ⟨XN, ups⟩ := cl
    obtain ⟨hn0, hc0, dd, X2, m2, k2, X3, k3, X4, m4, k4, X5, m5, k5, X6, m6, k6, hc1, hc2, hc3, hup, hc4, hc5, hc6⟩ := hcl
    dsimp only at *
    generalize a % S.length = K at *
    have CE := Lib.hid (fun (W : World) (hW : Below w.heap.size w W) => (⟨kept_below hW (Nat.le_refl _) _ _ hc0, kept_below hW (Nat.le_refl _) _ _ hc1, kept_below hW (Nat.le_refl _) _ _ hc2, kept_below hW (Nat.le_refl _) _ _ hc3, kept_below hW (Nat.le_refl _) _ _ hc4, kept_below hW (Nat.le_refl _) _ _ hc5, kept_below hW (Nat.le_refl _) _ _ hc6⟩ :
      W.cell? ⟨bb, ob + K * 7, none⟩ = some (nm XN) ∧ W.cell? ⟨bb, ob + K * 7 + 1, none⟩ = some (.bool dd) ∧ W.cell? ⟨bb, ob + K * 7 + 2, none⟩ = some (.slice X2 m2 k2) ∧ W.cell? ⟨bb, ob + K * 7 + 3, none⟩ = some (.slice X3 ups.length k3) ∧ W.cell? ⟨bb, ob + K * 7 + 4, none⟩ = some (.slice X4 m4 k4) ∧ W.cell? ⟨bb, ob + K * 7 + 5, none⟩ = some (.slice X5 m5 k5) ∧ W.cell? ⟨bb, ob + K * 7 + 6, none⟩ = some (.slice X6 m6 k6)))
    obtain ⟨X3', k3', hv3, hupat⟩ := hup
    cases hv3
    have UPT := Lib.hid (fun (W : World) (hW : Below w.heap.size w W) (p : Nat) (hp : p < ups.length) => (by
      obtain ⟨b3, o3, hA3, hall⟩ := hupat (by omega)
      exact ⟨b3, o3, hA3, (hall p hp).1, kept_below hW (Nat.le_refl _) _ _ (hall p hp).2.1⟩ : ∃ b3 o3, X3 = some ⟨b3, o3, none⟩ ∧ ups[p].length ≤ 140737488355328 ∧ W.cell? ⟨b3, o3 + p * 6, none⟩ = some (nm ups[p])))
    have hinX : Hid (Hr.InS S XN) := ⟨hmem, hn0⟩
    clear hc0 hc1 hc2 hc3 hc4 hc5 hc6 hupat hmem hne hV
    generalize hND : Hr.needless (Hr.links S) = nd at *
    clear hND
    go_enter Try.func8, Try.ntmps8
    go_upto_region 7 with (first
      | (go_at_call 10; refine HR.out.mono ?_
         rintro e w1 ⟨rfl, hb1⟩
         have N1 := Lib.hid (ND.out w1 hb1)
         have HB1 := Lib.hid hb1
         clear hb1 HR)
      | (go_at_call 26; refine N1.out.mono ?_
         rintro e w2 ⟨A5, c5, rfl, hl2, hb2⟩
         have HL2 := Lib.hid hl2
         have HB2 := Lib.hid (stepN HB1.out hb2)
         have L1 := Lib.hid (LKD.out w2 (stepN HB1.out hb2) _ _ hl2 hndl)
         clear hl2 hb2 N1 ND)
      | (go_at_call 27; refine L1.out.mono ?_
         rintro e w3 ⟨o3, rfl, ho3, hb3⟩
         have HO3 := Lib.hid ho3
         have HL3 := Lib.hid (HL2.out.below hb3 (Nat.le_refl _))
         have HB3 := Lib.hid (stepN HB2.out hb3)
         have N2 := Lib.hid (NM.out w3 (stepN HB2.out hb3) a ha)
         clear ho3 hb3 L1 HL2)
      | (go_at_call 12; refine N2.out.mono ?_
         rintro e w4 ⟨NC, rfl, hnc, hb4⟩
         have HNC := Lib.hid hnc
         have HB4 := Lib.hid (stepN HB3.out hb4)
         have HO4 := Lib.hid (HO3.out.below hb4 (Nat.le_refl _))
         have HL4 := Lib.hid (HL3.out.below hb4 (Nat.le_refl _))
         have N3 := Lib.hid (NM.out w4 (stepN HB3.out hb4) b hb)
         clear hnc hb4 N2 HO3 HL3 NM)
      | (go_at_call 12; refine N3.out.mono ?_
         rintro e w5 ⟨NA, rfl, hna, hb5⟩
         have HNA := Lib.hid hna
         have HB5 := Lib.hid (stepN HB4.out hb5)
         have HO5 := Lib.hid (HO4.out.below hb5 (Nat.le_refl _))
         have HL5 := Lib.hid (HL4.out.below hb5 (Nat.le_refl _))
         clear hna hb5 N3 HO4 HL4))
    have R5 := Lib.hid (RIL.out w5 o3 nd HO5.out)
    have I5 := Lib.hid (fun (W : World) (hW : Below w5.heap.size w5 W) => IS.out W (stepN HB5.out hW) NC NA HNC.out HNA.out)
    have I6 := Lib.hid (fun (W : World) (hW : Below w5.heap.size w5 W) => (by
      have h1 := ISL.out W o3 nd (HO5.out.below hW (Nat.le_refl _)) NC NA HNC.out HNA.out
      rw [RED.out] at h1
      exact h1 : Calls Try.prog 14 #[o3, nm NC, nm NA] W fun e w' => e = .returned (.bool (Hr.isUp (Hr.links S) NC NA)) ∧ Below W.heap.size W w'))
    clear RIL RED HO5 HNC HNA
    generalize Hr.isUp (Hr.links S) NC NA = u at *
    go_cut [53] from 36 (fun v wx => v = .bool false ∧ Below w5.heap.size w5 wx)
    case first =>
      cases u
      all_goals
        go_wp2_with (first
          | (go_at_call 10; refine R5.out.mono ?_
             rintro e w6 ⟨rfl, hb6⟩
             have J5 := Lib.hid (I5.out w6 hb6)
             clear R5)
          | (go_at_call 14; refine J5.out.mono ?_
             rintro e w7 ⟨rfl, hb7⟩
             have J6 := Lib.hid (I6.out w7 (stepN hb6 hb7))
             clear J5)
          | (go_at_call 14; refine J6.out.mono ?_
             rintro e w8 ⟨rfl, hb8⟩))
        go_meet
        exact ⟨rfl, stepN (stepN hb6 hb7) hb8⟩
    case rest =>
      obtain ⟨rfl, hbA⟩ := hcut
      have HBA := Lib.hid hbA
      have HBW := Lib.hid (stepN HB5.out hbA)
      have HLA := Lib.hid (HL5.out.below hbA (Nat.le_refl _))
      clear hbA R5 I5 I6 HL5
      obtain ⟨x0, x1, x2, x3, x4, x5, x6⟩ := CE.out wc HBW.out
      have hblt := World.block_lt_of_cell? _ _ x0
      by_cases hz : ups.length = 0
      · have hzI : (ups.length : Int) = 0 := by omega
        have hzB : ((ups.length : Int) == 0) = true := by simp [hz]
        go_wp2_with (go_at_call 11; refine (SANE.out _ (HBW.out.alloc HBW.out.size _)).mono ?_; rintro e wz ⟨rfl, hbz⟩)
        go_ret
        exact ⟨rfl, hbz⟩
      · have hzI : ¬ (ups.length : Int) = 0 := by omega
        have hzB : ((ups.length : Int) == 0) = false := by simpa using hz
        have hql : d % ups.length < ups.length := Nat.mod_lt _ (by omega)
        have hremd : Int.tmod (d : Int) (ups.length : Int) = ((d % ups.length : Nat) : Int) := by rw [← Int.ofNat_tmod]
        have hltq : ((d % ups.length : Nat) : Int) < ups.length := by omega
        obtain ⟨hmn, hpin⟩ := MEMN.out ups[d % ups.length] (List.getElem_mem hql)
        obtain ⟨b3, o3', hX3, hpf, -⟩ := UPT.out wc HBW.out (d % ups.length) hql
        subst hX3
        have UPC := Lib.hid (fun (W : World) (hW : Below w.heap.size w W) => (by
          obtain ⟨b3', o3'', hX, -, h⟩ := UPT.out W hW (d % ups.length) hql
          cases hX
          exact h : W.cell? ⟨b3, o3' + d % ups.length * 6, none⟩ = some (nm ups[d % ups.length])))
        have hpinS : Hid (Hr.InS S ups[d % ups.length]) := ⟨hpin, hpf⟩
        clear hpin MEMN UPT
        generalize ups[d % ups.length] = PN at *
        generalize d % ups.length = q at *
        have hq0 : (0 : Int) ≤ q := by omega
        go_upto_region 12 with fail
        have hg : Has (wc.alloc (.cells #[nm XN, .bool dd, .slice X2 m2 k2, .slice (some ⟨b3, o3', none⟩) ups.length k3, .slice X4 m4 k4, .slice X5 m5 k5, .slice X6 m6 k6] 48)) wc.heap.size 48 #[nm XN, .bool dd, .slice X2 m2 k2, .slice (some ⟨b3, o3', none⟩) ups.length k3, .slice X4 m4 k4, .slice X5 m5 k5, .slice X6 m6 k6] := Has.new _ _ _
        have hbN : Below wc.heap.size wc (wc.alloc (.cells #[nm XN, .bool dd, .slice X2 m2 k2, .slice (some ⟨b3, o3', none⟩) ups.length k3, .slice X4 m4 k4, .slice X5 m5 k5, .slice X6 m6 k6] 48)) := (Below.refl _ _).alloc (Nat.le_refl _) _
        have HG := Lib.hid hg
        have HBN := Lib.hid hbN
        clear hg hbN
        generalize wc.alloc (.cells #[nm XN, .bool dd, .slice X2 m2 k2, .slice (some ⟨b3, o3', none⟩) ups.length k3, .slice X4 m4 k4, .slice X5 m5 k5, .slice X6 m6 k6] 48) = wN at *
        have y0 := HG.out.cell 0
        have y3 := HG.out.cell 3
        have ylt := HG.out.lt
        simp only [List.getElem?_toArray, List.getElem?_cons_zero, List.getElem?_cons_succ] at y0 y3
        have yp := UPC.out wN (stepN HBW.out HBN.out)
        have hblt3 := World.block_lt_of_cell? _ _ yp
        go_cut [15] from 67 (fun v wx => ∃ gl, v = .pointer (some ⟨gl, 0, none⟩) ∧ Has wx gl 64 #[nm XN, nm PN] ∧ Below wN.heap.size wN wx)
        case first =>
          go_region
          all_goals
            go_wp2_with fail
            go_meet
            exact ⟨_, rfl, Has.new _ _ _, ((Below.refl _ _).alloc (Nat.le_refl _) _).drew⟩
        case rest =>
          obtain ⟨gl, rfl, hgl, hbl⟩ := hcut
          have HLD := Lib.hid ((HLA.out.below HBN.out (Nat.le_refl _)).below hbl (Nat.le_refl _))
          have HBD := Lib.hid (stepN (stepN HBW.out HBN.out) hbl)
          have HGL := Lib.hid hgl
          clear hgl hbl HLA HBN HG y0 y3 ylt yp hblt3 UPC CE x0 x1 x2 x3 x4 x5 x6 hblt
          go_wp2_with fail
          generalize hwD : wc = wD at HLD HBD HGL
          go_loopw [16, 17] (fun s i wr => ∃ (y : Nat) (bq : Bool), y ≤ nd.length ∧ i = .int .i64 y ∧ s = .bool bq ∧ Hid (bq = (nd.take y).contains (XN, PN)) ∧ Hid (Below wD.heap.size wD wr)) (fun _ i _ => nd.length - (intOf i).toNat)
          case atStart => exact ⟨0, false, Nat.zero_le _, rfl, rfl, (by show _ = _; simp), Below.refl _ _⟩
          case round =>
            obtain ⟨y, bq, hy, rfl, rfl, HQ, HBY⟩ := hrel
            have g0 := (HGL.out.below HBY.out HGL.out.lt).cell 0
            have g1 := (HGL.out.below HBY.out HGL.out.lt).cell 1
            have glt := (HGL.out.below HBY.out HGL.out.lt).lt
            simp only [List.getElem?_toArray, List.getElem?_cons_zero, List.getElem?_cons_succ] at g0 g1
            by_cases hlty : y < nd.length
            · obtain ⟨-, A5', c5', hv5, -, hatl⟩ := HLD.out.below HBY.out (Nat.le_refl _)
              cases hv5
              obtain ⟨b9, o9, hA9, hal9⟩ := hatl (by omega)
              subst hA9
              obtain ⟨z0, z1⟩ := hal9 y hlty
              have hblt9 := World.block_lt_of_cell? _ _ z0
              have hltyI : (y : Int) < nd.length := by omega
              have hy0 : (0 : Int) ≤ y := by omega
              have hw1 : IntKind.i64.wrap ((y : Int) + 1) = (y : Int) + 1 := IntWalk.i64_in _ (by omega)
              have HCS := Lib.hid (contains_step nd (XN, PN) hlty)
              clear hatl hal9
              generalize nd[y] = X at *
              obtain ⟨N1, N2⟩ := X
              dsimp only at z0 z1
              by_cases h1 : N1 = XN
              · by_cases h2 : N2 = PN
                · subst h1 h2
                  have HN := Lib.hid (show (true = (nd.take (y + 1)).contains (N1, N2)) by rw [HCS.out]; simp)
                  cases bq
                  all_goals
                    go_wp2_with fail
                    go_quiet (fail)
                    go_wp2_with fail
                    go_roundw
                    case rel => exact ⟨y + 1, true, by omega, by go_num, rfl, HN, below_drewN HBY.out _⟩
                    case measure => simp [intOf]; omega
                · subst h1
                  have heb : (N2 == PN) = false := by simpa using h2
                  have HN := Lib.hid (show (bq = (nd.take (y + 1)).contains (N1, PN)) by rw [HCS.out, HQ.out]; simp [h2])
                  cases bq
                  all_goals
                    go_wp2_with fail
                    go_quiet (fail)
                    go_wp2_with fail
                    go_roundw
                    case rel => exact ⟨y + 1, _, by omega, by go_num, rfl, HN, below_drewN HBY.out _⟩
                    case measure => simp [intOf]; omega
              · have heb : (N1 == XN) = false := by simpa using h1
                have HN := Lib.hid (show (bq = (nd.take (y + 1)).contains (XN, PN)) by rw [HCS.out, HQ.out]; simp [h1])
                cases bq
                all_goals
                  go_wp2_with fail
                  go_quiet (fail)
                  go_wp2_with fail
                  go_roundw
                  case rel => exact ⟨y + 1, _, by omega, by go_num, rfl, HN, below_drewN HBY.out _⟩
                  case measure => simp [intOf]; omega
            · obtain rfl : y = nd.length := by omega
              have hq2 := HQ.out
              rw [List.take_length] at hq2
              have hbv : bq = Hr.isUp (Hr.links (Hr.less S [(XN, PN)])) XN PN := by
                rw [hq2, Bool.eq_iff_iff, List.contains_iff_mem]
                exact hmn
              have HBZ := Lib.hid (stepN HBD.out HBY.out)
              have SN2 := Lib.hid (fun (W : World) (hW : Below wr.heap.size wr W) => (SANL.out W).mono (fun e w' h => (⟨h.1, stepN hW h.2⟩ : e = .returned (.bool true) ∧ Below wr.heap.size wr w')))
              have LK2 := Lib.hid (fun (X : World) (hX : Below wr.heap.size wr X) => (LKD.out (X.alloc (.cells #[nm XN, nm PN] 64)) (stepN HBZ.out (hX.alloc hX.size _)) _ [(XN, PN)] (link_laid X XN PN hinX.out.2 hpinS.out.2) (by simp)).mono (fun e w' h => (by
                obtain ⟨o, h1, h2, h3⟩ := h
                exact ⟨o, h1, h2, stepN (hX.alloc hX.size _) h3⟩ : ∃ o, e = .returned o ∧ SysAt w' o (Hr.less S [(XN, PN)]) ∧ Below wr.heap.size wr w')))
              have GIVE := Lib.hid (fun (W : World) (hW : Below wr.heap.size wr W) => (⟨kept_below hW (Nat.le_refl _) _ _ g0, kept_below hW (Nat.le_refl _) _ _ g1, hW⟩ : W.cell? ⟨gl, 0, none⟩ = some (nm XN) ∧ W.cell? ⟨gl, 1, none⟩ = some (nm PN) ∧ Below wr.heap.size wr W))
              clear HQ hq2 hmn HLD HGL IS
              have IS2 := Lib.hid (fun (W : World) (o : Value) (hW : Below wr.heap.size wr W) (ho : SysAt W o (Hr.less S [(XN, PN)])) => (ISL.out W o [(XN, PN)] ho XN PN hinX.out hpinS.out).mono (fun e w' h => (⟨h.1, stepN hW h.2⟩ : e = .returned (.bool (Hr.isUp (Hr.links (Hr.less S [(XN, PN)])) XN PN)) ∧ Below wr.heap.size wr w')))
              clear ISL
              subst hbv
              generalize Hr.isUp (Hr.links (Hr.less S [(XN, PN)])) XN PN = vv at *
              cases vv
              all_goals
                go_wp2_with fail
                go_region_held3 (fun W => W.cell? ⟨gl, 0, none⟩ = some (nm XN) ∧ W.cell? ⟨gl, 1, none⟩ = some (nm PN) ∧ Below wr.heap.size wr W)
                  (with_reducible (refine GIVE.out _ ?_; first | exact hbz | exact hby | exact hbx | exact (Below.refl _ _).drew | exact hbx.alloc hbx.size _))
                  (first
                    | (go_at_call 11; refine (SN2.out _ (by with_reducible exact (Below.refl _ _).drew)).mono ?_; rintro e wx ⟨rfl, hbx⟩)
                    | (go_at_call 27; refine (LK2.out _ hbx).mono ?_; rintro e wy ⟨oy, rfl, hsoy, hby⟩)
                    | (go_at_call 14; refine (IS2.out _ oy hby hsoy).mono ?_; rintro e wz ⟨rfl, hbz⟩))
                all_goals
                  go_wp2_with fail
                  go_ret
                  exact ⟨rfl, stepN HBZ.out hbz⟩
end Go.Proofs.Ytojfimbanaijdaa
