/-
  What the law's function linked returns: the system less some links.
-/
import Derived.Test.YtojfimbanaijdaaHLinkM
import Derived.Deep.AppendLies
import Derived.Deep.RegionLaw
namespace Go.Proofs.Ytojfimbanaijdaa
open Go.RowKit Go.Shelf
attribute [local go_sem] Oper.semAt_some

/-- What is kept of a class's parents. -/
def Hr.keepP (G : List (Hr.Nm × Hr.Nm)) (N : Hr.Nm) (l : List Hr.Nm) : List Hr.Nm := l.filter fun p => !G.contains (N, p)
theorem Hr.keepP_step (G : List (Hr.Nm × Hr.Nm)) (N : Hr.Nm) (l : List Hr.Nm) {k : Nat} (hk : k < l.length) : Hr.keepP G N (l.take (k + 1)) = Hr.keepP G N (l.take k) ++ (if G.contains (N, l[k]) then [] else [l[k]]) := by
  unfold Hr.keepP
  rw [List.take_succ_eq_append_getElem hk, List.filter_append]
  congr 1
  by_cases h : (N, l[k]) ∈ G <;> simp [h]
theorem contains_step (G : List (Hr.Nm × Hr.Nm)) (y : Hr.Nm × Hr.Nm) {j : Nat} (hj : j < G.length) : (G.take (j + 1)).contains y = ((G.take j).contains y || (G[j] == y)) := by
  rw [Bool.eq_iff_iff, List.take_succ_eq_append_getElem hj]
  simp only [Bool.or_eq_true, List.contains_iff_mem, beq_iff_eq, List.mem_append, List.mem_singleton]
  exact or_congr Iff.rfl eq_comm
/-- The world between two parents of a class: block g is the class's own, its parents' row lies behind it. -/
structure LkI (g : Nat) (w0 : World) (N : Hr.Nm) (x : Value) (l : List Hr.Nm) (wr : World) : Prop where
  hc : Has wr g 48 #[nm N, .bool false, .slice none 0 0, x, .slice none 0 0, .slice none 0 0, .slice none 0 0]
  hx : ∃ Q : List PRow, QOk Q ∧ Q.map (·.1) = l ∧ wr.ownsRow (g + 1) 52 6 x l.length (qCells Q)
  hb : Below g w0 wr
theorem LkI.start (w0 : World) (N : Hr.Nm) : LkI w0.heap.size w0 N (.slice none 0 0) [] (w0.alloc (.cells #[nm N, .bool false, .slice none 0 0, .slice none 0 0, .slice none 0 0, .slice none 0 0, .slice none 0 0] 48)) :=
  ⟨Has.new _ _ _, ⟨[], (fun x hx => by cases hx), rfl, World.ownsRow_nil _ _ _ _⟩, (Below.refl _ _).alloc (Nat.le_refl _) _⟩
theorem LkI.drew {g : Nat} {w0 : World} {N : Hr.Nm} {x : Value} {l : List Hr.Nm} {wr : World} (h : LkI g w0 N x l wr) : LkI g w0 N x l wr.drew := ⟨h.hc, h.hx, h.hb.drew⟩
theorem LkI.drewN {g : Nat} {w0 : World} {N : Hr.Nm} {x : Value} {l : List Hr.Nm} {wr : World} (h : LkI g w0 N x l wr) (n : Nat) : LkI g w0 N x l (wr.drewN n) := ⟨h.hc, h.hx, below_drewN h.hb n⟩

theorem LkI.next {g : Nat} {w0 W w2 : World} {N PN : Hr.Nm} {x : Value} {l : List Hr.Nm} {tl : List Value} {Q : List PRow} {gg cap : Nat} (ht : Tail5 tl) (hQ : QOk Q) (hQm : Q.map (·.1) = l)
    (hc : Has W g 48 #[nm N, .bool false, .slice none 0 0, x, .slice none 0 0, .slice none 0 0, .slice none 0 0]) (hx : W.ownsRow (g + 1) 52 6 x l.length (qCells Q)) (hb : Below g w0 W) (hgs : g ≤ W.heap.size)
    (hown : w2.ownsRow (g + 1) 52 6 (.slice (some ⟨gg, 0, none⟩) (l.length + 1) cap) (l.length + 1) (qCells Q ++ qCell (PN, tl))) (hg : W.grownBy w2 x.ownBlock) :
    LkI g w0 N (.slice (some ⟨gg, 0, none⟩) (l.length + 1) cap) (l ++ [PN]) (w2.setCell ⟨g, 3, none⟩ (.slice (some ⟨gg, 0, none⟩) (l.length + 1) cap)) := by
  have hb3 := Has.grown hc hg (own_apart hx hc (by decide))
  refine ⟨hb3.set 3 _, ⟨Q ++ [(PN, tl)], fun y hy => ?_, ?_, ?_⟩, ?_⟩
  · rcases List.mem_append.1 hy with hy | hy
    · exact hQ y hy
    · rw [List.mem_singleton.1 hy]; exact ht
  · rw [List.map_append, hQm]; rfl
  · have e : qCells (Q ++ [(PN, tl)]) = qCells Q ++ qCell (PN, tl) := by rw [qCells_append]; simp [qCells]
    rw [e, List.length_append]
    exact hown.kept (grown_set w2 g 3 _) (.inr (own_apart hown hb3 (by decide)).symm)
  · exact (Below.grown hb hg hgs (fun q hq => by have := own_ge hx hq; omega)).setCell (by exact Nat.le_refl g) _

set_option maxRecDepth 100000 in
set_option maxHeartbeats 8000000 in
theorem linked_any (v u : Value) (S : List Hr.Cls) (G : List (Hr.Nm × Hr.Nm)) (w : World) (h : SysAt w v S) (hS : S.length ≤ 24) (h4 : ∀ i (hi : i < S.length), S[i].ups.length ≤ 4) (hu : LinksAt w u G) (hG : G.length ≤ 1000000) :
    Calls Try.prog 27 #[v, u] w fun e w' => ∃ o, e = .returned o ∧ SysAt w' o (Hr.less S G) ∧ Below w.heap.size w w' := by
  obtain ⟨i0, hi, hz0, hz1, hz2⟩ := info_parts parInfo
  obtain ⟨j0, hj, hy0, hy1, hy2⟩ := info_parts clsInfo
  obtain ⟨hfine, A2, cp2, rfl, hcp2, hlat⟩ := hu
  obtain ⟨A, cp, rfl, hat⟩ := h
  have GC := Lib.hid (fun (W : World) (hW : Below w.heap.size w W) (j : Nat) (hj : j < G.length) => (by
    obtain ⟨b3, o3, hA, h3⟩ := hlat (by omega)
    exact ⟨b3, o3, hA, kept_below hW (Nat.le_refl _) _ _ (h3 j hj).1, kept_below hW (Nat.le_refl _) _ _ (h3 j hj).2⟩ : ∃ b3 o3, A2 = some ⟨b3, o3, none⟩ ∧ W.cell? ⟨b3, o3 + j * 2, none⟩ = some (nm G[j].1) ∧ W.cell? ⟨b3, o3 + j * 2 + 1, none⟩ = some (nm G[j].2)))
  have CLS := Lib.hid (fun (W : World) (hW : Below w.heap.size w W) (k : Nat) (hk : k < S.length) => (by
    obtain ⟨b5, o5, hA, h3⟩ := hat (by omega)
    obtain ⟨h0, h1, d, B2, n2, c2, A3, c3, B4, n4, c4, Ba, na, ca, B6, n6, c6, -, -, hc3, hu, -, -, -⟩ := h3 k hk
    obtain ⟨A3', c3', hv3, hup⟩ := hu
    cases hv3
    exact ⟨b5, o5, hA, h0, kept_below hW (Nat.le_refl _) _ _ h1, A3, c3, kept_below hW (Nat.le_refl _) _ _ hc3, fun p hp => by
      obtain ⟨b6, o6, hA3, hall⟩ := hup (by omega)
      obtain ⟨q0, q1, A1, n1, c1, A2, n2, c2, A3, n3, c3, A4, n4, c4, A5, n5, c5, a1, a2, a3, a4, a5⟩ := hall p hp
      exact ⟨b6, o6, hA3, q0, kept_below hW (Nat.le_refl _) _ _ q1, A1, n1, c1, A2, n2, c2, A3, n3, c3, A4, n4, c4, A5, n5, c5, kept_below hW (Nat.le_refl _) _ _ a1, kept_below hW (Nat.le_refl _) _ _ a2, kept_below hW (Nat.le_refl _) _ _ a3, kept_below hW (Nat.le_refl _) _ _ a4, kept_below hW (Nat.le_refl _) _ _ a5⟩⟩ :
    ∃ b5 o5, A = some ⟨b5, o5, none⟩ ∧ S[k].name.length ≤ 140737488355328 ∧ W.cell? ⟨b5, o5 + k * 7, none⟩ = some (nm S[k].name) ∧ ∃ A3 c3, W.cell? ⟨b5, o5 + k * 7 + 3, none⟩ = some (.slice A3 S[k].ups.length c3) ∧ ∀ p (hp : p < S[k].ups.length), ∃ b6 o6, A3 = some ⟨b6, o6, none⟩ ∧ S[k].ups[p].length ≤ 140737488355328 ∧ W.cell? ⟨b6, o6 + p * 6, none⟩ = some (nm S[k].ups[p]) ∧ ∃ A1 n1 c1 A2 n2 c2 A3 n3 c3 A4 n4 c4 A5 n5 c5, W.cell? ⟨b6, o6 + p * 6 + 1, none⟩ = some (.slice A1 n1 c1) ∧ W.cell? ⟨b6, o6 + p * 6 + 2, none⟩ = some (.slice A2 n2 c2) ∧ W.cell? ⟨b6, o6 + p * 6 + 3, none⟩ = some (.slice A3 n3 c3) ∧ W.cell? ⟨b6, o6 + p * 6 + 4, none⟩ = some (.slice A4 n4 c4) ∧ W.cell? ⟨b6, o6 + p * 6 + 5, none⟩ = some (.slice A5 n5 c5)))
  clear hat hlat
  go_enter Try.func27, Try.ntmps27
  go_wp2_with fail
  go_loopw [5, 6] (fun s i wr => ∃ (k : Nat) (xs : List ClsRow), k ≤ S.length ∧ i = .int .i64 k ∧ Hid (wr.ownsRow w.heap.size 48 7 s k (clsCells xs)) ∧ Hid (LkAt wr w.heap.size xs ((S.take k).map (Hr.lessC G))) ∧ Hid (Below w.heap.size w wr)) (fun _ i _ => S.length - (intOf i).toNat)
  case atStart => exact ⟨0, [], Nat.zero_le _, rfl, World.ownsRow_nil _ _ _ _, (by show LkAt w w.heap.size [] ((S.take 0).map _); rw [List.take_zero]; exact trivial), Below.refl _ _⟩
  case round =>
    obtain ⟨k, xs, hk, rfl, HO, HX, HB⟩ := hrel
    by_cases hlt : k < S.length
    · obtain ⟨b5, o5, hA, hnl, cn, A3, c3, cu3, hup⟩ := CLS.out wr HB.out k hlt
      subst hA
      have hblt5 := World.block_lt_of_cell? _ _ cn
      have hltI : (k : Int) < S.length := by omega
      have hk0 : (0 : Int) ≤ k := by omega
      have hw1 : IntKind.i64.wrap ((k : Int) + 1) = (k : Int) + 1 := IntWalk.i64_in _ (by omega)
      have hst : (S.take (k + 1)).map (Hr.lessC G) = (S.take k).map (Hr.lessC G) ++ [⟨S[k].name, Hr.keepP G S[k].name S[k].ups⟩] := by
        rw [List.take_succ_eq_append_getElem hlt, List.map_append]
        rfl
      have HST := Lib.hid hst
      have hu4 := h4 k hlt
      have HCL := Lib.hid (fun (W : World) (hW : Below wr.heap.size wr W) => (by
        obtain ⟨b5', o5', hA', -, c1, A3, c3, c2, hp⟩ := CLS.out W (stepN HB.out hW) k hlt
        cases hA'
        exact ⟨c1, A3, c3, c2, hp⟩ :
        W.cell? ⟨b5, o5 + k * 7, none⟩ = some (nm S[k].name) ∧ ∃ A3 c3, W.cell? ⟨b5, o5 + k * 7 + 3, none⟩ = some (.slice A3 S[k].ups.length c3) ∧ ∀ p (hp : p < S[k].ups.length), ∃ b6 o6, A3 = some ⟨b6, o6, none⟩ ∧ S[k].ups[p].length ≤ 140737488355328 ∧ W.cell? ⟨b6, o6 + p * 6, none⟩ = some (nm S[k].ups[p]) ∧ ∃ A1 n1 c1 A2 n2 c2 A3 n3 c3 A4 n4 c4 A5 n5 c5, W.cell? ⟨b6, o6 + p * 6 + 1, none⟩ = some (.slice A1 n1 c1) ∧ W.cell? ⟨b6, o6 + p * 6 + 2, none⟩ = some (.slice A2 n2 c2) ∧ W.cell? ⟨b6, o6 + p * 6 + 3, none⟩ = some (.slice A3 n3 c3) ∧ W.cell? ⟨b6, o6 + p * 6 + 4, none⟩ = some (.slice A4 n4 c4) ∧ W.cell? ⟨b6, o6 + p * 6 + 5, none⟩ = some (.slice A5 n5 c5)))
      have HFU : Hid (FineN S[k].ups) := fun s hs => by
        obtain ⟨p, hp, rfl⟩ := List.getElem_of_mem hs
        obtain ⟨b6, o6, -, hf, -⟩ := hup p hp
        exact hf
      clear hst hup cu3
      generalize S[k].name = N at *
      generalize S[k].ups = us at *
      have h1 := LkI.start wr N
      have hkz : ([] : List Hr.Nm) = Hr.keepP G N (us.take 0) := by unfold Hr.keepP; simp
      rw [hkz] at h1
      have H1 := Lib.hid h1
      clear h1 hkz
      go_wp2_with fail
      generalize wr.alloc (.cells #[nm N, .bool false, .slice none 0 0, .slice none 0 0, .slice none 0 0, .slice none 0 0, .slice none 0 0] 48) = w1 at *
      generalize wr = w0 at *
      go_loopw [8] (fun i wr => ∃ (p : Nat) (x : Value), p ≤ us.length ∧ i = .int .i64 p ∧ Hid (LkI w0.heap.size w0 N x (Hr.keepP G N (us.take p)) wr)) (fun i _ => us.length - (intOf i).toNat)
      case atStart => exact ⟨0, _, Nat.zero_le _, rfl, H1⟩
      case round =>
        obtain ⟨p, x, hp, rfl, HI⟩ := hrel
        obtain ⟨cn2, A3, c3, cu3, hup⟩ := HCL.out wr HI.out.hb
        have hblt2 := World.block_lt_of_cell? _ _ cn2
        by_cases hltp : p < us.length
        · obtain ⟨b6, o6, hA3, hf6, q0, A1, n1, c1, A2, n2, c2, A4, n4, c4, A5, n5, c5, A6, n6, c6, q1, q2, q3, q4, q5⟩ := hup p hltp
          subst hA3
          have hltpI : (p : Int) < us.length := by omega
          have hp0 : (0 : Int) ≤ p := by omega
          have hw2 : IntKind.i64.wrap ((p : Int) + 1) = (p : Int) + 1 := IntWalk.i64_in _ (by omega)
          have HKS := Lib.hid (Hr.keepP_step G N us hltp)
          have hll : (Hr.keepP G N (us.take p)).length ≤ 4 := by
            unfold Hr.keepP
            have := List.length_filter_le (fun p => !G.contains (N, p)) (us.take p)
            rw [List.length_take] at this
            omega
          clear hup
          have HPE := Lib.hid (fun (W : World) (hW : Below w0.heap.size w0 W) => (by
            obtain ⟨-, A3, c3, hc, hup⟩ := HCL.out W hW
            obtain ⟨b6, o6, hA, -, h⟩ := hup p hltp
            exact ⟨b6, o6, c3, by rw [← hA]; exact hc, h⟩ : ∃ b6 o6 c3, W.cell? ⟨b5, o5 + k * 7 + 3, none⟩ = some (.slice (some ⟨b6, o6, none⟩) us.length c3) ∧ W.cell? ⟨b6, o6 + p * 6, none⟩ = some (nm us[p]) ∧ ∃ A1 n1 c1 A2 n2 c2 A3 n3 c3 A4 n4 c4 A5 n5 c5, W.cell? ⟨b6, o6 + p * 6 + 1, none⟩ = some (.slice A1 n1 c1) ∧ W.cell? ⟨b6, o6 + p * 6 + 2, none⟩ = some (.slice A2 n2 c2) ∧ W.cell? ⟨b6, o6 + p * 6 + 3, none⟩ = some (.slice A3 n3 c3) ∧ W.cell? ⟨b6, o6 + p * 6 + 4, none⟩ = some (.slice A4 n4 c4) ∧ W.cell? ⟨b6, o6 + p * 6 + 5, none⟩ = some (.slice A5 n5 c5)))
          generalize us[p] = PN at *
          generalize Hr.keepP G N (us.take p) = l at *
          generalize hWQ : wr = wp at *
          clear hWQ
          go_wp2_with fail
          go_loopw [9, 10] (fun s i wr => ∃ (j : Nat) (bb : Bool), j ≤ G.length ∧ i = .int .i64 j ∧ s = .bool bb ∧ Hid (bb = !(G.take j).contains (N, PN)) ∧ Hid (LkI w0.heap.size w0 N x l wr)) (fun _ i _ => G.length - (intOf i).toNat)
          case atStart => exact ⟨0, true, Nat.zero_le _, rfl, rfl, (by show _ = _; simp), HI⟩
          case round =>
            obtain ⟨j, bb, hjl, rfl, rfl, HBB, HJ⟩ := hrel
            obtain ⟨b6, o6, c3, cu4, q0, A1, n1, c1, A3, n3, c7, A4, n4, c4, A5, n5, c5, A6, n6, c6, q1, q2, q3, q4, q5⟩ := HPE.out wr HJ.out.hb
            have cn4 := (HCL.out wr HJ.out.hb).1
            have hblt4 := World.block_lt_of_cell? _ _ cn4
            have hblt6 := World.block_lt_of_cell? _ _ q0
            have xlt := HJ.out.hc.lt
            by_cases hltj : j < G.length
            · obtain ⟨b9, o9, hA2, g0, g1⟩ := GC.out wr (stepN HB.out HJ.out.hb) j hltj
              subst hA2
              have hblt9 := World.block_lt_of_cell? _ _ g0
              have x0 := HJ.out.hc.cell 0
              simp only [List.getElem?_toArray, List.getElem?_cons_zero] at x0
              have hltjI : (j : Int) < G.length := by omega
              have hj0 : (0 : Int) ≤ j := by omega
              have hw3 : IntKind.i64.wrap ((j : Int) + 1) = (j : Int) + 1 := IntWalk.i64_in _ (by omega)
              have hcs := contains_step G (N, PN) hltj
              have HCS := Lib.hid hcs
              clear hcs q1 q2 q3 q4 q5
              generalize G[j] = X at *
              obtain ⟨N1, N2⟩ := X
              dsimp only at g0 g1
              by_cases h1 : N1 = N
              · subst h1
                by_cases h2 : N2 = PN
                · subst h2
                  have HN := Lib.hid (show (false = !(G.take (j + 1)).contains (N1, N2)) by rw [HCS.out]; simp)
                  go_wp2_with fail
                  go_quiet (fail)
                  go_wp2_with fail
                  go_roundw
                  case rel => exact ⟨j + 1, false, by omega, by go_num, rfl, HN, HJ.out.drewN _⟩
                  case measure => simp [intOf]; omega
                · have heb : (N2 == PN) = false := by simpa using h2
                  have HN := Lib.hid (show (bb = !(G.take (j + 1)).contains (N1, PN)) by rw [HCS.out, HBB.out]; simp [h2])
                  go_wp2_with fail
                  go_quiet (fail)
                  go_wp2_with fail
                  go_roundw
                  case rel => exact ⟨j + 1, bb, by omega, by go_num, rfl, HN, HJ.out.drewN _⟩
                  case measure => simp [intOf]; omega
              · have heb : (N1 == N) = false := by simpa using h1
                have HN := Lib.hid (show (bb = !(G.take (j + 1)).contains (N, PN)) by rw [HCS.out, HBB.out]; simp [h1])
                go_wp2_with fail
                go_quiet (fail)
                go_wp2_with fail
                go_roundw
                case rel => exact ⟨j + 1, bb, by omega, by go_num, rfl, HN, HJ.out.drewN _⟩
                case measure => simp [intOf]; omega
            · obtain rfl : j = G.length := by omega
              have hbb := HBB.out
              rw [List.take_length] at hbb
              cases bb
              · have hl : Hr.keepP G N (us.take (p + 1)) = l := by
                  have h1 : G.contains (N, PN) = true := by simpa using hbb.symm
                  rw [HKS.out, h1, if_pos rfl, List.append_nil]
                have HL := Lib.hid hl
                clear hl hbb q0 q1 q2 q3 q4 q5 cu4
                go_wp2_with fail
                go_roundw
                case rel => exact ⟨p + 1, x, by omega, by go_num, (by rw [HL.out]; exact HJ.out)⟩
                case measure => simp [intOf]; omega
              · have hl : Hr.keepP G N (us.take (p + 1)) = l ++ [PN] := by
                  have h1 : G.contains (N, PN) = false := by simpa using hbb.symm
                  rw [HKS.out, h1, if_neg (by simp)]
                have HL := Lib.hid hl
                obtain ⟨hcc, ⟨Q, hQ, hQm, hown⟩, hbw⟩ := HJ.out
                have hgs : w0.heap.size ≤ wr.heap.size := hbw.size
                obtain ⟨xA, xc, rfl⟩ := own_len hown
                have b3 := hcc.cell 3
                simp only [List.getElem?_toArray, List.getElem?_cons_zero, List.getElem?_cons_succ] at b3
                have ht5 : Hid (Tail5 [.slice A1 n1 c1, .slice A3 n3 c7, .slice A4 n4 c4, .slice A5 n5 c5, .slice A6 n6 c6]) := ⟨A1, n1, c1, A3, n3, c7, A4, n4, c4, A5, n5, c5, A6, n6, c6, rfl⟩
                have hnews : ∀ j u, (qCell (PN, [.slice A1 n1 c1, .slice A3 n3 c7, .slice A4 n4 c4, .slice A5 n5 c5, .slice A6 n6 c6]))[j]? = some u → (wr.alloc (.cells #[nm PN, .slice A1 n1 c1, .slice A3 n3 c7, .slice A4 n4 c4, .slice A5 n5 c5, .slice A6 n6 c6] 52)).drew.cell? ((⟨wr.heap.size, 0, none⟩ : Addr).add j) = some u := fun j u h => World.news_of_block (w := (wr.alloc (.cells #[nm PN, .slice A1 n1 c1, .slice A3 n3 c7, .slice A4 n4 c4, .slice A5 n5 c5, .slice A6 n6 c6] 52)).drew) (B := wr.heap.size) (cs := #[nm PN, .slice A1 n1 c1, .slice A3 n3 c7, .slice A4 n4 c4, .slice A5 n5 c5, .slice A6 n6 c6]) (t := 52) (fr := (0, 0)) (Has.new wr _ _) j u h
                have N1 := Lib.hid hnews
                have N2 : Hid ((wr.alloc (.cells #[nm PN, .slice A1 n1 c1, .slice A3 n3 c7, .slice A4 n4 c4, .slice A5 n5 c5, .slice A6 n6 c6] 52)).drew.ownsRow (w0.heap.size + 1) 52 6 (.slice xA l.length xc) l.length (qCells Q)) := own_drew (own_alloc hown _)
                have N3 : Hid (Has (wr.alloc (.cells #[nm PN, .slice A1 n1 c1, .slice A3 n3 c7, .slice A4 n4 c4, .slice A5 n5 c5, .slice A6 n6 c6] 52)).drew w0.heap.size 48 #[nm N, .bool false, .slice none 0 0, .slice xA l.length xc, .slice none 0 0, .slice none 0 0, .slice none 0 0]) := hcc.alloc _
                have N5 : Hid (Below w0.heap.size w0 (wr.alloc (.cells #[nm PN, .slice A1 n1 c1, .slice A3 n3 c7, .slice A4 n4 c4, .slice A5 n5 c5, .slice A6 n6 c6] 52)).drew) := (hbw.alloc hgs _).drew
                have N6 : Hid ((wr.alloc (.cells #[nm PN, .slice A1 n1 c1, .slice A3 n3 c7, .slice A4 n4 c4, .slice A5 n5 c5, .slice A6 n6 c6] 52)).drew.heap.size = wr.heap.size + 1) := by show _ = _; simp
                have N7 : Hid (w0.heap.size + 1 ≤ (wr.alloc (.cells #[nm PN, .slice A1 n1 c1, .slice A3 n3 c7, .slice A4 n4 c4, .slice A5 n5 c5, .slice A6 n6 c6] 52)).drew.heap.size) := by rw [N6.out]; show _ ≤ _; omega
                have N8 : Hid (l.length + 1 ≤ maxLen) := by show _ ≤ _; unfold maxLen; omega
                have N9 : Hid ((l.length + 1) * 136 ≤ 140737488355328) := by show _ ≤ _; omega
                have HQ := Lib.hid hQ
                have HQM := Lib.hid hQm
                clear hnews hl hbb hcc hown hbw hQ hQm HJ HKS
                go_wp2_with fail
                go_region_law ((refine step_append_lies _ rfl (.tmp 58) (.tmp 67) 44 rfl (w0.heap.size + 1) 52 i0 (.agg #[.string ⟨#[]⟩, .slice none 0 0, .slice none 0 0, .slice none 0 0, .slice none 0 0, .slice none 0 0]) 6 136 Try.underlying44 hi hz0 hz1 hz2 rfl ?_ (.slice xA l.length xc) l.length (qCells Q) ?_ ?_ ⟨wr.heap.size, 0, none⟩ 1 1 (qCell (PN, [.slice A1 n1 c1, .slice A3 n3 c7, .slice A4 n4 c4, .slice A5 n5 c5, .slice A6 n6 c6])) ?_ rfl ?_ ?_ ?_ N8.out N9.out ?_ (wr.heap.size + 1) ?_ ?_; decide; simp [Act.eval]; exact N2.out; simp [Act.eval]; exact N1.out; simp [qCell, Value.oneCell']; decide; exact N7.out; exact N6.out; intro gg cap w1 hown1 hg1 hat1 hlt1; have hb3 := Has.grown N3.out hg1 (own_apart N2.out N3.out (by decide)); have k1 := hb3.cell 3; have q1 := hb3.free 3))
                all_goals
                  go_wp2_with fail
                  go_roundw
                  case rel =>
                    refine ⟨p + 1, .slice (some ⟨gg, 0, none⟩) (l.length + 1) cap, by omega, by go_num, ?_⟩
                    show LkI _ _ _ _ _ _
                    rw [HL.out]
                    exact LkI.next ht5.out HQ.out HQM.out N3.out N2.out N5.out (by have := N7.out; omega) hown1 hg1
                  case measure => simp [intOf]; omega
        · obtain rfl : p = us.length := by omega
          rw [List.take_length] at HI
          obtain ⟨hcc, ⟨Q, hQ, hQm, hown⟩, hbw⟩ := HI.out
          have hgs : w0.heap.size ≤ wr.heap.size := hbw.size
          have hws : w.heap.size ≤ w0.heap.size := HB.out.size
          obtain ⟨xA, xc, rfl⟩ := own_len hown
          have hfl : FineN (Hr.keepP G N us) := fun s hs => HFU.out s (List.mem_filter.1 hs).1
          obtain ⟨oA, oc, rfl⟩ := own_len HO.out
          have O2 : wr.ownsRow w.heap.size 48 7 (.slice oA k oc) k (clsCells xs) := own_below HO.out hbw (Nat.le_refl _)
          have e0 := hcc.cell 0
          have e1 := hcc.cell 1
          have e2 := hcc.cell 2
          have e3 := hcc.cell 3
          have e4 := hcc.cell 4
          have e5 := hcc.cell 5
          have e6 := hcc.cell 6
          have elt := hcc.lt
          simp only [List.getElem?_toArray, List.getElem?_cons_zero, List.getElem?_cons_succ] at e0 e1 e2 e3 e4 e5 e6
          generalize Hr.keepP G N us = l at *
          have hQl : Q.length = l.length := by rw [← hQm, List.length_map]
          have hnews : ∀ j u, (clsCell (N, xA, l.length, xc))[j]? = some u → (wr.alloc (.cells #[nm N, .bool false, .slice none 0 0, .slice xA l.length xc, .slice none 0 0, .slice none 0 0, .slice none 0 0] 48)).cell? ((⟨wr.heap.size, 0, none⟩ : Addr).add j) = some u := fun j u h => World.news_of_block (w := (wr.alloc (.cells #[nm N, .bool false, .slice none 0 0, .slice xA l.length xc, .slice none 0 0, .slice none 0 0, .slice none 0 0] 48))) (B := wr.heap.size) (cs := #[nm N, .bool false, .slice none 0 0, .slice xA l.length xc, .slice none 0 0, .slice none 0 0, .slice none 0 0]) (t := 48) (fr := (0, 0)) (Has.new wr _ _) j u h
          have hal : Below wr.heap.size wr (wr.alloc (.cells #[nm N, .bool false, .slice none 0 0, .slice xA l.length xc, .slice none 0 0, .slice none 0 0, .slice none 0 0] 48)) := (Below.refl _ _).alloc (Nat.le_refl _) _
          have N1 := Lib.hid hnews
          have O5 : Hid ((wr.alloc (.cells #[nm N, .bool false, .slice none 0 0, .slice xA l.length xc, .slice none 0 0, .slice none 0 0, .slice none 0 0] 48)).ownsRow w.heap.size 48 7 (.slice oA k oc) k (clsCells xs)) := own_alloc O2 _
          have X5 : Hid (LkAt (wr.alloc (.cells #[nm N, .bool false, .slice none 0 0, .slice xA l.length xc, .slice none 0 0, .slice none 0 0, .slice none 0 0] 48)) w.heap.size xs ((S.take k).map (Hr.lessC G))) := (HX.out.below hbw).below hal
          have P5 : Hid ((wr.alloc (.cells #[nm N, .bool false, .slice none 0 0, .slice xA l.length xc, .slice none 0 0, .slice none 0 0, .slice none 0 0] 48)).ownsRow w.heap.size 52 6 (.slice xA l.length xc) Q.length (qCells Q)) := by
            show World.ownsRow _ _ _ _ _ _ _
            rw [hQl]
            exact own_alloc (own_base hown (by omega)) _
          have B5 : Hid (Below w.heap.size w (wr.alloc (.cells #[nm N, .bool false, .slice none 0 0, .slice xA l.length xc, .slice none 0 0, .slice none 0 0, .slice none 0 0] 48))) := stepN (stepN HB.out hbw) hal
          have N7 : Hid (w.heap.size ≤ (wr.alloc (.cells #[nm N, .bool false, .slice none 0 0, .slice xA l.length xc, .slice none 0 0, .slice none 0 0, .slice none 0 0] 48)).heap.size) := by show _ ≤ _; rw [World.size_alloc]; omega
          have N8 : Hid (k + 1 ≤ maxLen) := by show _ ≤ _; unfold maxLen; omega
          have N9 : Hid ((k + 1) * 144 ≤ 140737488355328) := by show _ ≤ _; omega
          have HQ := Lib.hid hQ
          have HQM := Lib.hid hQm
          have HFL := Lib.hid hfl
          clear hnews hal hcc hown hbw hQ hQm hfl O2 HI
          go_wp2_with (at_builtin; refine wpList_append_own_at _ rfl _ _ 22 rfl w.heap.size 48 j0 (.agg #[.string ⟨#[]⟩, .bool false, .slice none 0 0, .slice none 0 0, .slice none 0 0, .slice none 0 0, .slice none 0 0]) 7 144 Try.underlying22 hj hy0 hy1 hy2 rfl (by decide) _ _ _ rfl O5.out ⟨wr.heap.size, 0, none⟩ 1 1 (clsCell (N, xA, l.length, xc)) rfl rfl N1.out (by simp [clsCell, Value.oneCell']) N8.out N9.out N7.out ?_
                       intro v' w8 hown8 hg8 _ hat8)
          go_roundw
          case rel =>
            have hns : ∀ r, (Value.slice oA k oc).ownBlock = some r → ∀ cs, ¬ Has (wr.alloc (.cells #[nm N, .bool false, .slice none 0 0, .slice xA l.length xc, .slice none 0 0, .slice none 0 0, .slice none 0 0] 48)) r 52 cs := fun r e => by
              obtain ⟨cur, hc⟩ := own_has O5.out e
              exact not_type hc (by decide)
            refine ⟨k + 1, xs ++ [(N, xA, l.length, xc)], by omega, by go_num, ?_, ?_, ?_⟩
            · show World.ownsRow _ _ _ _ _ _ _
              have e : clsCells (xs ++ [(N, xA, l.length, xc)]) = clsCells xs ++ clsCell (N, xA, l.length, xc) := by rw [clsCells_append]; simp [clsCells]
              rw [e]
              exact hown8
            · show LkAt _ _ _ _
              rw [HST.out]
              exact LkAt.snoc (X5.out.kept hg8 hns) ⟨rfl, hnl, rfl, HFL.out, Q, HQ.out, HQM.out, P5.out.kept hg8 (own_two P5.out O5.out (by decide))⟩
            · exact Below.grown B5.out hg8 N7.out (fun g hg => own_ge O5.out hg)
          case measure => simp [intOf]; omega
    · obtain rfl : k = S.length := by omega
      rw [List.take_length] at HX
      have hxl : xs.length = S.length := by rw [HX.out.length, List.length_map]
      go_wp2_with fail
      go_ret
      refine ⟨_, rfl, ?_, HB.out⟩
      exact LkAt.sys HX.out (by rw [hxl]; exact HO.out)
end Go.Proofs.Ytojfimbanaijdaa
