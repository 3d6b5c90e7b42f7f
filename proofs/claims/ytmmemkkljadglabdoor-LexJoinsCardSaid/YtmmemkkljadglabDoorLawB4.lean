/-
  For every list of texts, LexJoins returns true: the tokens of the joined text are theirs, moved by their lines.
-/
import Derived.Test.YtmmemkkljadglabDoorJoinU
import Derived.Test.YtmmemkkljadglabDoorSameT
import Derived.Test.YtmmemkkljadglabDoorLawB
import Derived.Maps.AppendAt
namespace Go.Proofs.YtmmemkkljadglabDoor
open Go.RowKit Go.Shelf

theorem same_refl (u v : Value) (l : List Lx.Tok) (w : World) (hl : ToksAt w u l) (hm : ToksAt w v l) (hlen : l.length ≤ 100000) :
    Calls Tryd.prog 17 #[u, v] w fun e w' => e = .returned (.bool true) ∧ Below w.heap.size w w' := by
  have := sameToks_any u v l l w hl hm hlen hlen
  rwa [decide_eq_true rfl] at this

theorem own_ints {w : World} {B n c : Nat} {A : Option Addr} {ls : List Nat} (h : w.ownsRow B 3 1 (.slice A n c) n (intCells ls)) (h0 : 0 < n) : ∃ g, A = some ⟨g, 0, none⟩ ∧ ∀ (i k : Nat), ls[i]? = some k → w.cell? ⟨g, i, none⟩ = some (.int .i64 (k : Int)) := by
  rcases h.2 with ⟨hv, h1⟩ | ⟨g, cap, cur, hv, _⟩
  · omega
  · cases hv
    have hc := h.cells (g := g) rfl
    refine ⟨g, rfl, fun i k hk => ?_⟩
    have := hc i (.int .i64 (k : Int)) (by simp [intCells, hk])
    have e : (⟨g, 0, none⟩ : Addr).add i = ⟨g, 0 + i, none⟩ := by unfold Addr.add; split <;> simp_all
    rw [e, Nat.zero_add] at this
    exact this

set_option maxRecDepth 100000 in
set_option maxHeartbeats 4000000 in
theorem LexJoins_any (v : Value) (L : List ByteArray) (w : World) (hl : StrsAt w v L) (hlen : L.length ≤ 9223372036854775807) (hE : Env w) (htab : Lib.TabIs Tryd.prog w "strings.asciiSpace" .u8 Lib.asciiSpaceTab) :
    Calls Tryd.prog 8 #[v] w fun e w' => e = .returned (.bool true) ∧ Below w.heap.size w w' := by
  have HSan := Lib.hid (san_at hE htab)
  have HL := Lib.hid hl
  have HE := Lib.hid hE
  obtain ⟨A, c, rfl, -⟩ := hl
  clear hE htab
  obtain ⟨i0, hi, hz0, hz1, hz2⟩ := info_parts tokInfo
  by_cases h6 : (6 : Int) < L.length
  · go_enter Tryd.func8, Tryd.ntmps8
    go_wp2_with fail
    refine (HSan.out _ (Below.refl _ _)).mono ?_
    rintro e w1 ⟨rfl, hb1⟩
    go_wp2_with fail
    go_ret
    exact ⟨rfl, hb1⟩
  · go_enter Tryd.func8, Tryd.ntmps8
    go_wp2_with fail
    go_loopw [25] (fun i wr => ∃ k : Nat, k ≤ L.length ∧ i = .int .i64 k ∧ w = wr ∧ Hid (∀ i (_ : i < k) (h : i < L.length), L[i].size ≤ 100)) (fun i _ => L.length - (intOf i).toNat)
    case atStart => exact ⟨0, Nat.zero_le _, rfl, rfl, fun i hi => absurd hi (Nat.not_lt_zero _)⟩
    case round =>
      obtain ⟨k, hk, rfl, rfl, hall⟩ := hrel
      by_cases hlt : k < L.length
      · have hltI : (k : Int) < L.length := by omega
        obtain ⟨A', c', hv, hc⟩ := HL.out
        cases hv
        obtain ⟨b, o, hA, hc2⟩ := hc (by omega)
        have c0 := hc2 k hlt
        subst hA
        clear hc hc2
        have hnext : L[k].size ≤ 100 → ∀ i (_ : i < k + 1) (h : i < L.length), L[i].size ≤ 100 := fun h i hi h2 => by
          by_cases e : i = k
          · subst e; exact h
          · exact hall.out i (by omega) h2
        have HNX := Lib.hid hnext
        clear hnext
        generalize L[k] = s at *
        by_cases h100 : (100 : Int) < s.size
        · go_wp2_with fail
          refine (HSan.out _ (Below.refl _ _)).mono ?_
          rintro e w1 ⟨rfl, hb1⟩
          go_wp2_with fail
          go_ret
          exact ⟨rfl, hb1⟩
        · go_wp2_with fail
          go_roundw
          case rel => exact ⟨k + 1, hlt, by go_num, by trivial, HNX.out (by omega)⟩
          case measure => simp [intOf]; omega
      · obtain rfl : k = L.length := by omega
        have hall2 : ∀ s ∈ L, s.size ≤ 100 := fun s hs => by
          obtain ⟨i, hi, rfl⟩ := List.getElem_of_mem hs
          exact hall.out i hi hi
        have hjs := Lx.joinSize_few L hall2
        have CJ := Join_any _ L w HL.out (by omega) (fun s hs => by have := hall2 s hs; omega)
        rw [Lx.joined_few L (by omega) hall2] at CJ
        dsimp only at CJ
        rw [Lx.joinLines_length] at CJ
        have HCJ := Lib.hid CJ
        have HALL := Lib.hid hall2
        have h6N : L.length ≤ 6 := by omega
        have hjt : (Lx.joinText L).length ≤ 606 := by rw [Lx.joinText_length]; omega
        have hnth := Lib.hid (fun k h => Lx.joinLines_nth L 1 k h)
        have hah := Lib.hid (Lx.Ahead.first L (by omega))
        have CT := Lib.hid (fun W (hb : Below w.heap.size w W) => Tokens_any ⟨(Lx.joinText L).toArray⟩ W (by show (Lx.joinText L).toArray.size ≤ 100000; simp; omega) (HE.out.below hb (Nat.le_refl _)))
        rw [show (⟨(Lx.joinText L).toArray⟩ : ByteArray).data.toList = Lx.joinText L from by simp] at CT
        have hRn := Lx.readText_count (Lx.joinText L)
        generalize (Lx.joinLines 1 L) = JL at *
        generalize hRR : Lx.readText (Lx.joinText L) = R at *
        generalize (⟨(Lx.joinText L).toArray⟩ : ByteArray) = T at *
        clear CJ hall hall2 hRR
        have hll : ((L.length : Int) != L.length) = false := by simp
        go_wp2_with fail
        refine HCJ.out.mono ?_
        rintro e w1 ⟨vl, rfl, hown, hb1⟩
        obtain ⟨Al, cl, rfl⟩ := own_len hown
        have B1 := Lib.hid hb1
        have O1 := Lib.hid hown
        clear hb1 hown HCJ
        go_wp2_with fail
        refine (CT.out _ B1.out).mono ?_
        rintro e w2 ⟨At, ct, rfl, ho2, hb2⟩
        have B2 := Lib.hid (stepN B1.out hb2)
        have O2 := Lib.hid (own_below O1.out hb2 (Nat.le_refl _))
        have T2 := Lib.hid (ToksAt.of_own ho2)
        clear hb2 ho2 O1 CT
        go_wp2_with fail
        have BE := Lib.hid (B2.out.alloc B2.out.size (.cells #[.int .i64 R.line, .int .i64 R.col] 25))
        have PE := Lib.hid (Has.new w2 25 #[.int .i64 R.line, .int .i64 R.col])
        have TE := Lib.hid (T2.out.below ((Below.refl w2.heap.size w2).alloc (Nat.le_refl _) (.cells #[.int .i64 R.line, .int .i64 R.col] 25)) (Nat.le_refl _))
        have OE := Lib.hid (O2.out.alloc (.cells #[.int .i64 R.line, .int .i64 R.col] 25))
        generalize w2.alloc (.cells #[.int .i64 R.line, .int .i64 R.col] 25) = wE at *
        clear B2 O2 T2
        generalize w2.heap.size = pb at *
        go_loopw [11, 57] (fun o i wr => ∃ (k : Nat) (q : Lx.Red), k ≤ L.length ∧ i = .int .i64 k ∧ Hid (Lx.Ahead L R k q) ∧ Hid (wr.ownsRow wE.heap.size 27 4 o q.toks.length (toksCells q.toks)) ∧ Hid (Below wE.heap.size wE wr)) (fun _ i _ => L.length - (intOf i).toNat)
        case atStart => exact ⟨0, {}, Nat.zero_le _, rfl, hah, World.ownsRow_nil _ _ _ _, Below.refl _ _⟩
        case round =>
          obtain ⟨k, q, hk, rfl, HA, HO, HB⟩ := hrel
          have BW := Lib.hid (BE.out.trans (HB.out.mono BE.out.size))
          by_cases hlt : k < L.length
          · have hltI : (k : Int) < L.length := by omega
            obtain ⟨A', c', hv, hc⟩ := HL.out.below BW.out (Nat.le_refl _)
            cases hv
            obtain ⟨b, o', hA, hc2⟩ := hc (by omega)
            have c0 := hc2 k hlt
            subst hA
            clear hc hc2
            have hs100 : L[k].size ≤ 100 := HALL.out _ (List.getElem_mem hlt)
            have hstep := HA.out.step hlt hs100
            have hstop := HA.out.stop hlt hs100
            have hqn := HA.out.2.1
            have hsl : L[k].data.toList.length = L[k].size := by simp
            have hlined := Lx.readLines_lined L[k].data.toList
            rw [← Lx.readText_few _ (by omega)] at hlined
            have CTk := Lib.hid (Tokens_any L[k] wr (by omega) (HE.out.below BW.out (Nat.le_refl _)))
            have hn0 := hnth.out k hlt
            have hcn := Lx.readText_count L[k].data.toList
            have hla : Lx.lineAfter 1 (L.take k) ≤ 607 := by
              have h1 := Lx.lineAfter_le 1 (L.take k)
              have h2 := Lx.joinSize_take L k
              omega
            rw [hsl] at hlined hcn
            generalize Lx.lineAfter 1 (L.take k) = n at hstep hstop hn0 hla
            generalize Lx.readText L[k].data.toList = M at *
            generalize L[k] = s at *
            have HST := Lib.hid hstep
            have HSP := Lib.hid hstop
            have HLI := Lib.hid hlined
            clear hstep hstop hlined hsl
            go_wp2_with fail
            refine CTk.out.mono ?_
            rintro e w3 ⟨Am, cm, rfl, ho3, hb3⟩
            have BQ := Lib.hid ((HB.out.trans (hb3.mono HB.out.size)).alloc (Nat.le_trans HB.out.size hb3.size) (.cells #[.int .i64 M.line, .int .i64 M.col] 25))
            have QQ := Lib.hid (Has.new w3 25 #[.int .i64 M.line, .int .i64 M.col])
            have HQ := Lib.hid ((own_below HO.out hb3 (Nat.le_refl _)).alloc (.cells #[.int .i64 M.line, .int .i64 M.col] 25))
            have MQ := Lib.hid (ho3.alloc (.cells #[.int .i64 M.line, .int .i64 M.col] 25))
            have hmo : (Value.slice Am M.toks.length cm).ownBlock = none ∨ (Value.slice Am M.toks.length cm).ownBlock ≠ u11.ownBlock := by
              cases hv : (Value.slice Am M.toks.length cm).ownBlock with
              | none => exact .inl rfl
              | some g =>
                right
                intro h
                have h1 := (ho3.lt g hv).1
                have h2 := (HO.out.lt g h.symm).2
                omega
            clear ho3 hb3 CTk
            obtain ⟨gl, rfl, hints⟩ := own_ints OE.out (by omega)
            have l0 := hints k n hn0
            clear hints
            by_cases he : M.err = 0
            · have hAN := HST.out he
              have HAN := Lib.hid hAN
              clear hAN
              go_wp2_with fail
              generalize w3.alloc (.cells #[.int .i64 M.line, .int .i64 M.col] 25) = wQ at *
              clear QQ
              generalize wr.heap.size = mb at *
              go_loopw [11, 93] (fun o i wx => ∃ j : Nat, j ≤ M.toks.length ∧ i = .int .i64 j ∧ Hid (wx.ownsRow wE.heap.size 27 4 o (q.toks.length + j) (toksCells (q.toks ++ (M.toks.take j).map (Lx.shift ((n : Int) - 1))))) ∧ Hid (wx.ownsRow mb 27 4 (.slice Am M.toks.length cm) M.toks.length (toksCells M.toks)) ∧ Hid ((Value.slice Am M.toks.length cm).ownBlock = none ∨ (Value.slice Am M.toks.length cm).ownBlock ≠ o.ownBlock) ∧ Hid (Below wE.heap.size wE wx)) (fun _ i _ => M.toks.length - (intOf i).toNat)
              case atStart => exact ⟨0, Nat.zero_le _, rfl, (by simpa using HQ.out : wQ.ownsRow wE.heap.size 27 4 u11 (q.toks.length + 0) (toksCells (q.toks ++ (M.toks.take 0).map (Lx.shift ((n : Int) - 1))))), MQ.out, hmo, BQ.out⟩
              case round =>
                obtain ⟨j, hj, rfl, HO2, HM2, HN2, HB2⟩ := hrel
                by_cases hjt : j < M.toks.length
                · have hjtI : (j : Int) < M.toks.length := by omega
                  obtain ⟨bt, ot, ct', hv, hc⟩ := (ToksAt.of_own HM2.out).first (by omega)
                  cases hv
                  obtain ⟨x0, x1, x2, x3⟩ := hc j hjt
                  have htl := HLI.out.1 _ (List.getElem_mem hjt)
                  have hst : (M.toks.take (j + 1)).map (Lx.shift ((n : Int) - 1)) = (M.toks.take j).map (Lx.shift ((n : Int) - 1)) ++ [Lx.shift ((n : Int) - 1) M.toks[j]] := by
                    rw [List.take_succ_eq_append_getElem hjt, List.map_append]; rfl
                  have HS2 := Lib.hid hst
                  clear hst hc
                  generalize M.toks[j] = t at *
                  obtain ⟨tk, tt, tl, tc⟩ := t
                  dsimp only at x0 x1 x2 x3 htl
                  have l2 := kept_below HB2.out (Nat.le_refl _) _ _ l0
                  have hw1 : IntKind.i64.wrap ((n : Int) - 1) = (n : Int) - 1 := IntWalk.i64_in _ (by omega)
                  have hw2 : IntKind.i64.wrap (tl + ((n : Int) - 1)) = tl + ((n : Int) - 1) := IntWalk.i64_in _ (by omega)
                  have hblt := World.block_lt_of_cell? _ _ l2
                  have hgl2 : ∀ ob, (wr.alloc ob).cell? ⟨gl, k, none⟩ = some (.int .i64 (n : Int)) := fun ob => kept_below ((Below.refl _ _).alloc (Nat.le_refl _) ob) (Nat.le_refl _) _ _ l2
                  have O5 : Hid (World.ownsRow (((wr.alloc (.cells #[.int .i64 tk, .string ⟨tt.toArray⟩, .int .i64 (tl + ((n : Int) - 1)), .int .i64 tc] 27)).alloc (.cells #[.int .i64 tk, .string ⟨tt.toArray⟩, .int .i64 (tl + ((n : Int) - 1)), .int .i64 tc] 27)).drew) wE.heap.size 27 4 u11 (q.toks.length + j) (toksCells (q.toks ++ (M.toks.take j).map (Lx.shift ((n : Int) - 1))))) := own_drew ((HO2.out.alloc _).alloc _)
                  have M5 : Hid (World.ownsRow (((wr.alloc (.cells #[.int .i64 tk, .string ⟨tt.toArray⟩, .int .i64 (tl + ((n : Int) - 1)), .int .i64 tc] 27)).alloc (.cells #[.int .i64 tk, .string ⟨tt.toArray⟩, .int .i64 (tl + ((n : Int) - 1)), .int .i64 tc] 27)).drew) mb 27 4 (.slice (some ⟨bt, ot, none⟩) M.toks.length cm) M.toks.length (toksCells M.toks)) := own_drew ((HM2.out.alloc _).alloc _)
                  have B5 : Hid (Below wE.heap.size wE (((wr.alloc (.cells #[.int .i64 tk, .string ⟨tt.toArray⟩, .int .i64 (tl + ((n : Int) - 1)), .int .i64 tc] 27)).alloc (.cells #[.int .i64 tk, .string ⟨tt.toArray⟩, .int .i64 (tl + ((n : Int) - 1)), .int .i64 tc] 27)).drew)) := ((HB2.out.alloc HB2.out.size _).alloc (by have := HB2.out.size; simp; omega) _).drew
                  have N1 : Hid (∀ j u, (tokCells ⟨tk, tt, tl + ((n : Int) - 1), tc⟩)[j]? = some u → World.cell? (((wr.alloc (.cells #[.int .i64 tk, .string ⟨tt.toArray⟩, .int .i64 (tl + ((n : Int) - 1)), .int .i64 tc] 27)).alloc (.cells #[.int .i64 tk, .string ⟨tt.toArray⟩, .int .i64 (tl + ((n : Int) - 1)), .int .i64 tc] 27)).drew) ((⟨wr.heap.size + 1, 0, none⟩ : Addr).add j) = some u) := tok_laid2 wr _ ⟨tk, tt, tl + ((n : Int) - 1), tc⟩
                  have N7 : Hid (wE.heap.size ≤ (World.heap (((wr.alloc (.cells #[.int .i64 tk, .string ⟨tt.toArray⟩, .int .i64 (tl + ((n : Int) - 1)), .int .i64 tc] 27)).alloc (.cells #[.int .i64 tk, .string ⟨tt.toArray⟩, .int .i64 (tl + ((n : Int) - 1)), .int .i64 tc] 27)).drew)).size) := B5.out.size
                  have N8 : Hid (q.toks.length + j + 1 ≤ maxLen) := by show _ ≤ _; unfold maxLen; omega
                  have N9 : Hid ((q.toks.length + j + 1) * 40 ≤ 140737488355328) := by show _ ≤ _; omega
                  go_wp2_with fail
                  go_region
                  all_goals
                    go_wp2_with (at_builtin; refine wpList_append_own_at _ rfl _ _ 22 rfl wE.heap.size 27 i0 (.agg #[.int .i64 0, .string ⟨#[]⟩, .int .i64 0, .int .i64 0]) 4 40 Tryd.underlying22 hi hz0 hz1 hz2 rfl (by decide) _ _ _ rfl O5.out ⟨wr.heap.size + 1, 0, none⟩ 1 1 (tokCells ⟨tk, tt, tl + ((n : Int) - 1), tc⟩) rfl rfl N1.out (tok_one _) N8.out N9.out N7.out ?_)
                    intro v' w5 hown5 hg5 _ hat5
                    have hm5 := M5.out.kept hg5 HN2.out
                    have hn5 : (Value.slice (some ⟨bt, ot, none⟩) M.toks.length cm).ownBlock = none ∨ (Value.slice (some ⟨bt, ot, none⟩) M.toks.length cm).ownBlock ≠ v'.ownBlock := by
                      rcases HN2.out with h | h
                      · exact .inl h
                      · rcases hat5 with e | e
                        · exact .inr (by rw [e]; exact h)
                        · right
                          intro hh
                          have := (M5.out.lt _ (hh.trans e)).2
                          simp at this
                    have hb5 := Below.grown B5.out hg5 N7.out (fun g hg => own_ge O5.out hg)
                    have R1 := Lib.hid hown5
                    have R2 := Lib.hid hm5
                    have R3 := Lib.hid hn5
                    have R4 := Lib.hid hb5
                    clear hown5 hm5 hn5 hb5 hg5 hat5
                    go_wp2_with fail
                    go_roundw
                    case rel =>
                      refine ⟨j + 1, hjt, by go_num, ?_, R2, R3, R4⟩
                      show World.ownsRow _ _ _ _ _ _ _
                      rw [HS2.out, ← List.append_assoc, toksCells_append]
                      simpa only [List.map_take, toksCells, List.append_nil, Nat.add_assoc, Lx.shift] using R1.out
                    case measure => simp [intOf]; omega
                · obtain rfl : j = M.toks.length := by omega
                  go_wp2_with fail
                  have HO3 := HO2.out
                  rw [List.take_length] at HO3
                  have R1 := Lib.hid HO3
                  clear HO3
                  go_roundw
                  case rel =>
                    refine ⟨k + 1, _, hlt, by go_num, HAN, ?_, HB2⟩
                    show World.ownsRow _ _ _ _ _ _ _
                    rw [List.length_append, List.length_map]
                    exact R1.out
                  case measure => simp [intOf]; omega
            · have hR := HSP.out he
              have hl := HLI.out.2 he
              have e1 : R.err = M.err := by rw [hR]
              have e2 : R.line = M.line + (n : Int) - 1 := by rw [hR]; simp only; omega
              have e3 : R.col = M.col := by rw [hR]
              have hPE := PE.out
              rw [e2, e3] at hPE
              go_wp2_with fail
              have hP := hPE.below BQ.out hPE.lt
              have p0 := hP.cell 0
              have p1 := hP.cell 1
              have z0 := QQ.out.cell 0
              have z1 := QQ.out.cell 1
              have l1 := kept_below BQ.out (Nat.le_refl _) _ _ l0
              simp only [List.getElem?_toArray, List.getElem?_cons_zero, List.getElem?_cons_succ] at p0 p1 z0 z1
              have hee : (R.err == M.err) = true := by rw [e1]; simp
              have hw1 : IntKind.i64.wrap (M.line + (n : Int)) = M.line + (n : Int) := IntWalk.i64_in _ (by omega)
              have hw2 : IntKind.i64.wrap (M.line + (n : Int) - 1) = M.line + (n : Int) - 1 := IntWalk.i64_in _ (by omega)
              have BQW := Lib.hid (BE.out.trans (BQ.out.mono BE.out.size))
              generalize w3.alloc (.cells #[.int .i64 M.line, .int .i64 M.col] 25) = wQ at *
              generalize w3.heap.size = qb at *
              have SX := Lib.hid (fun (W : World) (hW : Below wQ.heap.size wQ W) => (HSan.out W (BQW.out.trans (hW.mono BQW.out.size))).mono (fun e w' (h : e = .returned (.bool true) ∧ Below W.heap.size W w') => (⟨h.1, stepN hW h.2⟩ : e = .returned (.bool true) ∧ Below wQ.heap.size wQ w')))
              have GIVE := Lib.hid (fun (W : World) (hW : Below wQ.heap.size wQ W) => (⟨kept_below hW (Nat.le_refl _) _ _ p0, kept_below hW (Nat.le_refl _) _ _ p1, kept_below hW (Nat.le_refl _) _ _ z0, kept_below hW (Nat.le_refl _) _ _ z1, kept_below hW (Nat.le_refl _) _ _ l1, hW⟩ :
                W.cell? ⟨pb, 0, none⟩ = some (.int .i64 (M.line + (n : Int) - 1)) ∧ W.cell? ⟨pb, 1, none⟩ = some (.int .i64 M.col) ∧ W.cell? ⟨qb, 0, none⟩ = some (.int .i64 M.line) ∧ W.cell? ⟨qb, 1, none⟩ = some (.int .i64 M.col) ∧ W.cell? ⟨gl, k, none⟩ = some (.int .i64 (n : Int)) ∧ Below wQ.heap.size wQ W))
              clear p0 p1 z0 z1 l1 l0 hP hPE PE QQ HQ MQ BQ HO HB HA hR e1 e2 e3
              go_region_held3 (fun W => W.cell? ⟨pb, 0, none⟩ = some (.int .i64 (M.line + (n : Int) - 1)) ∧ W.cell? ⟨pb, 1, none⟩ = some (.int .i64 M.col) ∧ W.cell? ⟨qb, 0, none⟩ = some (.int .i64 M.line) ∧ W.cell? ⟨qb, 1, none⟩ = some (.int .i64 M.col) ∧ W.cell? ⟨gl, k, none⟩ = some (.int .i64 (n : Int)) ∧ Below wQ.heap.size wQ W)
                (with_reducible (refine GIVE.out _ ?_; first | exact hbx | exact (Below.refl _ _).drew))
                (first
                  | (go_at_call 9; refine (SX.out _ (by with_reducible first | exact hbx | exact (Below.refl _ _).drew)).mono ?_; rintro e wx ⟨rfl, hbx⟩))
              go_wp2_with fail
              go_ret
              exact ⟨by simp, BQW.out.trans (hbx.mono BQW.out.size)⟩
          · obtain rfl : k = L.length := by omega
            have hq := HA.out.last
            have hq0 := HA.out.1
            subst hq
            have hRe : (R.err == 0) = true := by rw [hq0]; rfl
            go_wp2_with fail
            refine (HSan.out _ BW.out).mono ?_
            rintro e w4 ⟨rfl, hb4⟩
            have T4 := Lib.hid (((TE.out.below HB.out (Nat.le_refl _))).below hb4 (Nat.le_refl _))
            have U4 := Lib.hid ((ToksAt.of_own HO.out).below hb4 (Nat.le_refl _))
            have B4 := Lib.hid (stepN BW.out hb4)
            clear hb4
            go_wp2_with (go_at_call 17; refine (same_refl _ _ R.toks _ T4.out U4.out (by omega)).mono ?_; rintro e w5 ⟨rfl, hb5⟩)
            go_ret
            exact ⟨by simp, stepN B4.out hb5⟩
end Go.Proofs.YtmmemkkljadglabDoor
