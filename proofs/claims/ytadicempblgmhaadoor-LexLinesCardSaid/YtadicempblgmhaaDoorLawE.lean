/-
  For every text and change LexLines returns true: a text's tokens are those of its lines; Patch reads what the changed text has.
-/
import Derived.Test.YtadicempblgmhaaDoorLineR
import Derived.Test.YtadicempblgmhaaDoorSameT
import Derived.Test.YtadicempblgmhaaDoorLawB2
import Derived.Test.YtadicempblgmhaaDoorStripW
import Derived.Maps.AppendAt
namespace Go.Proofs.YtadicempblgmhaaDoor
open Go.RowKit Go.Shelf

theorem same_refl (u v : Value) (l : List Lx.Tok) (w : World) (hl : ToksAt w u l) (hm : ToksAt w v l) (hlen : l.length ≤ 100000) :
    Calls Tryd.prog 25 #[u, v] w fun e w' => e = .returned (.bool true) ∧ Below w.heap.size w w' := by
  have := sameToks_any u v l l w hl hm hlen hlen
  rwa [decide_eq_true rfl] at this

namespace Lx
/-- A token with another line. -/
def onLine (n : Int) (t : Tok) : Tok := { t with line := n }
/-- What has been read when k lines have been read. -/
structure Upto (S : List UInt8) (k : Nat) (q : Red) : Prop where
  eq : readLs {} 1 ((lines S).take k) = q
  err : q.err = 0
theorem Upto.zero (S : List UInt8) : Upto S 0 {} := ⟨rfl, rfl⟩
theorem Upto.step {S : List UInt8} {k : Nat} {q : Red} (h : Upto S k q) (hk : k < (lines S).length) (hs : (lines S)[k].length ≤ 6000) (he : (readText (lines S)[k]).err = 0) :
    ∃ q', Upto S (k + 1) q' ∧ q'.toks = q.toks ++ (readText (lines S)[k]).toks.map (onLine ((k : Int) + 1)) := by
  have := line_step S k hk (by rw [h.eq]; exact h.err)
  rw [readText_small _ hs] at he ⊢
  obtain ⟨e1, e2⟩ := this.1 he
  rw [h.eq] at e2
  exact ⟨_, ⟨rfl, e1⟩, e2⟩
theorem Upto.stop {S : List UInt8} {k : Nat} {q : Red} (h : Upto S k q) (hk : k < (lines S).length) (hs : (lines S)[k].length ≤ 6000) (hS : S.length ≤ 6000) (he : (readText (lines S)[k]).err ≠ 0) :
    readText S = { line := (k : Int) + 1, col := (readText (lines S)[k]).col, err := (readText (lines S)[k]).err } := by
  have := line_step S k hk (by rw [h.eq]; exact h.err)
  rw [readText_small _ hs] at he ⊢
  rw [readText_small _ hS]
  exact this.2 he
theorem Upto.all {S : List UInt8} {q : Red} (h : Upto S (lines S).length q) (hS : S.length ≤ 6000) : readText S = q := by
  rw [readText_small _ hS, ← h.eq, List.take_length]
  rfl

/-- What Patch hands back is what is read of the changed text. -/
theorem patched (S X : List UInt8) (f t : Nat) (hft : f ≤ t) (ht : t ≤ S.length) (hS : S.length ≤ 400) (hX : X.length ≤ 100) (h : (readText S).err = 0) :
    ∃ m : Nat, pOut (readText S).toks S X f t = ((readText (S.take f ++ X ++ S.drop t)).toks, m, ((readText (S.take f ++ X ++ S.drop t)).line, (readText (S.take f ++ X ++ S.drop t)).col), (readText (S.take f ++ X ++ S.drop t)).err) ∧ m ≤ (readText (S.take f ++ X ++ S.drop t)).toks.length := by
  have hN : (S.take f ++ X ++ S.drop t).length ≤ 6000 := by
    simp only [List.length_append, List.length_take, List.length_drop]
    omega
  have hcnt := readText_count (S.take f ++ X ++ S.drop t)
  have eS := readText_small S (by omega)
  rw [eS] at h ⊢
  obtain ⟨k1, k2⟩ := patch_lines S X f t hft ht h
  rw [← readText_small _ hN] at k1 k2
  unfold pOut
  by_cases he : (pRead S X f t).err = 0
  · obtain ⟨e1, e2, e3, e4⟩ := k2 he
    rw [if_neg (by simp [he]), ← e4, if_neg (by omega)]
    refine ⟨_, by rw [e1, e2, e3], ?_⟩
    rw [e4]
    unfold pAll
    simp only [List.flatten_cons, List.length_append]
    omega
  · rw [if_pos he, k1 he]
    exact ⟨0, rfl, Nat.le_refl _⟩
end Lx

set_option maxRecDepth 100000 in
set_option maxHeartbeats 8000000 in
theorem LexLines_any (s x : ByteArray) (f g : Int) (w : World) (hE : Env w) (htab : Lib.TabIs Tryd.prog w "strings.asciiSpace" .u8 Lib.asciiSpaceTab) :
    Calls Tryd.prog 11 #[.string s, chVal f g x] w fun e w' => e = .returned (.bool true) ∧ Below w.heap.size w w' := by
  have HSan := Lib.hid (san_at hE htab)
  have HE := Lib.hid hE
  clear hE htab
  obtain ⟨i0, hi, hz0, hz1, hz2⟩ := info_parts tokInfo
  have BA := Lib.hid ((Below.refl w.heap.size w).alloc (Nat.le_refl _) (.cells #[.int .i64 f, .int .i64 g, .string x] 60))
  by_cases h400 : (400 : Int) < s.size
  · go_enter Tryd.func11, Tryd.ntmps11
    go_wp2_with fail
    refine (HSan.out _ BA.out).mono ?_
    rintro e w1 ⟨rfl, hb1⟩
    have B1 := Lib.hid (stepA (Below.refl _ _) _ hb1)
    go_wp2_with fail
    go_ret
    exact ⟨rfl, B1.out⟩
  by_cases h100 : (100 : Int) < x.size
  · go_enter Tryd.func11, Tryd.ntmps11
    go_wp2_with fail
    refine (HSan.out _ BA.out).mono ?_
    rintro e w1 ⟨rfl, hb1⟩
    have B1 := Lib.hid (stepA (Below.refl _ _) _ hb1)
    go_wp2_with fail
    go_ret
    exact ⟨rfl, B1.out⟩
  have hsl : s.data.toList.length = s.size := by simp
  have hxl : x.data.toList.length = x.size := by simp
  have hcnt := Lx.readText_count s.data.toList
  have CH := Lib.hid (Has.new w 60 #[.int .i64 f, .int .i64 g, .string x])
  have CT := Lib.hid (fun W (h : Below w.heap.size w W) => Tokens_any s W (by omega) (HE.out.below h (Nat.le_refl _)))
  have CSP := Lib.hid (fun W (h : Below w.heap.size w W) => split_any s W (by omega) (HE.out.below h (Nat.le_refl _)))
  have CX := Lib.hid (fun (M : ByteArray) W (hM : M.size ≤ 500) (h : Below w.heap.size w W) => Tokens_any M W (by omega) (HE.out.below h (Nat.le_refl _)))
  have hup0 := Lx.Upto.zero s.data.toList
  have hstep := fun k q (h : Lx.Upto s.data.toList k q) hk hs he => h.step hk hs he
  have hstop := fun k q (h : Lx.Upto s.data.toList k q) hk hs he => h.stop hk hs (by omega) he
  have hall := fun q (h : Lx.Upto s.data.toList (Lx.lines s.data.toList).length q) => h.all (by omega)
  have hlsz : ∀ (Ls : List ByteArray), Ls.map (·.data.toList) = Lx.lines s.data.toList → ∀ k (hk : k < Ls.length), Ls[k].size ≤ s.size := fun Ls h k hk => by
    have := lines_size Ls s.data.toList h k hk
    omega
  have hllen : (Lx.lines s.data.toList).length ≤ s.size + 1 := by
    rw [Lx.lines_length]
    have h2 := List.count_le_length (l := s.data.toList) (a := 10)
    omega
  go_enter Tryd.func11, Tryd.ntmps11
  generalize hR : Lx.readText s.data.toList = R at *
  have HRR := Lib.hid hR
  have HST := Lib.hid hstep
  have HSP := Lib.hid hstop
  have HAL := Lib.hid hall
  have HLSZ := Lib.hid hlsz
  have HUP := Lib.hid hup0
  clear hR hstep hstop hall hlsz hup0
  have cc2 := CH.out.cell 2
  have chlt := CH.out.lt
  simp only [List.getElem?_toArray, List.getElem?_cons_zero, List.getElem?_cons_succ] at cc2
  go_wp2_with fail
  refine (CT.out _ BA.out).mono ?_
  rintro e w1 ⟨A, c, rfl, ho, hb1⟩
  have B1 := Lib.hid (stepA (Below.refl _ _) _ hb1)
  have CH1 := Lib.hid (CH.out.below hb1 CH.out.lt)
  have T1 := Lib.hid (ToksAt.of_own ho)
  clear ho hb1 cc2 chlt
  go_wp2_with fail
  refine (CSP.out _ (B1.out.alloc B1.out.size _)).mono ?_
  rintro e w2 ⟨Ls, hLs, rfl, rfl⟩
  have BE := Lib.hid ((B1.out.alloc B1.out.size (.cells #[.int .i64 R.line, .int .i64 R.col] 37)).alloc (by have := B1.out.size; rw [World.size_alloc]; omega) (.cells (Ls.map Value.string).toArray 9))
  have CHE := Lib.hid ((CH1.out.alloc (.cells #[.int .i64 R.line, .int .i64 R.col] 37)).alloc (.cells (Ls.map Value.string).toArray 9))
  have TE := Lib.hid (T1.out.below (((Below.refl w1.heap.size w1).alloc (Nat.le_refl _) (.cells #[.int .i64 R.line, .int .i64 R.col] 37)).alloc (by simp) (.cells (Ls.map Value.string).toArray 9)) (Nat.le_refl _))
  have PE := Lib.hid ((Has.new w1 37 #[.int .i64 R.line, .int .i64 R.col]).alloc (.cells (Ls.map Value.string).toArray 9))
  have LE := Lib.hid (Has.new (w1.alloc (.cells #[.int .i64 R.line, .int .i64 R.col] 37)) 9 (Ls.map Value.string).toArray)
  clear B1 CH1 T1 CH BA
  generalize (w1.alloc (.cells #[.int .i64 R.line, .int .i64 R.col] 37)).alloc (.cells (Ls.map Value.string).toArray 9) = wE at *
  generalize (w1.alloc (.cells #[.int .i64 R.line, .int .i64 R.col] 37)).heap.size = gl at *
  generalize w1.heap.size = pb at *
  have hlL : (Lx.lines s.data.toList).length = Ls.length := by rw [← hLs]; simp
  have hget : ∀ k (hk : k < Ls.length), (Lx.lines s.data.toList)[k]'(by omega) = Ls[k].data.toList := fun k hk => by simp only [← hLs, List.getElem_map]
  have hsz := HLSZ.out Ls hLs
  have hst2 : ∀ k q, Lx.Upto s.data.toList k q → ∀ (hk : k < Ls.length), (Lx.readText Ls[k].data.toList).err = 0 → ∃ q', Lx.Upto s.data.toList (k + 1) q' ∧ q'.toks = q.toks ++ (Lx.readText Ls[k].data.toList).toks.map (Lx.onLine ((k : Int) + 1)) := fun k q h hk he => by
    have h1 := hsz k hk
    have h2 : Ls[k].data.toList.length = Ls[k].size := by simp
    have := HST.out k q h (by omega) (by rw [hget k hk]; omega) (by rw [hget k hk]; exact he)
    rw [hget k hk] at this
    exact this
  have hsp2 : ∀ k q, Lx.Upto s.data.toList k q → ∀ (hk : k < Ls.length), (Lx.readText Ls[k].data.toList).err ≠ 0 → R = { line := (k : Int) + 1, col := (Lx.readText Ls[k].data.toList).col, err := (Lx.readText Ls[k].data.toList).err } := fun k q h hk he => by
    have h1 := hsz k hk
    have h2 : Ls[k].data.toList.length = Ls[k].size := by simp
    have := HSP.out k q h (by omega) (by rw [hget k hk]; omega) (by rw [hget k hk]; exact he)
    rw [hget k hk] at this
    exact this
  have hal2 : ∀ q, Lx.Upto s.data.toList Ls.length q → R = q := fun q h => HAL.out q (by rw [hlL]; exact h)
  have hlsI : Ls.length ≤ 401 := by omega
  have HST2 := Lib.hid hst2
  have HSP2 := Lib.hid hsp2
  have HAL2 := Lib.hid hal2
  have HSZ := Lib.hid hsz
  clear hst2 hsp2 hal2 hsz hget hlL hLs HST HSP HAL HLSZ CT CSP hllen
  go_wp2_with fail
  go_loopw [8, 44] (fun o i wr => ∃ (k : Nat) (q : Lx.Red), k ≤ Ls.length ∧ i = .int .i64 k ∧ Hid (Lx.Upto s.data.toList k q) ∧ Hid (wr.ownsRow wE.heap.size 55 4 o q.toks.length (toksCells q.toks)) ∧ Hid (Below wE.heap.size wE wr) ∧ Hid (q.toks.length ≤ k * 400)) (fun _ i _ => Ls.length - (intOf i).toNat)
  case atStart => exact ⟨0, {}, Nat.zero_le _, rfl, HUP.out, World.ownsRow_nil _ _ _ _, Below.refl _ _, Nat.zero_le _⟩
  case round =>
    obtain ⟨k, q, hk, rfl, HU, HO, HB, HQN⟩ := hrel
    have BW := Lib.hid (BE.out.trans (HB.out.mono BE.out.size))
    by_cases hlt : k < Ls.length
    · have hltI : (k : Int) < Ls.length := by omega
      have hc := (LE.out.below HB.out LE.out.lt).cell k
      rw [List.getElem?_toArray, List.getElem?_map, List.getElem?_eq_getElem hlt, Option.map_some] at hc
      have hlw := (LE.out.below HB.out LE.out.lt).lt
      have hxs := HSZ.out k hlt
      have hst := HST2.out k q HU.out hlt
      have hsp := HSP2.out k q HU.out hlt
      have HSTk := Lib.hid hst
      have HSPk := Lib.hid hsp
      have CTk := Lib.hid (CX.out Ls[k] wr (by omega) BW.out)
      have hcn := Lx.readText_count Ls[k].data.toList
      rw [show Ls[k].data.toList.length = Ls[k].size from by simp] at hcn
      clear hst hsp
      generalize Lx.readText Ls[k].data.toList = M at *
      generalize Ls[k] = y at *
      go_wp2_with fail
      refine CTk.out.mono ?_
      rintro e w3 ⟨Am, cm, rfl, ho3, hb3⟩
      have BQ := Lib.hid ((HB.out.trans (hb3.mono HB.out.size)).alloc (Nat.le_trans HB.out.size hb3.size) (.cells #[.int .i64 M.line, .int .i64 M.col] 37))
      have QQ := Lib.hid (Has.new w3 37 #[.int .i64 M.line, .int .i64 M.col])
      have HQ := Lib.hid ((own_below HO.out hb3 (Nat.le_refl _)).alloc (.cells #[.int .i64 M.line, .int .i64 M.col] 37))
      have MQ := Lib.hid (ho3.alloc (.cells #[.int .i64 M.line, .int .i64 M.col] 37))
      have hmo : (Value.slice Am M.toks.length cm).ownBlock = none ∨ (Value.slice Am M.toks.length cm).ownBlock ≠ u8.ownBlock := by
        cases hv : (Value.slice Am M.toks.length cm).ownBlock with
        | none => exact .inl rfl
        | some g =>
          right
          intro h
          have h1 := (ho3.lt g hv).1
          have h2 := (HO.out.lt g h.symm).2
          omega
      clear ho3 hb3 CTk hc hlw
      by_cases he : M.err = 0
      · obtain ⟨q', hu', hq'⟩ := HSTk.out he
        have HU2 := Lib.hid hu'
        have HQ2 := Lib.hid hq'
        clear hu' hq' HSTk HSPk
        go_wp2_with fail
        have BQW := Lib.hid (BE.out.trans (BQ.out.mono BE.out.size))
        generalize w3.alloc (.cells #[.int .i64 M.line, .int .i64 M.col] 37) = wQ at *
        clear QQ
        generalize wr.heap.size = mb at *
        go_loopw [8, 74] (fun o i wx => ∃ j : Nat, j ≤ M.toks.length ∧ i = .int .i64 j ∧ Hid (wx.ownsRow wE.heap.size 55 4 o (q.toks.length + j) (toksCells (q.toks ++ (M.toks.take j).map (Lx.onLine ((k : Int) + 1))))) ∧ Hid (wx.ownsRow mb 55 4 (.slice Am M.toks.length cm) M.toks.length (toksCells M.toks)) ∧ Hid ((Value.slice Am M.toks.length cm).ownBlock = none ∨ (Value.slice Am M.toks.length cm).ownBlock ≠ o.ownBlock) ∧ Hid (Below wE.heap.size wE wx)) (fun _ i _ => M.toks.length - (intOf i).toNat)
        case atStart => exact ⟨0, Nat.zero_le _, rfl, (by simpa using HQ.out : wQ.ownsRow wE.heap.size 55 4 u8 (q.toks.length + 0) (toksCells (q.toks ++ (M.toks.take 0).map (Lx.onLine ((k : Int) + 1))))), MQ.out, hmo, BQ.out⟩
        case round =>
          obtain ⟨j, hj, rfl, HO2, HM2, HN2, HB2⟩ := hrel
          by_cases hjt : j < M.toks.length
          · have hjtI : (j : Int) < M.toks.length := by omega
            obtain ⟨bt, ot, ct', hv, hc⟩ := (ToksAt.of_own HM2.out).first (by omega)
            cases hv
            obtain ⟨x0, x1, x2, x3⟩ := hc j hjt
            have hst : (M.toks.take (j + 1)).map (Lx.onLine ((k : Int) + 1)) = (M.toks.take j).map (Lx.onLine ((k : Int) + 1)) ++ [Lx.onLine ((k : Int) + 1) M.toks[j]] := by
              rw [List.take_succ_eq_append_getElem hjt, List.map_append]; rfl
            have HS2 := Lib.hid hst
            clear hst hc
            generalize M.toks[j] = t at *
            obtain ⟨tk, tt, tl, tc⟩ := t
            dsimp only at x0 x1 x2 x3
            have hw1 : IntKind.i64.wrap ((k : Int) + 1) = (k : Int) + 1 := IntWalk.i64_in _ (by omega)
            have hqn := HQN.out
            have O5 : Hid (World.ownsRow ((wr.alloc (.cells #[.int .i64 tk, .string ⟨tt.toArray⟩, .int .i64 ((k : Int) + 1), .int .i64 tc] 55)).alloc (.cells #[.int .i64 tk, .string ⟨tt.toArray⟩, .int .i64 ((k : Int) + 1), .int .i64 tc] 55)) wE.heap.size 55 4 u8 (q.toks.length + j) (toksCells (q.toks ++ (M.toks.take j).map (Lx.onLine ((k : Int) + 1))))) := (HO2.out.alloc _).alloc _
            have M5 : Hid (World.ownsRow ((wr.alloc (.cells #[.int .i64 tk, .string ⟨tt.toArray⟩, .int .i64 ((k : Int) + 1), .int .i64 tc] 55)).alloc (.cells #[.int .i64 tk, .string ⟨tt.toArray⟩, .int .i64 ((k : Int) + 1), .int .i64 tc] 55)) mb 55 4 (.slice (some ⟨bt, ot, none⟩) M.toks.length cm) M.toks.length (toksCells M.toks)) := (HM2.out.alloc _).alloc _
            have B5 : Hid (Below wE.heap.size wE ((wr.alloc (.cells #[.int .i64 tk, .string ⟨tt.toArray⟩, .int .i64 ((k : Int) + 1), .int .i64 tc] 55)).alloc (.cells #[.int .i64 tk, .string ⟨tt.toArray⟩, .int .i64 ((k : Int) + 1), .int .i64 tc] 55))) := (HB2.out.alloc HB2.out.size _).alloc (by have := HB2.out.size; simp; omega) _
            have N1 : Hid (∀ j u, (tokCells ⟨tk, tt, (k : Int) + 1, tc⟩)[j]? = some u → World.cell? ((wr.alloc (.cells #[.int .i64 tk, .string ⟨tt.toArray⟩, .int .i64 ((k : Int) + 1), .int .i64 tc] 55)).alloc (.cells #[.int .i64 tk, .string ⟨tt.toArray⟩, .int .i64 ((k : Int) + 1), .int .i64 tc] 55)) ((⟨wr.heap.size + 1, 0, none⟩ : Addr).add j) = some u) := tok_laid2 wr _ ⟨tk, tt, (k : Int) + 1, tc⟩
            have N7 : Hid (wE.heap.size ≤ (World.heap ((wr.alloc (.cells #[.int .i64 tk, .string ⟨tt.toArray⟩, .int .i64 ((k : Int) + 1), .int .i64 tc] 55)).alloc (.cells #[.int .i64 tk, .string ⟨tt.toArray⟩, .int .i64 ((k : Int) + 1), .int .i64 tc] 55))).size) := B5.out.size
            have N8 : Hid (q.toks.length + j + 1 ≤ maxLen) := by show _ ≤ _; unfold maxLen; omega
            have N9 : Hid ((q.toks.length + j + 1) * 40 ≤ 140737488355328) := by show _ ≤ _; omega
            go_wp2_with (at_builtin; refine wpList_append_own_at _ rfl _ _ 35 rfl wE.heap.size 55 i0 (.agg #[.int .i64 0, .string ⟨#[]⟩, .int .i64 0, .int .i64 0]) 4 40 Tryd.underlying35 hi hz0 hz1 hz2 rfl (by decide) _ _ _ rfl O5.out ⟨wr.heap.size + 1, 0, none⟩ 1 1 (tokCells ⟨tk, tt, (k : Int) + 1, tc⟩) rfl rfl N1.out (tok_one _) N8.out N9.out N7.out ?_)
            intro v' w5 hown5 hg5 _ hat5
            have hm5 := M5.out.kept hg5 HN2.out
            have hn5 : (Value.slice (some ⟨bt, ot, none⟩) M.toks.length cm).ownBlock = none ∨ (Value.slice (some ⟨bt, ot, none⟩) M.toks.length cm).ownBlock ≠ v'.ownBlock := by
              rcases HN2.out with h | h
              · exact .inl h
              · rcases hat5 with e | e
                · exact .inr (by rw [e]; exact h)
                · right
                  intro hh
                  have := (M5.out.lt _ (hh.trans e)).2
                  simp at this
            have hb5 := Below.grown B5.out hg5 N7.out (fun g hg => own_ge O5.out hg)
            have R1 := Lib.hid hown5
            have R2 := Lib.hid hm5
            have R3 := Lib.hid hn5
            have R4 := Lib.hid hb5
            clear hown5 hm5 hn5 hb5 hg5 hat5
            go_wp2_with fail
            go_roundw
            case rel =>
              refine ⟨j + 1, hjt, by go_num, ?_, R2, R3, R4⟩
              show World.ownsRow _ _ _ _ _ _ _
              rw [HS2.out, ← List.append_assoc, toksCells_append]
              simpa only [List.map_take, toksCells, List.append_nil, Nat.add_assoc, Lx.onLine] using R1.out
            case measure => simp [intOf]; omega
          · obtain rfl : j = M.toks.length := by omega
            have HO3 := HO2.out
            rw [List.take_length] at HO3
            have R1 := Lib.hid HO3
            have hqn := HQN.out
            have hql : q'.toks.length = q.toks.length + M.toks.length := by rw [HQ2.out, List.length_append, List.length_map]
            clear HO3
            go_wp2_with fail
            go_roundw
            case rel =>
              refine ⟨k + 1, q', hlt, by go_num, HU2, ?_, HB2, ?_⟩
              · show World.ownsRow _ _ _ _ _ _ _
                rw [hql, HQ2.out]
                exact R1.out
              · show _ ≤ _
                omega
            case measure => simp [intOf]; omega
      · have hR := HSPk.out he
        have e1 : R.err = M.err := by rw [hR]
        have e2 : R.line = (k : Int) + 1 := by rw [hR]
        have e3 : R.col = M.col := by rw [hR]
        have hPE := PE.out
        rw [e2, e3] at hPE
        have hee : (R.err == M.err) = true := by rw [e1]; simp
        have hw1 : IntKind.i64.wrap ((k : Int) + 1) = (k : Int) + 1 := IntWalk.i64_in _ (by omega)
        have BQW := Lib.hid (BE.out.trans (BQ.out.mono BE.out.size))
        have HPE := Lib.hid (hPE.below BQ.out hPE.lt)
        clear hPE hR e2 e3 HSTk HSPk
        go_wp2_with fail
        generalize w3.alloc (.cells #[.int .i64 M.line, .int .i64 M.col] 37) = wQ at *
        generalize w3.heap.size = qb at *
        refine (HSan.out _ BQW.out).mono ?_
        rintro e w4 ⟨rfl, hb4⟩
        have B4 := Lib.hid (stepN BQW.out hb4)
        have hP4 := HPE.out.below hb4 HPE.out.lt
        have hQ4 := QQ.out.below hb4 QQ.out.lt
        have p0 := hP4.cell 0
        have p1 := hP4.cell 1
        have z0 := hQ4.cell 0
        have z1 := hQ4.cell 1
        have l0 := hP4.lt
        have l1 := hQ4.lt
        simp only [List.getElem?_toArray, List.getElem?_cons_zero, List.getElem?_cons_succ] at p0 p1 z0 z1
        clear hb4 hP4 hQ4
        go_wp2_with fail
        go_ret
        exact ⟨by simp, B4.out⟩
    · obtain rfl : k = Ls.length := by omega
      have hq := HAL2.out q HU.out
      have hq0 := HU.out.err
      have hqn := HQN.out
      subst hq
      have hRe : (R.err == 0) = true := by rw [hq0]; rfl
      have TW := Lib.hid (TE.out.below HB.out (Nat.le_refl _))
      have UW := Lib.hid (ToksAt.of_own HO.out)
      have CHW := Lib.hid (CHE.out.below HB.out CHE.out.lt)
      have hpat := fun f' t' h1 h2 => Lx.patched s.data.toList x.data.toList f' t' h1 h2 (by omega) (by omega) (by rw [HRR.out]; exact hq0)
      rw [HRR.out] at hpat
      have hpl : Lx.placed R.toks s.data.toList = true := by
        have := Lx.stands_placed s.data.toList (Lx.readText s.data.toList).toks (Lx.readText_stands s.data.toList (by rw [HRR.out]; exact hq0))
        rwa [HRR.out] at this
      have HPAT := Lib.hid hpat
      have HPL := Lib.hid hpl
      clear hpat hpl TE CHE PE LE HO HB HU HAL2 HSP2 HST2 HSZ HUP HRR
      go_wp2_with fail
      refine (same_refl _ _ R.toks wr UW.out TW.out (by omega)).mono ?_
      rintro e w4 ⟨rfl, hb4⟩
      have B4 := Lib.hid (stepN BW.out hb4)
      have T4 := Lib.hid (TW.out.below hb4 (Nat.le_refl _))
      have CH4 := Lib.hid (CHW.out.below hb4 CHW.out.lt)
      clear hb4 TW UW CHW BW
      have c0 := CH4.out.cell 0
      have c1 := CH4.out.cell 1
      have c2 := CH4.out.cell 2
      have cl := CH4.out.lt
      simp only [List.getElem?_toArray, List.getElem?_cons_zero, List.getElem?_cons_succ] at c0 c1 c2
      have CE := Edit_any s x f g w4 (by omega) (by omega)
      have hed : Lx.edited s.data.toList x.data.toList f g = if Lx.editErr s.size f g x.size = 0 then (s.data.toList.take f.toNat ++ x.data.toList ++ s.data.toList.drop g.toNat, 0) else ([], Lx.editErr s.size f g x.size) := by
        unfold Lx.edited
        rw [hsl, hxl]
      rw [hed] at CE
      clear hed
      by_cases hee : Lx.editErr s.size f g x.size = 0
      · rw [if_pos hee] at CE
        obtain ⟨g0, g1, g2, g3⟩ := Lx.editErr_ok hee
        obtain ⟨f, rfl⟩ := Int.eq_ofNat_of_zero_le g0
        obtain ⟨g, rfl⟩ := Int.eq_ofNat_of_zero_le (show 0 ≤ g by omega)
        rw [Int.toNat_natCast, Int.toNat_natCast] at CE
        obtain ⟨m, hpo, hm⟩ := HPAT.out f g (by omega) (by omega)
        have hNl : (s.data.toList.take f ++ x.data.toList ++ s.data.toList.drop g).length ≤ 500 := by
          simp only [List.length_append, List.length_take, List.length_drop]
          omega
        have hNs : (⟨(s.data.toList.take f ++ x.data.toList ++ s.data.toList.drop g).toArray⟩ : ByteArray).size ≤ 500 := by rw [Lib.size_mk]; exact hNl
        have CN := fun W h => CX.out ⟨(s.data.toList.take f ++ x.data.toList ++ s.data.toList.drop g).toArray⟩ W hNs h
        rw [show (⟨(s.data.toList.take f ++ x.data.toList ++ s.data.toList.drop g).toArray⟩ : ByteArray).data.toList = s.data.toList.take f ++ x.data.toList ++ s.data.toList.drop g from by simp] at CN
        have CP := fun W (hW : Below w.heap.size w W) (hl : ToksAt W (.slice A R.toks.length c) R.toks) => Patch_good _ R.toks s x f g W hl (by omega) (by omega) (by omega) hee HPL.out (HE.out.below hW (Nat.le_refl _))
        rw [hpo] at CP
        have hrc := Lx.readText_count (s.data.toList.take f ++ x.data.toList ++ s.data.toList.drop g)
        dsimp only at CE
        generalize Lx.readText (s.data.toList.take f ++ x.data.toList ++ s.data.toList.drop g) = R2 at *
        generalize (⟨(s.data.toList.take f ++ x.data.toList ++ s.data.toList.drop g).toArray⟩ : ByteArray) = NB at *
        have HCE := Lib.hid CE
        have HCN := Lib.hid CN
        have HCP := Lib.hid CP
        have hmI : (m : Int) ≤ R2.toks.length := by omega
        clear CE CN CP hpo hNs HPAT hee
        go_wp2_with fail
        refine HCE.out.mono ?_
        rintro e w5 ⟨rfl, hb5⟩
        have B5 := Lib.hid (stepN B4.out hb5)
        have T5 := Lib.hid (T4.out.below hb5 (Nat.le_refl _))
        have CH5 := Lib.hid (CH4.out.below hb5 CH4.out.lt)
        clear hb5 T4 CH4 c0 c1 c2 cl HCE
        go_wp2_with fail
        refine (HCN.out _ B5.out).mono ?_
        rintro e w6 ⟨A6, c6, rfl, ho6, hb6⟩
        have B6 := Lib.hid (stepN B5.out hb6)
        have BF := Lib.hid (B6.out.alloc B6.out.size (.cells #[.int .i64 R2.line, .int .i64 R2.col] 37))
        have TF := Lib.hid ((T5.out.below hb6 (Nat.le_refl _)).below ((Below.refl w6.heap.size w6).alloc (Nat.le_refl _) (.cells #[.int .i64 R2.line, .int .i64 R2.col] 37)) (Nat.le_refl _))
        have UF := Lib.hid ((ToksAt.of_own ho6).below ((Below.refl w6.heap.size w6).alloc (Nat.le_refl _) (.cells #[.int .i64 R2.line, .int .i64 R2.col] 37)) (Nat.le_refl _))
        have CHF := Lib.hid ((CH5.out.below hb6 CH5.out.lt).alloc (.cells #[.int .i64 R2.line, .int .i64 R2.col] 37))
        have PF := Lib.hid (Has.new w6 37 #[.int .i64 R2.line, .int .i64 R2.col])
        have hc6 := CH5.out.below hb6 CH5.out.lt
        have c0 := hc6.cell 0
        have c1 := hc6.cell 1
        have c2 := hc6.cell 2
        have cl := hc6.lt
        simp only [List.getElem?_toArray, List.getElem?_cons_zero, List.getElem?_cons_succ] at c0 c1 c2
        clear hb6 ho6 T5 CH5 HCN hc6
        go_wp2_with fail
        generalize w6.alloc (.cells #[.int .i64 R2.line, .int .i64 R2.col] 37) = wF at *
        generalize w6.heap.size = p6 at *
        refine (HCP.out _ BF.out TF.out).mono ?_
        rintro e w7 ⟨v7, rfl, ho7, hb7⟩
        dsimp only at ho7
        obtain ⟨A7, c7, rfl⟩ := own_len ho7
        have B7 := Lib.hid (stepN BF.out hb7)
        have BG := Lib.hid (B7.out.alloc B7.out.size (.cells #[.int .i64 R2.line, .int .i64 R2.col] 37))
        have UG := Lib.hid ((UF.out.below hb7 (Nat.le_refl _)).below ((Below.refl w7.heap.size w7).alloc (Nat.le_refl _) (.cells #[.int .i64 R2.line, .int .i64 R2.col] 37)) (Nat.le_refl _))
        have VG := Lib.hid ((ToksAt.of_own ho7).below ((Below.refl w7.heap.size w7).alloc (Nat.le_refl _) (.cells #[.int .i64 R2.line, .int .i64 R2.col] 37)) (Nat.le_refl _))
        have PG := Lib.hid ((PF.out.below hb7 PF.out.lt).alloc (.cells #[.int .i64 R2.line, .int .i64 R2.col] 37))
        have QG := Lib.hid (Has.new w7 37 #[.int .i64 R2.line, .int .i64 R2.col])
        clear hb7 ho7 TF UF CHF PF HCP c0 c1 c2 cl
        dsimp only
        go_wp2_with fail
        generalize w7.alloc (.cells #[.int .i64 R2.line, .int .i64 R2.col] 37) = wG at *
        generalize w7.heap.size = p7 at *
        refine (HSan.out _ BG.out).mono ?_
        rintro e w8 ⟨rfl, hb8⟩
        have B8 := Lib.hid (stepN BG.out hb8)
        have hp8 := PG.out.below hb8 PG.out.lt
        have hq8 := QG.out.below hb8 QG.out.lt
        have CS8 := Lib.hid (same_refl _ _ R2.toks w8 (UG.out.below hb8 (Nat.le_refl _)) (VG.out.below hb8 (Nat.le_refl _)) (by omega))
        have x0 := hp8.cell 0
        have x1 := hp8.cell 1
        have y0 := hq8.cell 0
        have y1 := hq8.cell 1
        have xl := hp8.lt
        have yl := hq8.lt
        simp only [List.getElem?_toArray, List.getElem?_cons_zero, List.getElem?_cons_succ] at x0 x1 y0 y1
        clear hb8 hp8 hq8 PG QG UG VG
        go_wp2_with fail
        refine CS8.out.mono ?_
        rintro e w9 ⟨rfl, hb9⟩
        have B9 := Lib.hid (stepN B8.out hb9)
        clear hb9
        go_wp2_with fail
        go_ret
        exact ⟨by simp, B9.out⟩
      · rw [if_neg hee] at CE
        have HCE := Lib.hid CE
        have heb : (Lx.editErr s.size f g x.size == 0) = false := by simpa using hee
        clear CE
        generalize Lx.editErr s.size f g x.size = er at *
        go_wp2_with fail
        refine HCE.out.mono ?_
        rintro e w5 ⟨rfl, hb5⟩
        have B5 := Lib.hid (stepN B4.out hb5)
        clear hb5
        go_wp2_with fail
        refine (HSan.out _ B5.out).mono ?_
        rintro e w6 ⟨rfl, hb6⟩
        have B6 := Lib.hid (stepN B5.out hb6)
        clear hb6
        go_wp2_with fail
        go_ret
        exact ⟨rfl, B6.out⟩
end Go.Proofs.YtadicempblgmhaaDoor
