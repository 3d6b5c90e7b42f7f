/-
  For every text, remark and number, LexComments returns true: a text without its comments has the same tokens at the same places; a comment ahead of a token changes no token.
-/
import Derived.Test.YtadicempblgmhaaDoorStripW
import Derived.Test.YtadicempblgmhaaDoorComQ
import Derived.Test.YtadicempblgmhaaDoorSameT
import Derived.Test.YtadicempblgmhaaDoorSameK
import Derived.Test.YtadicempblgmhaaDoorLawB2
import Derived.Deep.QuietTactic
import Derived.BigQuiet
namespace Go.Proofs.YtadicempblgmhaaDoor
open Go.RowKit Go.Shelf

theorem same_refl (u v : Value) (l : List Lx.Tok) (w : World) (hl : ToksAt w u l) (hm : ToksAt w v l) (hlen : l.length ≤ 100000) :
    Calls Tryd.prog 25 #[u, v] w fun e w' => e = .returned (.bool true) ∧ Below w.heap.size w w' := by
  have := sameToks_any u v l l w hl hm hlen hlen
  rwa [decide_eq_true rfl] at this

namespace Lx
/-- What the law asks of a text that is right, of its remark, and of one of its tokens. -/
structure Remarked (S R : List UInt8) (l : List Tok) (j : Nat) (k : Nat) (M : List UInt8) : Prop where
  le : k ≤ S.length
  off : ∀ h : j < l.length, offset S (l[j].line, l[j].col) = ((k : Int), 0)
  eq : M = S.take k ++ 32 :: 45 :: 45 :: (R ++ 10 :: 32 :: 32 :: S.drop k)
  good : R.all printable = true → (readText M).err = 0 ∧ kinds (readText M).toks = kinds l
  bad : ∀ b (hb : b < R.length), (∀ i (hi : i < b), printable (R[i]'(by omega)) = true) → printable R[b] = false → R[b] ≠ 10 → (readText M).err ≠ 0
theorem remarked (S R : List UInt8) (hS : S.length ≤ 400) (hR : R.length ≤ 40) (h : (readText S).err = 0) (j : Nat) (hj : j < (readText S).toks.length) :
    ∃ k M, Remarked S R (readText S).toks j k M := by
  have eS : readText S = lineRead 1 0 {} S := readText_line S (readText_small S (by omega))
  have key := remark_read S R (by rw [← eS]; exact h) j (by rw [← eS]; exact hj)
  obtain ⟨P, Q, hPQ, hoff, hg, hb⟩ := key
  have hl := congrArg List.length hPQ
  rw [List.length_append] at hl
  have hM : (P ++ 32 :: 45 :: 45 :: (R ++ 10 :: 32 :: 32 :: Q)).length ≤ 6000 := by
    simp only [List.length_append, List.length_cons]
    omega
  have eM := readText_line _ (readText_small _ hM)
  have e1 : S.take P.length = P := by rw [hPQ, List.take_left' rfl]
  have e2 : S.drop P.length = Q := by rw [hPQ, List.drop_left' rfl]
  refine ⟨P.length, _, by omega, fun _ => ?_, by rw [e1, e2], ?_, ?_⟩
  · simp only [eS]; exact hoff
  · rw [eM, eS]; exact hg
  · rw [eM]; exact hb
end Lx

set_option maxRecDepth 100000 in
set_option maxHeartbeats 4000000 in
theorem LexComments_any (s r : ByteArray) (q : Int) (hq0 : 0 ≤ q) (hq1 : q < 256) (w : World) (hE : Env w) (htab : Lib.TabIs Tryd.prog w "strings.asciiSpace" .u8 Lib.asciiSpaceTab) :
    Calls Tryd.prog 10 #[.string s, .string r, .int .u8 q] w fun e w' => e = .returned (.bool true) ∧ Below w.heap.size w w' := by
  have HSan := Lib.hid (san_at hE htab)
  by_cases h400 : (400 : Int) < s.size
  · go_enter Tryd.func10, Tryd.ntmps10
    go_wp2_with fail
    refine (HSan.out _ (Below.refl _ _)).mono ?_
    rintro e w1 ⟨rfl, hb1⟩
    go_wp2_with fail
    go_ret
    exact ⟨rfl, hb1⟩
  by_cases h40 : (40 : Int) < r.size
  · go_enter Tryd.func10, Tryd.ntmps10
    go_wp2_with fail
    refine (HSan.out _ (Below.refl _ _)).mono ?_
    rintro e w1 ⟨rfl, hb1⟩
    go_wp2_with fail
    go_ret
    exact ⟨rfl, hb1⟩
  have hsl : s.data.toList.length = s.size := by simp
  have hrl : r.data.toList.length = r.size := by simp
  have hcnt := Lx.readText_count s.data.toList
  have CT := Lib.hid (Tokens_any s w (by omega) hE)
  have CS := Lib.hid (fun W (h : Below w.heap.size w W) => Strip_any s W (by omega) (hE.below h (Nat.le_refl _)))
  have hsz : (⟨(Lx.strip s.data.toList).toArray⟩ : ByteArray).size ≤ 400 := by
    have := Lx.strip_length s.data.toList
    rw [Lib.size_mk]
    omega
  have hdt : (⟨(Lx.strip s.data.toList).toArray⟩ : ByteArray).data.toList = Lx.strip s.data.toList := by simp
  have CT2 := Lib.hid (fun W (h : Below w.heap.size w W) => Tokens_any ⟨(Lx.strip s.data.toList).toArray⟩ W (by omega) (hE.below h (Nat.le_refl _)))
  have CC2 := Lib.hid (fun W (h : Below w.heap.size w W) => Comments_any ⟨(Lx.strip s.data.toList).toArray⟩ W (by omega) (hE.below h (Nat.le_refl _)))
  have CS2 := Lib.hid (fun W (h : Below w.heap.size w W) => Strip_any ⟨(Lx.strip s.data.toList).toArray⟩ W (by omega) (hE.below h (Nat.le_refl _)))
  rw [hdt] at CT2 CC2 CS2
  have CO := Lib.hid (fun a b W => Offset_any s a b W (by omega))
  have CM := Lib.hid (fun (M : ByteArray) W (hM : M.size ≤ 446) (h : Below w.heap.size w W) => Tokens_any M W (by omega) (hE.below h (Nat.le_refl _)))
  have hread := Lx.strip_read s.data.toList
  have hidem := Lx.strip_idem s.data.toList
  have hrem := fun h j hj => Lx.remarked s.data.toList r.data.toList (by omega) (by omega) h j hj
  clear hE htab
  by_cases he : (Lx.readText s.data.toList).err = 0
  · have hrd := hread he
    rw [hidem, hrd, if_pos rfl] at CS2
    rw [hrd] at CT2 CC2
    rw [if_pos he] at CS
    have HREM := Lib.hid (hrem he)
    clear hrem hread hidem hdt hrd
    generalize hT : (⟨(Lx.strip s.data.toList).toArray⟩ : ByteArray) = T at *
    generalize Lx.readText s.data.toList = R at *
    obtain ⟨rt, rn, rl, rc, re⟩ := R
    dsimp only at he
    subst he
    have HCNT := Lib.hid hcnt
    go_enter Tryd.func10, Tryd.ntmps10
    go_wp2_with fail
    refine CT.out.mono ?_
    rintro e w1 ⟨A, c, rfl, ho, hb1⟩
    dsimp only at ho
    have B1 := Lib.hid hb1
    have T1 := Lib.hid (ToksAt.of_own ho)
    clear ho hb1
    go_wp2_with fail
    have BE := Lib.hid (B1.out.alloc B1.out.size (.cells #[.int .i64 rl, .int .i64 rc] 37))
    have TE := Lib.hid (T1.out.below ((Below.refl w1.heap.size w1).alloc (Nat.le_refl _) (.cells #[.int .i64 rl, .int .i64 rc] 37)) (Nat.le_refl _))
    generalize w1.alloc (.cells #[.int .i64 rl, .int .i64 rc] 37) = wE at *
    generalize w1.heap.size = pb at *
    refine (CS.out _ BE.out).mono ?_
    rintro e w2 ⟨rfl, hb2⟩
    have B2 := Lib.hid (stepN BE.out hb2)
    have T2 := Lib.hid (TE.out.below hb2 (Nat.le_refl _))
    clear hb2
    go_wp2_with fail
    refine (CT2.out _ B2.out).mono ?_
    rintro e w3 ⟨A3, c3, rfl, ho, hb3⟩
    dsimp only at ho
    have B3 := Lib.hid (stepN B2.out hb3)
    have T3 := Lib.hid (T2.out.below hb3 (Nat.le_refl _))
    have M3 := Lib.hid (ToksAt.of_own ho)
    clear ho hb3
    go_wp2_with fail
    have BF := Lib.hid (B3.out.alloc B3.out.size (.cells #[.int .i64 0, .int .i64 0] 37))
    have TF := Lib.hid (T3.out.below ((Below.refl w3.heap.size w3).alloc (Nat.le_refl _) (.cells #[.int .i64 0, .int .i64 0] 37)) (Nat.le_refl _))
    have MF := Lib.hid (M3.out.below ((Below.refl w3.heap.size w3).alloc (Nat.le_refl _) (.cells #[.int .i64 0, .int .i64 0] 37)) (Nat.le_refl _))
    clear T3 M3 T2
    generalize w3.alloc (.cells #[.int .i64 0, .int .i64 0] 37) = wF at *
    generalize w3.heap.size = pf at *
    refine (CC2.out _ BF.out).mono ?_
    rintro e w4 ⟨A4, c4, rfl, _, hb4⟩
    have B4 := Lib.hid (stepN BF.out hb4)
    have T4 := Lib.hid (TF.out.below hb4 (Nat.le_refl _))
    have M4 := Lib.hid (MF.out.below hb4 (Nat.le_refl _))
    clear hb4 TF MF
    go_wp2_with fail
    refine (CS2.out _ B4.out).mono ?_
    rintro e w5 ⟨rfl, hb5⟩
    have B5 := Lib.hid (stepN B4.out hb5)
    have T5 := Lib.hid (T4.out.below hb5 (Nat.le_refl _))
    have M5 := Lib.hid (M4.out.below hb5 (Nat.le_refl _))
    clear hb5 T4 M4
    have hlen : rt.length ≤ 100000 := by omega
    have CST := Lib.hid (same_refl _ _ rt w5 T5.out M5.out hlen)
    clear hlen
    go_wp2_with fail
    refine CST.out.mono ?_
    rintro e w6 ⟨rfl, hb6⟩
    have B6 := Lib.hid (stepN B5.out hb6)
    have T6 := Lib.hid (T5.out.below hb6 (Nat.le_refl _))
    clear hb6 T5 M5 CST
    by_cases h0 : (rt.length : Int) = 0
    · go_wp2_with fail
      refine (HSan.out _ B6.out).mono ?_
      rintro e w7 ⟨rfl, hb7⟩
      have B7 := Lib.hid (stepN B6.out hb7)
      clear hb7
      go_wp2_with fail
      go_ret
      exact ⟨rfl, B7.out⟩
    · have h0N : 0 < rt.length := by omega
      obtain ⟨b, o, c', hv, hcells⟩ := T6.out.first h0N
      cases hv
      have hqn := Int.emod_nonneg q (show (rt.length : Int) ≠ 0 by omega)
      have hql := Int.emod_lt_of_pos q (show (0 : Int) < (rt.length : Int) by omega)
      have hj : (q % (rt.length : Int)).toNat < rt.length := by omega
      obtain ⟨k, M, hM⟩ := HREM.out _ hj
      have hoff := hM.off hj
      obtain ⟨_, _, e2, e3⟩ := hcells _ hj
      clear hcells HREM
      have hkle := hM.le
      rw [hsl] at hkle
      have hMl := hM.eq
      have HMG := Lib.hid hM.good
      have HMB := Lib.hid hM.bad
      have CO2 := CO.out rt[(q % (rt.length : Int)).toNat].line rt[(q % (rt.length : Int)).toNat].col w6
      rw [hoff] at CO2
      have HCO := Lib.hid CO2
      clear CO2 hoff hM CO
      generalize rt[(q % (rt.length : Int)).toNat] = t at *
      obtain ⟨tk, tt, tl, tc⟩ := t
      dsimp only at e2 e3 HCO
      have e3' : w6.cell? ⟨b, o + (q % (rt.length : Int)).toNat * 4 + 2 + 1, none⟩ = some (.int .i64 tc) := e3
      clear e3
      have hblt := World.block_lt_of_cell? _ _ e2
      obtain ⟨MB, hMB⟩ : ∃ MB : ByteArray, MB = s.extract 0 k ++ ⟨#[32, 45, 45]⟩ ++ r ++ ⟨#[10, 32, 32]⟩ ++ s.extract k s.size := ⟨_, rfl⟩
      have hMBl : MB.data.toList = M := by
        rw [hMB, hMl]
        simp only [ba_append, Lib.extract_data]
        rw [List.drop_zero, Nat.sub_zero, List.take_of_length_le (i := s.size - k) (by rw [List.length_drop, hsl]; omega)]
        simp
      have hMBs : MB.size ≤ 446 := by
        have h1 : MB.data.toList.length = MB.size := by simp
        rw [hMBl, hMl] at h1
        simp only [List.length_append, List.length_cons, List.length_take, List.length_drop] at h1
        omega
      have hMlen : M.length ≤ 446 := by
        have h1 : MB.data.toList.length = MB.size := by simp
        rw [hMBl] at h1
        omega
      have CM2 := fun W h => CM.out MB W hMBs h
      rw [hMBl] at CM2
      have HCM := Lib.hid CM2
      have HMB2 := Lib.hid hMB
      clear CM2 CM hMBl hMl hMB hMBs
      have hc2 := Lx.readText_count M
      generalize Lx.readText M = RM at *
      go_wp2_with fail
      refine HCO.out.mono ?_
      rintro e w7 ⟨rfl, hb7⟩
      have B7 := Lib.hid (stepN B6.out hb7)
      have T7 := Lib.hid (T6.out.below hb7 (Nat.le_refl _))
      clear hb7 T6 e2 e3' HCO hblt
      dsimp only
      have hk0 : (0 : Int) ≤ k := by omega
      have hk1 : (k : Int) ≤ s.size := by omega
      have hmin : min (k : Int) (s.size : Int) = k := by omega
      have z0 : (s.extract 0 k).size = k := by rw [ByteArray.size_extract]; omega
      have z1 : (s.extract k s.size).size = s.size - k := by rw [ByteArray.size_extract]; omega
      go_wp2_with fail
      go_quiet (fail)
      rw [← HMB2.out]
      clear HMB2 hmin z0 z1 hk0 hk1
      have B8 := Lib.hid (below_drewN B7.out nq)
      have T8 : Hid (ToksAt (w7.drewN nq) (.slice (some ⟨b, o, none⟩) rt.length c) rt) := T7.out.below (below_drewN (Below.refl _ _) nq) (Nat.le_refl _)
      generalize w7.drewN nq = w8 at *
      go_wp2_with fail
      refine (HCM.out _ B8.out).mono ?_
      rintro e w9 ⟨A9, c9, rfl, ho, hb9⟩
      have BG := Lib.hid ((stepN B8.out hb9).alloc (by have := (stepN B8.out hb9).size; omega) (.cells #[.int .i64 RM.line, .int .i64 RM.col] 37))
      have TG := Lib.hid ((T8.out.below hb9 (Nat.le_refl _)).below ((Below.refl w9.heap.size w9).alloc (Nat.le_refl _) (.cells #[.int .i64 RM.line, .int .i64 RM.col] 37)) (Nat.le_refl _))
      have MG := Lib.hid ((ToksAt.of_own ho).below ((Below.refl w9.heap.size w9).alloc (Nat.le_refl _) (.cells #[.int .i64 RM.line, .int .i64 RM.col] 37)) (Nat.le_refl _))
      clear ho hb9 HCM T8 T7
      go_wp2_with fail
      generalize w9.alloc (.cells #[.int .i64 RM.line, .int .i64 RM.col] 37) = wG at *
      generalize w9.heap.size = pg at *
      go_loopw [139] (fun i wr => ∃ j : Nat, j ≤ r.size ∧ i = .int .i64 j ∧ wG = wr ∧ Hid (∀ i (_ : i < j) (h : i < r.size), Lx.printable r[i] = true)) (fun i _ => r.size - (intOf i).toNat)
      case atStart => exact ⟨0, Nat.zero_le _, rfl, rfl, fun i hi => absurd hi (Nat.not_lt_zero _)⟩
      case round =>
        obtain ⟨j, hj, rfl, rfl, hall⟩ := hrel
        by_cases hlt : j < r.size
        · have hltI : (j : Int) < r.size := by omega
          have hnext : Lx.printable r[j] = true → ∀ i (_ : i < j + 1) (h : i < r.size), Lx.printable r[i] = true := fun h i hi h2 => by
            by_cases e : i = j
            · subst e; exact h
            · exact hall.out i (by omega) h2
          have hbad : Lx.printable r[j] = false → r[j] ≠ 10 → RM.err ≠ 0 := fun h h10 => HMB.out j (by rw [hrl]; exact hlt) (fun i hi => hall.out i hi (by omega)) h h10
          have HNX := Lib.hid hnext
          have HBD := Lib.hid hbad
          have hpr : Lx.printable r[j] = (decide (32 ≤ (r[j].toNat : Int)) && decide ((r[j].toNat : Int) ≤ 126)) := by
            unfold Lx.printable
            generalize r[j] = y
            have e1 : (32 ≤ y) = (32 ≤ (y.toNat : Int)) := by rw [UInt8.le_iff_toNat_le]; simp; omega
            have e2 : (y ≤ 126) = ((y.toNat : Int) ≤ 126) := by rw [UInt8.le_iff_toNat_le]; simp; omega
            simp only [e1, e2]
          have h10 : r[j] = 10 ↔ (r[j].toNat : Int) = 10 := by
            generalize r[j] = y
            constructor
            · rintro rfl; rfl
            · intro h; exact UInt8.toNat_inj.1 (by simp; omega)
          have HPR := Lib.hid hpr
          have H10 := Lib.hid h10
          clear hnext hbad hpr h10
          by_cases hb : (r[j].toNat : Int) < 32 ∨ 126 < (r[j].toNat : Int)
          · have hnp : Lx.printable r[j] = false := by
              rw [HPR.out, Bool.and_eq_false_iff, decide_eq_false_iff_not, decide_eq_false_iff_not]
              omega
            have hor : RM.err ≠ 0 ∨ (r[j].toNat : Int) = 10 := by
              by_cases h : r[j] = 10
              · exact .inr (H10.out.1 h)
              · exact .inl (HBD.out hnp h)
            clear hnp
            rcases hor with hre | hten
            · have hreb : (RM.err != 0) = true := by simpa using hre
              rcases hb with hb | hb
              all_goals
                go_wp2_with fail
                refine (HSan.out _ BG.out).mono ?_
                rintro e w10 ⟨rfl, hb10⟩
                have BH := Lib.hid (stepN BG.out hb10)
                clear hb10
                go_wp2_with fail
                go_ret
                exact ⟨rfl, BH.out⟩
            · have hb' : (r[j].toNat : Int) < 32 := by omega
              clear hb
              go_wp2_with fail
              refine (HSan.out _ BG.out).mono ?_
              rintro e w10 ⟨rfl, hb10⟩
              have BH := Lib.hid (stepN BG.out hb10)
              clear hb10
              by_cases hre : RM.err = 0
              all_goals
                go_wp2_with fail
                go_ret
                exact ⟨rfl, BH.out⟩
          · have hp : Lx.printable r[j] = true := by
              rw [HPR.out, Bool.and_eq_true, decide_eq_true_eq, decide_eq_true_eq]
              omega
            have HP := Lib.hid (HNX.out hp)
            have hb1 : ¬ (r[j].toNat : Int) < 32 := by omega
            have hb2 : ¬ 126 < (r[j].toNat : Int) := by omega
            clear hp hb
            go_wp2_with fail
            go_roundw
            case rel => exact ⟨j + 1, hlt, by go_num, by trivial, HP.out⟩
            case measure => simp [intOf]; omega
        · obtain rfl : j = r.size := by omega
          have hallp : r.data.toList.all Lx.printable = true := by
            rw [List.all_eq_true]
            intro x hx
            obtain ⟨i, hi, rfl⟩ := List.getElem_of_mem hx
            rw [hrl] at hi
            exact hall.out i hi hi
          obtain ⟨hre, hkk⟩ := HMG.out hallp
          have CK := Lib.hid (fun W (h : Below wG.heap.size wG W) => sameKinds_any _ _ RM.toks rt W (MG.out.below h (Nat.le_refl _)) (TG.out.below h (Nat.le_refl _)) (by omega) (by omega))
          rw [show decide (Lx.kinds RM.toks = Lx.kinds rt) = true from decide_eq_true hkk] at CK
          clear hallp hkk
          go_wp2_with fail
          refine (HSan.out _ BG.out).mono ?_
          rintro e w10 ⟨rfl, hb10⟩
          have BH := Lib.hid (stepN BG.out hb10)
          have CK2 := Lib.hid (CK.out _ hb10)
          clear hb10
          go_wp2_with fail
          refine CK2.out.mono ?_
          rintro e w11 ⟨rfl, hb11⟩
          have BI := Lib.hid (stepN BH.out hb11)
          clear hb11
          go_wp2_with fail
          go_ret
          exact ⟨rfl, BI.out⟩
  · rw [if_neg he] at CS
    clear CT2 CC2 CS2 hread hidem hrem hsz hdt
    generalize Lx.readText s.data.toList = R at *
    go_enter Tryd.func10, Tryd.ntmps10
    go_wp2_with fail
    refine CT.out.mono ?_
    rintro e w1 ⟨A, c, rfl, ho, hb1⟩
    have B1 := Lib.hid hb1
    clear ho hb1
    go_wp2_with fail
    refine (CS.out _ (B1.out.alloc B1.out.size _)).mono ?_
    rintro e w2 ⟨rfl, hb2⟩
    have B2 := Lib.hid (stepA B1.out _ hb2)
    clear hb2
    go_wp2_with fail
    refine (HSan.out _ B2.out).mono ?_
    rintro e w3 ⟨rfl, hb3⟩
    have B3 := Lib.hid (stepN B2.out hb3)
    clear hb3
    go_wp2_with fail
    go_ret
    exact ⟨by simp, B3.out⟩
end Go.Proofs.YtadicempblgmhaaDoor
