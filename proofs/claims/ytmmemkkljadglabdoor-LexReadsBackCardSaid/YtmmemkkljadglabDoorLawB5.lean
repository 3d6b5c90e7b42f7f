/-
  For every list of tokens, LexReadsBack returns true: what Write and Tight write is read back, and no blank of the tightest text can be left out.
-/
import Derived.Test.YtmmemkkljadglabDoorBackP
import Derived.Test.YtmmemkkljadglabDoorSameK
import Derived.Test.YtmmemkkljadglabDoorLawB
import Derived.Deep.RegionHeld3
namespace Go.Proofs.YtmmemkkljadglabDoor
open Go.RowKit Go.Shelf

theorem Lx.kinds_texts {l m : List Lx.Tok} {n : Nat} (h : Lx.kinds l = Lx.kinds m) (hm : ∀ t ∈ m, t.text.length ≤ n) : ∀ t ∈ l, t.text.length ≤ n := by
  intro t ht
  have h1 : (t.kind, t.text) ∈ Lx.kinds l := List.mem_map.2 ⟨t, ht, rfl⟩
  rw [h] at h1
  obtain ⟨u, hu, e⟩ := List.mem_map.1 h1
  have := hm u hu
  simp only [Prod.mk.injEq] at e
  rw [← e.2]
  exact this
theorem same_kinds {u v : Value} {l m : List Lx.Tok} {w : World} (hl : ToksAt w u l) (hm : ToksAt w v m) (hlen : l.length ≤ 100000) (hlen2 : m.length ≤ 100000) (b : Bool) (hb : decide (Lx.kinds l = Lx.kinds m) = b) :
    Calls Tryd.prog 13 #[u, v] w fun e w' => e = .returned (.bool b) ∧ Below w.heap.size w w' := by
  rw [← hb]
  exact sameKinds_any u v l m w hl hm hlen hlen2

theorem bytes_len (x : ByteArray) : x.data.toList.length = x.size := by simp

set_option maxRecDepth 100000 in
set_option maxHeartbeats 8000000 in
theorem LexReadsBack_any (v : Value) (l : List Lx.Tok) (w : World) (hl : ToksAt w v l) (hE : Env w) (htab : Lib.TabIs Tryd.prog w "strings.asciiSpace" .u8 Lib.asciiSpaceTab) :
    Calls Tryd.prog 3 #[v] w fun e w' => e = .returned (.bool true) ∧ Below w.heap.size w w' := by
  have HSan := Lib.hid (san_at hE htab)
  have HL := Lib.hid (fun W (hb : Below w.heap.size w W) => hl.below hb (Nat.le_refl _))
  have HE := Lib.hid (fun W (hb : Below w.heap.size w W) => hE.below hb (Nat.le_refl _))
  obtain ⟨A, c, rfl, -⟩ := hl
  clear hE htab
  by_cases h200 : (200 : Int) < l.length
  · go_enter Tryd.func3, Tryd.ntmps3
    go_wp2_with fail
    refine (HSan.out _ (Below.refl _ _)).mono ?_
    rintro e w1 ⟨rfl, hb1⟩
    go_wp2_with fail
    go_ret
    exact ⟨rfl, hb1⟩
  · have h200N : l.length ≤ 200 := by omega
    go_enter Tryd.func3, Tryd.ntmps3
    go_wp2_with fail
    go_loopw [27] (fun i wr => ∃ k : Nat, k ≤ l.length ∧ i = .int .i64 k ∧ Hid (Below w.heap.size w wr) ∧ Hid (∀ i (_ : i < k) (h : i < l.length), l[i].text.length ≤ 60)) (fun i _ => l.length - (intOf i).toNat)
    case atStart => exact ⟨0, Nat.zero_le _, rfl, Below.refl _ _, fun i hi => absurd hi (Nat.not_lt_zero _)⟩
    case round =>
      obtain ⟨k, hk, rfl, HB, hall⟩ := hrel
      by_cases hlt : k < l.length
      · have hltI : (k : Int) < l.length := by omega
        obtain ⟨bt, ot, ct, hv, hc⟩ := (HL.out _ HB.out).first (by omega)
        cases hv
        obtain ⟨x0, x1, x2, x3⟩ := hc k hlt
        clear hc
        have hnext : l[k].text.length ≤ 60 → ∀ i (_ : i < k + 1) (h : i < l.length), l[i].text.length ≤ 60 := fun h i hi h2 => by
          by_cases e : i = k
          · subst e; exact h
          · exact hall.out i (by omega) h2
        have HNX := Lib.hid hnext
        clear hnext
        generalize l[k] = t at *
        obtain ⟨tk, tt, tl, tc⟩ := t
        dsimp only at x0 x1 x2 x3
        by_cases h60 : (60 : Int) < tt.length
        · go_wp2_with fail
          refine (HSan.out _ (HB.out.alloc HB.out.size _)).mono ?_
          rintro e w1 ⟨rfl, hb1⟩
          have BZ := Lib.hid (stepA HB.out _ hb1)
          clear hb1
          go_wp2_with fail
          go_ret
          exact ⟨rfl, BZ.out⟩
        · have NX := Lib.hid (HNX.out (show tt.length ≤ 60 by omega))
          go_wp2_with fail
          go_roundw
          case rel => exact ⟨k + 1, hlt, by go_num, HB.out.alloc HB.out.size _, NX⟩
          case measure => simp [intOf]; omega
      · obtain rfl : k = l.length := by omega
        have hall2 : ∀ t ∈ l, t.text.length ≤ 60 := fun t ht => by
          obtain ⟨i, hi, rfl⟩ := List.getElem_of_mem ht
          exact hall.out i hi hi
        have CW := fun W (hW : Below w.heap.size w W) => Write_any _ l W (HL.out W hW) (by omega) (fun t ht => by have := hall2 t ht; omega) (HE.out W hW)
        have CG := fun W (hW : Below w.heap.size w W) => Tight_any _ l W (HL.out W hW) (by omega) (fun t ht => by have := hall2 t ht; omega) (HE.out W hW)
        clear hall
        by_cases hr : l.all Lx.right = true
        · obtain ⟨k1, k2, k3, k4, k5, k6, k7, k8, k9⟩ := Lx.reads_back l hr h200N hall2
          rw [k1] at CW
          rw [k2] at CG
          dsimp only at CW CG
          have hno := fun S => Lx.no_shorter l S
          have hn1 := Lx.kinds_len k6
          have hn2 := Lx.kinds_len k8
          have ht2 := Lx.kinds_texts k8 hall2
          have CT1 := fun W (hW : Below w.heap.size w W) => Tokens_any ⟨(Lx.textOf Lx.always l).toArray⟩ W (by show (Lx.textOf Lx.always l).toArray.size ≤ 100000; simp; omega) (HE.out W hW)
          rw [show (⟨(Lx.textOf Lx.always l).toArray⟩ : ByteArray).data.toList = Lx.textOf Lx.always l from by simp] at CT1
          have CT2 := fun W (hW : Below w.heap.size w W) => Tokens_any ⟨(Lx.textOf Lx.needs l).toArray⟩ W (by show (Lx.textOf Lx.needs l).toArray.size ≤ 100000; simp; omega) (HE.out W hW)
          rw [show (⟨(Lx.textOf Lx.needs l).toArray⟩ : ByteArray).data.toList = Lx.textOf Lx.needs l from by simp] at CT2
          generalize Lx.readText (Lx.textOf Lx.always l) = R1 at *
          generalize Lx.readText (Lx.textOf Lx.needs l) = R2 at *
          have CG2 := fun (u : Value) W (hu : ToksAt W u R2.toks) (hW : Below w.heap.size w W) => Tight_any u R2.toks W hu (by omega) (fun t ht => by have := ht2 t ht; omega) (HE.out W hW)
          rw [k9] at CG2
          dsimp only at CG2
          have hz1 : (⟨(Lx.textOf Lx.always l).toArray⟩ : ByteArray).size = (Lx.textOf Lx.always l).length := by simp [ByteArray.size]
          have hz2 : (⟨(Lx.textOf Lx.needs l).toArray⟩ : ByteArray).size = (Lx.textOf Lx.needs l).length := by simp [ByteArray.size]
          generalize (⟨(Lx.textOf Lx.always l).toArray⟩ : ByteArray) = S at *
          generalize (⟨(Lx.textOf Lx.needs l).toArray⟩ : ByteArray) = T at *
          rw [← hz1, ← hz2] at k3
          rw [← hz1] at k4
          rw [← hz2] at hno
          have HNO := Lib.hid hno
          have HW := Lib.hid CW
          have HG := Lib.hid CG
          have HG2 := Lib.hid CG2
          have HT1 := Lib.hid CT1
          have HT2 := Lib.hid CT2
          have K6 := Lib.hid (decide_eq_true k6)
          have K8 := Lib.hid (decide_eq_true k8)
          clear CW CG CG2 CT1 CT2 hno k1 k2 k6 k8 k9 hz1 hz2 ht2 hall2
          have k3I : ¬ (S.size : Int) < T.size := by omega
          have hm1 : R1.toks.length ≤ 200 := by omega
          have hm2 : R2.toks.length ≤ 200 := by omega
          clear hn1 hn2
          go_wp2_with fail
          refine (HW.out _ HB.out).mono ?_
          rintro e w1 ⟨rfl, hb1⟩
          have B1 := Lib.hid (stepN HB.out hb1)
          clear hb1
          go_wp2_with fail
          refine (HG.out _ B1.out).mono ?_
          rintro e w2 ⟨rfl, hb2⟩
          have B2 := Lib.hid (stepN B1.out hb2)
          clear hb2
          go_wp2_with fail
          refine (HT1.out _ B2.out).mono ?_
          rintro e w3 ⟨A3, c3, rfl, ho3, hb3⟩
          have B3 := Lib.hid (stepN B2.out hb3)
          have T3 := Lib.hid (ToksAt.of_own ho3)
          clear hb3 ho3
          go_wp2_with fail
          refine (HT2.out _ (B3.out.alloc B3.out.size _)).mono ?_
          rintro e w4 ⟨A4, c4, rfl, ho4, hb4⟩
          have B4 := Lib.hid (stepA B3.out _ hb4)
          have T4 := Lib.hid ((T3.out.below ((Below.refl w3.heap.size w3).alloc (Nat.le_refl _) (.cells #[.int .i64 R1.line, .int .i64 R1.col] 25)) (Nat.le_refl _)).below hb4 (Nat.le_refl _))
          have U4 := Lib.hid (ToksAt.of_own ho4)
          have N4 := Lib.hid ((Below.refl w4.heap.size w4).alloc (Nat.le_refl _) (.cells #[.int .i64 R2.line, .int .i64 R2.col] 25))
          clear hb4 ho4 T3
          go_wp2_with fail
          refine (HG2.out _ _ (U4.out.below N4.out (Nat.le_refl _)) (B4.out.alloc B4.out.size _)).mono ?_
          rintro e w5 ⟨rfl, hb5⟩
          have B5 := Lib.hid (stepA B4.out _ hb5)
          have T5 := Lib.hid ((T4.out.below N4.out (Nat.le_refl _)).below hb5 (Nat.le_refl _))
          have U5 := Lib.hid ((U4.out.below N4.out (Nat.le_refl _)).below hb5 (Nat.le_refl _))
          clear hb5 T4 U4
          have g1 : (R1.err != 0) = false := by rw [k5]; rfl
          have g2 : (R2.err != 0) = false := by rw [k7]; rfl
          have g3 : decide ((S.size : Int) < T.size) = false := decide_eq_false (by omega)
          have g3n : decide (S.size < T.size) = false := decide_eq_false (by omega)
          go_wp2_with fail
          refine (same_kinds T5.out (HL.out _ B5.out) (by omega) (by omega) true K6.out).mono ?_
          rintro e w6 ⟨rfl, hb6⟩
          have B6 := Lib.hid (stepN B5.out hb6)
          have U6 := Lib.hid (U5.out.below hb6 (Nat.le_refl _))
          clear hb6 T5 U5
          go_wp2_with fail
          refine (same_kinds U6.out (HL.out _ B6.out) (by omega) (by omega) true K8.out).mono ?_
          rintro e w7 ⟨rfl, hb7⟩
          have B7 := Lib.hid (stepN B6.out hb7)
          clear hb7 U6
          go_wp2_with fail
          go_loopw [17] (fun i wr => ∃ k : Nat, k ≤ T.size ∧ i = .int .i64 k ∧ Hid (Below w.heap.size w wr)) (fun i _ => T.size - (intOf i).toNat)
          case atStart => exact ⟨0, Nat.zero_le _, rfl, B7⟩
          case round =>
            obtain ⟨k, hk, rfl, HB⟩ := hrel
            by_cases hlt : k < T.size
            · have hltI : (k : Int) < T.size := by omega
              by_cases h32 : (T[k].toNat : Int) = 32
              · have g4 : ((T[k].toNat : Int) != 32) = false := by rw [h32]; rfl
                have htl : (T.extract 0 k ++ T.extract (k + 1) T.size).data.toList.length = T.size - 1 := by
                  simp [ByteArray.data_append]
                  omega
                have htz : (T.extract 0 k ++ T.extract (k + 1) T.size).size ≤ 100000 := by
                  have := bytes_len (T.extract 0 k ++ T.extract (k + 1) T.size)
                  omega
                have hns := HNO.out (T.extract 0 k ++ T.extract (k + 1) T.size).data.toList (by omega)
                have hcnt := Lx.readText_count (T.extract 0 k ++ T.extract (k + 1) T.size).data.toList
                rw [htl] at hcnt
                have CTX := Lib.hid (fun W (hW : Below w.heap.size w W) => Tokens_any (T.extract 0 k ++ T.extract (k + 1) T.size) W htz (HE.out W hW))
                generalize Lx.readText (T.extract 0 k ++ T.extract (k + 1) T.size).data.toList = R at *
                have HNS := Lib.hid hns
                clear hns htl htz
                have a1 : (0 : Int) ≤ k := by omega
                have a2 : (k : Int) + 1 ≤ T.size := by omega
                have a3 : (0 : Int) ≤ (k : Int) + 1 := by omega
                have a4 : ((k : Int) + 1).toNat = k + 1 := by omega
                have a5 : (k : Int) ≤ T.size := by omega
                have a6 : (T.extract 0 k).size = k := by simp; omega
                have a7 : (T.extract (k + 1) T.size).size = T.size - (k + 1) := by simp
                have a8 : ¬ ((9223372036854775807 : Int) < ((T.extract 0 k).size : Int) + ((T.extract (k + 1) T.size).size : Int)) := by omega
                have a9 : ¬ ((9223372036854775807 : Int) < (k : Int) + ((T.size - (k + 1) : Nat) : Int)) := by omega
                have b8 : ¬ (9223372036854775807 < min k T.size + (T.size - (k + 1))) := by omega
                have b9 : ¬ (9223372036854775807 < k + (T.size - (k + 1))) := by omega
                have hw1 : IntKind.i64.wrap ((k : Int) + 1) = (k : Int) + 1 := IntWalk.i64_in _ (by omega)
                have BA : Below wr.heap.size wr ((wr.alloc (.cells #[.int .i64 0, .int .i64 0] 25)).drew) := ((Below.refl _ _).alloc (Nat.le_refl _) _).drew
                have CTXa := Lib.hid ((CTX.out ((wr.alloc (.cells #[.int .i64 0, .int .i64 0] 25)).drew) (HB.out.trans (BA.mono HB.out.size))).mono (R' := fun e w' => ∃ Ax cx, e = .returned (.tuple #[.slice Ax R.toks.length cx, .agg #[.int .i64 R.line, .int .i64 R.col], .int .i64 R.err]) ∧ Hid (w'.ownsRow wr.heap.size 27 4 (.slice Ax R.toks.length cx) R.toks.length (toksCells R.toks)) ∧ Hid (Below wr.heap.size wr w') ∧ Hid (Has w' wr.heap.size 25 #[.int .i64 0, .int .i64 0]))
                  (fun e w' ⟨Ax, cx, he, ho, hb⟩ => ⟨Ax, cx, he, own_base ho BA.size, stepN BA hb, Has.below (w := (wr.alloc (.cells #[.int .i64 0, .int .i64 0] 25)).drew) (Has.new wr _ _) hb (by show wr.heap.size < (wr.alloc _).heap.size; simp)⟩))
                have CTXb := Lib.hid ((CTX.out wr.drew (HB.out.trans ((Below.refl wr.heap.size wr).drew.mono HB.out.size))).mono (R' := fun e w' => ∃ Ax cx, e = .returned (.tuple #[.slice Ax R.toks.length cx, .agg #[.int .i64 R.line, .int .i64 R.col], .int .i64 R.err]) ∧ Hid (ToksAt w' (.slice Ax R.toks.length cx) R.toks) ∧ Hid (Below wr.heap.size wr w'))
                  (fun e w' ⟨Ax, cx, he, ho, hb⟩ => ⟨Ax, cx, he, ToksAt.of_own ho, stepN (Below.refl wr.heap.size wr).drew hb⟩))
                clear CTX BA
                go_wp2_with fail
                go_region_with (first
                  | (go_at_call 12; refine CTXa.out.mono ?_; rintro e wx ⟨Ax, cx, rfl, htx, hbx, hpx⟩; have j0 := hpx.out.cell 0; have j1 := hpx.out.cell 1; have f0 := hpx.out.free 0; have f1 := hpx.out.free 1; have hplt := hpx.out.lt; simp only [List.getElem?_toArray, List.getElem?_cons_zero, List.getElem?_cons_succ] at j0 j1)
                  | (go_at_call 12; refine CTXb.out.mono ?_; rintro e wx ⟨Ax, cx, rfl, htx, hbx⟩))
                · have BX := Lib.hid ((HB.out.trans (hbx.out.mono HB.out.size)).alloc (HB.out.trans (hbx.out.mono HB.out.size)).size (.cells #[.int .i64 R.line, .int .i64 R.col] 25))
                  have TX := Lib.hid (htx.out.below ((Below.refl wx.heap.size wx).alloc (Nat.le_refl _) (.cells #[.int .i64 R.line, .int .i64 R.col] 25)) (Nat.le_refl _))
                  by_cases he : R.err = 0
                  · have hks := decide_eq_false (HNS.out he)
                    go_wp2_with fail
                    refine (same_kinds TX.out (HL.out _ BX.out) (by omega) (by omega) false hks).mono ?_
                    rintro e wy ⟨rfl, hby⟩
                    have BY := Lib.hid (stepN BX.out hby)
                    clear hby
                    go_wp2_with fail
                    go_roundw
                    case rel => exact ⟨k + 1, hlt, by go_num, BY⟩
                    case measure => simp [intOf]; omega
                  · have heb : (R.err == 0) = false := by simpa using he
                    go_wp2_with fail
                    go_roundw
                    case rel => exact ⟨k + 1, hlt, by go_num, BX⟩
                    case measure => simp [intOf]; omega
                · have o1 := htx.out.kept (grown_set wx wr.heap.size 0 (.int .i64 R.line)) (.inr (own_apart htx.out hpx.out (by decide)).symm)
                  have p1 := hpx.out.set 0 (.int .i64 R.line)
                  have o2 := o1.kept (grown_set _ wr.heap.size 1 (.int .i64 R.col)) (.inr (own_apart o1 p1 (by decide)).symm)
                  have TX := Lib.hid (ToksAt.of_own o2)
                  have BX := Lib.hid (HB.out.trans (((hbx.out.setCell (p := ⟨wr.heap.size, 0, none⟩) (Nat.le_refl _) (.int .i64 R.line)).setCell (p := ⟨wr.heap.size, 1, none⟩) (Nat.le_refl _) (.int .i64 R.col)).mono HB.out.size))
                  clear o1 o2 p1
                  by_cases he : R.err = 0
                  · have hks := decide_eq_false (HNS.out he)
                    go_wp2_with fail
                    refine (same_kinds TX.out (HL.out _ BX.out) (by omega) (by omega) false hks).mono ?_
                    rintro e wy ⟨rfl, hby⟩
                    have BY := Lib.hid (stepN BX.out hby)
                    clear hby
                    go_wp2_with fail
                    go_roundw
                    case rel => exact ⟨k + 1, hlt, by go_num, BY⟩
                    case measure => simp [intOf]; omega
                  · have heb : (R.err == 0) = false := by simpa using he
                    go_wp2_with fail
                    go_roundw
                    case rel => exact ⟨k + 1, hlt, by go_num, BX⟩
                    case measure => simp [intOf]; omega
              · have g4 : ((T[k].toNat : Int) != 32) = true := by simpa using h32
                go_wp2_with fail
                go_roundw
                case rel => exact ⟨k + 1, hlt, by go_num, HB⟩
                case measure => simp [intOf]; omega
            · obtain rfl : k = T.size := by omega
              go_wp2_with fail
              refine (HSan.out _ HB.out).mono ?_
              rintro e w8 ⟨rfl, hb8⟩
              have BZ := Lib.hid (stepN HB.out hb8)
              clear hb8
              go_wp2_with fail
              go_ret
              exact ⟨rfl, BZ.out⟩
        · have hr' : l.all Lx.right = false := by simpa using hr
          rw [Lx.wrong_back l hr' h200N] at CW CG
          dsimp only at CW CG
          have HW := Lib.hid CW
          have HG := Lib.hid CG
          clear CW CG hr hr'
          go_wp2_with fail
          refine (HW.out _ HB.out).mono ?_
          rintro e w1 ⟨rfl, hb1⟩
          have B1 := Lib.hid (stepN HB.out hb1)
          clear hb1
          go_wp2_with fail
          refine (HG.out _ B1.out).mono ?_
          rintro e w2 ⟨rfl, hb2⟩
          have B2 := Lib.hid (stepN B1.out hb2)
          clear hb2
          go_wp2_with fail
          refine (HSan.out _ B2.out).mono ?_
          rintro e w3 ⟨rfl, hb3⟩
          have B3 := Lib.hid (stepN B2.out hb3)
          clear hb3
          go_wp2_with fail
          go_ret
          exact ⟨by simp, B3.out⟩
end Go.Proofs.YtmmemkkljadglabDoor
