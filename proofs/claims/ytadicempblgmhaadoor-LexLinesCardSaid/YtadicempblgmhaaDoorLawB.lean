/-
  For every text, LexStands returns true: Offset and PlaceOf undo each other, and tokens stand at their places.
-/
import Derived.Test.YtadicempblgmhaaDoorSane
import Derived.Test.YtadicempblgmhaaDoorStand
import Derived.Deep.QuietTactic
import Derived.BigQuiet
namespace Go.Proofs.YtadicempblgmhaaDoor
open Go.RowKit Go.Shelf

theorem Lx.readText_count (l : List UInt8) : (Lx.readText l).toks.length ≤ l.length := by
  unfold Lx.readText
  have := Lx.readLines_count l 1
  split
  · simp
  · split
    · simp
    · exact this
theorem san_at {w : World} (hE : Env w) (htab : Lib.TabIs Tryd.prog w "strings.asciiSpace" .u8 Lib.asciiSpaceTab) : ∀ W, Below w.heap.size w W → Calls Tryd.prog 14 #[] W fun e w' => e = .returned (.bool true) ∧ Below W.heap.size W w' :=
  fun W hb => sanity_any W (hE.below hb (Nat.le_refl _)) (tab_below (g := 1) (by kernel_rfl) htab hb (Nat.le_refl _))

set_option maxRecDepth 100000 in
set_option maxHeartbeats 2000000 in
theorem LexStands_any (s : ByteArray) (w : World) (hE : Env w) (htab : Lib.TabIs Tryd.prog w "strings.asciiSpace" .u8 Lib.asciiSpaceTab) :
    Calls Tryd.prog 12 #[.string s] w fun e w' => e = .returned (.bool true) ∧ Below w.heap.size w w' := by
  have HSan := Lib.hid (san_at hE htab)
  by_cases h400 : (400 : Int) < s.size
  · go_enter Tryd.func12, Tryd.ntmps12
    go_wp2_with fail
    refine (HSan.out _ (Below.refl _ _)).mono ?_
    rintro e w1 ⟨rfl, hb1⟩
    go_wp2_with fail
    go_ret
    exact ⟨rfl, hb1⟩
  · have hs : s.size ≤ 400 := by omega
    have CT := Lib.hid (fun W (hb : Below w.heap.size w W) => Tokens_any s W (by omega) (hE.below hb (Nat.le_refl _)))
    have CP := Lib.hid (fun (k : Nat) (hk : k ≤ s.size) W => PlaceOf_any s k W (by omega) hk)
    have CO := Lib.hid (fun (k : Nat) (hk : k ≤ s.size) W => by
      have := Offset_any s ((Lx.place s.data.toList k).1 : Int) ((Lx.place s.data.toList k).2 : Int) W (by omega)
      rw [Lx.offset_place s.data.toList k (by simpa using hk)] at this
      exact this)
    have hst := Lx.readText_stands s.data.toList
    have hcnt := Lx.readText_count s.data.toList
    rw [show s.data.toList.length = s.size from by simp] at hcnt
    generalize hR : Lx.readText s.data.toList = R at *
    have HST := Lib.hid hst
    clear hst hR hE htab
    go_enter Tryd.func12, Tryd.ntmps12
    go_wp2_with fail
    go_loopw [3] (fun i wr => ∃ k : Nat, k ≤ s.size + 1 ∧ i = .int .i64 k ∧ Below w.heap.size w wr) (fun i _ => s.size + 1 - (intOf i).toNat)
    case atStart => exact ⟨0, Nat.zero_le _, rfl, Below.refl _ _⟩
    case round =>
      obtain ⟨k, hk, rfl, hB⟩ := hrel
      have HB := Lib.hid hB
      clear hB
      by_cases hle : k ≤ s.size
      · have hleI : (k : Int) ≤ s.size := by omega
        have c1 := CP.out k hle
        have c2 := CO.out k hle
        generalize ((Lx.place s.data.toList k).1 : Int) = ln at *
        generalize ((Lx.place s.data.toList k).2 : Int) = cl at *
        go_wp2_with fail
        refine (c1 _).mono ?_
        rintro e w1 ⟨rfl, hb1⟩
        have B1 := Lib.hid (stepN HB.out hb1)
        clear hb1
        go_wp2_with fail
        refine (c2 _).mono ?_
        rintro e w2 ⟨rfl, hb2⟩
        have B2 := Lib.hid (stepA B1.out _ hb2)
        clear hb2
        go_wp2_with fail
        go_roundw
        case rel => exact ⟨k + 1, by omega, by go_num, B2.out⟩
        case measure => simp [intOf]; omega
      · have hleI : ¬ (k : Int) ≤ s.size := by omega
        go_wp2_with fail
        refine (CT.out _ HB.out).mono ?_
        rintro e w1 ⟨A, c, rfl, ho, hb1⟩
        have B1 := Lib.hid (stepN HB.out hb1)
        have ht := Lib.hid (ToksAt.of_own ho)
        clear ho hb1
        by_cases he : R.err = 0
        · go_wp2_with fail
          go_loopw [11, 60] (fun la i wr => ∃ j b : Nat, j ≤ R.toks.length ∧ i = .int .i64 j ∧ la = .int .i64 b ∧ b ≤ s.size ∧ Hid (Lx.Stands s.data.toList b (R.toks.drop j)) ∧ Below w1.heap.size w1 wr) (fun _ i _ => R.toks.length - (intOf i).toNat)
          case atStart => exact ⟨0, 0, Nat.zero_le _, rfl, rfl, Nat.zero_le _, HST.out he, (Below.refl _ _).alloc (Nat.le_refl _) _⟩
          case round =>
            obtain ⟨j, b, hj, rfl, rfl, hbs, HSt, hBw⟩ := hrel
            have HBw := Lib.hid hBw
            clear hBw
            by_cases hlt : j < R.toks.length
            · obtain ⟨bt, ot, ct, hv, hc⟩ := ht.out.first (by omega)
              cases hv
              have hcj := (hc j hlt).below HBw.out (Nat.le_refl _)
              have hSt := HSt.out
              rw [List.drop_eq_getElem_cons hlt] at hSt
              obtain ⟨o, s1, s2, s3, s4, s5, s6, s7, s8, s9⟩ := hSt
              have hpre : R.toks[j].text.isPrefixOf (s.data.toList.drop o) = true := by
                rw [List.isPrefixOf_iff_prefix, ← s4, Lx.refRun_take]
                exact List.take_prefix _ _
              have hol : o ≤ s.size := by simp at s2; omega
              have hlen : o + R.toks[j].text.length ≤ s.size := by simpa using s2
              have cO := CO.out o hol
              rw [s7, s8] at cO
              have SN := Lib.hid s9
              clear hc s4 s5 s6 s7 s8 s9 HSt s2
              generalize R.toks[j] = t at *
              obtain ⟨tk, tt, tl, tc⟩ := t
              obtain ⟨x0, x1, x2, x3⟩ := hcj
              dsimp only at x0 x1 x2 x3 hpre hlen cO s3 SN
              have CO' := Lib.hid cO
              clear cO
              have hjI : (j : Int) < R.toks.length := by omega
              go_wp2_with fail
              refine (CO'.out _).mono ?_
              rintro e w3 ⟨rfl, hb3⟩
              have B3 := Lib.hid (stepA HBw.out _ hb3)
              have hX := (Has.new wr 55 #[.int .i64 tk, .string ⟨tt.toArray⟩, .int .i64 tl, .int .i64 tc]).below hb3 (by simp)
              have y1 := hX.cell 1
              simp only [List.getElem?_toArray, List.getElem?_cons_zero, List.getElem?_cons_succ] at y1
              clear hb3 hX x0 x1 x2 x3
              have g1 : decide ((o : Int) < b) = false := decide_eq_false (by omega)
              have g2 : ((tt.length : Int) == 0) = false := by
                rw [beq_eq_false_iff_ne]
                cases tt with
                | nil => exact absurd rfl s3
                | cons a r => simp only [List.length_cons]; omega
              have hCHP := fun W => (hasPrefix_any (s.extract o s.size) ⟨tt.toArray⟩ W).mono (fun e w' (h : e = .returned (.bool ((⟨tt.toArray⟩ : ByteArray).data.toList.isPrefixOf (s.extract o s.size).data.toList)) ∧ W = w') => (⟨h.1, h.2.symm⟩ : e = .returned (.bool ((⟨tt.toArray⟩ : ByteArray).data.toList.isPrefixOf (s.extract o s.size).data.toList)) ∧ w' = W))
              rw [show (⟨tt.toArray⟩ : ByteArray).data.toList.isPrefixOf (s.extract o s.size).data.toList = true from by
                rw [Lib.extract_data, List.take_of_length_le (by simp)]; simpa using hpre] at hCHP
              have CHP := Lib.hid hCHP
              clear hCHP
              have g3 : (o : Int) ≤ s.size := by omega
              have g4 : min (o : Int) s.size = o := by omega
              go_wp2_with fail
              go_quiet ((go_at_call 47; refine Calls.quiet_of_same (CHP.out _)))
              go_wp2_with fail
              exact ⟨⟨j + 1, o + tt.length, hlt, by go_num, by go_num, hlen, SN, below_drewN B3.out nq⟩, by simp [intOf]; omega⟩
            · obtain rfl : j = R.toks.length := by omega
              have BW := Lib.hid (B1.out.trans (HBw.out.mono B1.out.size))
              go_wp2_with fail
              refine (HSan.out _ BW.out).mono ?_
              rintro e w4 ⟨rfl, hb4⟩
              have BZ := Lib.hid (stepN BW.out hb4)
              clear hb4
              go_wp2_with fail
              go_ret
              exact ⟨rfl, BZ.out⟩
        · go_wp2_with fail
          refine (HSan.out _ (B1.out.alloc B1.out.size _)).mono ?_
          rintro e w2 ⟨rfl, hb2⟩
          have B2 := Lib.hid (stepA B1.out _ hb2)
          clear hb2
          go_wp2_with fail
          go_ret
          exact ⟨rfl, B2.out⟩
end Go.Proofs.YtadicempblgmhaaDoor
