/-
  For every list of tokens, LexWrites returns true: Write, Tight and Needs return what the reference returns.
-/
import Derived.Test.YtmmemkkljadglaaDoorRefP
import Derived.Test.YtmmemkkljadglaaDoorSane
namespace Go.Proofs.YtmmemkkljadglaaDoor
open Go.RowKit Go.Shelf

/-- Whether the law looks at these tokens. -/
def Lx.fewToks (l : List Lx.Tok) : Bool := l.all (fun t => decide (t.text.length ≤ 60)) && (decide (l.length ≤ 40) || (decide (6000 < l.length) && decide (l.length ≤ 6010)))

set_option maxRecDepth 100000 in
set_option maxHeartbeats 1000000 in
theorem few_any (v : Value) (l : List Lx.Tok) (w : World) (hl : ToksAt w v l) (hlen : l.length ≤ 9223372036854775807) :
    Calls Tryd.prog 20 #[v] w fun e w' => e = .returned (.bool (Lx.fewToks l)) ∧ Below w.heap.size w w' := by
  have HL := Lib.hid (fun W (hb : Below w.heap.size w W) => hl.below hb (Nat.le_refl _))
  obtain ⟨A, c, rfl, -⟩ := hl
  go_enter Tryd.func20, Tryd.ntmps20
  go_wp2_with fail
  go_loopw [3] (fun i wr => ∃ k : Nat, k ≤ l.length ∧ i = .int .i64 k ∧ Hid (Below w.heap.size w wr) ∧ Hid (∀ i (_ : i < k) (h : i < l.length), l[i].text.length ≤ 60)) (fun i _ => l.length - (intOf i).toNat)
  case atStart => exact ⟨0, Nat.zero_le _, rfl, Below.refl _ _, fun i hi => absurd hi (Nat.not_lt_zero _)⟩
  case round =>
    obtain ⟨k, hk, rfl, HB, hall⟩ := hrel
    by_cases hlt : k < l.length
    · have hltI : (k : Int) < l.length := by omega
      obtain ⟨bt, ot, ct, hv, hc⟩ := (HL.out _ HB.out).first (by omega)
      cases hv
      obtain ⟨x0, x1, x2, x3⟩ := hc k hlt
      clear hc
      have hnext : l[k].text.length ≤ 60 → ∀ i (_ : i < k + 1) (h : i < l.length), l[i].text.length ≤ 60 := fun h i hi h2 => by
        by_cases e : i = k
        · subst e; exact h
        · exact hall.out i (by omega) h2
      have hstop : ¬ l[k].text.length ≤ 60 → Lx.fewToks l = false := fun h => by
        unfold Lx.fewToks
        have : (l.all fun t => decide (t.text.length ≤ 60)) = false := by
          rw [List.all_eq_false]
          exact ⟨l[k], List.getElem_mem hlt, by simpa using h⟩
        rw [this]
        rfl
      have HNX := Lib.hid hnext
      have HST := Lib.hid hstop
      clear hnext hstop
      generalize l[k] = t at *
      obtain ⟨tk, tt, tl, tc⟩ := t
      dsimp only at x0 x1 x2 x3
      by_cases h60 : (60 : Int) < tt.length
      · have hf := Lib.hid (HST.out (show ¬ tt.length ≤ 60 by omega))
        go_wp2_with fail
        go_ret
        exact ⟨ret_bool hf.out.symm, HB.out⟩
      · have NX := Lib.hid (HNX.out (show tt.length ≤ 60 by omega))
        go_wp2_with fail
        go_roundw
        case rel => exact ⟨k + 1, hlt, by go_num, HB, NX⟩
        case measure => simp [intOf]; omega
    · obtain rfl : k = l.length := by omega
      have hall2 : (l.all fun t => decide (t.text.length ≤ 60)) = true := List.all_eq_true.2 (fun t ht => by
        obtain ⟨i, hi, rfl⟩ := List.getElem_of_mem ht
        simpa using hall.out i hi hi)
      have hf : Lx.fewToks l = (decide (l.length ≤ 40) || (decide (6000 < l.length) && decide (l.length ≤ 6010))) := by unfold Lx.fewToks; rw [hall2, Bool.true_and]
      have HF := Lib.hid hf
      clear hall hall2 hf
      by_cases h1 : (l.length : Int) ≤ 40
      · go_wp2_with fail
        go_ret
        exact ⟨ret_bool (by rw [HF.out, Bool.eq_iff_iff]; simp; omega), HB.out⟩
      · by_cases h2 : (6000 : Int) < l.length
        · by_cases h3 : (l.length : Int) ≤ 6010
          · go_wp2_with fail
            go_ret
            exact ⟨ret_bool (by rw [HF.out, Bool.eq_iff_iff]; simp; omega), HB.out⟩
          · go_wp2_with fail
            go_ret
            exact ⟨ret_bool (by rw [HF.out, Bool.eq_iff_iff]; simp; omega), HB.out⟩
        · go_wp2_with fail
          go_ret
          exact ⟨ret_bool (by rw [HF.out, Bool.eq_iff_iff]; simp; omega), HB.out⟩

theorem Lx.few_of {l : List Lx.Tok} (h : Lx.fewToks l = true) : (∀ t ∈ l, t.text.length ≤ 60) ∧ l.length ≤ 6010 := by
  unfold Lx.fewToks at h
  simp only [Bool.and_eq_true, Bool.or_eq_true, List.all_eq_true, decide_eq_true_eq] at h
  exact ⟨h.1, by omega⟩

set_option maxRecDepth 100000 in
set_option maxHeartbeats 8000000 in
theorem LexWrites_any (v : Value) (l : List Lx.Tok) (w : World) (hl : ToksAt w v l) (hlen : l.length ≤ 9223372036854775807) (hE : Env w) (htab : Lib.TabIs Tryd.prog w "strings.asciiSpace" .u8 Lib.asciiSpaceTab) :
    Calls Tryd.prog 5 #[v] w fun e w' => e = .returned (.bool true) ∧ Below w.heap.size w w' := by
  have HSan := Lib.hid (fun W (hb : Below w.heap.size w W) => sanity_any W (hE.below hb (Nat.le_refl _)) (tab_below (g := 1) (by kernel_rfl) htab hb (Nat.le_refl _)))
  have HL := Lib.hid (fun W (hb : Below w.heap.size w W) => hl.below hb (Nat.le_refl _))
  have CF := few_any v l w hl hlen
  obtain ⟨A, c, rfl, -⟩ := hl
  by_cases hf : Lx.fewToks l = true
  · obtain ⟨ht, hn⟩ := Lx.few_of hf
    rw [hf] at CF
    have HCF := Lib.hid CF
    clear CF hf
    have CW := fun W (hW : Below w.heap.size w W) => Write_any _ l W (HL.out W hW) (by omega) (fun t h => by have := ht t h; omega) (hE.below hW (Nat.le_refl _))
    have CRW := fun W (hW : Below w.heap.size w W) => rWrite_any _ l W (HL.out W hW) (by omega) (fun t h => by have := ht t h; omega)
    have CG := fun W (hW : Below w.heap.size w W) => Tight_any _ l W (HL.out W hW) (by omega) (fun t h => by have := ht t h; omega) (hE.below hW (Nat.le_refl _))
    have CRG := fun W (hW : Below w.heap.size w W) => rTight_any _ l W (HL.out W hW) (by omega) (fun t h => by have := ht t h; omega)
    generalize Lx.written Lx.always l = s1 at *
    generalize Lx.written Lx.needs l = s2 at *
    obtain ⟨r1, e1⟩ := s1
    obtain ⟨r2, e2⟩ := s2
    dsimp only at CW CRW CG CRG
    generalize (⟨r1.toArray⟩ : ByteArray) = S at *
    generalize (⟨r2.toArray⟩ : ByteArray) = T at *
    have HW := Lib.hid CW
    have HRW := Lib.hid CRW
    have HG := Lib.hid CG
    have HRG := Lib.hid CRG
    have CN := Lib.hid (fun (a b : Lx.Tok) (ha : a ∈ l) (hb : b ∈ l) W (hW : Below w.heap.size w W) => Needs_any a b W (by have := ht a ha; omega) (by have := ht b hb; omega) (hE.below hW (Nat.le_refl _)))
    have CRN := Lib.hid (fun (a b : Lx.Tok) (ha : a ∈ l) (hb : b ∈ l) W => rNeeds_any a b W (by have := ht a ha; omega) (by have := ht b hb; omega))
    clear CW CRW CG CRG ht hE htab
    go_enter Tryd.func5, Tryd.ntmps5
    go_wp2_with fail
    refine HCF.out.mono ?_
    rintro e w0 ⟨rfl, hb0⟩
    have B0 := Lib.hid hb0
    clear hb0
    go_wp2_with fail
    refine (HW.out _ B0.out).mono ?_
    rintro e w1 ⟨rfl, hb1⟩
    have B1 := Lib.hid (stepN B0.out hb1)
    clear hb1
    go_wp2_with fail
    refine (HRW.out _ B1.out).mono ?_
    rintro e w2 ⟨rfl, hb2⟩
    have B2 := Lib.hid (stepN B1.out hb2)
    have X2 := Lib.hid (Has.new w2 50 #[.string S, .int .i64 e1])
    clear hb2
    go_wp2_with fail
    refine (HG.out _ (B2.out.alloc B2.out.size _)).mono ?_
    rintro e w3 ⟨rfl, hb3⟩
    have B3 := Lib.hid (stepA B2.out _ hb3)
    have X3 := Lib.hid (X2.out.below hb3 X2.out.lt)
    clear hb3
    go_wp2_with fail
    refine (HRG.out _ B3.out).mono ?_
    rintro e w4 ⟨rfl, hb4⟩
    have B4 := Lib.hid (stepN B3.out hb4)
    have X4 := X3.out.below hb4 X3.out.lt
    have X5 := X4.alloc (.cells #[.string T, .int .i64 e2] 50)
    have BS := Lib.hid (B4.out.alloc B4.out.size (.cells #[.string T, .int .i64 e2] 50))
    have x0 := X5.cell 0
    have x1 := X5.cell 1
    have hxl := X4.lt
    simp only [List.getElem?_toArray, List.getElem?_cons_zero, List.getElem?_cons_succ] at x0 x1
    clear hb4 X4 X5
    by_cases h2 : (2 : Int) ≤ l.length
    · have hl2 : 2 ≤ l.length := by omega
      obtain ⟨bt, ot, ct, hv, hc⟩ := (HL.out _ BS.out).first (by omega)
      cases hv
      have t0 := hc 0 (by omega)
      have t1 := hc 1 (by omega)
      have CN0 := CN.out l[0] l[1] (List.getElem_mem _) (List.getElem_mem _)
      have CRN0 := CRN.out l[0] l[1] (List.getElem_mem _) (List.getElem_mem _)
      generalize Lx.needsOut l[0] l[1] = no at *
      obtain ⟨nb, ne⟩ := no
      dsimp only at CN0 CRN0
      clear hc
      generalize l[1] = b at *
      generalize l[0] = a at *
      obtain ⟨ak, atx, al, ac⟩ := a
      obtain ⟨bk, btx, bl, bc⟩ := b
      obtain ⟨a0, a1, a2, a3⟩ := t0
      obtain ⟨b0, b1, b2, b3⟩ := t1
      simp only [Nat.zero_mul, Nat.add_zero, Nat.one_mul] at a0 a1 a2 a3 b0 b1 b2 b3
      have HN := Lib.hid CN0
      have HRN := Lib.hid CRN0
      clear CN0 CRN0
      go_wp2_with fail
      generalize w4.alloc (.cells #[.string T, .int .i64 e2] 50) = wS at *
      have CN2 := Lib.hid (fun (W : World) (hW : Below wS.heap.size wS W) => (HN.out W (BS.out.trans (hW.mono BS.out.size))).mono (fun e w' (h : e = .returned (.tuple #[.bool nb, .int .i64 ne]) ∧ Below W.heap.size W w') => (⟨h.1, stepN hW h.2⟩ : e = .returned (.tuple #[.bool nb, .int .i64 ne]) ∧ Below wS.heap.size wS w')))
      have GIVE := Lib.hid (fun (W : World) (hW : Below wS.heap.size wS W) => (⟨kept_below hW (Nat.le_refl _) _ _ a0, kept_below hW (Nat.le_refl _) _ _ a1, kept_below hW (Nat.le_refl _) _ _ a2, kept_below hW (Nat.le_refl _) _ _ a3, kept_below hW (Nat.le_refl _) _ _ b0, kept_below hW (Nat.le_refl _) _ _ b1, kept_below hW (Nat.le_refl _) _ _ b2, kept_below hW (Nat.le_refl _) _ _ b3, hW⟩ :
        W.cell? ⟨bt, ot, none⟩ = some (.int .i64 ak) ∧ W.cell? ⟨bt, ot + 1, none⟩ = some (.string ⟨atx.toArray⟩) ∧ W.cell? ⟨bt, ot + 2, none⟩ = some (.int .i64 al) ∧ W.cell? ⟨bt, ot + 3, none⟩ = some (.int .i64 ac) ∧ W.cell? ⟨bt, ot + 4, none⟩ = some (.int .i64 bk) ∧ W.cell? ⟨bt, ot + 4 + 1, none⟩ = some (.string ⟨btx.toArray⟩) ∧ W.cell? ⟨bt, ot + 4 + 2, none⟩ = some (.int .i64 bl) ∧ W.cell? ⟨bt, ot + 4 + 3, none⟩ = some (.int .i64 bc) ∧ Below wS.heap.size wS W))
      have h0I : (0 : Int) < l.length := by omega
      have h1I : (1 : Int) < l.length := by omega
      have h0N : 0 < l.length := by omega
      have h1N : 1 < l.length := by omega
      have hne : ¬ l = [] := by rintro rfl; simp at h0N
      clear a0 a1 a2 a3 b0 b1 b2 b3 HN x0 x1
      go_region_held3 (fun W => W.cell? ⟨bt, ot, none⟩ = some (.int .i64 ak) ∧ W.cell? ⟨bt, ot + 1, none⟩ = some (.string ⟨atx.toArray⟩) ∧ W.cell? ⟨bt, ot + 2, none⟩ = some (.int .i64 al) ∧ W.cell? ⟨bt, ot + 3, none⟩ = some (.int .i64 ac) ∧ W.cell? ⟨bt, ot + 4, none⟩ = some (.int .i64 bk) ∧ W.cell? ⟨bt, ot + 4 + 1, none⟩ = some (.string ⟨btx.toArray⟩) ∧ W.cell? ⟨bt, ot + 4 + 2, none⟩ = some (.int .i64 bl) ∧ W.cell? ⟨bt, ot + 4 + 3, none⟩ = some (.int .i64 bc) ∧ Below wS.heap.size wS W)
        (with_reducible (refine GIVE.out _ ?_; first | exact hbx | exact (Below.refl _ _).drew))
        (first
          | (go_at_call 25; refine (CN2.out _ (by with_reducible first | exact hbx | exact (Below.refl _ _).drew)).mono ?_; rintro e wx ⟨rfl, hbx⟩))
      have BX := Lib.hid (BS.out.trans (hbx.mono BS.out.size))
      obtain ⟨a0, a1, a2, a3, b0, b1, b2, b3, _⟩ := GIVE.out _ hbx
      have ka : ∀ (o : Obj) (q : Addr) (u : Value), wx.cell? q = some u → (wx.alloc o).cell? q = some u := fun o q u h => kept_below ((Below.refl wx.heap.size wx).alloc (Nat.le_refl _) o) (Nat.le_refl _) _ _ h
      have a0' := fun o => ka o _ _ a0
      have a1' := fun o => ka o _ _ a1
      have a2' := fun o => ka o _ _ a2
      have a3' := fun o => ka o _ _ a3
      have b0' := fun o => ka o _ _ b0
      have b1' := fun o => ka o _ _ b1
      have b2' := fun o => ka o _ _ b2
      have b3' := fun o => ka o _ _ b3
      have BA : Below wx.heap.size wx ((wx.alloc (.cells #[.bool false, .int .i64 0] 57)).drew) := ((Below.refl _ _).alloc (Nat.le_refl _) _).drew
      have CTXa := Lib.hid ((HRN.out ((wx.alloc (.cells #[.bool false, .int .i64 0] 57)).drew)).mono (R' := fun e w' => e = .returned (.agg #[.bool nb, .int .i64 ne]) ∧ Hid (Below wx.heap.size wx w') ∧ Hid (Has w' wx.heap.size 57 #[.bool false, .int .i64 0]))
        (fun e w' ⟨he, hb⟩ => ⟨he, stepN BA hb, Has.below (w := (wx.alloc (.cells #[.bool false, .int .i64 0] 57)).drew) (Has.new wx _ _) hb (by show wx.heap.size < (wx.alloc _).heap.size; simp)⟩))
      have CTXb := Lib.hid ((HRN.out wx.drew).mono (R' := fun e w' => e = .returned (.agg #[.bool nb, .int .i64 ne]) ∧ Hid (Below wx.heap.size wx w'))
        (fun e w' ⟨he, hb⟩ => ⟨he, stepN (Below.refl wx.heap.size wx).drew hb⟩))
      clear BA hbx ka GIVE CN2
      go_wp2_with fail
      go_region_with (first
        | (go_at_call 26; refine CTXa.out.mono ?_; rintro e wy ⟨rfl, hby, hpy⟩; have j0 := hpy.out.cell 0; have j1 := hpy.out.cell 1; have f0 := hpy.out.free 0; have f1 := hpy.out.free 1; have hplt := hpy.out.lt; simp only [List.getElem?_toArray, List.getElem?_cons_zero, List.getElem?_cons_succ] at j0 j1)
        | (go_at_call 26; refine CTXb.out.mono ?_; rintro e wy ⟨rfl, hby⟩))
      all_goals first
        | (
          have hf := (hpy.out.set 0 (.bool nb)).set 1 (.int .i64 ne)
          clear j0 j1
          have j0 := hf.cell 0
          have j1 := hf.cell 1
          simp only [List.setIfInBounds_toArray, List.set_cons_zero, List.set_cons_succ, List.getElem?_toArray, List.getElem?_cons_zero, List.getElem?_cons_succ] at j0 j1
          have BY := Lib.hid (BX.out.trans (((hby.out.setCell (p := ⟨wx.heap.size, 0, none⟩) (Nat.le_refl _) (.bool nb)).setCell (p := ⟨wx.heap.size, 1, none⟩) (Nat.le_refl _) (.int .i64 ne)).mono BX.out.size))
          clear hf
          go_wp2_with fail
          refine (HSan.out _ BY.out).mono ?_
          rintro e w9 ⟨rfl, hb9⟩
          have BZ := Lib.hid (stepN BY.out hb9)
          clear hb9
          go_wp2_with fail
          go_ret
          exact ⟨rfl, BZ.out⟩)
        | (
          have BY := Lib.hid ((BX.out.trans (hby.out.mono BX.out.size)).alloc (BX.out.trans (hby.out.mono BX.out.size)).size (.cells #[.bool nb, .int .i64 ne] 57))
          go_wp2_with fail
          refine (HSan.out _ BY.out).mono ?_
          rintro e w9 ⟨rfl, hb9⟩
          have BZ := Lib.hid (stepN BY.out hb9)
          clear hb9
          go_wp2_with fail
          go_ret
          exact ⟨rfl, BZ.out⟩)
    · go_wp2_with fail
      refine (HSan.out _ BS.out).mono ?_
      rintro e w5 ⟨rfl, hb5⟩
      have BZ := Lib.hid (stepN BS.out hb5)
      clear hb5
      go_wp2_with fail
      go_ret
      exact ⟨rfl, BZ.out⟩
  · have hf' : Lx.fewToks l = false := by simpa using hf
    rw [hf'] at CF
    have HCF := Lib.hid CF
    clear CF hf hf' hE htab
    go_enter Tryd.func5, Tryd.ntmps5
    go_wp2_with fail
    refine HCF.out.mono ?_
    rintro e w0 ⟨rfl, hb0⟩
    have B0 := Lib.hid hb0
    clear hb0
    go_wp2_with fail
    refine (HSan.out _ B0.out).mono ?_
    rintro e w1 ⟨rfl, hb1⟩
    have B1 := Lib.hid (stepN B0.out hb1)
    clear hb1
    go_wp2_with fail
    go_ret
    exact ⟨rfl, B1.out⟩
end Go.Proofs.YtmmemkkljadglaaDoor
