/-
  For every text, LexTightest returns true: the tightest text of its tokens is not longer, and has the same tokens.
-/
import Derived.Test.YtadicempblgmhaaDoorLawB
import Derived.Test.YtadicempblgmhaaDoorSame
namespace Go.Proofs.YtadicempblgmhaaDoor
open Go.RowKit Go.Shelf

namespace Lx
theorem stands_right {S : List UInt8} : ∀ (l : List Tok) (b : Nat), Stands S b l → l.all right = true
  | [], _, _ => rfl
  | t :: r, b, h => by
    obtain ⟨o, _, _, _, _, h5, _, _, _, h9⟩ := h
    simp only [List.all_cons, Bool.and_eq_true]
    exact ⟨by simp [right, h5], stands_right r _ h9⟩
theorem err_toks : ∀ (n : Nat) (line col : Int) (out : Red) (l : List UInt8), out.err = 0 → (refRead n line col out l).err ≠ 0 → (refRead n line col out l).toks = []
  | 0, _, _, _, _, h, e => absurd (by simpa [refRead] using h) e
  | n + 1, _, _, _, [], h, e => absurd (by simpa [refRead] using h) e
  | n + 1, line, col, out, c :: r, h, e => by
    have ih := err_toks n
    unfold refRead at e ⊢
    split at e
    · rename_i h1
      rw [if_pos h1]
      exact ih _ _ _ _ h e
    · rename_i h1
      rw [if_neg h1]
      split at e
      · rename_i h2
        rw [if_pos h2]
        exact ih _ _ _ _ h e
      · rename_i h2
        rw [if_neg h2]
        split at e
        · rename_i h3
          rw [if_pos h3]
          split at e
          · rename_i h4
            rw [if_pos h4]
          · rename_i h4
            rw [if_neg h4]
            exact ih _ _ _ _ h e
        · rename_i h3
          rw [if_neg h3]
          split at e
          · rename_i h4
            rw [if_pos h4]
          · rename_i h4
            rw [if_neg h4]
            exact ih _ _ _ _ h e
theorem readText_err (S : List UInt8) (h : (readText S).err ≠ 0) : (readText S).toks = [] := by
  unfold readText at h ⊢
  split at h
  · rename_i h1; rw [if_pos h1]
  · rename_i h1
    rw [if_neg h1]
    split at h
    · rename_i h2; rw [if_pos h2]
    · rename_i h2
      rw [if_neg h2, ← refRead_text]
      rw [← refRead_text] at h
      exact err_toks _ _ _ _ _ rfl h
theorem readText_small (l : List UInt8) (h : l.length ≤ 6000) : readText l = readLines l 1 := by
  have := readLines_count l 1
  unfold readText
  rw [if_neg (by omega), if_neg (by omega)]

/-- The tightest text of a text's tokens: no error, not longer, the same tokens. -/
theorem tightest (S : List UInt8) (hS : S.length ≤ 6000) (h : (readText S).err = 0) :
    written needs (readText S).toks = (textOf needs (readText S).toks, 0) ∧ (textOf needs (readText S).toks).length ≤ S.length ∧ (readText (textOf needs (readText S).toks)).err = 0 ∧ kinds (readText S).toks = kinds (readText (textOf needs (readText S).toks)).toks := by
  have hst := readText_stands S h
  have hr := stands_right _ _ hst
  have hc := readLines_count S 1
  rw [← readText_small S hS] at hc
  have hle := tight_le S _ 0 none hst (Nat.zero_le _) (fun p e => by cases e)
  rw [Nat.add_zero] at hle
  have hle2 : (textOf needs (readText S).toks).length ≤ S.length := hle
  have hrd := textFrom_read needs (fun _ _ _ _ h => h) (readText S).toks none (textOf needs (readText S).toks).length 1 1 {} hr (Nat.le_refl _)
  have e1 : readText (textOf needs (readText S).toks) = refRead (textOf needs (readText S).toks).length 1 1 {} (textOf needs (readText S).toks) := by
    rw [readText_small _ (by omega), refRead_text]
  refine ⟨?_, hle2, ?_, ?_⟩
  · unfold written
    rw [if_neg (by omega), if_neg (by rw [hr]; exact Bool.noConfusion), if_neg (by omega)]
  · rw [e1]; exact hrd.1
  · rw [e1]
    have := hrd.2.1
    simp [kinds] at this
    simp only [kinds]
    exact this.symm
end Lx

set_option maxRecDepth 100000 in
set_option maxHeartbeats 2000000 in
theorem LexTightest_any (s : ByteArray) (w : World) (hE : Env w) (htab : Lib.TabIs Tryd.prog w "strings.asciiSpace" .u8 Lib.asciiSpaceTab) :
    Calls Tryd.prog 9 #[.string s] w fun e w' => e = .returned (.bool true) ∧ Below w.heap.size w w' := by
  have HSan := Lib.hid (san_at hE htab)
  by_cases h400 : (400 : Int) < s.size
  · go_enter Tryd.func9, Tryd.ntmps9
    go_wp2_with fail
    refine (HSan.out _ (Below.refl _ _)).mono ?_
    rintro e w1 ⟨rfl, hb1⟩
    go_wp2_with fail
    go_ret
    exact ⟨rfl, hb1⟩
  · have hs : s.size ≤ 400 := by omega
    have CT := Lib.hid (Tokens_any s w (by omega) hE)
    have HE := Lib.hid hE
    have hsl : s.data.toList.length = s.size := by simp
    have hti := Lx.tightest s.data.toList (by omega)
    have hte := Lx.readText_err s.data.toList
    have hcnt := Lx.readText_count s.data.toList
    have hst := fun h => Lx.readText_stands s.data.toList h
    have hkinds : ∀ R, Lx.readText s.data.toList = R → R.err = 0 → ∀ t : ByteArray, t.data.toList = Lx.textOf Lx.needs R.toks → ∀ W, Below w.heap.size w W →
        Calls Tryd.prog 44 #[.string s, .string t] W fun e w' => e = .returned (.tuple #[.bool true, .int .i64 0]) ∧ Below W.heap.size W w' := by
      rintro R rfl he t ht W hW
      obtain ⟨k1, k2, k3, k4⟩ := hti he
      have htl : t.data.toList.length = t.size := by simp
      have hc2 := Lx.readText_count t.data.toList
      have := ht ▸ k2
      refine Same_good s t W (hE.below hW (Nat.le_refl _)) (by omega) (by omega) he (ht ▸ k3) (ht ▸ k4) (by omega) (by omega)
    clear hE htab
    generalize hR : Lx.readText s.data.toList = R at *
    have HK := Lib.hid (hkinds R rfl)
    have HTI := Lib.hid hti
    have HTE := Lib.hid hte
    have HST := Lib.hid hst
    clear hkinds hti hte hst hR
    go_enter Tryd.func9, Tryd.ntmps9
    go_wp2_with fail
    refine CT.out.mono ?_
    rintro e w1 ⟨A, c, rfl, ho, hb1⟩
    have B1 := Lib.hid hb1
    have ht := Lib.hid (ToksAt.of_own ho)
    clear ho hb1
    by_cases he : R.err = 0
    · obtain ⟨k1, k2, k3, k4⟩ := HTI.out he
      have htext : ∀ t ∈ R.toks, t.text.length ≤ 400 := by
        have : ∀ (l : List Lx.Tok) (b : Nat), Lx.Stands s.data.toList b l → ∀ t ∈ l, t.text.length ≤ s.data.toList.length := by
          intro l
          induction l with
          | nil => intro b _ t ht; cases ht
          | cons x r ih =>
            intro b h t ht
            obtain ⟨o, _, h2, _, _, _, _, _, _, h9⟩ := h
            rcases List.mem_cons.1 ht with rfl | ht
            · omega
            · exact ih _ h9 t ht
        intro t ht
        have := this _ _ (HST.out he) t ht
        omega
      have CG := Lib.hid (Tight_any _ R.toks (w1.alloc (.cells #[.int .i64 R.line, .int .i64 R.col] 37)) (ht.out.below ((Below.refl _ _).alloc (Nat.le_refl _) _) (Nat.le_refl _)) (by omega) htext (HE.out.below (B1.out.alloc B1.out.size _) (Nat.le_refl _)))
      rw [k1] at CG
      have CS := Lib.hid (HK.out he ⟨(Lx.textOf Lx.needs R.toks).toArray⟩ (by simp))
      clear k1 k3 k4 htext
      have hz : (⟨(Lx.textOf Lx.needs R.toks).toArray⟩ : ByteArray).size ≤ s.size := by
        show (Lx.textOf Lx.needs R.toks).toArray.size ≤ s.size
        simp
        omega
      generalize (⟨(Lx.textOf Lx.needs R.toks).toArray⟩ : ByteArray) = t at *
      have hzI : (t.size : Int) ≤ s.size := by omega
      go_wp2_with fail
      refine CG.out.mono ?_
      rintro e w2 ⟨rfl, hb2⟩
      have B2 := Lib.hid (stepA B1.out _ hb2)
      clear hb2
      go_wp2_with fail
      refine (CS.out _ B2.out).mono ?_
      rintro e w3 ⟨rfl, hb3⟩
      have B3 := Lib.hid (stepN B2.out hb3)
      clear hb3
      go_wp2_with fail
      refine (HSan.out _ B3.out).mono ?_
      rintro e w4 ⟨rfl, hb4⟩
      have B4 := Lib.hid (stepN B3.out hb4)
      clear hb4
      go_wp2_with fail
      go_ret
      exact ⟨rfl, B4.out⟩
    · have hnil := HTE.out he
      have hlen0 : (R.toks.length : Int) = 0 := by rw [hnil]; rfl
      go_wp2_with fail
      refine (HSan.out _ (B1.out.alloc B1.out.size _)).mono ?_
      rintro e w2 ⟨rfl, hb2⟩
      have B2 := Lib.hid (stepA B1.out _ hb2)
      clear hb2
      go_wp2_with fail
      go_ret
      exact ⟨by simp [hnil], B2.out⟩
end Go.Proofs.YtadicempblgmhaaDoor
