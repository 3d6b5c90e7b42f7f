/-
  What the reference returns for a text, by contract: its tokens and comments are the program's.
-/
import Derived.Test.YtadicempblgmhaaGreatDoorRefH
namespace Go.Proofs.YtadicempblgmhaaGreatDoor
open Go.RowKit Go.Shelf

set_option maxRecDepth 100000 in
set_option maxHeartbeats 1000000 in
theorem rTokens_any (s : ByteArray) (w : World) (hs : s.size ≤ 100000) :
    Calls Tryz.prog 22 #[.string s] w (LinesEnd w w.heap.size (Lx.readText s.data.toList)) := by
  have hsp : Lx.readText s.data.toList = if 20000 < s.size then { err := 3 } else if 6000 < (Lx.readLines s.data.toList 1).toks.length then { err := 3 } else Lx.readLines s.data.toList 1 := by
    unfold Lx.readText; rw [show s.data.toList.length = s.size from by simp]
  have hno := Lx.readLines_err s.data.toList
  have CR := Lib.hid (rread_any s (w.alloc (.cells #[.slice none 0 0, .slice none 0 0, .int .i64 0, .int .i64 0, .int .i64 0] 64)) hs)
  have HSP := Lib.hid hsp
  have HNO := Lib.hid hno
  clear hsp hno
  generalize Lx.readLines s.data.toList 1 = R at *
  by_cases h1 : (20000 : Int) < s.size
  · go_enter Tryz.func22, Tryz.ntmps22
    go_wp2_with fail
    have hf := (Has.new w 64 #[.slice none 0 0, .slice none 0 0, .int .i64 0, .int .i64 0, .int .i64 0]).set5 rfl (.slice none 0 0) (.slice none 0 0) (.int .i64 0) (.int .i64 0) (.int .i64 3)
    refine bodyPost_ret (v := .agg #[.slice none 0 0, .slice none 0 0, .int .i64 0, .int .i64 0, .int .i64 3]) (by simp [results, Tryz.results22, go_sem]) rfl ?_
    rw [HSP.out, if_pos (by omega)]
    exact ⟨_, _, rfl, World.ownsRow_nil _ _ _ _, World.ownsRow_nil _ _ _ _, (Below.refl _ _).alloc (Nat.le_refl _) _⟩
  · go_enter Tryz.func22, Tryz.ntmps22
    go_wp2_with fail
    refine CR.out.mono ?_
    rintro e w1 ⟨vt, vn, rfl, ht, hn, hb⟩
    obtain ⟨At, ct, rfl⟩ := own_len ht
    obtain ⟨An, cn, rfl⟩ := own_len hn
    rw [World.size_alloc] at hb
    have hres := (Has.new w 64 #[.slice none 0 0, .slice none 0 0, .int .i64 0, .int .i64 0, .int .i64 0]).below hb (by omega)
    have hB : Below w.heap.size w w1 := ((Below.refl _ _).alloc (Nat.le_refl _) _).trans (hb.mono (by omega))
    have hlt := hres.lt
    have d0 := hres.cell 0
    have d1 := hres.cell 1
    have d2 := hres.cell 2
    have d3 := hres.cell 3
    have d4 := hres.cell 4
    have e0 := hres.free 0
    have e1 := hres.free 1
    have e2 := hres.free 2
    have e3 := hres.free 3
    have e4 := hres.free 4
    have hcase : (R.err = 0 ∧ 6000 < R.toks.length) ∨ ¬ 6000 < R.toks.length := by
      by_cases h2 : 6000 < R.toks.length
      · by_cases h3 : R.err = 0
        · exact .inl ⟨h3, h2⟩
        · have := HNO.out h3
          rw [this] at h2
          simp at h2
      · exact .inr h2
    rcases hcase with ⟨h3, h2⟩ | h2
    · have h2I : (6000 : Int) < R.toks.length := by omega
      have h2b : decide ((6000 : Int) < R.toks.length) = true := decide_eq_true h2I
      have h3b : (R.err == 0) = true := by rw [h3]; rfl
      go_wp2_with fail
      have hf := (hres.set5 rfl (.slice none 0 0) (.slice none 0 0) (.int .i64 0) (.int .i64 0) (.int .i64 3)).alloc (.cells #[.slice At R.toks.length ct, .slice An R.notes.length cn, .int .i64 R.line, .int .i64 R.col, .int .i64 0] 64)
      clear d0 d1 d2 d3 d4
      have d0 := hf.cell 0
      have d1 := hf.cell 1
      have d2 := hf.cell 2
      have d3 := hf.cell 3
      have d4 := hf.cell 4
      refine bodyPost_ret (v := .agg #[.slice none 0 0, .slice none 0 0, .int .i64 0, .int .i64 0, .int .i64 3]) (by simp [results, Tryz.results22, go_sem, d0, d1, d2, d3, d4]) rfl ?_
      rw [HSP.out, if_neg (by omega), if_pos (by omega)]
      exact ⟨_, _, rfl, World.ownsRow_nil _ _ _ _, World.ownsRow_nil _ _ _ _, (Below_set5 hB (Nat.le_refl _) _ _ _ _ _).alloc (by rw [size_set5]; omega) _⟩
    · have h2I : ¬ (6000 : Int) < R.toks.length := by omega
      have h2b : decide ((6000 : Int) < R.toks.length) = false := decide_eq_false h2I
      have fin : ∀ bb, (R.err == 0) = bb → True := fun _ _ => trivial
      cases h3b : (R.err == 0)
      all_goals
        go_wp2_with fail
        have hf := (hres.set5 rfl (.slice At R.toks.length ct) (.slice An R.notes.length cn) (.int .i64 R.line) (.int .i64 R.col) (.int .i64 R.err)).alloc (.cells #[.slice At R.toks.length ct, .slice An R.notes.length cn, .int .i64 R.line, .int .i64 R.col, .int .i64 R.err] 64)
        clear d0 d1 d2 d3 d4
        have d0 := hf.cell 0
        have d1 := hf.cell 1
        have d2 := hf.cell 2
        have d3 := hf.cell 3
        have d4 := hf.cell 4
        refine bodyPost_ret (v := .agg #[.slice At R.toks.length ct, .slice An R.notes.length cn, .int .i64 R.line, .int .i64 R.col, .int .i64 R.err]) (by simp [results, Tryz.results22, go_sem, d0, d1, d2, d3, d4]) rfl ?_
        rw [HSP.out, if_neg (by omega), if_neg (by omega)]
        have hg := grown_set5 w1 w.heap.size (.slice At R.toks.length ct) (.slice An R.notes.length cn) (.int .i64 R.line) (.int .i64 R.col) (.int .i64 R.err)
        exact ⟨_, _, rfl, own_base ((ht.kept hg (.inr (own_apart ht hres (by decide)).symm)).alloc _) (by simp), own_base ((hn.kept hg (.inr (own_apart hn hres (by decide)).symm)).alloc _) (by simp), (Below_set5 hB (Nat.le_refl _) _ _ _ _ _).alloc (by rw [size_set5]; omega) _⟩
end Go.Proofs.YtadicempblgmhaaGreatDoor
