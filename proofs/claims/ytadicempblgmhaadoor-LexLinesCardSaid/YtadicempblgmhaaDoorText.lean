/-
  What readText, Tokens and Comments return, in package lex.
-/
import Derived.Test.YtadicempblgmhaaDoorLines
namespace Go.Proofs.YtadicempblgmhaaDoor
open Go.RowKit

theorem own_base {w : World} {B B' e size n : Nat} {v : Value} {xs : List Value} (h : w.ownsRow B' e size v n xs) (hB : B ≤ B') : w.ownsRow B e size v n xs :=
  ⟨h.1, h.2.imp id (fun ⟨g, cap, cur, a, b, c⟩ => ⟨g, cap, cur, a, Nat.le_trans hB b, c⟩)⟩
theorem own_len {w : World} {base e size n : Nat} {v : Value} {xs : List Value} (h : w.ownsRow base e size v n xs) : ∃ A c, v = .slice A n c := by
  rcases h.2 with ⟨rfl, rfl⟩ | ⟨g, cap, cur, rfl, _⟩
  · exact ⟨_, _, rfl⟩
  · exact ⟨_, _, rfl⟩

abbrev set5 (w : World) (b : Nat) (u0 u1 u2 u3 u4 : Value) : World := ((((w.setCell ⟨b, 0, none⟩ u0).setCell ⟨b, 1, none⟩ u1).setCell ⟨b, 2, none⟩ u2).setCell ⟨b, 3, none⟩ u3).setCell ⟨b, 4, none⟩ u4
theorem Has.set5 {w : World} {b : Nat} {t : TypeId} {cs : Array Value} (h : Has w b t cs) (hcs : cs.size = 5) (u0 u1 u2 u3 u4 : Value) : Has (set5 w b u0 u1 u2 u3 u4) b t #[u0, u1, u2, u3, u4] := by
  obtain ⟨cs⟩ := cs
  match cs, hcs with
  | [a0, a1, a2, a3, a4], _ => exact ((((h.set 0 _).set 1 _).set 2 _).set 3 _).set 4 _
theorem Below_set5 {B b : Nat} {a w : World} (h : Below B a w) (hb : B ≤ b) (u0 u1 u2 u3 u4 : Value) : Below B a (set5 w b u0 u1 u2 u3 u4) :=
  ((((h.setCell (p := ⟨b, 0, none⟩) hb _).setCell (p := ⟨b, 1, none⟩) hb _).setCell (p := ⟨b, 2, none⟩) hb _).setCell (p := ⟨b, 3, none⟩) hb _).setCell (p := ⟨b, 4, none⟩) hb _
theorem size_set5 (w : World) (b : Nat) (u0 u1 u2 u3 u4 : Value) : (set5 w b u0 u1 u2 u3 u4).heap.size = w.heap.size := by simp [World.setCell]

set_option maxRecDepth 100000 in
set_option maxHeartbeats 1000000 in
theorem readText_any (s : ByteArray) (w : World) (hs : s.size ≤ 100000) (hE : Env w) :
    Calls Tryd.prog 63 #[.string s] w (LinesEnd w w.heap.size (Lx.readText s.data.toList)) := by
  have hsp : Lx.readText s.data.toList = if 20000 < s.size then { err := 3 } else if 6000 < (Lx.readLines s.data.toList 1).toks.length then { err := 3 } else Lx.readLines s.data.toList 1 := by
    unfold Lx.readText; rw [show s.data.toList.length = s.size from by simp]
  have CR := Lib.hid (readLines_any s 1 (w.alloc (.cells #[.slice none 0 0, .slice none 0 0, .int .i64 0, .int .i64 0, .int .i64 0] 98)) hs (hE.alloc _) (by decide) (by decide))
  have HSP := Lib.hid hsp
  clear hsp
  generalize Lx.readLines s.data.toList 1 = R at *
  by_cases h1 : (20000 : Int) < s.size
  · go_enter Tryd.func63, Tryd.ntmps63
    go_wp2
    refine bodyPost_ret (v := .agg #[.slice none 0 0, .slice none 0 0, .int .i64 0, .int .i64 0, .int .i64 3]) (by simp [results, Tryd.results63, go_sem]) rfl ?_
    rw [HSP.out, if_pos (by omega)]
    exact ⟨_, _, rfl, World.ownsRow_nil _ _ _ _, World.ownsRow_nil _ _ _ _, (Below.refl _ _).alloc (Nat.le_refl _) _⟩
  · go_enter Tryd.func63, Tryd.ntmps63
    go_wp2_with fail
    refine CR.out.mono ?_
    rintro e w1 ⟨vt, vn, rfl, ht, hn, hb⟩
    obtain ⟨At, ct, rfl⟩ := own_len ht
    obtain ⟨An, cn, rfl⟩ := own_len hn
    rw [World.size_alloc] at hb
    have hres := (Has.new w 98 #[.slice none 0 0, .slice none 0 0, .int .i64 0, .int .i64 0, .int .i64 0]).below hb (by omega)
    have hB : Below w.heap.size w w1 := ((Below.refl _ _).alloc (Nat.le_refl _) _).trans (hb.mono (by omega))
    have hlt := hres.lt
    have d0 := hres.cell 0
    have d1 := hres.cell 1
    have d2 := hres.cell 2
    have d3 := hres.cell 3
    have d4 := hres.cell 4
    have e0 := hres.free 0
    have e1 := hres.free 1
    have e2 := hres.free 2
    have e3 := hres.free 3
    have e4 := hres.free 4
    by_cases h2 : (6000 : Int) < R.toks.length
    · go_wp2
      have hf := (hres.set5 rfl (.slice none 0 0) (.slice none 0 0) (.int .i64 0) (.int .i64 0) (.int .i64 3)).alloc (.cells #[.slice At R.toks.length ct, .slice An R.notes.length cn, .int .i64 R.line, .int .i64 R.col, .int .i64 R.err] 98)
      clear d0 d1 d2 d3 d4
      have d0 := hf.cell 0
      have d1 := hf.cell 1
      have d2 := hf.cell 2
      have d3 := hf.cell 3
      have d4 := hf.cell 4
      refine bodyPost_ret (v := .agg #[.slice none 0 0, .slice none 0 0, .int .i64 0, .int .i64 0, .int .i64 3]) (by simp [results, Tryd.results63, go_sem, d0, d1, d2, d3, d4]) rfl ?_
      rw [HSP.out, if_neg (by omega), if_pos (by omega)]
      exact ⟨_, _, rfl, World.ownsRow_nil _ _ _ _, World.ownsRow_nil _ _ _ _, (Below_set5 hB (Nat.le_refl _) _ _ _ _ _).alloc (by rw [size_set5]; omega) _⟩
    · go_wp2
      have hf := (hres.set5 rfl (.slice At R.toks.length ct) (.slice An R.notes.length cn) (.int .i64 R.line) (.int .i64 R.col) (.int .i64 R.err)).alloc (.cells #[.slice At R.toks.length ct, .slice An R.notes.length cn, .int .i64 R.line, .int .i64 R.col, .int .i64 R.err] 98)
      clear d0 d1 d2 d3 d4
      have d0 := hf.cell 0
      have d1 := hf.cell 1
      have d2 := hf.cell 2
      have d3 := hf.cell 3
      have d4 := hf.cell 4
      refine bodyPost_ret (v := .agg #[.slice At R.toks.length ct, .slice An R.notes.length cn, .int .i64 R.line, .int .i64 R.col, .int .i64 R.err]) (by simp [results, Tryd.results63, go_sem, d0, d1, d2, d3, d4]) rfl ?_
      rw [HSP.out, if_neg (by omega), if_neg (by omega)]
      have hg := grown_set5 w1 w.heap.size (.slice At R.toks.length ct) (.slice An R.notes.length cn) (.int .i64 R.line) (.int .i64 R.col) (.int .i64 R.err)
      exact ⟨_, _, rfl, own_base ((ht.kept hg (.inr (own_apart ht hres (by decide)).symm)).alloc _) (by simp), own_base ((hn.kept hg (.inr (own_apart hn hres (by decide)).symm)).alloc _) (by simp), (Below_set5 hB (Nat.le_refl _) _ _ _ _ _).alloc (by rw [size_set5]; omega) _⟩

/-- What Tokens hands back. -/
def ToksEnd (w : World) (R : Lx.Red) (e : Ending) (w' : World) : Prop :=
  ∃ A c, e = .returned (.tuple #[.slice A R.toks.length c, .agg #[.int .i64 R.line, .int .i64 R.col], .int .i64 R.err]) ∧
    w'.ownsRow w.heap.size 55 4 (.slice A R.toks.length c) R.toks.length (toksCells R.toks) ∧ Below w.heap.size w w'

set_option maxRecDepth 100000 in
set_option maxHeartbeats 1000000 in
theorem Tokens_any (s : ByteArray) (w : World) (hs : s.size ≤ 100000) (hE : Env w) :
    Calls Tryd.prog 22 #[.string s] w (ToksEnd w (Lx.readText s.data.toList)) := by
  have CR := Lib.hid (readText_any s (w.alloc (.cells #[.int .i64 0, .int .i64 0] 37)) hs (hE.alloc _))
  generalize Lx.readText s.data.toList = R at *
  go_enter Tryd.func22, Tryd.ntmps22
  go_wp2_with fail
  refine CR.out.mono ?_
  rintro e w1 ⟨vt, vn, rfl, ht, hn, hb⟩
  obtain ⟨At, ct, rfl⟩ := own_len ht
  obtain ⟨An, cn, rfl⟩ := own_len hn
  rw [World.size_alloc] at hb
  have hres := (Has.new w 37 #[.int .i64 0, .int .i64 0]).below hb (by omega)
  have hB : Below w.heap.size w w1 := ((Below.refl _ _).alloc (Nat.le_refl _) _).trans (hb.mono (by omega))
  have hlt := hres.lt
  have d0 := hres.cell 0
  have d1 := hres.cell 1
  have e0 := hres.free 0
  have e1 := hres.free 1
  go_wp2
  go_region
  all_goals
    go_wp2
    have hf := ((hres.set 0 (.int .i64 R.line)).set 1 (.int .i64 R.col)).alloc (.cells #[.slice At R.toks.length ct, .slice An R.notes.length cn, .int .i64 R.line, .int .i64 R.col, .int .i64 R.err] 98)
    clear d0 d1
    have d0 := hf.cell 0
    have d1 := hf.cell 1
    refine bodyPost_ret (v := .tuple #[.slice At R.toks.length ct, .agg #[.int .i64 R.line, .int .i64 R.col], .int .i64 R.err]) (by simp [results, Tryd.results22, go_sem, d0, d1]) rfl ?_
    refine ⟨_, _, rfl, own_base ((((ht.kept (grown_set _ _ _ _) (.inr (own_apart ht hres (by decide)).symm)).kept (grown_set _ _ _ _) ?_).alloc _)) (by simp), (((hB.setCell (p := ⟨w.heap.size, 0, none⟩) (Nat.le_refl _) _).setCell (p := ⟨w.heap.size, 1, none⟩) (Nat.le_refl _) _).alloc (by simp [World.setCell]; omega) _).drew⟩
    exact .inr (own_apart ht hres (by decide)).symm

/-- What Comments hands back. -/
def NotesEnd (w : World) (R : Lx.Red) (e : Ending) (w' : World) : Prop :=
  ∃ A c, e = .returned (.tuple #[.slice A R.notes.length c, .int .i64 R.err]) ∧
    w'.ownsRow w.heap.size 55 4 (.slice A R.notes.length c) R.notes.length (toksCells R.notes) ∧ Below w.heap.size w w'

set_option maxRecDepth 100000 in
set_option maxHeartbeats 1000000 in
theorem Comments_any (s : ByteArray) (w : World) (hs : s.size ≤ 100000) (hE : Env w) :
    Calls Tryd.prog 24 #[.string s] w (NotesEnd w (Lx.readText s.data.toList)) := by
  have CR := Lib.hid (readText_any s w hs hE)
  generalize Lx.readText s.data.toList = R at *
  go_enter Tryd.func24, Tryd.ntmps24
  go_wp2_with fail
  refine CR.out.mono ?_
  rintro e w1 ⟨vt, vn, rfl, ht, hn, hb⟩
  obtain ⟨At, ct, rfl⟩ := own_len ht
  obtain ⟨An, cn, rfl⟩ := own_len hn
  have hbs := hb.size
  go_wp2
  go_region
  all_goals
    go_wp2
    go_ret2
    exact ⟨_, _, rfl, hn.alloc _, (hb.alloc hbs _).drew⟩
end Go.Proofs.YtadicempblgmhaaDoor
