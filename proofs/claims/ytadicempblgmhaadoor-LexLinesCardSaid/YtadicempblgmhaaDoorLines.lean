/-
  What readLines returns, in package lex.
-/
import Derived.Test.YtadicempblgmhaaDoorIter
import Derived.Lib.SplitLaws
namespace Go.Proofs.YtadicempblgmhaaDoor
open Go.RowKit Go.Shelf
attribute [local go_sem] Oper.semAt_some

namespace Lx
theorem index_one (c : UInt8) : ∀ (l : List UInt8), Lib.index l [c] = Lib.indexByte l c
  | [] => rfl
  | b :: r => by
    unfold Lib.index Lib.indexByte
    rw [index_one c r]
    by_cases h : b = c
    · subst h; simp
    · have h1 : (b == c) = false := by simpa using h
      have h2 : ([c].isPrefixOf (b :: r)) = false := by simp [List.isPrefixOf]; exact fun e => h e.symm
      rw [h1, h2]
theorem lines_ne : ∀ l : List UInt8, lines l ≠ []
  | [] => by simp [lines]
  | c :: r => by
    unfold lines
    split
    · simp
    · split <;> simp
theorem lines_length : ∀ l : List UInt8, (lines l).length = l.count 10 + 1
  | [] => rfl
  | c :: r => by
    have ih := lines_length r
    by_cases h : c = 10
    · subst h; rw [lines, if_pos rfl, List.count_cons_self]; simp [ih]
    · rw [lines, if_neg h, List.count_cons_of_ne (by simpa using h), ← ih]
      split
      · rename_i e; exact absurd e (lines_ne r)
      · rename_i e; rw [e]; simp
/-- Cut at each line feed: the lines. -/
theorem splitK_lines : ∀ (l : List UInt8), Lib.splitK [10] 0 (l.count 10) l = lines l
  | [] => rfl
  | c :: r => by
    have ih := splitK_lines r
    by_cases h : c = 10
    · subst h
      rw [List.count_cons_self, lines, if_pos rfl]
      unfold Lib.splitK
      have : Lib.index (10 :: r) [10] = 0 := by rw [index_one]; simp [Lib.indexByte]
      rw [this]
      simp [ih]
    · have hne : lines (c :: r) = match lines r with | [] => [[c]] | x :: xs => (c :: x) :: xs := by
        rw [lines, if_neg h]
        rfl
      rw [hne, List.count_cons_of_ne (by simpa using h), ← ih]
      have hi : Lib.index (c :: r) [10] = if Lib.index r [10] == -1 then -1 else Lib.index r [10] + 1 := by
        rw [index_one, index_one, Lib.indexByte, if_neg (by simpa using h)]
      have hge := Lib.index_ge r [10]
      cases hc : r.count 10 with
      | zero => simp [Lib.splitK]
      | succ k =>
        unfold Lib.splitK
        rw [hi]
        by_cases hm : Lib.index r [10] = -1
        · simp [hm]
        · have e1 : (Lib.index r [10] == -1) = false := by simpa using hm
          have e2 : (Lib.index r [10] + 1 == -1) = false := by simp; omega
          obtain ⟨i, hi'⟩ : ∃ i : Nat, Lib.index r [10] = i := ⟨(Lib.index r [10]).toNat, by omega⟩
          rw [e1]
          simp only [Bool.false_eq_true, if_false]
          rw [e2, hi']
          simp only [Bool.false_eq_true, if_false]
          have e3 : ((i : Int) + 1).toNat = i + 1 := by omega
          rw [e3]
          simp
end Lx

theorem split_any (s : ByteArray) (w : World) (hs : s.size < 4294967281) (hE : Env w) :
    Calls Tryd.prog 46 #[.string s, .string ⟨#[10]⟩] w fun e w' => ∃ Ls : List ByteArray, Ls.map (·.data.toList) = Lx.lines s.data.toList ∧
      e = .returned (.slice (some ⟨w.heap.size, 0, none⟩) Ls.length Ls.length) ∧ w' = w.alloc (.cells (Ls.map Value.string).toArray 9) := by
  obtain ⟨m, hm⟩ := hE.maxLen
  refine (Tryd.strings_Split s ⟨#[10]⟩ m w hs hm (by decide)).mono ?_
  rintro e w' ⟨rfl, rfl⟩
  have hd : (Lib.splitB ⟨#[10]⟩ 0 (Lib.countB s ⟨#[10]⟩) s).map (·.data.toList) = Lx.lines s.data.toList := by
    rw [Lib.splitB_data]
    have : Lib.countB s ⟨#[10]⟩ = s.data.toList.count 10 := Lib.count_one 10 s.data.toList
    rw [this]
    exact Lx.splitK_lines _
  have hl : (Lib.splitB ⟨#[10]⟩ 0 (Lib.countB s ⟨#[10]⟩) s).length = Lib.countB s ⟨#[10]⟩ + 1 := by
    have := congrArg List.length hd
    rw [List.length_map, Lx.lines_length] at this
    rw [this, show Lib.countB s ⟨#[10]⟩ = s.data.toList.count 10 from Lib.count_one 10 s.data.toList]
  exact ⟨_, hd, by rw [hl], rfl⟩

def mark (D : Nat) : Deferred := { target := .collected D, args := #[] }
/-- The marks' blocks shut. -/
def shut : List Nat → World → World
  | [], w => w
  | D :: Ds, w => shut Ds (w.putObj D (.deferred none))

theorem shut_grown : ∀ (Ds : List Nat) (w : World), (shut Ds w).heap.size = w.heap.size ∧ (shut Ds w).os = w.os ∧ (shut Ds w).tape = w.tape ∧ (shut Ds w).output = w.output ∧ ∀ k, k ∉ Ds → (shut Ds w).heap[k]? = w.heap[k]?
  | [], w => ⟨rfl, rfl, rfl, rfl, fun _ _ => rfl⟩
  | D :: Ds, w => by
    obtain ⟨h1, h2, h3, h4, h5⟩ := shut_grown Ds (w.putObj D (.deferred none))
    refine ⟨h1.trans (by simp [World.putObj]), h2, h3, h4, fun k hk => ?_⟩
    simp only [List.mem_cons, not_or] at hk
    exact (h5 k hk.2).trans (World.putObj_heap_other hk.1)

theorem leaves_marks {F : Fence} {n : Nat} {P : Program} {fn : Func} {tmps : Array Value} {R : Ending → World → Prop} : ∀ (Ds : List Nat) (w : World), Ds.Nodup → (∀ D ∈ Ds, w.heap[D]? = some (.deferred (some []))) →
    LeavesIn F n P fn tmps R [] .returning (shut Ds w) → LeavesInM F n P fn tmps R (Ds.map mark) .returning w
  | [], _, _, _, h => h
  | D :: Ds, w, hn, hD, h => by
    refine ⟨by simp, .inl ⟨D, _, rfl, run_takeDeferred (hD D (by simp)), ?_⟩⟩
    have hn' := List.nodup_cons.1 hn
    exact leaves_marks Ds _ hn'.2 (fun E hE => (World.putObj_heap_other (fun e => hn'.1 (by rw [← e]; exact hE))).trans (hD E (by simp [hE]))) h

namespace Lx
def tot : List (List UInt8) → Nat
  | [] => 0
  | x :: xs => x.length + tot xs
theorem tot_lines : ∀ l : List UInt8, tot (lines l) ≤ l.length
  | [] => Nat.le_refl _
  | c :: r => by
    have ih := tot_lines r
    unfold lines
    split
    · simp [tot]; omega
    · split
      · simp [tot]
      · rename_i e; rw [e] at ih; simp [tot] at ih ⊢; omega
theorem runsFrom_length : ∀ (n k : Nat) (l : List UInt8), (runsFrom n k l).length ≤ l.length
  | 0, _, _ => by simp [runsFrom]
  | n + 1, _, [] => by simp [runsFrom]
  | n + 1, k, c :: r => by
    have hp := runLength_pos c r
    have hl := runLength_le (c :: r)
    have ih := runsFrom_length n (k + runLength (c :: r)) ((c :: r).drop (runLength (c :: r)))
    rw [List.length_drop] at ih
    simp only [runsFrom, List.length_append]
    have : (if c = 32 then ([] : List (Nat × List UInt8)) else [(k, (c :: r).take (runLength (c :: r)))]).length ≤ 1 := by split <;> simp
    omega
def Red.count (r : Red) : Nat := r.toks.length + r.notes.length
theorem take_count (r : Red) (x : List UInt8) (line col : Int) : (r.take x line col).1.count ≤ r.count + 1 := by
  unfold Red.take Red.count
  repeat' split
  all_goals simp <;> omega
theorem takes_snoc (line : Int) : ∀ (r : Red) (pre : List (Nat × List UInt8)) (x : Nat × List UInt8), (takes r line pre).2 = true → takes r line (pre ++ [x]) = (takes r line pre).1.take x.2 line ((x.1 : Int) + 1)
  | r, [], x, _ => by
    show takes r line [x] = r.take x.2 line ((x.1 : Int) + 1)
    unfold takes
    split
    · rename_i h
      show ((r.take x.2 line ((x.1 : Int) + 1)).1, true) = _
      rw [← h]
    · rename_i h
      have : (r.take x.2 line ((x.1 : Int) + 1)).2 = false := by simpa using h
      rw [← this]
  | r, y :: pre, x, h => by
    simp only [List.cons_append]
    unfold takes at h ⊢
    split at h
    · rename_i hy
      rw [if_pos hy, if_pos hy]
      exact takes_snoc line _ pre x h
    · cases h
theorem takes_stop (line : Int) : ∀ (r : Red) (pre post : List (Nat × List UInt8)), (takes r line pre).2 = false → takes r line (pre ++ post) = takes r line pre
  | r, [], post, h => by cases h
  | r, y :: pre, post, h => by
    simp only [List.cons_append]
    unfold takes at h ⊢
    split at h
    · rename_i hy
      rw [if_pos hy, if_pos hy]
      exact takes_stop line _ pre post h
    · rename_i hy
      rw [if_neg hy, if_neg hy]
theorem takes_count (line : Int) : ∀ (r : Red) (pre : List (Nat × List UInt8)), (takes r line pre).1.count ≤ r.count + pre.length
  | r, [] => Nat.le_refl _
  | r, y :: pre => by
    have h1 := take_count r y.2 line ((y.1 : Int) + 1)
    unfold takes
    split
    · have := takes_count line (r.take y.2 line ((y.1 : Int) + 1)).1 pre
      simp; omega
    · simp; omega
end Lx

theorem Reading.kept {W W' : World} {B b : Nat} {r : Lx.Red} {row : Option Nat} (h : Reading W B b r) (hg : W.grownBy W' row) (hr : ∀ k, row = some k → ∃ o : Obj, W.heap[k]? = some o ∧ o.isCells = false) : Reading W' B b r := by
  obtain ⟨vt, vn, hb, ht, hn, hne⟩ := h
  have hrow : ∀ (v : Value) (n : Nat) (xs : List Value), W.ownsRow B 55 4 v n xs → v.ownBlock = none ∨ v.ownBlock ≠ row := by
    intro v n xs hv
    rcases hv.2 with ⟨rfl, _⟩ | ⟨g, cap, cur, rfl, _, hh, _⟩
    · exact .inl rfl
    · right
      intro e
      obtain ⟨o, ho, hc⟩ := hr g e.symm
      rw [hh] at ho; cases ho; cases hc
  refine ⟨vt, vn, hb.grown hg ?_, ht.kept hg (hrow _ _ _ ht), hn.kept hg (hrow _ _ _ hn), hne⟩
  intro e
  obtain ⟨o, ho, hc⟩ := hr b e.symm
  unfold Has at hb
  rw [hb] at ho; cases ho; cases hc

theorem own_form {w : World} {base e size n : Nat} {v : Value} {xs : List Value} (h : w.ownsRow base e size v n xs) : ∃ A m c, v = .slice A m c := by
  rcases h.2 with ⟨rfl, _⟩ | ⟨g, cap, cur, rfl, _⟩
  · exact ⟨_, _, _, rfl⟩
  · exact ⟨_, _, _, rfl⟩
/-- The result lies in its block; the marks lie as they lay. -/
def LinesOut (w : World) (B : Nat) (Ds : List Nat) (R : Lx.Red) (W : World) : Prop :=
  ∃ vt vn, Has W (B + 1) 98 #[vt, vn, .int .i64 R.line, .int .i64 R.col, .int .i64 R.err] ∧
    W.ownsRow B 55 4 vt R.toks.length (toksCells R.toks) ∧ W.ownsRow B 55 4 vn R.notes.length (toksCells R.notes) ∧ Below B w W ∧ ∀ D ∈ Ds, W.heap[D]? = some (.deferred (some []))

theorem grown_two {w w' w'' : World} {row : Option Nat} (h : w.grownBy w' row) (k : w'.grownBy w'' row) : w.grownBy w'' row :=
  ⟨k.os.trans h.os, k.tape.trans h.tape, k.output.trans h.output, Nat.le_trans h.size k.size, fun i hi hr => (k.block i (Nat.lt_of_lt_of_le hi h.size) hr).trans (h.block i hi hr)⟩
theorem grown_set5 (w : World) (b : Nat) (u0 u1 u2 u3 u4 : Value) : w.grownBy (((((w.setCell ⟨b, 0, none⟩ u0).setCell ⟨b, 1, none⟩ u1).setCell ⟨b, 2, none⟩ u2).setCell ⟨b, 3, none⟩ u3).setCell ⟨b, 4, none⟩ u4) (some b) :=
  grown_two (grown_two (grown_two (grown_two (grown_set _ _ _ _) (grown_set _ _ _ _)) (grown_set _ _ _ _)) (grown_set _ _ _ _)) (grown_set _ _ _ _)
theorem Has.ne_mark {w : World} {g D : Nat} {t : TypeId} {cs : Array Value} {x : Option (List Deferred)} (h : Has w g t cs) (hD : w.heap[D]? = some (.deferred x)) : D ≠ g := by
  rintro rfl
  unfold Has at h
  rw [h] at hD; cases hD
/-- The result's block is written; all else lies as it lay. -/
theorem out_of {w w2 : World} {B : Nat} {Ds : List Nat} {R : Lx.Red} {vt vn : Value} {cs : Array Value} (hr : Has w2 (B + 1) 98 cs) (hcs : cs.size = 5) (ht : w2.ownsRow B 55 4 vt R.toks.length (toksCells R.toks)) (hn : w2.ownsRow B 55 4 vn R.notes.length (toksCells R.notes))
    (hB : Below B w w2) (hD : ∀ D ∈ Ds, w2.heap[D]? = some (.deferred (some []))) :
    LinesOut w B Ds R (((((w2.setCell ⟨B + 1, 0, none⟩ vt).setCell ⟨B + 1, 1, none⟩ vn).setCell ⟨B + 1, 2, none⟩ (.int .i64 R.line)).setCell ⟨B + 1, 3, none⟩ (.int .i64 R.col)).setCell ⟨B + 1, 4, none⟩ (.int .i64 R.err)) := by
  obtain ⟨cs⟩ := cs
  match cs, hcs with
  | [a0, a1, a2, a3, a4], _ =>
    refine ⟨vt, vn, ((((hr.set 0 _).set 1 _).set 2 _).set 3 _).set 4 _, ht.kept (grown_set5 w2 (B + 1) _ _ _ _ _) (.inr (own_apart ht hr (by decide)).symm), hn.kept (grown_set5 w2 (B + 1) _ _ _ _ _) (.inr (own_apart hn hr (by decide)).symm),
      ((((hB.setCell (p := ⟨B + 1, 0, none⟩) (Nat.le_succ B) _).setCell (p := ⟨B + 1, 1, none⟩) (Nat.le_succ B) _).setCell (p := ⟨B + 1, 2, none⟩) (Nat.le_succ B) _).setCell (p := ⟨B + 1, 3, none⟩) (Nat.le_succ B) _).setCell (p := ⟨B + 1, 4, none⟩) (Nat.le_succ B) _, fun D h => ?_⟩
    have h1 := hD D h
    exact ((grown_set5 w2 (B + 1) vt vn (.int .i64 R.line) (.int .i64 R.col) (.int .i64 R.err)).block D (Array.getElem?_eq_some_iff.1 h1).1 (fun e => hr.ne_mark h1 (by cases e; rfl))).trans h1
theorem Reading.block {W : World} {B b : Nat} {r : Lx.Red} (h : Reading W B b r) : ∃ cs, Has W b 98 cs := by
  obtain ⟨vt, vn, hb, _⟩ := h
  exact ⟨_, hb⟩
theorem Stays.kept {B b : Nat} {w W W' : World} {row : Option Nat} (h : Stays B b w W) (hB : B ≤ w.heap.size) (hg : W.grownBy W' row) (hr : ∀ k, row = some k → w.heap.size ≤ k) : Stays B b w W' := by
  have hs := h.below.size
  refine ⟨h.below.grown hg (by omega) (fun k e => by have := hr k e; omega), fun k o hk hb ho => ?_⟩
  have hlt := (Array.getElem?_eq_some_iff.1 hk).1
  exact (hg.block k (by omega) (fun e => by have := hr k e.symm; omega)).trans (h.rest k o hk hb ho)

theorem Stays.others {B b : Nat} {W W' : World} {t : TypeId} (h : Stays B b W W') (hb : ∃ cs, Has W b t cs) : KeepsOthers W W' := by
  obtain ⟨cs, hb⟩ := hb
  exact
  ⟨h.below.size, fun k o hk ho => h.rest k o hk (fun e => by subst e; unfold Has at hb; rw [hb] at hk; cases hk; cases ho) (fun cs rng e => by subst e; cases ho)⟩
theorem Stays.has {B b g : Nat} {W W' : World} {t : TypeId} {cs : Array Value} (h : Stays B b W W') (hg : Has W g t cs) (hne : g ≠ b) (ht : t ≠ 55) : Has W' g t cs :=
  h.rest g _ hg hne (fun cs rng e => by cases e; exact ht rfl)

theorem keptBox_put {bx : Nat} (w : World) (W : World) (l : Nat) (o o' : Obj) (_ : w.heap.size ≤ l) (ho : W.heap[l]? = some o) (hc : o.isCells = false) (_ : o.isWalk = false) : KeptBox bx W (W.putObj l o') := by
  have key : ∀ (p : Addr) (v : Value), W.cell? p = some v → (W.putObj l o').cell? p = some v := fun p v h =>
    cell_kept h (grownBy_putObj' W l o') (fun r e => by cases e; exact ⟨o, ho, hc⟩)
  exact ⟨fun v hv => key _ _ hv, fun hE => hE.keep key⟩

theorem take_any (s : ByteArray) (B b : Nat) (r : Lx.Red) (line col : Int) (w : World) (hs : s.size ≤ 1000000) (hR : Reading w B b r) (hB : B ≤ b) (hn : r.count ≤ 1000000) (hc0 : 0 ≤ col) (hc1 : col ≤ 1000000) (hE : Env w) :
    Calls Tryd.prog 115 #[.pointer (some ⟨b, 0, none⟩), .string s, .agg #[.int .i64 line, .int .i64 col]] w fun e w' =>
      e = .returned (.bool (r.take s.data.toList line col).2) ∧ Reading w' B b (r.take s.data.toList line col).1 ∧ Stays B b w w' := by
  unfold Lx.Red.count at hn
  cases hp : [45, 45].isPrefixOf s.data.toList with
  | true => exact take_note s B b r line col w hs hp hR hB (by omega) hc0 hc1
  | false => exact take_run s B b r line col w hs hp hR hB (by omega) hE

theorem runs_in (n : Nat) (s : ByteArray) (w : World) : CallsIn Fence.wide n Tryd.prog 114 #[.string s] w fun e w' =>
    e = .returned (.func (.func 127) #[] #[.pointer (some ⟨w.heap.size, 0, none⟩)]) ∧ w' = w.alloc (.cells #[.string s] 9) := by
  refine callsIn_wide.2 ?_
  have hmf : ∀ (fn : Fn) (first cap : Array Value) (w : World), (Instr.makeFunc fn first cap).run Tryd.prog w = .ok (.func fn first cap) w := fun _ _ _ _ => rfl
  go_enter Tryd.func114, Tryd.ntmps114
  go_wp2
  go_ret
  exact ⟨rfl, rfl⟩

/-- What holds of the world between two lines. -/
def LinesAt (w4 : World) (B : Nat) (L : List (List UInt8)) (first : Int) (k : Nat) (Ds : List Nat) (wr : World) : Prop :=
  Ds.Nodup ∧ (∀ D ∈ Ds, B ≤ D) ∧ (∀ D ∈ Ds, wr.heap[D]? = some (.deferred (some []))) ∧ Stays B (B + 1 + 1) w4 wr ∧
    ∃ r, Reading wr B (B + 1 + 1) r ∧ Lx.readLs r (first + k) (L.drop k) = Lx.readLs {} first L ∧ r.count + Lx.tot (L.drop k) ≤ Lx.tot L

/-- The loop over the lines. -/
def LinesI (s : ByteArray) (first : Int) (B n : Nat) (L : List (List UInt8)) (w4 : World) (a : Act) (wr : World) : Prop :=
  ∃ (k : Nat) (u6 u7 u8 u9 u14 u15 u16 u17 u18 u19 u20 u21 u22 u23 u24 u25 u26 u27 u28 u29 u30 u31 u32 : Value) (Ds : List Nat), k ≤ n ∧ LinesAt w4 B L first k Ds wr ∧
    a = { tmps := #[.string s, .int .i64 first, undef, .pointer (some ⟨B, 0, none⟩), .pointer (some ⟨B + 1, 0, none⟩), .pointer (some ⟨B + 1 + 1, 0, none⟩), u6, u7, u8, u9, .string s,
      .slice (some ⟨B + 1 + 1 + 1, 0, none⟩) n n, .int .i64 n, .int .i64 k, u14, u15, u16, u17, u18, u19, u20, u21, u22, u23, u24, u25, u26, u27, u28, u29, u30, u31, u32, undef], defers := Ds.map mark }
def LinesMu (n : Nat) (a : Act) (_ : World) : Nat := n - (intOf (a.tmps.getD 13 undef)).toNat

theorem LinesOut.kept {w W W' : World} {B : Nat} {Ds : List Nat} {R : Lx.Red} {row : Option Nat} (h : LinesOut w B Ds R W) (hg : W.grownBy W' row) (hr : ∀ k, row = some k → ∃ o : Obj, W.heap[k]? = some o ∧ o.isCells = false)
    (hB : ∀ k, row = some k → B ≤ k) (hD : ∀ D ∈ Ds, row ≠ some D) (hBW : B ≤ W.heap.size := by omega) : LinesOut w B Ds R W' := by
  obtain ⟨vt, vn, hb, ht, hn, hbe, hds⟩ := h
  have hrow : ∀ (v : Value) (n : Nat) (xs : List Value), W.ownsRow B 55 4 v n xs → v.ownBlock = none ∨ v.ownBlock ≠ row := by
    intro v n xs hv
    rcases hv.2 with ⟨rfl, _⟩ | ⟨g, cap, cur, rfl, _, hh, _⟩
    · exact .inl rfl
    · right
      intro e
      obtain ⟨o, ho, hc⟩ := hr g e.symm
      rw [hh] at ho; cases ho; cases hc
  refine ⟨vt, vn, hb.grown hg ?_, ht.kept hg (hrow _ _ _ ht), hn.kept hg (hrow _ _ _ hn), hbe.grown hg hBW hB, fun D h => ?_⟩
  · intro e
    obtain ⟨o, ho, hc⟩ := hr _ e.symm
    unfold Has at hb
    rw [hb] at ho; cases ho; cases hc
  · have h1 := hds D h
    exact (hg.block D (Array.getElem?_eq_some_iff.1 h1).1 (fun e => hD D h e.symm)).trans h1

/-- What is handed back in the end. -/
def LinesEnd (w : World) (B : Nat) (R : Lx.Red) (e : Ending) (w' : World) : Prop :=
  ∃ vt vn, e = .returned (.agg #[vt, vn, .int .i64 R.line, .int .i64 R.col, .int .i64 R.err]) ∧
    w'.ownsRow B 55 4 vt R.toks.length (toksCells R.toks) ∧ w'.ownsRow B 55 4 vn R.notes.length (toksCells R.notes) ∧ Below B w w'

theorem LinesOut.marks {w W : World} {B : Nat} {Ds : List Nat} {R : Lx.Red} (h : LinesOut w B Ds R W) : ∀ D ∈ Ds, W.heap[D]? = some (.deferred (some [])) := by
  obtain ⟨_, _, _, _, _, _, h⟩ := h
  exact h
theorem own_of_heap {w w' : World} {base e size n : Nat} {v : Value} {xs : List Value} (h : w.ownsRow base e size v n xs) (hk : ∀ (g : Nat) cs t r, w.heap[g]? = some (Obj.cells cs t r) → w'.heap[g]? = w.heap[g]?) : w'.ownsRow base e size v n xs := by
  refine ⟨h.1, ?_⟩
  rcases h.2 with h | ⟨g, cap, cur, hv, hb, hh, r⟩
  · exact .inl h
  · exact .inr ⟨g, cap, cur, hv, hb, (hk _ _ _ _ hh).trans hh, r⟩
/-- Behind the marks the result stands. -/
theorem LinesOut.behind {w W : World} {B : Nat} {Ds : List Nat} {R : Lx.Red} (h : LinesOut w B Ds R W) (Es : List Nat) (hE : ∀ E ∈ Es, B ≤ E ∧ W.heap[E]? = some (.deferred (some []))) :
    ∃ v, (∃ vt vn, v = .agg #[vt, vn, .int .i64 R.line, .int .i64 R.col, .int .i64 R.err] ∧ (shut Es W).cell? ⟨B + 1, 0, none⟩ = some vt ∧ (shut Es W).cell? ⟨B + 1, 1, none⟩ = some vn ∧ (shut Es W).cell? ⟨B + 1, 2, none⟩ = some (.int .i64 R.line) ∧
      (shut Es W).cell? ⟨B + 1, 3, none⟩ = some (.int .i64 R.col) ∧ (shut Es W).cell? ⟨B + 1, 4, none⟩ = some (.int .i64 R.err)) ∧ LinesEnd w B R (.returned v) (shut Es W) := by
  obtain ⟨vt, vn, hb, ht, hn, hbe, _⟩ := h
  obtain ⟨g1, g2, g3, g4, g5⟩ := shut_grown Es W
  have hcells : ∀ (g : Nat) cs t r, W.heap[g]? = some (Obj.cells cs t r) → (shut Es W).heap[g]? = W.heap[g]? := fun g cs t r hg => g5 g (fun hm => by
    have := (hE g hm).2
    rw [hg] at this; cases this)
  have hb' : Has (shut Es W) (B + 1) 98 #[vt, vn, .int .i64 R.line, .int .i64 R.col, .int .i64 R.err] := (hcells _ _ _ _ hb).trans hb
  refine ⟨_, ⟨vt, vn, rfl, hb'.cell 0, hb'.cell 1, hb'.cell 2, hb'.cell 3, hb'.cell 4⟩, vt, vn, rfl, own_of_heap ht hcells, own_of_heap hn hcells, ?_⟩
  exact ⟨g2.trans hbe.os, g3.trans hbe.tape, g4.trans hbe.output, by rw [g1]; exact hbe.size, fun k hk => (g5 k (fun hm => by have := (hE k hm).1; omega)).trans (hbe.block k hk)⟩

set_option maxRecDepth 100000 in
set_option maxHeartbeats 1000000 in
theorem readLines_any (s : ByteArray) (first : Int) (w : World) (hs : s.size ≤ 100000) (hE : Env w) (hf0 : 0 ≤ first) (hf1 : first ≤ 1000000) :
    Calls Tryd.prog 82 #[.string s, .int .i64 first] w (LinesEnd w w.heap.size (Lx.readLines s.data.toList first)) := by
  refine (callsIn_wide (n := 5)).1 ?_
  refine callsIn_of_wp_marks Tryd.func82 rfl trivial ?_ rfl
  simp only [Tryd.ntmps82, List.size_toArray, List.length_cons, List.length_nil, Nat.reduceAdd, Nat.reduceSub, Array.replicate_succ, Array.replicate_zero, List.push_toArray, List.append_toArray, List.nil_append, List.cons_append]
  have hB0 : Below w.heap.size w (((w.alloc (.cells #[.int .i64 first] 3)).alloc (.cells #[.slice none 0 0, .slice none 0 0, .int .i64 0, .int .i64 0, .int .i64 0] 98)).alloc (.cells #[.slice none 0 0, .slice none 0 0, .int .i64 0, .int .i64 0, .int .i64 0] 98)) :=
    (((Below.refl _ _).alloc (Nat.le_refl _) _).alloc (by simp) _).alloc (by simp; omega) _
  have CS := Lib.hid (split_any s _ (by omega) (hE.below hB0 (Nat.le_refl _)))
  gi_wp2_with (refine ⟨trivial, ?_⟩; gi_at_call 46; refine (callsIn_wide.2 CS.out).mono ?_; rintro e w' ⟨Ls, hLs, rfl, rfl⟩)
  clear CS
  obtain ⟨w4, hw4⟩ : ∃ w4, w4 = ((((w.alloc (.cells #[.int .i64 first] 3)).alloc (.cells #[.slice none 0 0, .slice none 0 0, .int .i64 0, .int .i64 0, .int .i64 0] 98)).alloc (.cells #[.slice none 0 0, .slice none 0 0, .int .i64 0, .int .i64 0, .int .i64 0] 98)).alloc (.cells (Ls.map Value.string).toArray 9)) := ⟨_, rfl⟩
  rw [← hw4]
  have hB4 : Below w.heap.size w w4 := by rw [hw4]; exact hB0.alloc (by simp; omega) _
  have hfst : Has w4 w.heap.size 3 #[.int .i64 first] := by rw [hw4]; exact (((Has.new _ _ _).alloc _).alloc _).alloc _
  have hres : Has w4 (w.heap.size + 1) 98 #[.slice none 0 0, .slice none 0 0, .int .i64 0, .int .i64 0, .int .i64 0] := by
    rw [hw4]; have := ((Has.new (w.alloc (.cells #[.int .i64 first] 3)) 98 #[.slice none 0 0, .slice none 0 0, .int .i64 0, .int .i64 0, .int .i64 0]).alloc (.cells #[.slice none 0 0, .slice none 0 0, .int .i64 0, .int .i64 0, .int .i64 0] 98)).alloc (.cells (Ls.map Value.string).toArray 9)
    rw [World.size_alloc] at this; exact this
  have hrb : Has w4 (w.heap.size + 1 + 1) 98 #[.slice none 0 0, .slice none 0 0, .int .i64 0, .int .i64 0, .int .i64 0] := by
    rw [hw4]; have := (Has.new ((w.alloc (.cells #[.int .i64 first] 3)).alloc (.cells #[.slice none 0 0, .slice none 0 0, .int .i64 0, .int .i64 0, .int .i64 0] 98)) 98 #[.slice none 0 0, .slice none 0 0, .int .i64 0, .int .i64 0, .int .i64 0]).alloc (.cells (Ls.map Value.string).toArray 9)
    rw [World.size_alloc, World.size_alloc] at this; exact this
  have hls : Has w4 (w.heap.size + 1 + 1 + 1) 9 (Ls.map Value.string).toArray := by
    rw [hw4]; have := Has.new (((w.alloc (.cells #[.int .i64 first] 3)).alloc (.cells #[.slice none 0 0, .slice none 0 0, .int .i64 0, .int .i64 0, .int .i64 0] 98)).alloc (.cells #[.slice none 0 0, .slice none 0 0, .int .i64 0, .int .i64 0, .int .i64 0] 98)) 9 (Ls.map Value.string).toArray
    rw [World.size_alloc, World.size_alloc, World.size_alloc] at this; exact this
  have hsz4 : w4.heap.size = w.heap.size + 4 := by rw [hw4]; simp
  clear hw4 hB0
  have hE' : ∀ W, Below w.heap.size w W → Env W := fun W h => hE.below h (Nat.le_refl _)
  generalize w.heap.size = B at *
  have htot := Lx.tot_lines s.data.toList
  have hlenL : Ls.length ≤ 100001 := by
    have h1 := congrArg List.length hLs
    rw [List.length_map, Lx.lines_length] at h1
    have h2 := List.count_le_length (l := s.data.toList) (a := 10)
    have h3 : s.data.toList.length = s.size := by simp
    omega
  rw [show s.data.toList.length = s.size from by simp] at htot
  rw [show Lx.readLines s.data.toList first = Lx.readLs {} first (Lx.lines s.data.toList) from rfl]
  have hrl : Lx.readLines s.data.toList first = Lx.readLs {} first (Lx.lines s.data.toList) := rfl
  generalize Lx.lines s.data.toList = L at *
  have HRLS := Lib.hid hrl
  clear hrl
  refine wpIn_loop (LinesI s first B Ls.length L w4) (LinesMu Ls.length) ?start ?round
  case start =>
    exact ⟨0, undef, undef, undef, undef, undef, undef, undef, undef, undef, undef, undef, undef, undef, undef, undef, undef, undef, undef, undef, undef, undef, undef, undef, [], Nat.zero_le _, ⟨List.nodup_nil, fun D h => by simp at h, fun D h => by simp at h, Stays.refl _ _ _, {}, ⟨_, _, hrb, World.ownsRow_nil _ _ _ _, World.ownsRow_nil _ _ _ _, .inl rfl⟩, by simp, by simp [Lx.Red.count]⟩, rfl⟩
  case round =>
    rintro a wr ⟨k, u6, u7, u8, u9, u14, u15, u16, u17, u18, u19, u20, u21, u22, u23, u24, u25, u26, u27, u28, u29, u30, u31, u32, Ds, hk, hat, rfl⟩
    have HAT := Lib.hid hat
    clear hat
    by_cases hlt : k < Ls.length
    · obtain ⟨hDn, hDB, hDs, hst, r, hR, hrd, hct⟩ := HAT.out
      have hlsW := hst.has hls (by omega) (by decide)
      have hfstW := hst.has hfst (by omega) (by decide)
      have hresW := hst.has hres (by omega) (by decide)
      have hszW := hst.below.size
      have hcell : wr.cell? ⟨B + 1 + 1 + 1, k, none⟩ = some (.string Ls[k]) := by
        rw [hlsW.cell k]; simp [hlt]
      have hbL : B + 1 + 1 + 1 < wr.heap.size := hlsW.lt
      have RS := fun w => runs_in 4 Ls[k] w
      have HRS := Lib.hid RS
      have HR := Lib.hid hR
      have HRD := Lib.hid hrd
      have HDS := Lib.hid hDs
      have HCT := Lib.hid hct
      clear RS hR hrd hDs hct HAT
      generalize hx : Ls[k] = x at *
      have hdrop : L.drop k = x.data.toList :: L.drop (k + 1) := by
        rw [← hLs, ← List.map_drop, List.drop_eq_getElem_cons hlt, hx, List.map_cons, List.map_drop]
      have hstep : Lx.readLs r (first + k) (L.drop k) = if (Lx.takes r (first + k) (Lx.runs x.data.toList)).2 then Lx.readLs (Lx.takes r (first + k) (Lx.runs x.data.toList)).1 (first + k + 1) (L.drop (k + 1)) else (Lx.takes r (first + k) (Lx.runs x.data.toList)).1 := by
        rw [hdrop]; rfl
      have htd : Lx.tot (L.drop k) = x.size + Lx.tot (L.drop (k + 1)) := by
        rw [hdrop]; simp [Lx.tot]
      have hrl : (Lx.runs x.data.toList).length ≤ x.size := by
        have h := Lx.runsFrom_length x.data.toList.length 0 x.data.toList
        have e : x.data.toList.length = x.size := by simp
        unfold Lx.runs
        omega
      have hct' := HCT.out
      have hxs : x.size ≤ 100000 := by omega
      have hrc : r.count + (Lx.runs x.data.toList).length ≤ 200000 := by omega
      have HX := Lib.hid hx
      have HST := Lib.hid hstep
      have HTD := Lib.hid htd
      have HRL := Lib.hid hrl
      clear hx hdrop hstep htd hrl hct'
      gi_wp2_with (refine ⟨trivial, ?_⟩; gi_at_call 114; refine (HRS.out _).mono ?_; rintro e w' ⟨rfl, rfl⟩)
      obtain ⟨wx, hwx⟩ : ∃ wx, wx = (wr.alloc (.cells #[.int .i64 k] 3)).alloc (.cells #[.string x] 9) := ⟨_, rfl⟩
      rw [← hwx]
      have sx : Stays B (B + 1 + 1) w4 wx := by rw [hwx]; exact (hst.alloc (by omega) _).alloc (by simp; omega) _
      have hRx : Reading wx B (B + 1 + 1) r := by
        rw [hwx]; exact (HR.out.kept (World.grownBy_alloc _ _ none) (fun k e => by cases e)).kept (World.grownBy_alloc _ _ none) (fun k e => by cases e)
      have hix : Has wx wr.heap.size 3 #[.int .i64 k] := by rw [hwx]; exact (Has.new _ _ _).alloc _
      have hbx : Has wx (wr.heap.size + 1) 9 #[.string x] := by
        rw [hwx]; have := Has.new (wr.alloc (.cells #[.int .i64 k] 3)) 9 #[.string x]; rw [World.size_alloc] at this; exact this
      have hDx : ∀ D ∈ Ds, wx.heap[D]? = some (.deferred (some [])) := fun D hD => by
        have h1 := HDS.out D hD
        have h2 := (Array.getElem?_eq_some_iff.1 h1).1
        rw [hwx]
        exact (Below.heap_alloc _ _ _ (by simp; omega)).trans ((Below.heap_alloc _ _ _ h2).trans h1)
      have hszx : wx.heap.size = wr.heap.size + 2 := by rw [hwx]; simp
      clear hwx hcell hlsW hfstW hresW hst HR HDS HRS
      generalize wr.heap.size = i0 at *
      have hfx := sx.has hfst (by omega) (by decide)
      have hresx := sx.has hres (by omega) (by decide)
      have hBx : Below B w wx := hB4.trans sx.below
      refine wpIn_rangeFunc_ownG rfl (by decide) (gf := 127) (lb := #[.pointer (some ⟨i0 + 1, 0, none⟩)]) rfl trivial (enters_of Tryd.func127 (by kernel_rfl) rfl)
        (runs_stops 4 (by decide) (i0 + 1) x wx (by omega) (by rw [hbx.cell 0]; rfl) (hE' _ hBx)) (fun h k => h.trans k) (keptBox_put wx) (Below.refl _ _) (fun _ => rfl)
        (fun pre W => Reading W B (B + 1 + 1) (Lx.takes r (first + k) (pre.map (·.1))).1 ∧ (Lx.takes r (first + k) (pre.map (·.1))).2 = true ∧ Stays B (B + 1 + 1) wx W)
        (fun c pre W => c = .ret ∧ (Lx.takes r (first + k) (pre.map (·.1))).2 = false ∧ LinesOut w B Ds (Lx.takes r (first + k) (pre.map (·.1))).1 W)
        ?hI ?hIx ⟨hRx, rfl, Stays.refl _ _ _⟩
        (fun y : Run => { tmps := #[.string s, .int .i64 first, undef, .pointer (some ⟨B, 0, none⟩), .pointer (some ⟨B + 1, 0, none⟩), .pointer (some ⟨B + 1 + 1, 0, none⟩), .pointer (some ⟨i0, 0, none⟩), .string x, .int .i64 y.1.1, .string ⟨y.1.2.toArray⟩, .string s, .slice (some ⟨B + 1 + 1 + 1, 0, none⟩) Ls.length Ls.length, .int .i64 Ls.length, .int .i64 k, .bool true, .int .i64 k, .pointer (some ⟨B + 1 + 1 + 1, k, none⟩), .string x, .string x, .func (.func 127) #[] #[.pointer (some ⟨i0 + 1, 0, none⟩)], .int .i64 y.1.1, .string ⟨y.1.2.toArray⟩, u22, u23, u24, u25, u26, u27, u28, u29, u30, u31, u32, undef], defers := [] }) ?assign ?body ?done ?stop
      case hI => exact fun pre X Y row hs hg hr => ⟨hs.1.kept hg (fun k e => (hr k e).2), hs.2.1, hs.2.2.kept (by omega) hg (fun k e => (hr k e).1)⟩
      case hIx =>
        exact fun c pre X Y row hs hg hr => ⟨hs.1, hs.2.1, hs.2.2.kept hg (fun k e => (hr k e).2) (fun k e => by have := (hr k e).1; omega) (hBW := by obtain ⟨_, _, hb, _⟩ := hs.2.2; have := hb.lt; omega) (fun D hD e => by
          have h1 := (hr D e).1
          have h2 := (Array.getElem?_eq_some_iff.1 (hDx D hD)).1
          omega)⟩
      case assign =>
        intro l y W K hK
        gi_wp2
        exact hK
      case body =>
        rintro l pre y W ⟨hRW, h2, hSW⟩ hlN
        have hfW := hSW.has hfx (by omega) (by decide)
        have hiW := hSW.has hix (by omega) (by decide)
        have hrW := hSW.has hresx (by omega) (by decide)
        have hbW := hSW.has hbx (by omega) (by decide)
        have hBW : Below B w W := hBx.trans hSW.below
        have hcnt := Lx.takes_count (first + k) r (pre.map (·.1))
        rw [List.length_map] at hcnt
        have hsn := Lx.takes_snoc (first + k) r (pre.map (·.1)) y.1 h2
        have hmap : (pre ++ [y]).map (·.1) = pre.map (·.1) ++ [y.1] := by simp
        rw [← hmap] at hsn
        have CT := take_any ⟨y.1.2.toArray⟩ B (B + 1 + 1) (Lx.takes r (first + k) (pre.map (·.1))).1 (first + k) ((y.1.1 : Int) + 1) W (by rw [show (⟨y.1.2.toArray⟩ : ByteArray).size = y.1.2.length from by simp [ByteArray.size]]; have := y.2.2; omega) hRW (by omega) (by omega) (by omega) (by have := y.2.1; omega) (hE' _ hBW)
        rw [show (⟨y.1.2.toArray⟩ : ByteArray).data.toList = y.1.2 from by simp, ← hsn] at CT
        have HCT2 := Lib.hid CT
        have HRW := Lib.hid hRW
        clear CT hRW hsn hmap hcnt h2
        have hyb := y.2.1
        have f0 := hfW.cell 0
        have i0c := hiW.cell 0
        have hok : ∃ b, b = (Lx.takes r (first + k) ((pre ++ [y]).map (·.1))).2 := ⟨_, rfl⟩
        obtain ⟨b, hb⟩ := hok
        rw [← hb] at HCT2
        have HB := Lib.hid hb
        clear hb
        generalize hRR : (Lx.takes r (first + k) ((pre ++ [y]).map (·.1))).1 = RR at HCT2
        have HRR := Lib.hid hRR
        clear hRR
        cases b with
        | true =>
          gi_wp2_with (refine ⟨trivial, ?_⟩; gi_at_call 115; refine (CallsIn.inRound l (callsIn_wide.2 HCT2.out)).mono ?_; rintro e w2 ⟨rfl, hR2, hS2⟩)
          rw [← HRR.out] at hR2
          refine ⟨(hS2.others (HRW.out.block)).from _, ⟨fun v hv => ?_, fun _ => hE' _ (hBW.trans hS2.below)⟩, hR2, HB.out.symm, hSW.trans hS2⟩
          rw [hbW.cell 0] at hv
          rw [(hS2.has hbW (by omega) (by decide)).cell 0]; exact hv
        | false =>
          gi_wp2_with (refine ⟨trivial, ?_⟩; gi_at_call 115; refine (CallsIn.inRound l (callsIn_wide.2 HCT2.out)).mono ?_; rintro e w2 ⟨rfl, hR2, hS2⟩; obtain ⟨vt, vn, hb2, ht2, hn2, hne2⟩ := hR2; obtain ⟨At, nt, ct, rfl⟩ := own_form ht2; obtain ⟨An, nn, cn, rfl⟩ := own_form hn2; have c0 := hb2.cell 0; have c1 := hb2.cell 1; have c2 := hb2.cell 2; have c3 := hb2.cell 3; have c4 := hb2.cell 4; have hr2 := hS2.has hrW (by omega) (by decide); have d0 := hr2.cell 0; have d1 := hr2.cell 1; have d2 := hr2.cell 2; have d3 := hr2.cell 3; have d4 := hr2.cell 4; have e0 := hr2.free 0; have e1 := hr2.free 1; have e2 := hr2.free 2; have e3 := hr2.free 3; have e4 := hr2.free 4)
          refine ⟨KeepsOthers.from ((hS2.others HRW.out.block).trans (((((KeepsOthers.setCell _ _ _).trans (KeepsOthers.setCell _ _ _)).trans (KeepsOthers.setCell _ _ _)).trans (KeepsOthers.setCell _ _ _)).trans (KeepsOthers.setCell _ _ _))) _, rfl, HB.out.symm, ?_⟩
          rw [HRR.out]
          refine out_of hr2 rfl ht2 hn2 (hBW.trans hS2.below) (fun D hD => ?_)
          obtain ⟨cs, hbb⟩ := hRx.block
          exact (hSW.trans hS2).rest D _ (hDx D hD) (hbb.ne_mark (hDx D hD)) (fun cs rng e => by cases e)
      case done =>
        rintro D ys W hD hS ⟨hRW, h2, hSW⟩ hK
        have HS := Lib.hid hS
        have HRW := Lib.hid hRW
        have HH2 := Lib.hid h2
        clear hS hRW h2
        gi_wp2
        refine ⟨⟨k + 1, _, _, _, _, _, _, _, _, _, _, _, _, _, _, _, _, _, _, _, _, _, _, _, D :: Ds, by omega, ⟨List.nodup_cons.2 ⟨fun h => ?_, hDn⟩, fun E hE => ?_, fun E hE => ?_, sx.trans hSW, _, HRW.out, ?_, ?_⟩, rfl⟩, by simp [LinesMu, intOf]; omega⟩
        · have := (Array.getElem?_eq_some_iff.1 (hDx D h)).1; omega
        · rcases List.mem_cons.1 hE with rfl | h
          · omega
          · exact hDB E h
        · rcases List.mem_cons.1 hE with rfl | h
          · exact hK
          · obtain ⟨cs, hbb⟩ := hRx.block
            exact hSW.rest E _ (hDx E h) (hbb.ne_mark (hDx E h)) (fun cs rng e => by cases e)
        · have := HST.out
          rw [← HS.out, if_pos HH2.out, HRD.out] at this
          rw [this]
          congr 1
          omega
        · have h1 := Lx.takes_count (first + k) r (ys.map (·.1))
          rw [List.length_map] at h1
          have h2 := congrArg List.length HS.out
          rw [List.length_map] at h2
          have h3 := HRL.out
          have h4 := HTD.out
          have h5 := HCT.out
          omega
      case stop =>
        rintro D c pre W hD hSp ⟨rfl, h2, hOut⟩ hK
        have hfin : Lx.readLs {} first L = (Lx.takes r (first + k) (pre.map (·.1))).1 := by
          obtain ⟨post, hpost⟩ := hSp
          have h1 := HST.out
          rw [← hpost, Lx.takes_stop _ _ _ _ h2, h2, HRD.out] at h1
          exact h1
        have HF := Lib.hid hfin
        clear hfin h2
        gi_wp2
        rw [HF.out]
        refine leaves_marks (D :: Ds) W (List.nodup_cons.2 ⟨fun h => ?_, hDn⟩) (fun E hE => ?_) ?_
        · have := (Array.getElem?_eq_some_iff.1 (hDx D h)).1; omega
        · rcases List.mem_cons.1 hE with rfl | h
          · exact hK
          · exact hOut.marks E h
        · obtain ⟨v, h1, h2⟩ := hOut.behind (D :: Ds) (fun E hE => by
            rcases List.mem_cons.1 hE with rfl | h
            · exact ⟨by omega, hK⟩
            · exact ⟨hDB E h, hOut.marks E h⟩)
          refine ⟨v, ?_, h2⟩
          obtain ⟨vt, vn, rfl, c0, c1, c2, c3, c4⟩ := h1
          simp [results, Tryd.results82, go_sem, c0, c1, c2, c3, c4]
    · obtain ⟨hDn, hDB, hDs, hst, r, hR, hrd, _⟩ := HAT.out
      have hkk : k = Ls.length := by omega
      have hfin : Lx.readLines s.data.toList first = r := by
        rw [HRLS.out, ← hrd, List.drop_of_length_le (by rw [hkk, ← hLs]; simp)]; rfl
      have HF := Lib.hid hfin
      have hresW := hst.has hres (by omega) (by decide)
      obtain ⟨vt, vn, hb2, ht2, hn2, _⟩ := hR
      obtain ⟨At, nt, ct, rfl⟩ := own_form ht2
      obtain ⟨An, nn, cn, rfl⟩ := own_form hn2
      have hOut := out_of hresW rfl ht2 hn2 (hB4.trans hst.below) hDs
      have HO := Lib.hid hOut
      have HDN := Lib.hid hDn
      have HDB := Lib.hid hDB
      clear hfin hrd hOut hDs hDB hDn ht2 hn2 HAT hkk hst
      have c0 := hb2.cell 0
      have c1 := hb2.cell 1
      have c2 := hb2.cell 2
      have c3 := hb2.cell 3
      have c4 := hb2.cell 4
      have d0 := hresW.cell 0
      have d1 := hresW.cell 1
      have d2 := hresW.cell 2
      have d3 := hresW.cell 3
      have d4 := hresW.cell 4
      have e0 := hresW.free 0
      have e1 := hresW.free 1
      have e2 := hresW.free 2
      have e3 := hresW.free 3
      have e4 := hresW.free 4
      gi_wp2
      rw [HF.out]
      refine leaves_marks Ds _ HDN.out HO.out.marks ?_
      obtain ⟨v, h1, h2⟩ := HO.out.behind Ds (fun E hE => ⟨HDB.out E hE, HO.out.marks E hE⟩)
      refine ⟨v, ?_, h2⟩
      clear h2 c0 c1 c2 c3 c4 d0 d1 d2 d3 d4 e0 e1 e2 e3 e4
      obtain ⟨vt, vn, rfl, c0, c1, c2, c3, c4⟩ := h1
      simp [results, Tryd.results82, go_sem, c0, c1, c2, c3, c4]
end Go.Proofs.YtadicempblgmhaaDoor
