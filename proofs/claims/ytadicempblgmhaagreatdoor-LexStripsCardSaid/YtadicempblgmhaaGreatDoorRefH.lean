/-
  The reference's walk over a text, by contract: what it reads is what the program reads.
-/
import Derived.Test.YtadicempblgmhaaGreatDoorRefG
import Derived.Test.YtadicempblgmhaaGreatDoorPatchA
import Derived.Maps.AppendAt
namespace Go.Proofs.YtadicempblgmhaaGreatDoor
open Go.RowKit Go.Shelf

namespace Lx
/-- What one round of the walk does. -/
theorem refRead_at (n : Nat) (line col : Int) (R : Red) (l : List UInt8) (c : UInt8) (r : List UInt8) (hl : l = c :: r) (hn : l.length ≤ n) (fin : Red) (h : refRead n line col R l = fin) :
    (c = 10 → ∃ m, r.length ≤ m ∧ refRead m (line + 1) 1 R r = fin) ∧
    (c = 32 → ∃ m, r.length ≤ m ∧ refRead m line (col + 1) R r = fin) ∧
    (c ≠ 10 → c ≠ 32 → [45, 45].isPrefixOf l = true →
      (span printable (refNote l) < (refNote l).length → fin = { line := line, col := col + span printable (refNote l), err := 2 }) ∧
      (¬ span printable (refNote l) < (refNote l).length → ∃ m, (l.drop (refNote l).length).length ≤ m ∧ refRead m line (col + (refNote l).length) { R with notes := R.notes ++ [⟨6, refNote l, line, col⟩] } (l.drop (refNote l).length) = fin)) ∧
    (c ≠ 10 → c ≠ 32 → [45, 45].isPrefixOf l = false →
      ((shape (refRun l)).2 ≠ 0 → fin = { line := line, col := col, err := (shape (refRun l)).2 }) ∧
      ((shape (refRun l)).2 = 0 → ∃ m, (l.drop (refRun l).length).length ≤ m ∧ refRead m line (col + (refRun l).length) { R with toks := R.toks ++ [⟨(shape (refRun l)).1, refRun l, line, col⟩] } (l.drop (refRun l).length) = fin)) := by
  subst hl
  cases n with
  | zero => simp at hn
  | succ n =>
    have hn' : r.length ≤ n := by simpa using hn
    unfold refRead at h
    refine ⟨?_, ?_, ?_, ?_⟩
    · rintro rfl
      rw [if_pos rfl] at h
      exact ⟨n, hn', h⟩
    · rintro rfl
      rw [if_neg (by decide), if_pos rfl] at h
      exact ⟨n, hn', h⟩
    · intro h10 h32 hp
      rw [if_neg h10, if_neg h32, if_pos hp] at h
      refine ⟨fun hs => ?_, fun hs => ?_⟩
      · rw [if_pos hs] at h; exact h.symm
      · rw [if_neg hs] at h
        refine ⟨n, ?_, h⟩
        rw [List.length_drop, refNote_cons c r h10]
        simp only [List.length_cons]
        omega
    · intro h10 h32 hp
      rw [if_neg h10, if_neg h32, if_neg (by rw [hp]; decide)] at h
      refine ⟨fun hs => ?_, fun hs => ?_⟩
      · rw [if_pos hs] at h; exact h.symm
      · rw [if_neg (by rw [hs]; decide)] at h
        refine ⟨n, ?_, h⟩
        rw [List.length_drop]
        have : 0 < (refRun (c :: r)).length := by
          cases hh : refRun (c :: r) with
          | nil => rw [hh] at hs; cases hs
          | cons a b => simp
        simp only [List.length_cons]
        omega
theorem refRun_le (l : List UInt8) : (refRun l).length ≤ l.length := by
  unfold refRun
  split
  · simp
  · split
    · rw [List.length_take]; omega
    · exact longest_le _
theorem refNote_le (l : List UInt8) : (refNote l).length ≤ l.length := (List.takeWhile_prefix _).length_le
theorem refRead_notes : ∀ (n : Nat) (line col : Int) (out : Red) (l : List UInt8), (refRead n line col out l).notes.length ≤ out.notes.length + l.length
  | 0, _, _, _, _ => by simp [refRead]
  | n + 1, _, _, _, [] => by simp [refRead]
  | n + 1, line, col, out, c :: r => by
    have ih := refRead_notes n
    unfold refRead
    split
    · have := ih (line + 1) 1 out r
      simp only [List.length_cons]; omega
    split
    · have := ih line (col + 1) out r
      simp only [List.length_cons]; omega
    split
    · split
      · simp
      · rename_i h10 _ _ _
        have h0 : 1 ≤ (refNote (c :: r)).length := by rw [refNote_cons c r h10]; simp
        have := ih line (col + (refNote (c :: r)).length) { out with notes := out.notes ++ [⟨6, refNote (c :: r), line, col⟩] } ((c :: r).drop (refNote (c :: r)).length)
        rw [List.length_drop, List.length_append] at this
        simp only [List.length_cons, List.length_nil] at this ⊢
        omega
    split
    · simp
    · have := ih line (col + (refRun (c :: r)).length) { out with toks := out.toks ++ [⟨(shape (refRun (c :: r))).1, refRun (c :: r), line, col⟩] } ((c :: r).drop (refRun (c :: r)).length)
      rw [List.length_drop] at this
      dsimp only at this
      omega
theorem readText_toks (l : List UInt8) : (readText l).toks.length ≤ l.length := by
  unfold readText
  have := readLines_count l 1
  split
  · simp
  · split
    · simp
    · exact this
theorem readText_notes (l : List UInt8) : (readText l).notes.length ≤ l.length := by
  unfold readText
  have := refRead_notes l.length 1 1 {} l
  rw [refRead_lines] at this
  split
  · simp
  · split
    · simp
    · simpa using this
theorem err_no_toks : ∀ (n : Nat) (line col : Int) (out : Red) (l : List UInt8), out.err = 0 → (refRead n line col out l).err ≠ 0 → (refRead n line col out l).toks = []
  | 0, _, _, _, _, h, e => absurd (by simpa [refRead] using h) e
  | n + 1, _, _, _, [], h, e => absurd (by simpa [refRead] using h) e
  | n + 1, line, col, out, c :: r, h, e => by
    have ih := err_no_toks n
    unfold refRead at e ⊢
    split at e
    · rename_i h1
      rw [if_pos h1]
      exact ih _ _ _ _ h e
    · rename_i h1
      rw [if_neg h1]
      split at e
      · rename_i h2
        rw [if_pos h2]
        exact ih _ _ _ _ h e
      · rename_i h2
        rw [if_neg h2]
        split at e
        · rename_i h3
          rw [if_pos h3]
          split at e
          · rename_i h4
            rw [if_pos h4]
          · rename_i h4
            rw [if_neg h4]
            exact ih _ _ _ _ h e
        · rename_i h3
          rw [if_neg h3]
          split at e
          · rename_i h4
            rw [if_pos h4]
          · rename_i h4
            rw [if_neg h4]
            exact ih _ _ _ _ h e
theorem readLines_err (S : List UInt8) (h : (readLines S 1).err ≠ 0) : (readLines S 1).toks = [] := by
  rw [← refRead_lines] at h ⊢
  exact err_no_toks _ _ _ _ _ rfl h
theorem note_bytes (s : ByteArray) (a : Nat) (h : a < s.size) : [45, 45].isPrefixOf (s.data.toList.drop a) = true ↔ s[a] = 45 ∧ ∃ h : a + 1 < s.size, s[a + 1] = 45 := by
  have hl : (s.data.toList.drop a).length = s.size - a := by simp
  have e0 := drop_nth s a 0 (by omega)
  have hc : s.data.toList.drop a = s[a] :: s.data.toList.drop (a + 1) := by
    rw [List.drop_eq_getElem_cons (by simpa using h)]
    rfl
  rw [hc]
  by_cases h1 : a + 1 < s.size
  · have hc2 : s.data.toList.drop (a + 1) = s[a + 1] :: s.data.toList.drop (a + 1 + 1) := by
      rw [List.drop_eq_getElem_cons (by simpa using h1)]
      rfl
    rw [hc2]
    constructor
    · intro h2
      simp [List.isPrefixOf] at h2
      exact ⟨h2.1.symm, h1, h2.2.symm⟩
    · rintro ⟨e1, _, e2⟩
      simp [List.isPrefixOf, e1, e2]
  · have : s.data.toList.drop (a + 1) = [] := List.drop_eq_nil_of_le (by simp; omega)
    rw [this]
    simp [List.isPrefixOf, h1]
theorem drop_hd (s : ByteArray) (a : Nat) (h : a < s.size) : s.data.toList.drop a = s[a] :: s.data.toList.drop (a + 1) := by
  rw [List.drop_eq_getElem_cons (by simpa using h)]
  rfl
end Lx

/-- What the reference has read so far lies in block b. -/
def RReading (w : World) (B b : Nat) (r : Lx.Red) : Prop :=
  ∃ vt vn, Has w b 64 #[vt, vn, .int .i64 0, .int .i64 0, .int .i64 0] ∧
    w.ownsRow B 43 4 vt r.toks.length (toksCells r.toks) ∧ w.ownsRow B 43 4 vn r.notes.length (toksCells r.notes) ∧ (vt.ownBlock = none ∨ vt.ownBlock ≠ vn.ownBlock)
theorem RReading.below {w W : World} {B b : Nat} {r : Lx.Red} (h : RReading w B b r) (hb : Below w.heap.size w W) : RReading W B b r := by
  obtain ⟨vt, vn, h1, h2, h3, h4⟩ := h
  exact ⟨vt, vn, h1.below hb h1.lt, own_below h2 hb (Nat.le_refl _), own_below h3 hb (Nat.le_refl _), h4⟩

/-- Behind an append onto the one row, stored back into block b: the one row has grown, the other is as it was. -/
theorem rappended {W w1 : World} {B b n n' m i : Nat} {cs : Array Value} {vx vy v' : Value} {xs xs' ys : List Value} (hb : Has W b 64 cs) (hx : W.ownsRow B 43 4 vx n xs) (hy : W.ownsRow B 43 4 vy m ys)
    (hne : vy.ownBlock = none ∨ vy.ownBlock ≠ vx.ownBlock) (hown : w1.ownsRow B 43 4 v' n' xs') (hg : W.grownBy w1 vx.ownBlock) (hat : v'.ownBlock = vx.ownBlock ∨ v'.ownBlock = some W.heap.size) :
    Has (w1.setCell ⟨b, i, none⟩ v') b 64 (cs.setIfInBounds i v') ∧
    (w1.setCell ⟨b, i, none⟩ v').ownsRow B 43 4 v' n' xs' ∧
    (w1.setCell ⟨b, i, none⟩ v').ownsRow B 43 4 vy m ys ∧ (vy.ownBlock = none ∨ vy.ownBlock ≠ v'.ownBlock) := by
  have hb1 := hb.grown hg (own_apart hx hb (by decide))
  have hy1 := hy.kept hg hne
  refine ⟨hb1.set _ _, hown.kept (grown_set w1 b i _) (.inr (own_apart hown hb1 (by decide)).symm), hy1.kept (grown_set w1 b i _) (.inr (own_apart hy1 hb1 (by decide)).symm), ?_⟩
  rcases hne with h | h
  · exact .inl h
  · rcases hat with e | e
    · exact .inr (by rw [e]; exact h)
    · right
      intro hh
      have := (hy.lt _ (hh.trans e)).2
      omega

/-- Where the walk stands: at offset a, in line L, which began at b; what is left gives the whole answer. -/
structure RInv (s : ByteArray) (fin : Lx.Red) (w wr : World) (a b L n : Nat) (R : Lx.Red) : Prop where
  ha : a ≤ s.size
  hb : b ≤ a
  hL : L ≤ a + 1
  hn : s.size - a ≤ n
  hR : R.line = 0 ∧ R.col = 0 ∧ R.err = 0
  hc : R.toks.length ≤ a ∧ R.notes.length ≤ a
  hf : Lx.refRead n L ((a : Int) - b + 1) R (s.data.toList.drop a) = fin
  hr : RReading wr w.heap.size (w.heap.size + 1) R
  hz : Has wr w.heap.size 64 #[.slice none 0 0, .slice none 0 0, .int .i64 0, .int .i64 0, .int .i64 0]
  hB : Below w.heap.size w wr
theorem RInv.below {s : ByteArray} {fin : Lx.Red} {w wr W : World} {a b L n : Nat} {R : Lx.Red} (h : RInv s fin w wr a b L n R) (hb : Below wr.heap.size wr W) : RInv s fin w W a b L n R :=
  ⟨h.ha, h.hb, h.hL, h.hn, h.hR, h.hc, h.hf, h.hr.below hb, h.hz.below hb h.hz.lt, h.hB.trans (hb.mono h.hB.size)⟩

theorem RInv.noted {s : ByteArray} {fin : Lx.Red} {w W w1 : World} {a b L n : Nat} {R : Lx.Red} (I : RInv s fin w W a b L n R) {vt vn v' : Value} (hb : Has W (w.heap.size + 1) 64 #[vt, vn, .int .i64 0, .int .i64 0, .int .i64 0])
    (ht : W.ownsRow w.heap.size 43 4 vt R.toks.length (toksCells R.toks)) (hno : W.ownsRow w.heap.size 43 4 vn R.notes.length (toksCells R.notes)) (hne : vt.ownBlock = none ∨ vt.ownBlock ≠ vn.ownBlock)
    (t : Lx.Tok) (k m : Nat) (hk1 : 1 ≤ k) (hk : a + k ≤ s.size) (hm : s.size - (a + k) ≤ m) (hr : Lx.refRead m L ((a : Int) - b + 1 + k) { R with notes := R.notes ++ [t] } (s.data.toList.drop (a + k)) = fin)
    (hown : w1.ownsRow w.heap.size 43 4 v' (R.notes.length + 1) (toksCells R.notes ++ tokCells t)) (hg : W.grownBy w1 vn.ownBlock) (hat : v'.ownBlock = vn.ownBlock ∨ v'.ownBlock = some W.heap.size) :
    RInv s fin w (w1.setCell ⟨w.heap.size + 1, 1, none⟩ v') (a + k) b L m { R with notes := R.notes ++ [t] } := by
  obtain ⟨z1, z2, z3, z4⟩ := rappended (i := 1) hb hno ht hne hown hg hat
  have hz1 := I.hz.grown hg (own_apart hno I.hz (by decide))
  refine ⟨hk, by have := I.hb; omega, by have := I.hL; omega, hm, I.hR, ⟨by have := I.hc.1; dsimp only; omega, by have := I.hc.2; simp only [List.length_append, List.length_cons, List.length_nil]; omega⟩, ?_, ⟨vt, v', z1, z3, ?_, z4⟩, hz1.other (by simp) _, ?_⟩
  · rw [← hr]
    congr 1
    omega
  · rw [toksCells_append, List.length_append]
    simpa [toksCells] using z2
  · exact (Below.grown I.hB hg I.hB.size (fun g hg' => own_ge hno hg')).setCell (p := ⟨w.heap.size + 1, 1, none⟩) (by simp) _
theorem RInv.token {s : ByteArray} {fin : Lx.Red} {w W w1 : World} {a b L n : Nat} {R : Lx.Red} (I : RInv s fin w W a b L n R) {vt vn v' : Value} (hb : Has W (w.heap.size + 1) 64 #[vt, vn, .int .i64 0, .int .i64 0, .int .i64 0])
    (ht : W.ownsRow w.heap.size 43 4 vt R.toks.length (toksCells R.toks)) (hno : W.ownsRow w.heap.size 43 4 vn R.notes.length (toksCells R.notes)) (hne : vt.ownBlock = none ∨ vt.ownBlock ≠ vn.ownBlock)
    (t : Lx.Tok) (k m : Nat) (hk1 : 1 ≤ k) (hk : a + k ≤ s.size) (hm : s.size - (a + k) ≤ m) (hr : Lx.refRead m L ((a : Int) - b + 1 + k) { R with toks := R.toks ++ [t] } (s.data.toList.drop (a + k)) = fin)
    (hown : w1.ownsRow w.heap.size 43 4 v' (R.toks.length + 1) (toksCells R.toks ++ tokCells t)) (hg : W.grownBy w1 vt.ownBlock) (hat : v'.ownBlock = vt.ownBlock ∨ v'.ownBlock = some W.heap.size) :
    RInv s fin w (w1.setCell ⟨w.heap.size + 1, 0, none⟩ v') (a + k) b L m { R with toks := R.toks ++ [t] } := by
  have hne' : vn.ownBlock = none ∨ vn.ownBlock ≠ vt.ownBlock := by
    rcases hne with h | h
    · cases hv : vn.ownBlock with
      | none => exact .inl rfl
      | some k => exact .inr (by rw [h]; simp)
    · exact .inr h.symm
  obtain ⟨z1, z2, z3, z4⟩ := rappended (i := 0) hb ht hno hne' hown hg hat
  have hz1 := I.hz.grown hg (own_apart ht I.hz (by decide))
  refine ⟨hk, by have := I.hb; omega, by have := I.hL; omega, hm, I.hR, ⟨by have := I.hc.1; simp only [List.length_append, List.length_cons, List.length_nil]; omega, by have := I.hc.2; dsimp only; omega⟩, ?_, ⟨v', vn, z1, ?_, z3, ?_⟩, hz1.other (by simp) _, ?_⟩
  · rw [← hr]
    congr 1
    omega
  · rw [toksCells_append, List.length_append]
    simpa [toksCells] using z2
  · rcases z4 with h | h
    · cases hv : v'.ownBlock with
      | none => exact .inl rfl
      | some k => exact .inr (by rw [h]; simp)
    · exact .inr h.symm
  · exact (Below.grown I.hB hg I.hB.size (fun g hg' => own_ge ht hg')).setCell (p := ⟨w.heap.size + 1, 0, none⟩) (by simp) _

theorem piece_list (s : ByteArray) (a k : Nat) : (s.extract a (a + k)).data.toList = (s.data.toList.drop a).take k := by
  rw [Lib.extract_data, Nat.add_sub_cancel_left]

/-- The result's block, set: the answer. -/
theorem lexed_end {w wr : World} {fin : Lx.Red} {l c e : Int} (hB : Below w.heap.size w wr) (hfin : fin = { line := l, col := c, err := e }) :
    LinesEnd w w.heap.size fin (.returned (.agg #[.slice none 0 0, .slice none 0 0, .int .i64 l, .int .i64 c, .int .i64 e])) (set5 wr w.heap.size (.slice none 0 0) (.slice none 0 0) (.int .i64 l) (.int .i64 c) (.int .i64 e)) := by
  subst hfin
  exact ⟨_, _, rfl, World.ownsRow_nil _ _ _ _, World.ownsRow_nil _ _ _ _, Below_set5 hB (Nat.le_refl _) _ _ _ _ _⟩
theorem rstep {w W W' : World} (h : Below w.heap.size w W) (o : Obj) (hb : Below (W.alloc o).heap.size (W.alloc o) W') : Below w.heap.size w W' :=
  (h.alloc h.size o).trans (hb.mono (by rw [World.size_alloc]; have := h.size; omega))

set_option maxRecDepth 100000 in
set_option maxHeartbeats 20000000 in
theorem rread_any (s : ByteArray) (w : World) (hs : s.size ≤ 100000) :
    Calls Tryz.prog 53 #[.string s] w (LinesEnd w w.heap.size (Lx.readLines s.data.toList 1)) := by
  have hfin : Lx.refRead s.size 1 1 {} s.data.toList = Lx.readLines s.data.toList 1 := by
    have := Lx.refRead_lines s.data.toList 1
    rwa [show s.data.toList.length = s.size from by simp] at this
  generalize Lx.readLines s.data.toList 1 = fin at *
  have HF := Lib.hid hfin
  clear hfin
  obtain ⟨i0, hi, hz0, hz1, hz2⟩ := info_parts tokInfo
  go_enter Tryz.func53, Tryz.ntmps53
  go_wp2_with fail
  go_loopw [4, 5, 6] (fun li bg i wr => ∃ (a b L n : Nat) (R : Lx.Red), li = .int .i64 L ∧ bg = .int .i64 b ∧ i = .int .i64 a ∧ RInv s fin w wr a b L n R) (fun _ _ i _ => s.size - (intOf i).toNat)
  case atStart =>
    refine ⟨0, 0, 1, s.size, {}, rfl, rfl, rfl, ⟨Nat.zero_le _, Nat.le_refl _, Nat.le_refl _, by omega, ⟨rfl, rfl, rfl⟩, ⟨Nat.le_refl _, Nat.le_refl _⟩, HF.out, ⟨_, _, ?_, World.ownsRow_nil _ _ _ _, World.ownsRow_nil _ _ _ _, .inl rfl⟩, ?_, ?_⟩⟩
    · have := Has.new (w.alloc (.cells #[.slice none 0 0, .slice none 0 0, .int .i64 0, .int .i64 0, .int .i64 0] 64)) 64 #[.slice none 0 0, .slice none 0 0, .int .i64 0, .int .i64 0, .int .i64 0]
      rw [World.size_alloc] at this
      exact this
    · exact (Has.new _ _ _).alloc _
    · exact ((Below.refl _ _).alloc (Nat.le_refl _) _).alloc (by simp) _
  case round =>
    obtain ⟨a, b, L, n, R, rfl, rfl, rfl, hI⟩ := hrel
    have ha := hI.ha
    have hba := hI.hb
    have hLa := hI.hL
    have I := Lib.hid hI
    have hwz : w.heap.size + 1 < wr.heap.size := by
      obtain ⟨_, _, h1, _⟩ := hI.hr
      exact h1.lt
    clear hI
    by_cases hlt : a < s.size
    · have hi1 : (a : Int) < s.size := by omega
      have hst := Lx.refRead_at n L ((a : Int) - b + 1) R _ s[a] _ (Lx.drop_hd s a hlt) (by rw [List.length_drop]; have := I.out.hn; simpa using this) fin I.out.hf
      obtain ⟨q1, q2, q3, q4⟩ := hst
      have hl1 : (s.data.toList.drop (a + 1)).length = s.size - (a + 1) := by simp
      by_cases h10 : (s[a].toNat : Int) = 10
      · obtain ⟨m, hm, hr⟩ := q1 (UInt8.toNat_inj.1 (by simp; omega))
        have h10b : ((s[a].toNat : Int) == 10) = true := by rw [h10]; rfl
        have NX : Hid (∀ o, RInv s fin w (wr.alloc o) (a + 1) (a + 1) (L + 1) m R) := fun o => by
          have J := I.out.below ((Below.refl _ _).alloc (Nat.le_refl _) o)
          refine ⟨hlt, Nat.le_refl _, by omega, by omega, J.hR, ⟨by have := J.hc.1; omega, by have := J.hc.2; omega⟩, ?_, J.hr, J.hz, J.hB⟩
          rw [← hr]
          congr 1
          omega
        clear q1 q2 q3 q4 hr hm hl1
        go_wp2_with fail
        go_roundw
        case rel => exact ⟨a + 1, a + 1, L + 1, m, R, by go_num, by go_num, by go_num, NX.out _⟩
        case measure => simp [intOf]; omega
      · have h10b : ((s[a].toNat : Int) == 10) = false := by rw [beq_eq_false_iff_ne]; exact h10
        have hn10 : s[a] ≠ 10 := fun h => h10 (by rw [h]; rfl)
        by_cases h32 : (s[a].toNat : Int) = 32
        · obtain ⟨m, hm, hr⟩ := q2 (UInt8.toNat_inj.1 (by simp; omega))
          have h32b : ((s[a].toNat : Int) == 32) = true := by rw [h32]; rfl
          have NX : Hid (∀ o, RInv s fin w (wr.alloc o) (a + 1) b L m R) := fun o => by
            have J := I.out.below ((Below.refl _ _).alloc (Nat.le_refl _) o)
            refine ⟨hlt, by omega, by omega, by omega, J.hR, ⟨by have := J.hc.1; omega, by have := J.hc.2; omega⟩, ?_, J.hr, J.hz, J.hB⟩
            rw [← hr]
            congr 1
            omega
          clear q1 q2 q3 q4 hr hm hl1
          go_wp2_with fail
          go_roundw
          case rel => exact ⟨a + 1, b, L, m, R, rfl, rfl, by go_num, NX.out _⟩
          case measure => simp [intOf]; omega
        · have h32b : ((s[a].toNat : Int) == 32) = false := by rw [beq_eq_false_iff_ne]; exact h32
          have hn32 : s[a] ≠ 32 := fun h => h32 (by rw [h]; rfl)
          by_cases hp : [45, 45].isPrefixOf (s.data.toList.drop a) = true
          · obtain ⟨p1, p2, p3⟩ := (Lx.note_bytes s a hlt).1 hp
            obtain ⟨e1, e2⟩ := q3 hn10 hn32 hp
            have h45 : (s[a].toNat : Int) = 45 := by rw [p1]; rfl
            have h45b : ((s[a].toNat : Int) == 45) = true := by rw [p1]; rfl
            have h46b : ((s[a + 1].toNat : Int) == 45) = true := by rw [p3]; rfl
            have hi2 : (a : Int) + 1 < s.size := by omega
            have hi2b : decide ((a : Int) + 1 < s.size) = true := decide_eq_true hi2
            have CN := Lib.hid (fun W => rnote_any s a W (by omega) (by omega) p1 p3)
            have hle := Lx.refNote_le (s.data.toList.drop a)
            rw [List.length_drop, show s.data.toList.length = s.size from by simp] at hle
            have hx : (s.extract a (a + (Lx.refNote (s.data.toList.drop a)).length)).data.toList = Lx.refNote (s.data.toList.drop a) := by
              rw [piece_list, ← Lx.take_hd _ _ (Nat.le_refl _), List.take_length]
            have hpos : 1 ≤ (Lx.refNote (s.data.toList.drop a)).length := by
              rw [Lx.drop_hd s a hlt, Lx.refNote_cons _ _ hn10]; simp
            clear q1 q2 q3 q4 hl1 hp p1 p3
            generalize hno : Lx.refNote (s.data.toList.drop a) = no at *
            generalize hnl : no.length = nl at *
            generalize Lx.span Lx.printable no = sp at *
            by_cases hsp : sp < nl
            · have hfe := e1 hsp
              have hfin : Hid (fin = { line := (L : Int), col := (a : Int) + sp - b + 1, err := 2 }) := by
                show fin = _
                rw [hfe]
                simp only [Lx.Red.mk.injEq, true_and, and_true]
                omega
              have hCN := CN.out
              simp only [if_pos hsp] at hCN
              have CN' := Lib.hid hCN
              clear e1 e2 hfe hCN CN hx hno
              have hz := I.out.hz.alloc (.cells #[.int .i64 L, .int .i64 ((a : Int) - b + 1)] 38)
              have z0 := hz.cell 0
              have z1 := hz.cell 1
              have z2 := hz.cell 2
              have z3 := hz.cell 3
              have z4 := hz.cell 4
              have g0 := hz.free 0
              have g1 := hz.free 1
              have g2 := hz.free 2
              have g3 := hz.free 3
              have g4 := hz.free 4
              clear hz
              go_wp2_with (go_at_call 74; refine (CN'.out _).mono ?_; rintro e w' ⟨rfl, rfl⟩)
              clear z0 z1 z2 z3 z4
              have hf := (I.out.hz.alloc (.cells #[.int .i64 L, .int .i64 ((a : Int) - b + 1)] 38)).set5 rfl (.slice none 0 0) (.slice none 0 0) (.int .i64 L) (.int .i64 ((a : Int) + sp - b + 1)) (.int .i64 2)
              have d0 := hf.cell 0
              have d1 := hf.cell 1
              have d2 := hf.cell 2
              have d3 := hf.cell 3
              have d4 := hf.cell 4
              clear hf
              refine bodyPost_ret (v := .agg #[.slice none 0 0, .slice none 0 0, .int .i64 L, .int .i64 ((a : Int) + sp - b + 1), .int .i64 2]) (by simp [results, Tryz.results53, go_sem, d0, d1, d2, d3, d4]) rfl ?_
              exact lexed_end (I.out.hB.alloc I.out.hB.size _) hfin.out
            · obtain ⟨m, hm, hr⟩ := e2 hsp
              have hCN := CN.out
              simp only [if_neg hsp] at hCN
              have CN' := Lib.hid hCN
              obtain ⟨vt, vn, hb0, ht0, hn0, hne⟩ := I.out.hr
              have c1 : ∀ o, (wr.alloc o).cell? ⟨w.heap.size + 1, 1, none⟩ = some vn := fun o => (hb0.alloc o).cell 1
              have c2 : ∀ o o', ((wr.alloc o).alloc o').cell? ⟨w.heap.size + 1, 1, none⟩ = some vn := fun o o' => ((hb0.alloc o).alloc o').cell 1
              have c3 : ∀ o', ((wr.alloc (.cells #[.int .i64 L, .int .i64 ((a : Int) - b + 1)] 38)).alloc o').cell? ⟨wr.heap.size, 0, none⟩ = some (.int .i64 L) := fun o' => ((Has.new wr 38 #[.int .i64 L, .int .i64 ((a : Int) - b + 1)]).alloc o').cell 0
              have c4 : ∀ o', ((wr.alloc (.cells #[.int .i64 L, .int .i64 ((a : Int) - b + 1)] 38)).alloc o').cell? ⟨wr.heap.size, 1, none⟩ = some (.int .i64 ((a : Int) - b + 1)) := fun o' => ((Has.new wr 38 #[.int .i64 L, .int .i64 ((a : Int) - b + 1)]).alloc o').cell 1
              have hcn := I.out.hc.2
              have hm2 : s.size - (a + nl) ≤ m := by rw [List.length_drop, List.length_drop, show s.data.toList.length = s.size from by simp] at hm; omega
              rw [List.drop_drop] at hr
              have hkk : a + nl ≤ s.size := by omega
              clear e1 e2 hCN CN hm
              go_wp2_with (go_at_call 74; refine (CN'.out _).mono ?_; rintro e w' ⟨rfl, rfl⟩)
              have hle2 : (a : Int) + nl ≤ s.size := by omega
              have hwr : IntKind.i64.wrap ((a : Int) + nl) = ((a + nl : Nat) : Int) := by rw [IntWalk.i64_in _ (by omega)]; omega
              have hle3 : ((a + nl : Nat) : Int) ≤ s.size := by omega
              have hle4 : (a : Int) ≤ ((a + nl : Nat) : Int) := by omega
              have hle5 : (0 : Int) ≤ ((a + nl : Nat) : Int) := by omega
              have hnn : ((a : Int) + nl).toNat = a + nl := by omega
              have hle6 : (0 : Int) ≤ (a : Int) + nl := by omega
              have hle7 : (a : Int) ≤ (a : Int) + nl := by omega
              obtain ⟨W2, hW2⟩ : ∃ W2, W2 = ((wr.alloc (.cells #[.int .i64 L, .int .i64 ((a : Int) - b + 1)] 38)).alloc (.cells #[.int .i64 6, .string (s.extract a (a + nl)), .int .i64 L, .int .i64 ((a : Int) - b + 1)] 43)).drew := ⟨_, rfl⟩
              have hnews : ∀ j u, (tokCells ⟨6, (s.extract a (a + nl)).data.toList, L, (a : Int) - b + 1⟩)[j]? = some u → W2.cell? ((⟨wr.heap.size + 1, 0, none⟩ : Addr).add j) = some u := by
                have := tok_news (wr.alloc (.cells #[.int .i64 L, .int .i64 ((a : Int) - b + 1)] 38)) 6 (s.extract a (a + nl)) L ((a : Int) - b + 1)
                rw [World.size_alloc] at this
                rw [hW2]
                exact this
              have hB2 : Below wr.heap.size wr W2 := by rw [hW2]; exact (((Below.refl _ _).alloc (Nat.le_refl _) _).alloc (by simp) _).drew
              have hsz2 : W2.heap.size = wr.heap.size + 2 := by rw [hW2]; simp
              have N1 := Lib.hid hnews
              have N2 := Lib.hid (own_below hn0 hB2 (Nat.le_refl _))
              have N3 := Lib.hid (hb0.below hB2 hb0.lt)
              have N4 := Lib.hid (own_below ht0 hB2 (Nat.le_refl _))
              have N5 := Lib.hid (I.out.below hB2)
              have N6 := Lib.hid hsz2
              have N7 : Hid (w.heap.size ≤ W2.heap.size) := by rw [hsz2]; show _ ≤ _; omega
              have N8 : Hid (R.notes.length + 1 ≤ maxLen) := by show _ ≤ _; unfold maxLen; omega
              have N9 : Hid ((R.notes.length + 1) * 40 ≤ 140737488355328) := by show _ ≤ _; omega
              have HX := Lib.hid hx
              have HR := Lib.hid hr
              clear hnews hB2 hsz2 hb0 ht0 hn0 hx hr
              subst hW2
              go_region_law ((refine step_append_lies _ rfl (.tmp 77) (.tmp 86) 36 rfl w.heap.size 43 i0 (.agg #[.int .i64 0, .string ⟨#[]⟩, .int .i64 0, .int .i64 0]) 4 40 Tryz.underlying36 hi hz0 hz1 hz2 rfl ?_ vn R.notes.length (toksCells R.notes) ?_ ?_ ⟨wr.heap.size + 1, 0, none⟩ 1 1 (tokCells ⟨6, (s.extract a (a + nl)).data.toList, L, (a : Int) - b + 1⟩) ?_ rfl ?_ (tok_one _) ?_ N8.out N9.out ?_ (wr.heap.size + 2) ?_ ?_; decide; simp [Act.eval]; exact N2.out; simp [Act.eval]; exact N1.out; decide; exact N7.out; exact N6.out; intro g cap w1 hown1 hg1 hat1 hlt1; have hb3 := Has.grown N3.out hg1 (own_apart N2.out N3.out (by decide)); have k1 := hb3.cell 1; have q1 := hb3.free 1))
              all_goals
                have NX := Lib.hid (RInv.noted N5.out N3.out N4.out N2.out hne ⟨6, (s.extract a (a + nl)).data.toList, L, (a : Int) - b + 1⟩ nl m hpos hkk hm2 (by rw [HX.out]; exact HR.out) hown1 hg1 (by
                  rcases hat1 with e | e
                  · exact .inl e.symm
                  · right; rw [N6.out, e]; rfl))
                clear hown1 hg1 hat1 hb3
                go_wp2_with fail
                go_roundw
                case rel => exact ⟨a + nl, b, L, m, _, rfl, rfl, by go_num, NX.out⟩
                case measure => simp [intOf]; omega
          · have hp' : [45, 45].isPrefixOf (s.data.toList.drop a) = false := by rw [Bool.eq_false_iff]; exact hp
            obtain ⟨e1, e2⟩ := q4 hn10 hn32 hp'
            have hguard : (s[a].toNat : Int) ≠ 45 ∨ ((s[a].toNat : Int) = 45 ∧ ¬ a + 1 < s.size) ∨ ((s[a].toNat : Int) = 45 ∧ ∃ h : a + 1 < s.size, (s[a + 1].toNat : Int) ≠ 45) := by
              by_cases g1 : (s[a].toNat : Int) = 45
              · by_cases g2 : a + 1 < s.size
                · refine .inr (.inr ⟨g1, g2, fun g3 => ?_⟩)
                  rw [Lx.note_bytes s a hlt] at hp
                  exact hp ⟨UInt8.toNat_inj.1 (by simp; omega), g2, UInt8.toNat_inj.1 (by simp; omega)⟩
                · exact .inr (.inl ⟨g1, g2⟩)
              · exact .inl g1
            have CS := Lib.hid (fun W => rsign_any s a W (by omega) ha)
            have CP := Lib.hid (fun W => rpart_any s[a] W)
            have CR := Lib.hid (fun W => rrun_any s a W (by omega) ha)
            have hrl := Lx.refRun_le (s.data.toList.drop a)
            rw [List.length_drop, show s.data.toList.length = s.size from by simp] at hrl
            have hrr : Lx.refRun (s.data.toList.drop a) = if Lx.inRun s[a] then (s.data.toList.drop a).take (Lx.span Lx.inRun (s.data.toList.drop a)) else Lx.longest (s.data.toList.drop a) := by
              rw [Lx.drop_hd s a hlt]; rfl
            have hx1 : ∀ sp, (s.extract a (a + sp)).data.toList = (s.data.toList.drop a).take sp := fun sp => piece_list s a sp
            have hspan := Lx.span_le Lx.inRun (s.data.toList.drop a)
            rw [List.length_drop, show s.data.toList.length = s.size from by simp] at hspan
            have hstep : Hid ((Lx.shape (Lx.refRun (s.data.toList.drop a))).2 = 0 → 1 ≤ (Lx.refRun (s.data.toList.drop a)).length ∧ ∃ m, s.size - (a + (Lx.refRun (s.data.toList.drop a)).length) ≤ m ∧ Lx.refRead m L ((a : Int) - b + 1 + (Lx.refRun (s.data.toList.drop a)).length) { R with toks := R.toks ++ [⟨(Lx.shape (Lx.refRun (s.data.toList.drop a))).1, Lx.refRun (s.data.toList.drop a), L, (a : Int) - b + 1⟩] } (s.data.toList.drop (a + (Lx.refRun (s.data.toList.drop a)).length)) = fin) := fun h => by
              obtain ⟨m, hm, hr⟩ := e2 h
              refine ⟨?_, m, ?_, ?_⟩
              · cases hh : Lx.refRun (s.data.toList.drop a) with
                | nil => rw [hh] at h; cases h
                | cons x y => simp
              · rw [List.length_drop, List.length_drop, show s.data.toList.length = s.size from by simp] at hm; omega
              · rw [List.drop_drop] at hr; exact hr
            have HE1 := Lib.hid e1
            clear q1 q2 q3 q4 hl1 hp hp' e1 e2
            generalize Lx.refRun (s.data.toList.drop a) = rr at *
            generalize Lx.longest (s.data.toList.drop a) = lg at *
            generalize Lx.span Lx.inRun (s.data.toList.drop a) = sp at *
            generalize hin : Lx.inRun s[a] = inr at *
            have HIN := Lib.hid hin
            clear hin
            have tail : True := trivial
            have hspI : (a : Int) + sp ≤ s.size := by omega
            obtain ⟨vt, vn, hb0, ht0, hn0, hne⟩ := I.out.hr
            have K0 := Lib.hid hb0
            have K1 := Lib.hid ht0
            have K2 := Lib.hid hn0
            clear hb0 ht0 hn0
            have hct := I.out.hc.1
            have HRR := Lib.hid hrr
            have HX1 := Lib.hid hx1
            clear hrr hx1
            rcases hguard with gA | ⟨gB, gB2⟩ | ⟨gC, gC2, gC3⟩
            case' inl =>
              have g45b : ((s[a].toNat : Int) == 45) = false := by rw [beq_eq_false_iff_ne]; exact gA
            case' inr.inl =>
              have g45b : ((s[a].toNat : Int) == 45) = true := by rw [gB]; rfl
              have g46 : ¬ (a : Int) + 1 < s.size := by omega
              have hCP := CP.out
              simp only [gB] at hCP
              replace CP := Lib.hid hCP
              clear hCP
              have g46b : decide ((a : Int) + 1 < s.size) = false := decide_eq_false g46
            case' inr.inr =>
              have g45b : ((s[a].toNat : Int) == 45) = true := by rw [gC]; rfl
              have g46 : (a : Int) + 1 < s.size := by omega
              have hCP := CP.out
              simp only [gC] at hCP
              replace CP := Lib.hid hCP
              clear hCP
              have g46b : decide ((a : Int) + 1 < s.size) = true := decide_eq_true g46
              have g47b : ((s[a + 1].toNat : Int) == 45) = false := by rw [beq_eq_false_iff_ne]; exact gC3
            all_goals
              go_wp2_with fail
              refine (CS.out _).mono ?_
              rintro e w2 ⟨rfl, hb2⟩
              have J2 := Lib.hid (rstep (Below.refl wr.heap.size wr) _ hb2)
              have P2 := Lib.hid ((Has.new wr 38 #[.int .i64 L, .int .i64 ((a : Int) - b + 1)]).below hb2 (by simp))
              clear hb2
              go_wp2_with fail
              refine (CP.out _).mono ?_
              rintro e w3 ⟨rfl, rfl⟩
              cases inr
              case' true =>
                go_wp2_with (go_at_call 77; refine (CR.out _).mono ?_; rintro e w' ⟨rfl, rfl⟩)
                have hx : (s.extract a (a + sp)).data.toList = rr := by rw [HX1.out, HRR.out]; simp
                generalize s.extract a (a + sp) = x at *
              case' false =>
                go_wp2_with fail
                have hx : (⟨lg.toArray⟩ : ByteArray).data.toList = rr := by rw [HRR.out]; simp
                generalize (⟨lg.toArray⟩ : ByteArray) = x at *
              all_goals
                have hxs : x.size = rr.length := by rw [← hx]; simp
                have CSh := Lib.hid (rShape_any x w2 (by omega))
                rw [hx] at CSh
                generalize Lx.shape rr = sh at *
                obtain ⟨kd, er⟩ := sh
                have HX := Lib.hid hx
                clear hx
                refine CSh.out.mono ?_
                rintro e w4 ⟨rfl, hb4⟩
                have J4 := Lib.hid (J2.out.trans (hb4.mono J2.out.size))
                have P4 := Lib.hid ((P2.out.below hb4 P2.out.lt).alloc (.cells #[.int .i64 kd, .int .i64 er] 125))
                have K4 := Lib.hid ((K0.out.below J4.out K0.out.lt).alloc (.cells #[.int .i64 kd, .int .i64 er] 125))
                have lt4 := (P2.out.below hb4 P2.out.lt).lt
                have y0 := P4.out.cell 0
                have y1 := P4.out.cell 1
                simp only [List.getElem?_toArray, List.getElem?_cons_zero, List.getElem?_cons_succ] at y0 y1
                have c0 := K4.out.cell 0
                simp only [List.getElem?_toArray, List.getElem?_cons_zero] at c0
                clear hb4
                by_cases her : er = 0
                · subst her
                  obtain ⟨hpos, m, hm, hr⟩ := hstep.out rfl
                  have HR := Lib.hid hr
                  clear hr
                  have hB5 : Below wr.heap.size wr ((w4.alloc (.cells #[.int .i64 kd, .int .i64 0] 125)).alloc (.cells #[.int .i64 kd, .string x, .int .i64 L, .int .i64 ((a : Int) - b + 1)] 43)) := (J4.out.alloc J4.out.size _).alloc (by have := J4.out.size; simp; omega) _
                  have J5 := Lib.hid (I.out.below hB5)
                  have M0 := Lib.hid (K0.out.below hB5 K0.out.lt)
                  have M1 := Lib.hid (own_below K1.out hB5 (Nat.le_refl _))
                  have M2 := Lib.hid (own_below K2.out hB5 (Nat.le_refl _))
                  have hnews : ∀ j u, (tokCells ⟨kd, x.data.toList, L, (a : Int) - b + 1⟩)[j]? = some u → ((w4.alloc (.cells #[.int .i64 kd, .int .i64 0] 125)).alloc (.cells #[.int .i64 kd, .string x, .int .i64 L, .int .i64 ((a : Int) - b + 1)] 43)).cell? ((⟨w4.heap.size + 1, 0, none⟩ : Addr).add j) = some u := by
                    have := tok_news (w4.alloc (.cells #[.int .i64 kd, .int .i64 0] 125)) kd x L ((a : Int) - b + 1)
                    rw [World.size_alloc] at this
                    exact this
                  have N1 := Lib.hid hnews
                  have N7 : Hid (w.heap.size ≤ ((w4.alloc (.cells #[.int .i64 kd, .int .i64 0] 125)).alloc (.cells #[.int .i64 kd, .string x, .int .i64 L, .int .i64 ((a : Int) - b + 1)] 43)).heap.size) := by show _ ≤ _; simp; omega
                  have N8 : Hid (R.toks.length + 1 ≤ maxLen) := by show _ ≤ _; unfold maxLen; omega
                  have N9 : Hid ((R.toks.length + 1) * 40 ≤ 140737488355328) := by show _ ≤ _; omega
                  clear hnews hB5
                  go_wp2_with (at_builtin; refine wpList_append_own_at _ rfl _ _ 36 rfl w.heap.size 43 i0 (.agg #[.int .i64 0, .string ⟨#[]⟩, .int .i64 0, .int .i64 0]) 4 40 Tryz.underlying36 hi hz0 hz1 hz2 rfl (by decide) _ _ _ rfl M1.out ⟨w4.heap.size + 1, 0, none⟩ 1 1 (tokCells ⟨kd, x.data.toList, L, (a : Int) - b + 1⟩) rfl rfl N1.out (tok_one _) N8.out N9.out N7.out ?_)
                  intro v' w1 hown1 hg1 _ hat1
                  obtain ⟨Av, cv, rfl⟩ := own_len hown1
                  have hb3 := Has.grown M0.out hg1 (own_apart M1.out M0.out (by decide))
                  have k0 := hb3.cell 0
                  simp only [List.getElem?_toArray, List.getElem?_cons_zero] at k0
                  have r0 := hb3.free 0
                  have NX := Lib.hid (RInv.token J5.out M0.out M1.out M2.out hne ⟨kd, x.data.toList, L, (a : Int) - b + 1⟩ rr.length m hpos (by omega) hm (by rw [HX.out]; exact HR.out) hown1 hg1 (by rcases hat1 with e | e; exact .inl e; exact .inr (by rw [e]; simp)))
                  clear hown1 hg1 hat1 hb3
                  go_wp2_with fail
                  go_roundw
                  case rel => exact ⟨a + rr.length, b, L, m, _, rfl, rfl, by go_num, NX.out⟩
                  case measure => simp [intOf]; omega
                · have herb : (er != 0) = true := by simpa using her
                  have hfe := HE1.out her
                  have HFE := Lib.hid hfe
                  clear hfe
                  have hz := (I.out.hz.below J4.out I.out.hz.lt).alloc (.cells #[.int .i64 kd, .int .i64 er] 125)
                  have z0 := hz.cell 0
                  have z1 := hz.cell 1
                  have z2 := hz.cell 2
                  have z3 := hz.cell 3
                  have z4 := hz.cell 4
                  have g0 := hz.free 0
                  have g1 := hz.free 1
                  have g2 := hz.free 2
                  have g3 := hz.free 3
                  have g4 := hz.free 4
                  clear hz
                  go_wp2_with fail
                  clear z0 z1 z2 z3 z4
                  have hf := ((I.out.hz.below J4.out I.out.hz.lt).alloc (.cells #[.int .i64 kd, .int .i64 er] 125)).set5 rfl (.slice none 0 0) (.slice none 0 0) (.int .i64 L) (.int .i64 ((a : Int) - b + 1)) (.int .i64 er)
                  have d0 := hf.cell 0
                  have d1 := hf.cell 1
                  have d2 := hf.cell 2
                  have d3 := hf.cell 3
                  have d4 := hf.cell 4
                  clear hf
                  refine bodyPost_ret (v := .agg #[.slice none 0 0, .slice none 0 0, .int .i64 L, .int .i64 ((a : Int) - b + 1), .int .i64 er]) (by simp [results, Tryz.results53, go_sem, d0, d1, d2, d3, d4]) rfl ?_
                  exact lexed_end ((I.out.below J4.out).hB.alloc (I.out.below J4.out).hB.size _) HFE.out
    · obtain rfl : a = s.size := by omega
      have hfe : fin = R := by
        rw [← I.out.hf, List.drop_eq_nil_of_le (by simp)]
        cases n <;> rfl
      obtain ⟨vt, vn, hb0, ht0, hn0, hne⟩ := I.out.hr
      obtain ⟨At, ct, rfl⟩ := own_len ht0
      obtain ⟨An, cn, rfl⟩ := own_len hn0
      have d0 := hb0.cell 0
      have d1 := hb0.cell 1
      have d2 := hb0.cell 2
      have d3 := hb0.cell 3
      have d4 := hb0.cell 4
      simp only [List.getElem?_toArray, List.getElem?_cons_zero, List.getElem?_cons_succ] at d0 d1 d2 d3 d4
      have HT := Lib.hid ht0
      have HN := Lib.hid hn0
      have HFE := Lib.hid hfe
      clear hfe ht0 hn0 hb0 hne
      have hz := I.out.hz
      have z0 := hz.cell 0
      have z1 := hz.cell 1
      have z2 := hz.cell 2
      have z3 := hz.cell 3
      have z4 := hz.cell 4
      have g0 := hz.free 0
      have g1 := hz.free 1
      have g2 := hz.free 2
      have g3 := hz.free 3
      have g4 := hz.free 4
      clear hz
      go_wp2_with fail
      clear d0 d1 d2 d3 d4 z0 z1 z2 z3 z4
      have hf := I.out.hz.set5 rfl (.slice At R.toks.length ct) (.slice An R.notes.length cn) (.int .i64 0) (.int .i64 0) (.int .i64 0)
      have d0 := hf.cell 0
      have d1 := hf.cell 1
      have d2 := hf.cell 2
      have d3 := hf.cell 3
      have d4 := hf.cell 4
      clear hf
      refine bodyPost_ret (v := .agg #[.slice At R.toks.length ct, .slice An R.notes.length cn, .int .i64 0, .int .i64 0, .int .i64 0]) (by simp [results, Tryz.results53, go_sem, d0, d1, d2, d3, d4]) rfl ?_
      obtain ⟨r1, r2, r3⟩ := I.out.hR
      have hg := grown_set5 wr w.heap.size (.slice At R.toks.length ct) (.slice An R.notes.length cn) (.int .i64 0) (.int .i64 0) (.int .i64 0)
      rw [HFE.out]
      exact ⟨_, _, by rw [r1, r2, r3], HT.out.kept hg (.inr (own_apart HT.out I.out.hz (by decide)).symm), HN.out.kept hg (.inr (own_apart HN.out I.out.hz (by decide)).symm), Below_set5 I.out.hB (Nat.le_refl _) _ _ _ _ _⟩
end Go.Proofs.YtadicempblgmhaaGreatDoor
