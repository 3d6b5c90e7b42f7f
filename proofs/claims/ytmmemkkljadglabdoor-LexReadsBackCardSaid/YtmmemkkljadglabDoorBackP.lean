/-
  Texts of right tokens are read back, the tightest is not longer, and no shorter text has the same tokens. Plain functions.
-/
import Derived.Test.YtmmemkkljadglabDoorJoinU
import Derived.Test.YtmmemkkljadglabDoorStand
import Derived.Test.YtmmemkkljadglabDoorTight
import Derived.Test.YtmmemkkljadglabDoorWriteB
namespace Go.Proofs.YtmmemkkljadglabDoor
namespace Lx

theorem textFrom_kinds : ∀ (l m : List Tok) (p q : Option Tok), kinds l = kinds m → p.map (·.text) = q.map (·.text) → textFrom needs p l = textFrom needs q m
  | [], [], _, _, _, _ => rfl
  | [], _ :: _, _, _, h, _ => by simp [kinds] at h
  | _ :: _, [], _, _, h, _ => by simp [kinds] at h
  | t :: l, u :: m, p, q, h, hp => by
    simp only [kinds, List.map_cons, List.cons.injEq, Prod.mk.injEq] at h
    obtain ⟨⟨_, h2⟩, h3⟩ := h
    have ih := textFrom_kinds l m (some t) (some u) h3 (by simp [h2])
    have hne : ∀ x y : Tok, x.text = y.text → needs x t = needs y u := fun x y e => by unfold needs; rw [e, h2]
    simp only [textFrom, h2, ih]
    cases p with
    | none => cases q with
      | none => rfl
      | some y => simp at hp
    | some x => cases q with
      | none => simp at hp
      | some y =>
        simp only [Option.map_some, Option.some.injEq] at hp
        simp only [hne x y hp]
theorem textOf_kinds {l m : List Tok} (h : kinds l = kinds m) : textOf needs l = textOf needs m := textFrom_kinds l m none none h rfl
theorem right_kinds : ∀ {l m : List Tok}, kinds l = kinds m → l.all right = m.all right
  | [], [], _ => rfl
  | [], _ :: _, h => by simp [kinds] at h
  | _ :: _, [], h => by simp [kinds] at h
  | t :: l, u :: m, h => by
    simp only [kinds, List.map_cons, List.cons.injEq, Prod.mk.injEq] at h
    obtain ⟨⟨h1, h2⟩, h3⟩ := h
    have ih := right_kinds (l := l) (m := m) h3
    simp only [List.all_cons, ih, right, h1, h2]
theorem kinds_len {l m : List Tok} (h : kinds l = kinds m) : l.length = m.length := by
  have := congrArg List.length h
  simpa [kinds] using this
theorem text_le : ∀ (l : List Tok) (p : Option Tok), (textFrom needs p l).length ≤ (textFrom always p l).length
  | [], _ => Nat.le_refl _
  | t :: l, p => by
    have ih := text_le l (some t)
    simp only [textFrom, List.length_append]
    cases p with
    | none => simp; omega
    | some x =>
      simp only [always, if_true]
      split
      · omega
      · simp
        omega

/-- No text that is shorter than the tightest one has the same tokens. -/
theorem no_shorter (l : List Tok) (S : List UInt8) (hS : S.length < (textOf needs l).length) (h : (readText S).err = 0) : kinds (readText S).toks ≠ kinds l := by
  intro hk
  have hst := readText_stands S h
  have hle := tight_le S _ 0 none hst (Nat.zero_le _) (fun p e => by cases e)
  have := textOf_kinds hk
  unfold textOf at this hS
  rw [this] at hle
  omega

/-- A text of right tokens, parted where they must be at least, is read as these. -/
theorem back_read (P : Tok → Tok → Bool) (hP : ∀ a b, right a = true → right b = true → P a b = false → needs a b = false) (l : List Tok) (hr : l.all right = true) (hl : l.length ≤ 6000) (hz : (textOf P l).length ≤ 20000) :
    (readText (textOf P l)).err = 0 ∧ kinds (readText (textOf P l)).toks = kinds l := by
  have hrd := textFrom_read P hP l none (textOf P l).length 1 1 {} hr (Nat.le_refl _)
  have e2 : refRead (textOf P l).length 1 1 {} (textOf P l) = readLines (textOf P l) 1 := refRead_lines _ _
  have hk : kinds (readLines (textOf P l) 1).toks = kinds l := by
    rw [← e2]
    have := hrd.2.1
    simpa [kinds, textOf] using this
  have hn := kinds_len hk
  have e1 : readText (textOf P l) = readLines (textOf P l) 1 := by
    unfold readText
    rw [if_neg (by omega), if_neg (by omega)]
  rw [e1]
  exact ⟨by rw [← e2]; exact hrd.1, hk⟩

/-- What LexReadsBack asks, of right tokens. -/
theorem reads_back (l : List Tok) (hr : l.all right = true) (hl : l.length ≤ 200) (ht : ∀ t ∈ l, t.text.length ≤ 60) :
    written always l = (textOf always l, 0) ∧ written needs l = (textOf needs l, 0) ∧ (textOf needs l).length ≤ (textOf always l).length ∧ (textOf always l).length ≤ 12200 ∧
    (readText (textOf always l)).err = 0 ∧ kinds (readText (textOf always l)).toks = kinds l ∧ (readText (textOf needs l)).err = 0 ∧ kinds (readText (textOf needs l)).toks = kinds l ∧
    written needs (readText (textOf needs l)).toks = (textOf needs l, 0) := by
  have ha : (textOf always l).length ≤ 12200 := by
    have := textFrom_length always 60 none l ht
    unfold textOf
    omega
  have hle : (textOf needs l).length ≤ (textOf always l).length := text_le l none
  obtain ⟨a1, a2⟩ := back_read always (fun _ _ _ _ h => by cases h) l hr (by omega) (by omega)
  obtain ⟨b1, b2⟩ := back_read needs (fun _ _ _ _ h => h) l hr (by omega) (by omega)
  have hw : ∀ (P : Tok → Tok → Bool) (m : List Tok), m.all right = true → m.length ≤ 200 → (textOf P m).length ≤ 20000 → written P m = (textOf P m, 0) := fun P m h1 h2 h3 => by
    unfold written
    rw [if_neg (by omega), if_neg (by rw [h1]; exact Bool.noConfusion), if_neg (by omega)]
  refine ⟨hw _ _ hr hl (by omega), hw _ _ hr hl (by omega), hle, ha, a1, a2, b1, b2, ?_⟩
  have hn := kinds_len b2
  rw [hw needs _ (by rw [right_kinds b2]; exact hr) (by omega) (by rw [textOf_kinds b2]; omega), textOf_kinds b2]
theorem wrong_back (l : List Tok) (hr : l.all right = false) (hl : l.length ≤ 200) (P : Tok → Tok → Bool) : written P l = ([], 1) := by
  unfold written
  rw [if_neg (by omega), if_pos hr]
end Lx
end Go.Proofs.YtmmemkkljadglabDoor
