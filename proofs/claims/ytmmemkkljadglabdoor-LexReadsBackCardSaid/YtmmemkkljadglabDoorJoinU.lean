/-
  Joined texts, read one by one: what each step of reading gives, and the lines' bounds. Plain functions.
-/
import Derived.Test.YtmmemkkljadglabDoorJoinT
import Derived.Test.YtmmemkkljadglabDoorJoin
import Derived.Test.YtmmemkkljadglabDoorPatchA
namespace Go.Proofs.YtmmemkkljadglabDoor
namespace Lx

def Lined (lo hi : Int) (r : Red) : Prop := (∀ t ∈ r.toks, lo ≤ t.line ∧ t.line ≤ hi) ∧ (r.err ≠ 0 → lo ≤ r.line ∧ r.line ≤ hi)
theorem refRead_lined (lo hi : Int) : ∀ (n : Nat) (line col : Int) (out : Red) (l : List UInt8), lo ≤ line → line + l.length ≤ hi → Lined lo hi out → Lined lo hi (refRead n line col out l)
  | 0, _, _, _, _, _, _, h => by simpa [refRead] using h
  | n + 1, _, _, _, [], _, _, h => by simpa [refRead] using h
  | n + 1, line, col, out, c :: r, h1, h2, h => by
    have ih := refRead_lined lo hi n
    simp only [List.length_cons] at h2
    unfold refRead
    split
    · exact ih (line + 1) 1 out r (by omega) (by omega) h
    split
    · exact ih line (col + 1) out r h1 (by omega) h
    split
    · split
      · exact ⟨fun t ht => by simp at ht, fun _ => ⟨h1, by simp only; omega⟩⟩
      · exact ih _ _ _ _ h1 (by rw [List.length_drop]; simp only [List.length_cons]; omega) h
    split
    · exact ⟨fun t ht => by simp at ht, fun _ => ⟨h1, by simp only; omega⟩⟩
    · refine ih _ _ _ _ h1 (by rw [List.length_drop]; simp only [List.length_cons]; omega) ⟨fun t ht => ?_, h.2⟩
      rcases List.mem_append.1 ht with h3 | h3
      · exact h.1 t h3
      · simp at h3
        subst h3
        exact ⟨h1, by simp only; omega⟩
theorem readLines_lined (l : List UInt8) : Lined 1 (1 + l.length) (readLines l 1) := by
  rw [← refRead_lines]
  exact refRead_lined _ _ _ _ _ _ _ (Int.le_refl _) (Int.le_refl _) ⟨fun t ht => by simp at ht, fun h => absurd rfl h⟩
theorem readText_few (l : List UInt8) (h : l.length ≤ 6000) : readText l = readLines l 1 := by
  have := readLines_count l 1
  unfold readText
  rw [if_neg (by omega), if_neg (by omega)]

theorem join_flat : ∀ (L : List ByteArray), joinText L = (L.map fun s => s.data.toList).flatMap (· ++ [10])
  | [] => rfl
  | s :: r => by simp only [joinText, List.map_cons, List.flatMap_cons, join_flat r]
theorem joinLines_nth : ∀ (L : List ByteArray) (n k : Nat) (h : k < L.length), (joinLines n L)[k]? = some (lineAfter n (L.take k))
  | s :: r, n, 0, _ => by simp [joinLines, lineAfter]
  | s :: r, n, k + 1, h => by
    rw [joinLines, List.getElem?_cons_succ, joinLines_nth r _ k (by simpa using h), List.take_succ_cons]
    simp [lineAfter]
    omega
theorem joinSize_few (L : List ByteArray) (h : ∀ s ∈ L, s.size ≤ 100) : joinSize L ≤ L.length * 101 := by
  induction L with
  | nil => simp [joinSize]
  | cons s r ih =>
    have h1 := ih (fun x hx => h x (List.mem_cons_of_mem _ hx))
    have h2 := h s List.mem_cons_self
    simp only [joinSize, List.length_cons]
    omega
theorem joined_few (L : List ByteArray) (h6 : L.length ≤ 6) (h : ∀ s ∈ L, s.size ≤ 100) : joined L = (joinText L, joinLines 1 L, 0) := by
  have := joinSize_few L h
  unfold joined
  rw [if_neg (by omega), if_neg (by omega)]
theorem readText_join (L : List ByteArray) (h : joinSize L ≤ 6000) : readText (joinText L) = readAll 1 {} (L.map fun s => s.data.toList) := by
  rw [readText_few _ (by rw [joinText_length]; exact h), join_flat]
  exact read_join _ 1 {} rfl rfl rfl

/-- The texts from the k-th on are still to be read, from its line on. -/
def Ahead (L : List ByteArray) (R : Red) (k : Nat) (q : Red) : Prop := q.err = 0 ∧ q.toks.length ≤ 100 * k ∧ readAll (lineAfter 1 (L.take k)) q ((L.drop k).map fun s => s.data.toList) = R
theorem Ahead.first (L : List ByteArray) (h : joinSize L ≤ 6000) : Ahead L (readText (joinText L)) 0 {} :=
  ⟨rfl, Nat.zero_le _, by rw [readText_join L h]; simp [lineAfter]⟩
theorem Ahead.last {L : List ByteArray} {R q : Red} (h : Ahead L R L.length q) : R = q := by
  have := h.2.2
  rw [List.drop_length] at this
  exact this.symm
theorem Ahead.step {L : List ByteArray} {R q : Red} {k : Nat} (h : Ahead L R k q) (hk : k < L.length) (hs : L[k].size ≤ 100) (he : (readText L[k].data.toList).err = 0) :
    Ahead L R (k + 1) { q with toks := q.toks ++ (readText L[k].data.toList).toks.map (shift ((lineAfter 1 (L.take k) : Int) - 1)), notes := q.notes ++ (readText L[k].data.toList).notes.map (shift ((lineAfter 1 (L.take k) : Int) - 1)) } := by
  obtain ⟨h1, h2, h3⟩ := h
  have hl : L[k].data.toList.length = L[k].size := by simp
  rw [readText_few _ (by omega)] at *
  have hc := readLines_count L[k].data.toList 1
  rw [List.drop_eq_getElem_cons hk, List.map_cons, readAll, if_pos he] at h3
  refine ⟨h1, ?_, ?_⟩
  · simp only [List.length_append, List.length_map]
    omega
  · rw [List.take_succ_eq_append_getElem hk, lineAfter_snoc, ← h3]
    congr 1
theorem Ahead.stop {L : List ByteArray} {R q : Red} {k : Nat} (h : Ahead L R k q) (hk : k < L.length) (hs : L[k].size ≤ 100) (he : (readText L[k].data.toList).err ≠ 0) :
    R = { line := (readText L[k].data.toList).line + ((lineAfter 1 (L.take k) : Int) - 1), col := (readText L[k].data.toList).col, err := (readText L[k].data.toList).err } := by
  obtain ⟨h1, h2, h3⟩ := h
  have hl : L[k].data.toList.length = L[k].size := by simp
  rw [readText_few _ (by omega)] at *
  rw [List.drop_eq_getElem_cons hk, List.map_cons, readAll, if_neg he] at h3
  exact h3.symm
end Lx
end Go.Proofs.YtmmemkkljadglabDoor
