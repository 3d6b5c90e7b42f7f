/-
  Rows of parents with whatever else they hold, and rows of classes whose parents are such rows: what stays of them.
-/
import Derived.Test.YtojfimbanaijdaaHSane
import Derived.Test.YtojfimbanaijdaaHReduP
namespace Go.Proofs.Ytojfimbanaijdaa
open Go.RowKit Go.Shelf

/-- What a parent holds behind its name: five slices. -/
def Tail5 (l : List Value) : Prop := ∃ A1 n1 c1 A2 n2 c2 A3 n3 c3 A4 n4 c4 A5 n5 c5, l = [.slice A1 n1 c1, .slice A2 n2 c2, .slice A3 n3 c3, .slice A4 n4 c4, .slice A5 n5 c5]
abbrev PRow := Hr.Nm × List Value
def qCell (x : PRow) : List Value := nm x.1 :: x.2
def qCells : List PRow → List Value
  | [] => []
  | x :: r => qCell x ++ qCells r
def QOk (Q : List PRow) : Prop := ∀ x ∈ Q, Tail5 x.2
theorem qCells_append (a b : List PRow) : qCells (a ++ b) = qCells a ++ qCells b := by
  induction a with
  | nil => rfl
  | cons x r ih => simp [qCells, ih]
theorem qCell_len {x : PRow} (h : Tail5 x.2) : (qCell x).length = 6 := by
  obtain ⟨A1, n1, c1, A2, n2, c2, A3, n3, c3, A4, n4, c4, A5, n5, c5, e⟩ := h
  unfold qCell
  rw [e]
  rfl
theorem qCells_get : ∀ (l : List PRow), QOk l → ∀ (i j : Nat) (h : i < l.length), j < 6 → (qCells l)[i * 6 + j]? = (qCell l[i])[j]?
  | x :: r, hq, 0, j, _, hj => by
    have hx := qCell_len (hq x (by simp))
    rw [Nat.zero_mul, Nat.zero_add]
    show (qCell x ++ qCells r)[j]? = _
    rw [List.getElem?_append_left (by omega)]
    rfl
  | x :: r, hq, i + 1, j, h, hj => by
    have hx := qCell_len (hq x (by simp))
    have ih := qCells_get r (fun y hy => hq y (by simp [hy])) i j (by simpa using h) hj
    show (qCell x ++ qCells r)[(i + 1) * 6 + j]? = _
    rw [List.getElem?_append_right (by omega), show (i + 1) * 6 + j - (qCell x).length = i * 6 + j from by omega, ih]
    rfl
theorem UpsAt.of_q {w : World} {B : Nat} {v : Value} {Q : List PRow} (hq : QOk Q) (hf : FineN (Q.map (·.1))) (h : w.ownsRow B 52 6 v Q.length (qCells Q)) : UpsAt w v (Q.map (·.1)) := by
  rcases h.2 with ⟨rfl, h0⟩ | ⟨g, cap, cur, rfl, hb, hh, hr⟩
  · exact ⟨none, 0, by rw [List.length_map, h0], fun h => by rw [List.length_map] at h; omega⟩
  · have hc := h.cells (g := g) rfl
    refine ⟨some ⟨g, 0, none⟩, cap, by rw [List.length_map], fun _ => ⟨g, 0, rfl, fun i hi => ?_⟩⟩
    have hi' : i < Q.length := by simpa using hi
    have e : ∀ k, (⟨g, 0, none⟩ : Addr).add k = ⟨g, 0 + k, none⟩ := fun k => by unfold Addr.add; split <;> simp_all
    have key : ∀ j u, j < 6 → (qCell Q[i])[j]? = some u → w.cell? ⟨g, 0 + i * 6 + j, none⟩ = some u := fun j u hj hu => by
      have h1 := hc (i * 6 + j) u ((qCells_get Q hq i j hi' hj).trans hu)
      rw [e] at h1
      rw [show 0 + i * 6 + j = 0 + (i * 6 + j) from by omega]
      exact h1
    obtain ⟨A1, n1, c1, A2, n2, c2, A3, n3, c3, A4, n4, c4, A5, n5, c5, et⟩ := hq Q[i] (List.getElem_mem hi')
    have en : (Q.map (·.1))[i] = Q[i].1 := by simp
    rw [en]
    have hfi := hf Q[i].1 (List.mem_map.2 ⟨_, List.getElem_mem hi', rfl⟩)
    unfold qCell at key
    rw [et] at key
    exact ⟨hfi, key 0 _ (by omega) rfl, A1, n1, c1, A2, n2, c2, A3, n3, c3, A4, n4, c4, A5, n5, c5, key 1 _ (by omega) rfl, key 2 _ (by omega) rfl, key 3 _ (by omega) rfl, key 4 _ (by omega) rfl, key 5 _ (by omega) rfl⟩

/-- Rows of classes. -/
def LkAt (w : World) (B : Nat) : List ClsRow → List Hr.Cls → Prop
  | [], [] => True
  | x :: xs, c :: S => (x.1 = c.name ∧ c.name.length ≤ 140737488355328 ∧ x.2.2.1 = c.ups.length ∧ FineN c.ups ∧ ∃ Q : List PRow, QOk Q ∧ Q.map (·.1) = c.ups ∧ w.ownsRow B 52 6 (.slice x.2.1 x.2.2.1 x.2.2.2) Q.length (qCells Q)) ∧ LkAt w B xs S
  | _, _ => False
theorem LkAt.kept {w w' : World} {B : Nat} {row : Option Nat} (hg : w.grownBy w' row) (hne : ∀ r, row = some r → ∀ cs, ¬ Has w r 52 cs) : ∀ {xs : List ClsRow} {S : List Hr.Cls}, LkAt w B xs S → LkAt w' B xs S
  | [], [], _ => trivial
  | x :: xs, c :: S, h => by
    obtain ⟨⟨h1, h2, h3, h4, Q, hq, hm, ho⟩, hr⟩ := h
    refine ⟨⟨h1, h2, h3, h4, Q, hq, hm, ho.kept hg ?_⟩, LkAt.kept hg hne hr⟩
    cases hb : (Value.slice x.2.1 x.2.2.1 x.2.2.2).ownBlock with
    | none => exact .inl rfl
    | some r =>
      right
      intro e
      obtain ⟨cur, hh⟩ := own_has ho hb
      exact hne r e.symm cur hh
  | [], _ :: _, h => h.elim
  | _ :: _, [], h => h.elim
theorem LkAt.below {w w' : World} {B : Nat} (hb : Below w.heap.size w w') : ∀ {xs : List ClsRow} {S : List Hr.Cls}, LkAt w B xs S → LkAt w' B xs S
  | [], [], _ => trivial
  | x :: xs, c :: S, h => by
    obtain ⟨⟨h1, h2, h3, h4, Q, hq, hm, ho⟩, hr⟩ := h
    exact ⟨⟨h1, h2, h3, h4, Q, hq, hm, own_below ho hb (Nat.le_refl _)⟩, LkAt.below hb hr⟩
  | [], _ :: _, h => h.elim
  | _ :: _, [], h => h.elim
theorem LkAt.snoc {w : World} {B : Nat} : ∀ {xs : List ClsRow} {S : List Hr.Cls} {x : ClsRow} {c : Hr.Cls}, LkAt w B xs S → (x.1 = c.name ∧ c.name.length ≤ 140737488355328 ∧ x.2.2.1 = c.ups.length ∧ FineN c.ups ∧ ∃ Q : List PRow, QOk Q ∧ Q.map (·.1) = c.ups ∧ w.ownsRow B 52 6 (.slice x.2.1 x.2.2.1 x.2.2.2) Q.length (qCells Q)) → LkAt w B (xs ++ [x]) (S ++ [c])
  | [], [], _, _, _, h2 => ⟨h2, trivial⟩
  | _ :: _, _ :: _, _, _, h1, h2 => ⟨h1.1, LkAt.snoc h1.2 h2⟩
  | [], _ :: _, _, _, h, _ => h.elim
  | _ :: _, [], _, _, h, _ => h.elim
theorem LkAt.length {w : World} {B : Nat} : ∀ {xs : List ClsRow} {S : List Hr.Cls}, LkAt w B xs S → xs.length = S.length
  | [], [], _ => rfl
  | _ :: _, _ :: _, h => by simp [LkAt.length h.2]
  | [], _ :: _, h => h.elim
  | _ :: _, [], h => h.elim
theorem LkAt.get {w : World} {B : Nat} : ∀ {xs : List ClsRow} {S : List Hr.Cls}, LkAt w B xs S → ∀ i (h : i < xs.length) (h' : i < S.length), xs[i].1 = S[i].name ∧ xs[i].2.2.1 = S[i].ups.length ∧ S[i].name.length ≤ 140737488355328 ∧ UpsAt w (.slice xs[i].2.1 xs[i].2.2.1 xs[i].2.2.2) S[i].ups
  | x :: xs, c :: S, h, 0, _, _ => by
    obtain ⟨⟨h1, h2, h3, h4, Q, hq, hm, ho⟩, hr⟩ := h
    refine ⟨h1, h3, h2, ?_⟩
    have := UpsAt.of_q hq (by rw [hm]; exact h4) ho
    rw [hm] at this
    exact this
  | x :: xs, c :: S, h, i + 1, h1, h2 => by
    have := LkAt.get h.2 i (by simpa using h1) (by simpa using h2)
    simpa using this
  | [], _ :: _, h, _, _, _ => h.elim
  | _ :: _, [], h, _, _, _ => h.elim
theorem clsCells_append (a b : List ClsRow) : clsCells (a ++ b) = clsCells a ++ clsCells b := by
  induction a with
  | nil => rfl
  | cons x r ih => simp [clsCells, ih]
theorem not_type {w : World} {r : Nat} {t t' : TypeId} {cs : Array Value} (h : Has w r t cs) (ht : t ≠ t') : ∀ cs', ¬ Has w r t' cs' := fun cs' h' => by
  unfold Has at h h'
  rw [h] at h'
  cases h'
  exact ht rfl
/-- The whole row is a system. -/
theorem LkAt.sys {w : World} {B : Nat} {v : Value} {xs : List ClsRow} {S : List Hr.Cls} (h : LkAt w B xs S) (ho : w.ownsRow B 48 7 v xs.length (clsCells xs)) : SysAt w v S := by
  have hl := h.length
  rcases ho.2 with ⟨rfl, h0⟩ | ⟨g, cap, cur, rfl, hb, hh, hr⟩
  · exact ⟨none, 0, by rw [← hl, h0], fun h => by omega⟩
  · rw [hl]
    refine sys_of w g cap xs S hl (h.get) (fun j u hj => ?_)
    have h1 := ho.cells (g := g) rfl j u hj
    rw [show ((⟨g, 0, none⟩ : Addr).add j) = ⟨g, j, none⟩ from by unfold Addr.add; split <;> simp_all] at h1
    exact h1
end Go.Proofs.Ytojfimbanaijdaa
