/-
  Maps by names that a call makes: what they hold, as a function of the name.
-/
import Derived.Maps.OwnSet
import Derived.Maps.OwnOps
import Derived.WalkKit
namespace Go.Proofs.Ytojfimbanaijdaa
open Go.Maps (Keyed)
open Go.ChangeShapes Go.WideShapes

/-- A map of numbers by names. -/
def MapI (P : Program) (k e : TypeId) (w : World) (b n : Nat) (f : List UInt8 → Option Int) : Prop :=
  ∃ D : DataW Unit, w.ownsMap P k (plainElem P e) b n D ∧ Maps.IsMap D ∧ ∀ s : List UInt8, Maps.has D (.string s) = (f s).isSome ∧ D.atKey (.string s) (.lit (.int .i64 0)) = .lit (.int .i64 ((f s).getD 0))
/-- A map of truths by names. -/
def MapB (P : Program) (k e : TypeId) (w : World) (b n : Nat) (f : List UInt8 → Option Bool) : Prop :=
  ∃ D : DataW Unit, w.ownsMap P k (plainElem P e) b n D ∧ Maps.IsMap D ∧ ∀ s : List UInt8, Maps.has D (.string s) = (f s).isSome ∧ D.atKey (.string s) (.lit (.bool false)) = .lit (.bool ((f s).getD false))

/-- A function with another value at one name. -/
def upd {β : Type} (f : List UInt8 → Option β) (s : List UInt8) (v : β) : List UInt8 → Option β := fun t => if t = s then some v else f t

theorem put_isMap {D : DataW Unit} (h : Maps.IsMap D) {k : Lit} {d : DataW Unit} : Maps.IsMap (D.put k d) := by
  obtain ⟨es, rfl⟩ := h
  exact ⟨_, rfl⟩
theorem key_lit (s : List UInt8) : WideAt.IsKeyLit (.string s) := by
  trivial

section
variable {P : Program} {k e t : TypeId} {w w' : World} {b n : Nat}

theorem MapI.made (w : World) : MapI P k e (w.alloc (.map #[] 0)) w.heap.size 0 (fun _ => none) :=
  ⟨.map [], World.ownsMap_made _ _ _ _, ⟨_, rfl⟩, fun _ => ⟨rfl, rfl⟩⟩
theorem MapB.made (w : World) : MapB P k e (w.alloc (.map #[] 0)) w.heap.size 0 (fun _ => none) :=
  ⟨.map [], World.ownsMap_made _ _ _ _, ⟨_, rfl⟩, fun _ => ⟨rfl, rfl⟩⟩
theorem MapI.lt {f} (h : MapI P k e w b n f) : b < w.heap.size := h.choose_spec.1.lt
theorem MapB.lt {f} (h : MapB P k e w b n f) : b < w.heap.size := h.choose_spec.1.lt
theorem MapI.kept {f} {row : Option Nat} (h : MapI P k e w b n f) (hg : w.grownBy w' row) (hne : some b ≠ row) : MapI P k e w' b n f := by
  obtain ⟨D, h1, h2, h3⟩ := h
  exact ⟨D, h1.kept hg hne, h2, h3⟩
theorem MapB.kept {f} {row : Option Nat} (h : MapB P k e w b n f) (hg : w.grownBy w' row) (hne : some b ≠ row) : MapB P k e w' b n f := by
  obtain ⟨D, h1, h2, h3⟩ := h
  exact ⟨D, h1.kept hg hne, h2, h3⟩
theorem MapI.mono {f} {n' : Nat} (h : MapI P k e w b n f) (hn : n ≤ n') : MapI P k e w b n' f := by
  obtain ⟨D, h1, h2, h3⟩ := h
  exact ⟨D, h1.mono hn, h2, h3⟩
theorem MapB.mono {f} {n' : Nat} (h : MapB P k e w b n f) (hn : n ≤ n') : MapB P k e w b n' f := by
  obtain ⟨D, h1, h2, h3⟩ := h
  exact ⟨D, h1.mono hn, h2, h3⟩

theorem key_ne {s t : List UInt8} (h : t ≠ s) : (Lit.string t) ≠ .string s := by
  intro he
  injection he with he
  exact h he

theorem MapI.put {f} {D : DataW Unit} (hD : Maps.IsMap D) (h : ∀ s : List UInt8, Maps.has D (.string s) = (f s).isSome ∧ D.atKey (.string s) (.lit (.int .i64 0)) = .lit (.int .i64 ((f s).getD 0))) (s : List UInt8) (v : Int) :
    ∀ t : List UInt8, Maps.has (D.put (.string s) (.lit (.int .i64 v))) (.string t) = ((upd f s v) t).isSome ∧ (D.put (.string s) (.lit (.int .i64 v))).atKey (.string t) (.lit (.int .i64 0)) = .lit (.int .i64 (((upd f s v) t).getD 0)) := by
  intro t
  unfold upd
  by_cases hts : t = s
  · subst hts
    rw [if_pos rfl, Maps.has_put_same hD (key_lit t), Maps.atKey_put_same hD (key_lit t)]
    exact ⟨rfl, rfl⟩
  · rw [if_neg hts, Maps.has_put_other (key_ne hts), Maps.atKey_put_other (key_ne hts)]
    exact h t
theorem MapB.put {f} {D : DataW Unit} (hD : Maps.IsMap D) (h : ∀ s : List UInt8, Maps.has D (.string s) = (f s).isSome ∧ D.atKey (.string s) (.lit (.bool false)) = .lit (.bool ((f s).getD false))) (s : List UInt8) (v : Bool) :
    ∀ t : List UInt8, Maps.has (D.put (.string s) (.lit (.bool v))) (.string t) = ((upd f s v) t).isSome ∧ (D.put (.string s) (.lit (.bool v))).atKey (.string t) (.lit (.bool false)) = .lit (.bool (((upd f s v) t).getD false)) := by
  intro t
  unfold upd
  by_cases hts : t = s
  · subst hts
    rw [if_pos rfl, Maps.has_put_same hD (key_lit t), Maps.atKey_put_same hD (key_lit t)]
    exact ⟨rfl, rfl⟩
  · rw [if_neg hts, Maps.has_put_other (key_ne hts), Maps.atKey_put_other (key_ne hts)]
    exact h t

variable {ops : Array Oper} {rest : List Oper} {o : Oper} {a : Act} {Q : Exit → Act → World → Prop}

/-- 'v, ok := m[name]'. -/
theorem wpI_look_ok (hg : o.guard = none) (m x : Operand) (hop : o.op = Op.lookup t m x true) (hk : P.underlying k = some .string) (ht : P.underlying t = some (.map k e)) (he : P.underlying e = some (.int .i64)) (hz : (zeroValue e).run P w = .ok (.int .i64 0) w)
    (hm : a.eval m = .map (some b)) {f} (h : MapI P k e w b n f) (s : ByteArray) (hx : a.eval x = .string s) (hs : s.size ≤ maxLen)
    (hK : wpList P ops Q rest (a.put o.dst (.tuple #[.int .i64 ((f s.data.toList).getD 0), .bool (f s.data.toList).isSome])) w) : wpList P ops Q (o :: rest) a w := by
  obtain ⟨D, h1, _, h3⟩ := h
  refine wpList_lookup_own_ok_int w hg m x t hop k e .i64 (Maps.string_keyed hk) ht he hz b n D hm h1 _ _ hx (WideMaps.keyOf_string_mk hk hs) (fun c hc _ => ?_)
  rw [(h3 s.data.toList).2] at hc
  injection hc with hc
  injection hc with _ hc
  rw [(h3 s.data.toList).1, ← hc]
  exact hK
/-- 'm[name]'. -/
theorem wpI_look (hg : o.guard = none) (m x : Operand) (hop : o.op = Op.lookup t m x false) (hk : P.underlying k = some .string) (ht : P.underlying t = some (.map k e)) (he : P.underlying e = some (.int .i64)) (hz : (zeroValue e).run P w = .ok (.int .i64 0) w)
    (hm : a.eval m = .map (some b)) {f} (h : MapI P k e w b n f) (s : ByteArray) (hx : a.eval x = .string s) (hs : s.size ≤ maxLen)
    (hK : wpList P ops Q rest (a.put o.dst (.int .i64 ((f s.data.toList).getD 0))) w) : wpList P ops Q (o :: rest) a w := by
  obtain ⟨D, h1, _, h3⟩ := h
  refine wpList_lookup_own_int w hg m x t hop k e .i64 (Maps.string_keyed hk) ht he hz b n D hm h1 _ _ hx (WideMaps.keyOf_string_mk hk hs) (fun c hc _ => ?_)
  rw [(h3 s.data.toList).2] at hc
  injection hc with hc
  injection hc with _ hc
  rw [← hc]
  exact hK
/-- 'm[name] = v'. -/
theorem wpI_store (hg : o.guard = none) (m x v : Operand) (hop : o.op = Op.mapUpdate t m x v) (hk : P.underlying k = some .string) (ht : P.underlying t = some (.map k e)) (he : P.underlying e = some (.int .i64))
    (hm : a.eval m = .map (some b)) {f} (h : MapI P k e w b n f) (hn : n < maxLen) (s : ByteArray) (hx : a.eval x = .string s) (hs : s.size ≤ maxLen) (c : Int) (hv : a.eval v = .int .i64 c) (hw : (Lit.int .i64 c).wf = true)
    (hK : ∀ w', MapI P k e w' b (n + 1) (upd f s.data.toList c) → w.grownBy w' (some b) → wpList P ops Q rest (a.put o.dst undef) w') : wpList P ops Q (o :: rest) a w := by
  obtain ⟨D, h1, h2, h3⟩ := h
  refine wpList_mapUpdate_own w hg m x v t hop k e (Maps.string_keyed hk) ht (plainElem P e) b n D hm h1 hn _ _ _ hx hv (WideMaps.keyOf_string_mk hk hs) _ [] (plainElem_int he hw) (fun w' h1' hg' => ?_)
  exact hK w' ⟨_, h1', put_isMap h2, MapI.put h2 h3 s.data.toList c⟩ hg'

/-- 'm[name]' of truths. -/
theorem wpB_look (hg : o.guard = none) (m x : Operand) (hop : o.op = Op.lookup t m x false) (hk : P.underlying k = some .string) (ht : P.underlying t = some (.map k e)) (he : P.underlying e = some .bool) (hz : (zeroValue e).run P w = .ok (.bool false) w)
    (hm : a.eval m = .map (some b)) {f} (h : MapB P k e w b n f) (s : ByteArray) (hx : a.eval x = .string s) (hs : s.size ≤ maxLen)
    (hK : wpList P ops Q rest (a.put o.dst (.bool ((f s.data.toList).getD false))) w) : wpList P ops Q (o :: rest) a w := by
  obtain ⟨D, h1, _, h3⟩ := h
  refine wpList_plain hg fun K' hK' => ?_
  obtain ⟨v, ps, hrun, hv⟩ := h1.lookup (Maps.string_keyed hk) ht hz (plainElem_bool he false) (WideMaps.keyOf_string_mk hk hs)
  rw [(h3 s.data.toList).2] at hv
  obtain rfl : v = .bool ((f s.data.toList).getD false) := by
    unfold plainElem at hv
    rw [he] at hv
    cases v <;> simp at hv
    rw [hv.1]
  unfold Oper.wp
  simp [execOp, hop, hm, hx, hrun, Result.andThen]
  exact hK' _ _ hK
/-- 'm[name] = v' of truths. -/
theorem wpB_store (hg : o.guard = none) (m x v : Operand) (hop : o.op = Op.mapUpdate t m x v) (hk : P.underlying k = some .string) (ht : P.underlying t = some (.map k e)) (he : P.underlying e = some .bool)
    (hm : a.eval m = .map (some b)) {f} (h : MapB P k e w b n f) (hn : n < maxLen) (s : ByteArray) (hx : a.eval x = .string s) (hs : s.size ≤ maxLen) (c : Bool) (hv : a.eval v = .bool c)
    (hK : ∀ w', MapB P k e w' b (n + 1) (upd f s.data.toList c) → w.grownBy w' (some b) → wpList P ops Q rest (a.put o.dst undef) w') : wpList P ops Q (o :: rest) a w := by
  obtain ⟨D, h1, h2, h3⟩ := h
  refine wpList_mapUpdate_own w hg m x v t hop k e (Maps.string_keyed hk) ht (plainElem P e) b n D hm h1 hn _ _ _ hx hv (WideMaps.keyOf_string_mk hk hs) _ [] (plainElem_bool he c) (fun w' h1' hg' => ?_)
  exact hK w' ⟨_, h1', put_isMap h2, MapB.put h2 h3 s.data.toList c⟩ hg'
end
end Go.Proofs.Ytojfimbanaijdaa
