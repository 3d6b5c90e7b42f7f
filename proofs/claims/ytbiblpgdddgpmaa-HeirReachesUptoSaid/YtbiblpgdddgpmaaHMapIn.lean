/-
  The laws of maps by names, within a fence.
-/
import Derived.Test.YtbiblpgdddgpmaaHLinks
import Derived.Maps.OwnIn
namespace Go.Proofs.Ytbiblpgdddgpmaa
open Go.RowKit Go.Shelf
section
variable {F : Fence} {nF : Nat} {P : Program} {k e t : TypeId} {w w' : World} {b n : Nat}
variable {ops : Array Oper} {rest : List Oper} {o : Oper} {a : Act} {Q : Exit → Act → World → Prop}
/-- 'm[name]', the name's value known. -/
theorem wpIn_at (hg : o.guard = none) (m x : Operand) (hop : o.op = Op.lookup t m x false) (hk : P.underlying k = some .string) (ht : P.underlying t = some (.map k e)) (he : P.underlying e = some (.int .i64)) (hz : (zeroValue e).run P w = .ok (.int .i64 0) w)
    (hm : a.eval m = .map (some b)) {f} (h : MapI P k e w b n f) (N : Hr.Nm) (hx : a.eval x = nm N) (hs : N.length ≤ 140737488355328) (i : Int) (hf : (f N).getD 0 = i)
    (hK : wpListIn F nF P ops Q rest (a.put o.dst (.int .i64 i)) w) : wpListIn F nF P ops Q (o :: rest) a w := by
  obtain ⟨D, h1, _, h3⟩ := h
  refine wpListIn_lookup_own_int w hg m x t hop k e .i64 (Maps.string_keyed hk) ht he hz b n D hm h1 _ _ hx (WideMaps.keyOf_string_mk hk (size_fine hs)) (fun c hc _ => ?_)
  rw [show (⟨N.toArray⟩ : ByteArray).data.toList = N from by simp, (h3 N).2] at hc
  injection hc with hc
  injection hc with _ hc
  rw [← hc, hf]
  exact hK
/-- 'm[name] = v'. -/
theorem wpIn_put (hg : o.guard = none) (m x v : Operand) (hop : o.op = Op.mapUpdate t m x v) (hk : P.underlying k = some .string) (ht : P.underlying t = some (.map k e)) (he : P.underlying e = some (.int .i64))
    (hm : a.eval m = .map (some b)) {f} (h : MapI P k e w b n f) (hn : n < maxLen) (N : Hr.Nm) (hx : a.eval x = nm N) (hs : N.length ≤ 140737488355328) (c : Int) (hv : a.eval v = .int .i64 c) (hw : (Lit.int .i64 c).wf = true)
    (hK : ∀ w', MapI P k e w' b (n + 1) (upd f N c) → w.grownBy w' (some b) → wpListIn F nF P ops Q rest (a.put o.dst undef) w') : wpListIn F nF P ops Q (o :: rest) a w := by
  obtain ⟨D, h1, h2, h3⟩ := h
  refine wpListIn_mapUpdate_own w hg m x v t hop k e (Maps.string_keyed hk) ht (plainElem P e) b n D hm h1 hn _ _ _ hx hv (WideMaps.keyOf_string_mk hk (size_fine hs)) _ [] (plainElem_int he hw) (fun w' h1' hg' => ?_)
  have h4 := MapI.put h2 h3 N c
  rw [show (⟨N.toArray⟩ : ByteArray).data.toList = N from by simp] at h1'
  exact hK w' ⟨_, h1', put_isMap h2, h4⟩ hg'
end
end Go.Proofs.Ytbiblpgdddgpmaa
