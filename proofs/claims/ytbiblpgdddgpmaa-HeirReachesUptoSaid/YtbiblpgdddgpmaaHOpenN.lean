/-
  A list of names among a law's arguments, opened.
-/
import Derived.Test.YtbiblpgdddgpmaaHOpen
namespace Go.Proofs.Ytbiblpgdddgpmaa
open Go.ChangeShapes Go.WideShapes Go.RowKit Go.Deep

theorem open_names {H : Type} {enc : TypeId × Value → H} {W : World} {v : Value} {d : DataW H} {p : List MemPlace} (h : DataW.Trod enc Try.prog W 0 (fun _ => true) true 26 v d p) (hv : ∃ A n c, v = .slice A n c) (hb : Rows.uptoBulk d ≤ 1048576) :
    ∃ (A : Option Addr) (c : Nat) (ns : List Hr.Nm), v = .slice A ns.length c ∧ ns.length ≤ c ∧ NmsAt W (.slice A ns.length c) ns := by
  obtain ⟨A, k, c, rfl⟩ := hv
  obtain ⟨n, h⟩ := h
  rcases open_slice Try.underlying26 h with ⟨e, -⟩ | ⟨a, len, cap, m, n', D, Pl, e, -, hl, -, hm, hx, hall⟩
  · simp [Value.cells] at e
    obtain ⟨rfl, rfl, rfl⟩ := e
    exact ⟨none, 0, [], rfl, Nat.le_refl _, none, 0, rfl, fun h => by simp at h⟩
  · simp [Value.cells] at e
    obtain ⟨rfl, rfl, rfl⟩ := e
    simp only [if_true] at hm
    subst hm
    cases hx
    simp only [Rows.uptoBulk] at hb
    obtain ⟨S, hlS, hS⟩ := list_of (fun i s => W.cell? ⟨a.block, a.off + i, none⟩ = some (nm s)) k (fun i hi => by
      obtain ⟨cs', hc, ht⟩ := hall i (by omega)
      obtain ⟨cs0, hc0, -⟩ := hall 0 (by omega)
      have ha := addr_none hc0 (by rw [cells9]; omega) (by simp)
      rw [cells9, Nat.mul_one] at hc
      rw [ha, Addr.add_lit] at hc
      have := bulk_mem (d := D i) (l := (List.range k).map D) (List.mem_map.2 ⟨i, List.mem_range.2 hi, rfl⟩)
      obtain ⟨s, rfl, -⟩ := open_nm ht (by show Rows.uptoBulk (D i) ≤ _; omega)
      obtain ⟨-, -, hcell⟩ := World.cells?_some hc
      have h0 := hcell 0 (by omega)
      rw [Addr.add_lit, Nat.add_zero] at h0
      exact ⟨s, h0⟩)
    subst hlS
    refine ⟨some a, m, S, rfl, hl, some a, m, rfl, fun h0 => ?_⟩
    obtain ⟨cs', hc, -⟩ := hall 0 (by omega)
    exact ⟨a.block, a.off, by rw [← addr_none hc (by rw [cells9]; omega) (by simp)], hS⟩
end Go.Proofs.Ytbiblpgdddgpmaa
