/-
  A system of classes among a law's arguments, opened. A list of names among a law's arguments, opened. A system among a law's arguments, opened, with a bound of its parents; a list of names, with a bound of each.
-/
import Derived.Test.YtojfimbanaijdaaHLawA
import Derived.Test.YtojfimbanaijdaaRows
import Derived.Deep.Slices
import Derived.ChangeArms
namespace Go.Proofs.Ytojfimbanaijdaa
open Go.ChangeShapes Go.WideShapes Go.RowKit Go.Deep

section
variable {H : Type} {enc : TypeId × Value → H} {W : World}

theorem bulk_mem {d : DataW H} : ∀ {l : List (DataW H)}, d ∈ l → Rows.uptoBulk d ≤ Rows.uptoBulkAll l
  | x :: l, h => by
    simp only [Rows.uptoBulkAll]
    rcases List.mem_cons.1 h with rfl | h
    · omega
    · have := bulk_mem h
      omega
theorem bulk_two : ∀ {l : List (DataW H)}, (∀ d ∈ l, 2 ≤ Rows.uptoBulk d) → l.length * 2 ≤ Rows.uptoBulkAll l
  | [], _ => by simp [Rows.uptoBulkAll]
  | x :: l, h => by
    have h1 := h x (by simp)
    have h2 := bulk_two (l := l) (fun d hd => h d (by simp [hd]))
    simp only [Rows.uptoBulkAll, List.length_cons]
    omega
theorem bulk_one (d : DataW H) : 1 ≤ Rows.uptoBulk d := by
  cases d with
  | lit l => cases l <;> simp [Rows.uptoBulk]
  | nil => simp [Rows.uptoBulk]
  | ptr d => simp [Rows.uptoBulk]
  | slice elems spare => simp [Rows.uptoBulk]
  | agg parts => simp [Rows.uptoBulk]
  | iface t d => simp [Rows.uptoBulk]
  | map entries => simp [Rows.uptoBulk]
  | held h => simp [Rows.uptoBulk]
theorem list_of {α : Type} (P : Nat → α → Prop) : ∀ n, (∀ i, i < n → ∃ c, P i c) → ∃ S : List α, S.length = n ∧ ∀ i (h : i < S.length), P i S[i]
  | 0, _ => ⟨[], rfl, fun i h => by simp at h⟩
  | n + 1, h => by
    obtain ⟨S, hl, hS⟩ := list_of P n (fun i hi => h i (by omega))
    obtain ⟨c, hc⟩ := h n (by omega)
    refine ⟨S ++ [c], by simp [hl], fun i hi => ?_⟩
    by_cases hi' : i < S.length
    · rw [List.getElem_append_left hi']
      exact hS i hi'
    · have hi2 : i = S.length := by simp at hi; omega
      subst hi2
      have e : (S ++ [c])[S.length] = c := by simp
      rw [e, hl]
      exact hc

theorem cells9 : Try.prog.cellsOf 9 = 1 := by kernel_rfl
theorem cells4 : Try.prog.cellsOf 4 = 1 := by kernel_rfl
theorem cellsS : Try.prog.cellsOf 26 = 1 := by kernel_rfl
theorem cells43 : Try.prog.cellsOf 43 = 1 := by kernel_rfl
theorem cells44 : Try.prog.cellsOf 44 = 1 := by kernel_rfl
theorem cells45 : Try.prog.cellsOf 45 = 1 := by kernel_rfl
theorem cells46 : Try.prog.cellsOf 46 = 1 := by kernel_rfl
theorem cells49 : Try.prog.cellsOf 49 = 1 := by kernel_rfl
theorem cells50 : Try.prog.cellsOf 50 = 1 := by kernel_rfl
theorem cellsPar : Try.prog.cellsOf 52 = 6 := by kernel_rfl
theorem cellsCls : Try.prog.cellsOf 48 = 7 := by kernel_rfl

theorem open_nm {n : Nat} {cs : List Value} {x : DataW H × List MemPlace} (h : DataW.trod enc Try.prog W 0 (fun _ => true) true n 9 cs = some x) (hb : Rows.uptoBulk x.1 ≤ 1048576) : ∃ s : Hr.Nm, cs = [nm s] ∧ s.length ≤ 140737488355328 := by
  obtain ⟨s, rfl, rfl, -⟩ := DataW.trod_string Try.underlying9 h
  refine ⟨s.data.toList, rfl, ?_⟩
  simp only [Rows.uptoBulk] at hb
  omega
theorem open_hdr {t e : TypeId} {n : Nat} {cs : List Value} {x : DataW H × List MemPlace} (ht : Try.prog.underlying t = some (.slice e)) (h : DataW.trod enc Try.prog W 0 (fun _ => true) true n t cs = some x) : ∃ A k c, cs = [.slice A k c] := by
  rcases open_slice ht h with ⟨rfl, -⟩ | ⟨a, len, cap, m, n', D, Pl, rfl, -⟩
  · exact ⟨none, 0, 0, rfl⟩
  · exact ⟨some a, len, cap, rfl⟩

set_option maxRecDepth 100000 in
theorem open_par {b o n : Nat} {cs : List Value} {x : DataW H × List MemPlace} (hc : W.cells? 0 ⟨b, o, none⟩ (Try.prog.cellsOf 52) = some cs)
    (h : DataW.trod enc Try.prog W 0 (fun _ => true) true n 52 cs = some x) (hb : Rows.uptoBulk x.1 ≤ 1048576) : ∃ s, ParAt W b o s := by
  obtain ⟨xs, n', -, rfl, hl, hlen, hf⟩ := DataW.trod_struct Try.underlying52 h
  rw [cellsPar] at hl hc
  obtain ⟨-, -, hcell⟩ := World.cells?_some hc
  match cs, hl with
  | [c0, c1, c2, c3, c4, c5], _ =>
  match xs, hlen with
  | [y0, y1, y2, y3, y4, y5], _ =>
  have f0 := hf 0 _ rfl
  have f1 := hf 1 _ rfl
  have f2 := hf 2 _ rfl
  have f3 := hf 3 _ rfl
  have f4 := hf 4 _ rfl
  have f5 := hf 5 _ rfl
  simp only [List.map_cons, List.map_nil, Rows.uptoBulk, Rows.uptoBulkAll] at hb
  obtain ⟨s, e0, hs⟩ := open_nm f0 (by omega)
  obtain ⟨A1, n1, k1, e1⟩ := open_hdr Try.underlying49 f1
  obtain ⟨A2, n2, k2, e2⟩ := open_hdr Try.underlying50 f2
  obtain ⟨A3, n3, k3, e3⟩ := open_hdr Try.underlying26 f3
  obtain ⟨A4, n4, k4, e4⟩ := open_hdr Try.underlying26 f4
  obtain ⟨A5, n5, k5, e5⟩ := open_hdr Try.underlying26 f5
  cases e0; cases e1; cases e2; cases e3; cases e4; cases e5
  exact ⟨s, hs, hcell 0 (by omega), A1, n1, k1, A2, n2, k2, A3, n3, k3, A4, n4, k4, A5, n5, k5, hcell 1 (by omega), hcell 2 (by omega), hcell 3 (by omega), hcell 4 (by omega), hcell 5 (by omega)⟩

theorem addr_none {a : Addr} {n k : Nat} {cs : List Value} (h : W.cells? 0 (a.add k) n = some cs) (hn : 0 < n) (hk : k = 0) : a = ⟨a.block, a.off, none⟩ := by
  subst hk
  obtain ⟨-, hl, hcell⟩ := World.cells?_some h
  obtain ⟨b, o, s⟩ := a
  have h0 := hcell 0 hn
  have : ∃ u, cs[0]? = some u := ⟨cs[0]'(by omega), by simp⟩
  obtain ⟨u, hu⟩ := this
  rw [hu] at h0
  have := World.cell?_spot h0
  have hs : s = none := by simpa [Addr.add] using this
  rw [hs]

theorem open_ups {n : Nat} {cs : List Value} {x : DataW H × List MemPlace} (h : DataW.trod enc Try.prog W 0 (fun _ => true) true n 44 cs = some x) (hb : Rows.uptoBulk x.1 ≤ 1048576) : ∃ A k c l, cs = [.slice A k c] ∧ k = List.length l ∧ UpsAt W (.slice A k c) l := by
  rcases open_slice Try.underlying44 h with ⟨rfl, -⟩ | ⟨a, len, cap, m, n', D, Pl, rfl, -, hl, -, hm, rfl, hall⟩
  · exact ⟨none, 0, 0, [], rfl, rfl, none, 0, rfl, fun h => by simp at h⟩
  · simp only [if_true] at hm
    subst hm
    simp only [Rows.uptoBulk] at hb
    obtain ⟨l, hll, hl2⟩ := list_of (fun i s => ParAt W a.block (a.off + i * 6) s) len (fun i hi => by
      obtain ⟨cs', hc, ht⟩ := hall i (by omega)
      obtain ⟨cs0, hc0, -⟩ := hall 0 (by omega)
      have ha := addr_none hc0 (by rw [cellsPar]; omega) (by simp)
      rw [cellsPar] at hc
      rw [ha, Addr.add_lit] at hc
      have := bulk_mem (d := D i) (l := (List.range len).map D) (List.mem_map.2 ⟨i, List.mem_range.2 hi, rfl⟩)
      exact open_par (by rw [cellsPar]; exact hc) ht (by show Rows.uptoBulk (D i) ≤ _; omega))
    refine ⟨some a, len, m, l, rfl, hll.symm, some a, m, by rw [hll], fun h0 => ?_⟩
    obtain ⟨cs', hc, -⟩ := hall 0 (by omega)
    exact ⟨a.block, a.off, by rw [← addr_none hc (by rw [cellsPar]; omega) (by simp)], hl2⟩

set_option maxRecDepth 100000 in
theorem open_cls {b o n : Nat} {cs : List Value} {x : DataW H × List MemPlace} (hc : W.cells? 0 ⟨b, o, none⟩ (Try.prog.cellsOf 48) = some cs)
    (h : DataW.trod enc Try.prog W 0 (fun _ => true) true n 48 cs = some x) (hb : Rows.uptoBulk x.1 ≤ 1048576) : ∃ c, ClsAt W b o c := by
  obtain ⟨xs, n', -, rfl, hl, hlen, hf⟩ := DataW.trod_struct Try.underlying48 h
  rw [cellsCls] at hl hc
  obtain ⟨-, -, hcell⟩ := World.cells?_some hc
  match cs, hl with
  | [c0, c1, c2, c3, c4, c5, c6], _ =>
  match xs, hlen with
  | [y0, y1, y2, y3, y4, y5, y6], _ =>
  have f0 := hf 0 _ rfl
  have f1 := hf 1 _ rfl
  have f2 := hf 2 _ rfl
  have f3 := hf 3 _ rfl
  have f4 := hf 4 _ rfl
  have f5 := hf 5 _ rfl
  have f6 := hf 6 _ rfl
  simp only [List.map_cons, List.map_nil, Rows.uptoBulk, Rows.uptoBulkAll] at hb
  obtain ⟨s, e0, hs⟩ := open_nm f0 (by omega)
  obtain ⟨d, e1, -⟩ := DataW.trod_bool Try.underlying4 f1
  obtain ⟨A2, n2, k2, e2⟩ := open_hdr Try.underlying43 f2
  obtain ⟨A3, n3, k3, l, e3, hl3, hu⟩ := open_ups f3 (by omega)
  obtain ⟨A4, n4, k4, e4⟩ := open_hdr Try.underlying26 f4
  obtain ⟨A5, n5, k5, e5⟩ := open_hdr Try.underlying45 f5
  obtain ⟨A6, n6, k6, e6⟩ := open_hdr Try.underlying46 f6
  subst hl3
  cases e0; cases e1; cases e2; cases e3; cases e4; cases e5; cases e6
  exact ⟨⟨s, l⟩, hs, hcell 0 (by omega), d, A2, n2, k2, A3, k3, A4, n4, k4, A5, n5, k5, A6, n6, k6, hcell 1 (by omega), hcell 2 (by omega), hcell 3 (by omega), hu, hcell 4 (by omega), hcell 5 (by omega), hcell 6 (by omega)⟩
theorem cls_two {n : Nat} {cs : List Value} {x : DataW H × List MemPlace} (h : DataW.trod enc Try.prog W 0 (fun _ => true) true n 48 cs = some x) : 2 ≤ Rows.uptoBulk x.1 := by
  obtain ⟨xs, n', -, rfl, -, hlen, -⟩ := DataW.trod_struct Try.underlying48 h
  match xs, hlen with
  | y0 :: r, _ =>
    have := bulk_one y0.1
    simp only [List.map_cons, Rows.uptoBulk, Rows.uptoBulkAll]
    omega

/-- The argument of a law, of bulk at most the bound. -/
theorem open_sys {v : Value} {d : DataW H} {p : List MemPlace} (h : DataW.Trod enc Try.prog W 0 (fun _ => true) true 22 v d p) (hv : ∃ A n c, v = .slice A n c) (hb : Rows.uptoBulk d ≤ 1048576) : ∃ S, SysAt W v S ∧ S.length ≤ 1000000 := by
  obtain ⟨A, k, c, rfl⟩ := hv
  obtain ⟨n, h⟩ := h
  rcases open_slice Try.underlying22 h with ⟨e, -⟩ | ⟨a, len, cap, m, n', D, Pl, e, -, hl, -, hm, hx, hall⟩
  · simp [Value.cells] at e
    obtain ⟨rfl, rfl, rfl⟩ := e
    exact ⟨[], ⟨none, 0, rfl, fun h => by simp at h⟩, by simp⟩
  · simp [Value.cells] at e
    obtain ⟨rfl, rfl, rfl⟩ := e
    simp only [if_true] at hm
    subst hm
    cases hx
    simp only [Rows.uptoBulk] at hb
    obtain ⟨S, hlS, hS⟩ := list_of (fun i c => ClsAt W a.block (a.off + i * 7) c) k (fun i hi => by
      obtain ⟨cs', hc, ht⟩ := hall i (by omega)
      obtain ⟨cs0, hc0, -⟩ := hall 0 (by omega)
      have ha := addr_none hc0 (by rw [cellsCls]; omega) (by simp)
      rw [cellsCls] at hc
      rw [ha, Addr.add_lit] at hc
      have := bulk_mem (d := D i) (l := (List.range k).map D) (List.mem_map.2 ⟨i, List.mem_range.2 hi, rfl⟩)
      exact open_cls (by rw [cellsCls]; exact hc) ht (by show Rows.uptoBulk (D i) ≤ _; omega))
    have h2 := bulk_two (l := (List.range k).map D) (fun d hd => by
      obtain ⟨i, hi, rfl⟩ := List.mem_map.1 hd
      obtain ⟨cs', -, ht⟩ := hall i (by have := List.mem_range.1 hi; omega)
      exact cls_two ht)
    simp at h2
    refine ⟨S, ⟨some a, m, by rw [hlS], fun h0 => ?_⟩, by omega⟩
    obtain ⟨cs', hc, -⟩ := hall 0 (by omega)
    exact ⟨a.block, a.off, by rw [← addr_none hc (by rw [cellsCls]; omega) (by simp)], hS⟩
end
end Go.Proofs.Ytojfimbanaijdaa
namespace Go.Proofs.Ytojfimbanaijdaa
open Go.ChangeShapes Go.WideShapes Go.RowKit Go.Deep

theorem open_names {H : Type} {enc : TypeId × Value → H} {W : World} {v : Value} {d : DataW H} {p : List MemPlace} (h : DataW.Trod enc Try.prog W 0 (fun _ => true) true 26 v d p) (hv : ∃ A n c, v = .slice A n c) (hb : Rows.uptoBulk d ≤ 1048576) :
    ∃ (A : Option Addr) (c : Nat) (ns : List Hr.Nm), v = .slice A ns.length c ∧ ns.length ≤ c ∧ NmsAt W (.slice A ns.length c) ns := by
  obtain ⟨A, k, c, rfl⟩ := hv
  obtain ⟨n, h⟩ := h
  rcases open_slice Try.underlying26 h with ⟨e, -⟩ | ⟨a, len, cap, m, n', D, Pl, e, -, hl, -, hm, hx, hall⟩
  · simp [Value.cells] at e
    obtain ⟨rfl, rfl, rfl⟩ := e
    exact ⟨none, 0, [], rfl, Nat.le_refl _, none, 0, rfl, fun h => by simp at h⟩
  · simp [Value.cells] at e
    obtain ⟨rfl, rfl, rfl⟩ := e
    simp only [if_true] at hm
    subst hm
    cases hx
    simp only [Rows.uptoBulk] at hb
    obtain ⟨S, hlS, hS⟩ := list_of (fun i s => W.cell? ⟨a.block, a.off + i, none⟩ = some (nm s)) k (fun i hi => by
      obtain ⟨cs', hc, ht⟩ := hall i (by omega)
      obtain ⟨cs0, hc0, -⟩ := hall 0 (by omega)
      have ha := addr_none hc0 (by rw [cells9]; omega) (by simp)
      rw [cells9, Nat.mul_one] at hc
      rw [ha, Addr.add_lit] at hc
      have := bulk_mem (d := D i) (l := (List.range k).map D) (List.mem_map.2 ⟨i, List.mem_range.2 hi, rfl⟩)
      obtain ⟨s, rfl, -⟩ := open_nm ht (by show Rows.uptoBulk (D i) ≤ _; omega)
      obtain ⟨-, -, hcell⟩ := World.cells?_some hc
      have h0 := hcell 0 (by omega)
      rw [Addr.add_lit, Nat.add_zero] at h0
      exact ⟨s, h0⟩)
    subst hlS
    refine ⟨some a, m, S, rfl, hl, some a, m, rfl, fun h0 => ?_⟩
    obtain ⟨cs', hc, -⟩ := hall 0 (by omega)
    exact ⟨a.block, a.off, by rw [← addr_none hc (by rw [cells9]; omega) (by simp)], hS⟩
end Go.Proofs.Ytojfimbanaijdaa
namespace Go.Proofs.Ytojfimbanaijdaa
open Go.ChangeShapes Go.WideShapes Go.RowKit Go.Deep

section
variable {H : Type} {enc : TypeId × Value → H} {W : World}
theorem bulk_each {k : Nat} : ∀ {l : List (DataW H)}, (∀ d ∈ l, k ≤ Rows.uptoBulk d) → l.length * k ≤ Rows.uptoBulkAll l
  | [], _ => by simp [Rows.uptoBulkAll]
  | x :: l, h => by
    have h1 := h x (by simp)
    have h2 := bulk_each (l := l) (fun d hd => h d (by simp [hd]))
    simp only [Rows.uptoBulkAll, List.length_cons, Nat.add_mul]
    omega
theorem par_seven {n : Nat} {cs : List Value} {x : DataW H × List MemPlace} (h : DataW.trod enc Try.prog W 0 (fun _ => true) true n 52 cs = some x) : 7 ≤ Rows.uptoBulk x.1 := by
  obtain ⟨xs, n', -, rfl, -, hlen, -⟩ := DataW.trod_struct Try.underlying52 h
  match xs, hlen with
  | [y0, y1, y2, y3, y4, y5], _ =>
    have h0 := bulk_one y0.1
    have h1 := bulk_one y1.1
    have h2 := bulk_one y2.1
    have h3 := bulk_one y3.1
    have h4 := bulk_one y4.1
    have h5 := bulk_one y5.1
    simp only [List.map_cons, List.map_nil, Rows.uptoBulk, Rows.uptoBulkAll]
    omega
theorem ups_seven {n : Nat} {A : Option Addr} {k c : Nat} {x : DataW H × List MemPlace} (h : DataW.trod enc Try.prog W 0 (fun _ => true) true n 44 [.slice A k c] = some x) : k * 7 ≤ Rows.uptoBulk x.1 := by
  rcases open_slice Try.underlying44 h with ⟨e, -⟩ | ⟨a, len, cap, m, n', D, Pl, e, -, hl, -, hm, rfl, hall⟩
  · simp at e
    obtain ⟨-, rfl, -⟩ := e
    omega
  · simp at e
    obtain ⟨rfl, rfl, rfl⟩ := e
    have h2 := bulk_each (k := 7) (l := (List.range k).map D) (fun d hd => by
      obtain ⟨i, hi, rfl⟩ := List.mem_map.1 hd
      obtain ⟨cs', -, ht⟩ := hall i (by have := List.mem_range.1 hi; simp only [if_true] at hm; omega)
      exact par_seven ht)
    simp at h2
    simp only [Rows.uptoBulk]
    omega
set_option maxRecDepth 100000 in
theorem open_cls2 {b o n : Nat} {cs : List Value} {x : DataW H × List MemPlace} (hc : W.cells? 0 ⟨b, o, none⟩ (Try.prog.cellsOf 48) = some cs)
    (h : DataW.trod enc Try.prog W 0 (fun _ => true) true n 48 cs = some x) (hb : Rows.uptoBulk x.1 ≤ 1048576) : ∃ c, ClsAt W b o c ∧ c.ups.length * 7 ≤ Rows.uptoBulk x.1 := by
  obtain ⟨xs, n', -, rfl, hl, hlen, hf⟩ := DataW.trod_struct Try.underlying48 h
  rw [cellsCls] at hl hc
  obtain ⟨-, -, hcell⟩ := World.cells?_some hc
  match cs, hl with
  | [c0, c1, c2, c3, c4, c5, c6], _ =>
  match xs, hlen with
  | [y0, y1, y2, y3, y4, y5, y6], _ =>
  have f0 := hf 0 _ rfl
  have f1 := hf 1 _ rfl
  have f2 := hf 2 _ rfl
  have f3 := hf 3 _ rfl
  have f4 := hf 4 _ rfl
  have f5 := hf 5 _ rfl
  have f6 := hf 6 _ rfl
  simp only [List.map_cons, List.map_nil, Rows.uptoBulk, Rows.uptoBulkAll] at hb
  obtain ⟨s, e0, hs⟩ := open_nm f0 (by omega)
  obtain ⟨d, e1, -⟩ := DataW.trod_bool Try.underlying4 f1
  obtain ⟨A2, n2, k2, e2⟩ := open_hdr Try.underlying43 f2
  obtain ⟨A3, n3, k3, l, e3, hl3, hu⟩ := open_ups f3 (by omega)
  obtain ⟨A4, n4, k4, e4⟩ := open_hdr Try.underlying26 f4
  obtain ⟨A5, n5, k5, e5⟩ := open_hdr Try.underlying45 f5
  obtain ⟨A6, n6, k6, e6⟩ := open_hdr Try.underlying46 f6
  rw [e3] at f3
  have h7 := ups_seven f3
  subst hl3
  cases e0; cases e1; cases e2; cases e3; cases e4; cases e5; cases e6
  exact ⟨⟨s, l⟩, ⟨hs, hcell 0 (by omega), d, A2, n2, k2, A3, k3, A4, n4, k4, A5, n5, k5, A6, n6, k6, hcell 1 (by omega), hcell 2 (by omega), hcell 3 (by omega), hu, hcell 4 (by omega), hcell 5 (by omega), hcell 6 (by omega)⟩, by
    simp only [List.map_cons, List.map_nil, Rows.uptoBulk, Rows.uptoBulkAll]
    omega⟩
theorem sum_bulk : ∀ (S : List Hr.Cls) (l : List (DataW H)), S.length = l.length → (∀ i (h : i < S.length) (h2 : i < l.length), S[i].ups.length * 7 ≤ Rows.uptoBulk l[i]) → (S.map fun c => c.ups.length).sum * 7 ≤ Rows.uptoBulkAll l
  | [], _, _, _ => by simp
  | c :: S, [], h, _ => by simp at h
  | c :: S, d :: l, hl, h => by
    have h0 := h 0 (by simp) (by simp)
    have h1 := sum_bulk S l (by simpa using hl) (fun i h1 h2 => by
      have := h (i + 1) (by simp; omega) (by simp; omega)
      simpa using this)
    simp only [List.getElem_cons_zero] at h0
    simp only [List.map_cons, List.sum_cons, Rows.uptoBulkAll, Nat.add_mul]
    omega

/-- The argument of a law, of bulk at most the bound. -/
theorem open_sys2 {v : Value} {d : DataW H} {p : List MemPlace} (h : DataW.Trod enc Try.prog W 0 (fun _ => true) true 22 v d p) (hv : ∃ A n c, v = .slice A n c) (hb : Rows.uptoBulk d ≤ 1048576) : ∃ S, SysAt W v S ∧ S.length ≤ 1000000 ∧ (S.map fun c => c.ups.length).sum ≤ 400000 := by
  obtain ⟨A, k, c, rfl⟩ := hv
  obtain ⟨n, h⟩ := h
  rcases open_slice Try.underlying22 h with ⟨e, -⟩ | ⟨a, len, cap, m, n', D, Pl, e, -, hl, -, hm, hx, hall⟩
  · simp [Value.cells] at e
    obtain ⟨rfl, rfl, rfl⟩ := e
    exact ⟨[], ⟨none, 0, rfl, fun h => by simp at h⟩, by simp, by simp⟩
  · simp [Value.cells] at e
    obtain ⟨rfl, rfl, rfl⟩ := e
    simp only [if_true] at hm
    subst hm
    cases hx
    simp only [Rows.uptoBulk] at hb
    obtain ⟨S, hlS, hS⟩ := list_of (fun i c => ClsAt W a.block (a.off + i * 7) c ∧ c.ups.length * 7 ≤ Rows.uptoBulk (D i)) k (fun i hi => by
      obtain ⟨cs', hc, ht⟩ := hall i (by omega)
      obtain ⟨cs0, hc0, -⟩ := hall 0 (by omega)
      have ha := addr_none hc0 (by rw [cellsCls]; omega) (by simp)
      rw [cellsCls] at hc
      rw [ha, Addr.add_lit] at hc
      have := bulk_mem (d := D i) (l := (List.range k).map D) (List.mem_map.2 ⟨i, List.mem_range.2 hi, rfl⟩)
      exact open_cls2 (by rw [cellsCls]; exact hc) ht (by show Rows.uptoBulk (D i) ≤ _; omega))
    have h2 := bulk_two (l := (List.range k).map D) (fun d hd => by
      obtain ⟨i, hi, rfl⟩ := List.mem_map.1 hd
      obtain ⟨cs', -, ht⟩ := hall i (by have := List.mem_range.1 hi; omega)
      exact cls_two ht)
    have h3 := sum_bulk S ((List.range k).map D) (by simp [hlS]) (fun i h1 h2 => by
      simp only [List.getElem_map, List.getElem_range]
      exact (hS i h1).2)
    simp at h2
    refine ⟨S, ⟨some a, m, by rw [hlS], fun h0 => ?_⟩, by omega, by omega⟩
    obtain ⟨cs', hc, -⟩ := hall 0 (by omega)
    exact ⟨a.block, a.off, by rw [← addr_none hc (by rw [cellsCls]; omega) (by simp)], fun i hi => (hS i hi).1⟩
theorem open_names2 {v : Value} {d : DataW H} {p : List MemPlace} (h : DataW.Trod enc Try.prog W 0 (fun _ => true) true 26 v d p) (hv : ∃ A n c, v = .slice A n c) (hb : Rows.uptoBulk d ≤ 1048576) :
    ∃ (A : Option Addr) (c : Nat) (ns : List Hr.Nm), v = .slice A ns.length c ∧ ns.length ≤ c ∧ NmsAt W (.slice A ns.length c) ns ∧ FineN ns ∧ ns.length ≤ 1048576 := by
  obtain ⟨A, k, c, rfl⟩ := hv
  obtain ⟨n, h⟩ := h
  rcases open_slice Try.underlying26 h with ⟨e, -⟩ | ⟨a, len, cap, m, n', D, Pl, e, -, hl, -, hm, hx, hall⟩
  · simp [Value.cells] at e
    obtain ⟨rfl, rfl, rfl⟩ := e
    exact ⟨none, 0, [], rfl, Nat.le_refl _, ⟨none, 0, rfl, fun h => by simp at h⟩, fun s hs => (by cases hs), by simp⟩
  · simp [Value.cells] at e
    obtain ⟨rfl, rfl, rfl⟩ := e
    simp only [if_true] at hm
    subst hm
    cases hx
    simp only [Rows.uptoBulk] at hb
    obtain ⟨S, hlS, hS⟩ := list_of (fun i (s : Hr.Nm) => W.cell? ⟨a.block, a.off + i, none⟩ = some (nm s) ∧ s.length ≤ 140737488355328) k (fun i hi => by
      obtain ⟨cs', hc, ht⟩ := hall i (by omega)
      obtain ⟨cs0, hc0, -⟩ := hall 0 (by omega)
      have ha := addr_none hc0 (by rw [cells9]; omega) (by simp)
      rw [cells9, Nat.mul_one] at hc
      rw [ha, Addr.add_lit] at hc
      have := bulk_mem (d := D i) (l := (List.range k).map D) (List.mem_map.2 ⟨i, List.mem_range.2 hi, rfl⟩)
      obtain ⟨s, rfl, hs⟩ := open_nm ht (by show Rows.uptoBulk (D i) ≤ _; omega)
      obtain ⟨-, -, hcell⟩ := World.cells?_some hc
      have h0 := hcell 0 (by omega)
      rw [Addr.add_lit, Nat.add_zero] at h0
      exact ⟨s, h0, hs⟩)
    have h2 := bulk_each (k := 1) (l := (List.range k).map D) (fun d hd => bulk_one d)
    simp at h2
    subst hlS
    refine ⟨some a, m, S, rfl, hl, ⟨some a, m, rfl, fun h0 => ?_⟩, fun s hs => ?_, by omega⟩
    · obtain ⟨cs', hc, -⟩ := hall 0 (by omega)
      exact ⟨a.block, a.off, by rw [← addr_none hc (by rw [cells9]; omega) (by simp)], fun i hi => (hS i hi).1⟩
    · obtain ⟨i, hi, rfl⟩ := List.getElem_of_mem hs
      exact (hS i hi).2
end
end Go.Proofs.Ytojfimbanaijdaa
