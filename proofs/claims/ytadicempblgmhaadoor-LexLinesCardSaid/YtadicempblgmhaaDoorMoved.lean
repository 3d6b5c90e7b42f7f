/-
  The closures of Patch, moved and joined, in package lex.
-/
import Derived.Test.YtadicempblgmhaaDoorEdit
import Derived.Test.YtadicempblgmhaaDoorWrite
namespace Go.Proofs.YtadicempblgmhaaDoor
open Go.RowKit Go.Shelf

namespace Lx
/-- Those tokens that stand on some lines, moved. -/
def moved (p : Int → Bool) (shift : Int) (l : List Tok) : List Tok := (l.filter (fun t => p t.line)).map (fun t => { t with line := t.line + shift })
theorem moved_step (p : Int → Bool) (sh : Int) (l : List Tok) (k : Nat) (h : k < l.length) : moved p sh (l.take (k + 1)) = moved p sh (l.take k) ++ (if p l[k].line then [{ l[k] with line := l[k].line + sh }] else []) := by
  unfold moved
  rw [List.take_succ_eq_append_getElem h, List.filter_append, List.map_append]
  congr 1
  by_cases hp : p l[k].line = true
  · simp [hp]
  · simp [hp]
theorem moved_length (p : Int → Bool) (sh : Int) (l : List Tok) : (moved p sh l).length ≤ l.length := by
  unfold moved
  rw [List.length_map]
  exact List.length_filter_le _ _
end Lx

theorem tok_laid (w : World) (t : Lx.Tok) : ∀ j u, (tokCells t)[j]? = some u → (w.alloc (.cells #[.int .i64 t.kind, .string ⟨t.text.toArray⟩, .int .i64 t.line, .int .i64 t.col] 55)).cell? ((⟨w.heap.size, 0, none⟩ : Addr).add j) = some u := by
  intro j u hj
  simp only [tokCells] at hj
  match j, hj with
  | 0, hj => simp at hj; subst hj; simp [Addr.add]
  | 1, hj => simp at hj; subst hj; simp [Addr.add]
  | 2, hj => simp at hj; subst hj; simp [Addr.add]
  | 3, hj => simp at hj; subst hj; simp [Addr.add]
  | (j + 4), hj => simp at hj
theorem tok_laid2 (w : World) (o : Obj) (t : Lx.Tok) : ∀ j u, (tokCells t)[j]? = some u → ((w.alloc o).alloc (.cells #[.int .i64 t.kind, .string ⟨t.text.toArray⟩, .int .i64 t.line, .int .i64 t.col] 55)).cell? ((⟨w.heap.size + 1, 0, none⟩ : Addr).add j) = some u := by
  have := tok_laid (w.alloc o) t
  rw [World.size_alloc] at this
  exact this

theorem own_ge {w : World} {B e size n g : Nat} {v : Value} {xs : List Value} (h : w.ownsRow B e size v n xs) (hg : v.ownBlock = some g) : B ≤ g := by
  rcases h.2 with ⟨rfl, _⟩ | ⟨g', cap, cur, rfl, hb, _⟩
  · cases hg
  · simp [Value.ownBlock] at hg
    omega
theorem own_lt {w : World} {B e size n : Nat} {v : Value} {xs : List Value} (h : w.ownsRow B e size v n xs) : v.ownBlock ≠ some w.heap.size := by
  rcases h.2 with ⟨rfl, _⟩ | ⟨g', cap, cur, rfl, _, hh, _⟩
  · intro e; cases e
  · intro he
    have := (Array.getElem?_eq_some_iff.1 hh).1
    simp [Value.ownBlock] at he
    omega

/-- What a function of a line answers, in worlds that keep what lies below. -/
def PredI (g : Nat) (lb : Array Value) (p : Int → Bool) (w : World) : Prop := ∀ (x : Int) (w' : World), Below w.heap.size w w' → Calls Tryd.prog g (#[.int .i64 x] ++ lb) w' fun e w'' => e = .returned (.bool (p x)) ∧ w'' = w'

theorem ahead_any (bx : Nat) (n : Int) (w : World) (hb : w.cell? ⟨bx, 0, none⟩ = some (.int .i64 n)) : PredI 86 #[.pointer (some ⟨bx, 0, none⟩)] (fun x => decide (x < n)) w := fun x w' hw => by
  have hc := kept_below hw (Nat.le_refl _) _ _ hb
  clear hb
  have hd : decide (x < n) = (decide (x < n)) := rfl
  go_enter Tryd.func86, Tryd.ntmps86
  by_cases h : x < n
  · go_wp2
    go_ret
    exact ⟨by simp [h], rfl⟩
  · go_wp2
    go_ret
    exact ⟨by simp [h], rfl⟩

theorem behind_any (bx : Nat) (n : Int) (w : World) (hb : w.cell? ⟨bx, 0, none⟩ = some (.int .i64 n)) : PredI 87 #[.pointer (some ⟨bx, 0, none⟩)] (fun x => decide (n < x)) w := fun x w' hw => by
  have hc := kept_below hw (Nat.le_refl _) _ _ hb
  clear hb
  go_enter Tryd.func87, Tryd.ntmps87
  by_cases h : n < x
  · go_wp2
    go_ret
    exact ⟨by simp [h], rfl⟩
  · go_wp2
    go_ret
    exact ⟨by simp [h], rfl⟩

set_option maxRecDepth 100000 in
set_option maxHeartbeats 1000000 in
theorem moved_ahead (v : Value) (l : List Lx.Tok) (sh : Int) (bx : Nat) (n : Int) (w : World) (hl : ToksAt w v l) (hlen : l.length ≤ 100000) (hs0 : -1000000 ≤ sh) (hs1 : sh ≤ 1000000) (hline : ∀ t ∈ l, 0 ≤ t.line ∧ t.line ≤ 1000000) (hb : w.cell? ⟨bx, 0, none⟩ = some (.int .i64 n)) :
    Calls Tryd.prog 85 #[v, .int .i64 sh, .func (.func 86) #[] #[.pointer (some ⟨bx, 0, none⟩)]] w fun e w' => ∃ v', e = .returned v' ∧ w'.ownsRow w.heap.size 55 4 v' (Lx.moved (fun x => decide (x < n)) sh l).length (toksCells (Lx.moved (fun x => decide (x < n)) sh l)) ∧ Below w.heap.size w w' := by
  have hP := ahead_any bx n w hb
  obtain ⟨i0, hi, hz0, hz1, hz2⟩ := info_parts tokInfo
  generalize (fun x : Int => decide (x < n)) = p at *
  have HP := Lib.hid hP
  clear hP hb
  have hl' : ∀ W, Below w.heap.size w W → ToksAt W v l := fun W h => hl.below h (Nat.le_refl _)
  have HL := Lib.hid hl'
  obtain ⟨A, c, rfl, -⟩ := hl
  clear hl'
  have hfull : Lx.moved p sh (l.take l.length) = Lx.moved p sh l := by rw [List.take_length]
  go_enter Tryd.func85, Tryd.ntmps85
  go_wp2
  go_loopw [7, 12] (fun o i wr => ∃ k : Nat, k ≤ l.length ∧ i = .int .i64 k ∧ wr.ownsRow w.heap.size 55 4 o (Lx.moved p sh (l.take k)).length (toksCells (Lx.moved p sh (l.take k))) ∧ Below w.heap.size w wr) (fun _ i _ => l.length - (intOf i).toNat)
  case atStart => exact ⟨0, Nat.zero_le _, rfl, World.ownsRow_nil _ _ _ _, Below.refl _ _⟩
  case round =>
    obtain ⟨k, hk, rfl, hown, hB⟩ := hrel
    have hBs := hB.size
    by_cases hlt : k < l.length
    · obtain ⟨A', c', hv, hc⟩ := HL.out wr hB
      cases hv
      obtain ⟨b, o, hA, hc2⟩ := hc (by omega)
      obtain ⟨c0, c1, c2, c3⟩ := hc2 k hlt
      subst hA
      clear hc hc2
      have hblt := World.block_lt_of_cell? _ _ c0
      have hst := Lx.moved_step p sh l k hlt
      have hml := Lx.moved_length p sh (l.take k)
      rw [List.length_take, Nat.min_eq_left hk] at hml
      have hln := hline l[k] (List.getElem_mem _)
      obtain ⟨A2, n2, c2', rfl⟩ := own_form hown
      obtain ⟨M, hM⟩ : ∃ M, M = Lx.moved p sh (l.take k) := ⟨_, rfl⟩
      rw [← hM] at hst hml hown
      generalize hT : l[k] = T at *
      have CP := Lib.hid (fun W hW => HP.out T.line W hW)
      have HST := Lib.hid hst
      have HO := Lib.hid hown
      have HB := Lib.hid hB
      clear hst hM hown hT
      by_cases hpt : p T.line = true
      · go_wp2_with (first
          | (go_at_call 86; refine (CP.out _ (HB.out.alloc hBs _)).mono ?_; rintro e w2 ⟨rfl, rfl⟩)
          | (at_builtin; refine wpList_append_own _ rfl _ _ 35 rfl w.heap.size 55 i0 (.agg #[.int .i64 0, .string ⟨#[]⟩, .int .i64 0, .int .i64 0]) 4 40 Tryd.underlying35 hi hz0 hz1 hz2 rfl (by decide) _ _ _ rfl ((HO.out.alloc _).alloc _) ⟨wr.heap.size + 1, 0, none⟩ 1 1 (tokCells { T with line := T.line + sh }) rfl rfl ?c1 (tok_one _) ?c3 ?c4 ?c5 ?_))
        case c1 => exact tok_laid2 _ _ { T with line := T.line + sh }
        case c3 => unfold maxLen; omega
        case c4 => omega
        case c5 => simp; omega
        · intro v' w1 hown' hgrow _
          go_wp2
          go_roundw
          case rel =>
            refine ⟨k + 1, by omega, by go_num, ?_, ?_⟩
            · rw [HST.out, if_pos hpt, toksCells_append, List.length_append]
              exact hown'
            · exact Below.grown ((HB.out.alloc hBs _).alloc (by simp; omega) _) hgrow (by simp; omega) (fun g hg => own_ge HO.out hg)
          case measure => simp [intOf]; omega
      · have hpf : p T.line = false := by simpa using hpt
        clear hpt
        go_wp2_with (go_at_call 86; refine (CP.out _ (HB.out.alloc hBs _)).mono ?_; rintro e w2 ⟨rfl, rfl⟩)
        go_roundw
        case rel => exact ⟨k + 1, by omega, by go_num, by rw [HST.out, hpf]; simpa using HO.out.alloc _, HB.out.alloc hBs _⟩
        case measure => simp [intOf]; omega
    · obtain rfl : k = l.length := by omega
      go_wp2
      go_ret
      exact ⟨_, rfl, by rw [← hfull]; exact hown, hB⟩

set_option maxRecDepth 100000 in
set_option maxHeartbeats 1000000 in
theorem moved_behind (v : Value) (l : List Lx.Tok) (sh : Int) (bx : Nat) (n : Int) (w : World) (hl : ToksAt w v l) (hlen : l.length ≤ 100000) (hs0 : -1000000 ≤ sh) (hs1 : sh ≤ 1000000) (hline : ∀ t ∈ l, 0 ≤ t.line ∧ t.line ≤ 1000000) (hb : w.cell? ⟨bx, 0, none⟩ = some (.int .i64 n)) :
    Calls Tryd.prog 85 #[v, .int .i64 sh, .func (.func 87) #[] #[.pointer (some ⟨bx, 0, none⟩)]] w fun e w' => ∃ v', e = .returned v' ∧ w'.ownsRow w.heap.size 55 4 v' (Lx.moved (fun x => decide (n < x)) sh l).length (toksCells (Lx.moved (fun x => decide (n < x)) sh l)) ∧ Below w.heap.size w w' := by
  have hP := behind_any bx n w hb
  obtain ⟨i0, hi, hz0, hz1, hz2⟩ := info_parts tokInfo
  generalize (fun x : Int => decide (n < x)) = p at *
  have HP := Lib.hid hP
  clear hP hb
  have hl' : ∀ W, Below w.heap.size w W → ToksAt W v l := fun W h => hl.below h (Nat.le_refl _)
  have HL := Lib.hid hl'
  obtain ⟨A, c, rfl, -⟩ := hl
  clear hl'
  have hfull : Lx.moved p sh (l.take l.length) = Lx.moved p sh l := by rw [List.take_length]
  go_enter Tryd.func85, Tryd.ntmps85
  go_wp2
  go_loopw [7, 12] (fun o i wr => ∃ k : Nat, k ≤ l.length ∧ i = .int .i64 k ∧ wr.ownsRow w.heap.size 55 4 o (Lx.moved p sh (l.take k)).length (toksCells (Lx.moved p sh (l.take k))) ∧ Below w.heap.size w wr) (fun _ i _ => l.length - (intOf i).toNat)
  case atStart => exact ⟨0, Nat.zero_le _, rfl, World.ownsRow_nil _ _ _ _, Below.refl _ _⟩
  case round =>
    obtain ⟨k, hk, rfl, hown, hB⟩ := hrel
    have hBs := hB.size
    by_cases hlt : k < l.length
    · obtain ⟨A', c', hv, hc⟩ := HL.out wr hB
      cases hv
      obtain ⟨b, o, hA, hc2⟩ := hc (by omega)
      obtain ⟨c0, c1, c2, c3⟩ := hc2 k hlt
      subst hA
      clear hc hc2
      have hblt := World.block_lt_of_cell? _ _ c0
      have hst := Lx.moved_step p sh l k hlt
      have hml := Lx.moved_length p sh (l.take k)
      rw [List.length_take, Nat.min_eq_left hk] at hml
      have hln := hline l[k] (List.getElem_mem _)
      obtain ⟨A2, n2, c2', rfl⟩ := own_form hown
      obtain ⟨M, hM⟩ : ∃ M, M = Lx.moved p sh (l.take k) := ⟨_, rfl⟩
      rw [← hM] at hst hml hown
      generalize hT : l[k] = T at *
      have CP := Lib.hid (fun W hW => HP.out T.line W hW)
      have HST := Lib.hid hst
      have HO := Lib.hid hown
      have HB := Lib.hid hB
      clear hst hM hown hT
      by_cases hpt : p T.line = true
      · go_wp2_with (first
          | (go_at_call 87; refine (CP.out _ (HB.out.alloc hBs _)).mono ?_; rintro e w2 ⟨rfl, rfl⟩)
          | (at_builtin; refine wpList_append_own _ rfl _ _ 35 rfl w.heap.size 55 i0 (.agg #[.int .i64 0, .string ⟨#[]⟩, .int .i64 0, .int .i64 0]) 4 40 Tryd.underlying35 hi hz0 hz1 hz2 rfl (by decide) _ _ _ rfl ((HO.out.alloc _).alloc _) ⟨wr.heap.size + 1, 0, none⟩ 1 1 (tokCells { T with line := T.line + sh }) rfl rfl ?c1 (tok_one _) ?c3 ?c4 ?c5 ?_))
        case c1 => exact tok_laid2 _ _ { T with line := T.line + sh }
        case c3 => unfold maxLen; omega
        case c4 => omega
        case c5 => simp; omega
        · intro v' w1 hown' hgrow _
          go_wp2
          go_roundw
          case rel =>
            refine ⟨k + 1, by omega, by go_num, ?_, ?_⟩
            · rw [HST.out, if_pos hpt, toksCells_append, List.length_append]
              exact hown'
            · exact Below.grown ((HB.out.alloc hBs _).alloc (by simp; omega) _) hgrow (by simp; omega) (fun g hg => own_ge HO.out hg)
          case measure => simp [intOf]; omega
      · have hpf : p T.line = false := by simpa using hpt
        clear hpt
        go_wp2_with (go_at_call 87; refine (CP.out _ (HB.out.alloc hBs _)).mono ?_; rintro e w2 ⟨rfl, rfl⟩)
        go_roundw
        case rel => exact ⟨k + 1, by omega, by go_num, by rw [HST.out, hpf]; simpa using HO.out.alloc _, HB.out.alloc hBs _⟩
        case measure => simp [intOf]; omega
    · obtain rfl : k = l.length := by omega
      go_wp2
      go_ret
      exact ⟨_, rfl, by rw [← hfull]; exact hown, hB⟩
end Go.Proofs.YtadicempblgmhaaDoor
