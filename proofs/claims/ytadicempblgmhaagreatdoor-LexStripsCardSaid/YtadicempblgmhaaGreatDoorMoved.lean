/-
  The closures of Patch, moved and joined, in package lex.
-/
import Derived.Test.YtadicempblgmhaaGreatDoorEdit
import Derived.Test.YtadicempblgmhaaGreatDoorWrite
namespace Go.Proofs.YtadicempblgmhaaGreatDoor
open Go.RowKit Go.Shelf

namespace Lx
/-- Those tokens that stand on some lines, moved. -/
def moved (p : Int → Bool) (shift : Int) (l : List Tok) : List Tok := (l.filter (fun t => p t.line)).map (fun t => { t with line := t.line + shift })
theorem moved_step (p : Int → Bool) (sh : Int) (l : List Tok) (k : Nat) (h : k < l.length) : moved p sh (l.take (k + 1)) = moved p sh (l.take k) ++ (if p l[k].line then [{ l[k] with line := l[k].line + sh }] else []) := by
  unfold moved
  rw [List.take_succ_eq_append_getElem h, List.filter_append, List.map_append]
  congr 1
  by_cases hp : p l[k].line = true
  · simp [hp]
  · simp [hp]
theorem moved_length (p : Int → Bool) (sh : Int) (l : List Tok) : (moved p sh l).length ≤ l.length := by
  unfold moved
  rw [List.length_map]
  exact List.length_filter_le _ _
end Lx

theorem tok_laid (w : World) (t : Lx.Tok) : ∀ j u, (tokCells t)[j]? = some u → (w.alloc (.cells #[.int .i64 t.kind, .string ⟨t.text.toArray⟩, .int .i64 t.line, .int .i64 t.col] 43)).cell? ((⟨w.heap.size, 0, none⟩ : Addr).add j) = some u := by
  intro j u hj
  simp only [tokCells] at hj
  match j, hj with
  | 0, hj => simp at hj; subst hj; simp [Addr.add]
  | 1, hj => simp at hj; subst hj; simp [Addr.add]
  | 2, hj => simp at hj; subst hj; simp [Addr.add]
  | 3, hj => simp at hj; subst hj; simp [Addr.add]
  | (j + 4), hj => simp at hj
theorem tok_laid2 (w : World) (o : Obj) (t : Lx.Tok) : ∀ j u, (tokCells t)[j]? = some u → ((w.alloc o).alloc (.cells #[.int .i64 t.kind, .string ⟨t.text.toArray⟩, .int .i64 t.line, .int .i64 t.col] 43)).cell? ((⟨w.heap.size + 1, 0, none⟩ : Addr).add j) = some u := by
  have := tok_laid (w.alloc o) t
  rw [World.size_alloc] at this
  exact this

theorem own_ge {w : World} {B e size n g : Nat} {v : Value} {xs : List Value} (h : w.ownsRow B e size v n xs) (hg : v.ownBlock = some g) : B ≤ g := by
  rcases h.2 with ⟨rfl, _⟩ | ⟨g', cap, cur, rfl, hb, _⟩
  · cases hg
  · simp [Value.ownBlock] at hg
    omega
theorem own_lt {w : World} {B e size n : Nat} {v : Value} {xs : List Value} (h : w.ownsRow B e size v n xs) : v.ownBlock ≠ some w.heap.size := by
  rcases h.2 with ⟨rfl, _⟩ | ⟨g', cap, cur, rfl, _, hh, _⟩
  · intro e; cases e
  · intro he
    have := (Array.getElem?_eq_some_iff.1 hh).1
    simp [Value.ownBlock] at he
    omega

/-- What a function of a line answers, in worlds that keep what lies below. -/
def PredI (g : Nat) (lb : Array Value) (p : Int → Bool) (w : World) : Prop := ∀ (x : Int) (w' : World), Below w.heap.size w w' → Calls Tryz.prog g (#[.int .i64 x] ++ lb) w' fun e w'' => e = .returned (.bool (p x)) ∧ w'' = w'

theorem ahead_any (bx : Nat) (n : Int) (w : World) (hb : w.cell? ⟨bx, 0, none⟩ = some (.int .i64 n)) : PredI 38 #[.pointer (some ⟨bx, 0, none⟩)] (fun x => decide (x < n)) w := fun x w' hw => by
  have hc := kept_below hw (Nat.le_refl _) _ _ hb
  clear hb
  have hd : decide (x < n) = (decide (x < n)) := rfl
  go_enter Tryz.func38, Tryz.ntmps38
  by_cases h : x < n
  · go_wp2
    go_ret
    exact ⟨by simp [h], rfl⟩
  · go_wp2
    go_ret
    exact ⟨by simp [h], rfl⟩

theorem behind_any (bx : Nat) (n : Int) (w : World) (hb : w.cell? ⟨bx, 0, none⟩ = some (.int .i64 n)) : PredI 39 #[.pointer (some ⟨bx, 0, none⟩)] (fun x => decide (n < x)) w := fun x w' hw => by
  have hc := kept_below hw (Nat.le_refl _) _ _ hb
  clear hb
  go_enter Tryz.func39, Tryz.ntmps39
  by_cases h : n < x
  · go_wp2
    go_ret
    exact ⟨by simp [h], rfl⟩
  · go_wp2
    go_ret
    exact ⟨by simp [h], rfl⟩

set_option maxRecDepth 100000 in
set_option maxHeartbeats 1000000 in
theorem moved_ahead (v : Value) (l : List Lx.Tok) (sh : Int) (bx : Nat) (n : Int) (w : World) (hl : ToksAt w v l) (hlen : l.length ≤ 100000) (hs0 : -1000000 ≤ sh) (hs1 : sh ≤ 1000000) (hline : ∀ t ∈ l, 0 ≤ t.line ∧ t.line ≤ 1000000) (hb : w.cell? ⟨bx, 0, none⟩ = some (.int .i64 n)) :
    Calls Tryz.prog 37 #[v, .int .i64 sh, .func (.func 38) #[] #[.pointer (some ⟨bx, 0, none⟩)]] w fun e w' => ∃ v', e = .returned v' ∧ w'.ownsRow w.heap.size 43 4 v' (Lx.moved (fun x => decide (x < n)) sh l).length (toksCells (Lx.moved (fun x => decide (x < n)) sh l)) ∧ Below w.heap.size w w' := by
  have hP := ahead_any bx n w hb
  obtain ⟨i0, hi, hz0, hz1, hz2⟩ := info_parts tokInfo
  generalize (fun x : Int => decide (x < n)) = p at *
  have HP := Lib.hid hP
  clear hP hb
  have hl' : ∀ W, Below w.heap.size w W → ToksAt W v l := fun W h => hl.below h (Nat.le_refl _)
  have HL := Lib.hid hl'
  obtain ⟨A, c, rfl, -⟩ := hl
  clear hl'
  have hfull : Lx.moved p sh (l.take l.length) = Lx.moved p sh l := by rw [List.take_length]
  go_enter Tryz.func37, Tryz.ntmps37
  go_wp2
  go_loopw [7, 12] (fun o i wr => ∃ k : Nat, k ≤ l.length ∧ i = .int .i64 k ∧ wr.ownsRow w.heap.size 43 4 o (Lx.moved p sh (l.take k)).length (toksCells (Lx.moved p sh (l.take k))) ∧ Below w.heap.size w wr) (fun _ i _ => l.length - (intOf i).toNat)
  case atStart => exact ⟨0, Nat.zero_le _, rfl, World.ownsRow_nil _ _ _ _, Below.refl _ _⟩
  case round =>
    obtain ⟨k, hk, rfl, hown, hB⟩ := hrel
    have hBs := hB.size
    by_cases hlt : k < l.length
    · obtain ⟨A', c', hv, hc⟩ := HL.out wr hB
      cases hv
      obtain ⟨b, o, hA, hc2⟩ := hc (by omega)
      obtain ⟨c0, c1, c2, c3⟩ := hc2 k hlt
      subst hA
      clear hc hc2
      have hblt := World.block_lt_of_cell? _ _ c0
      have hst := Lx.moved_step p sh l k hlt
      have hml := Lx.moved_length p sh (l.take k)
      rw [List.length_take, Nat.min_eq_left hk] at hml
      have hln := hline l[k] (List.getElem_mem _)
      obtain ⟨A2, n2, c2', rfl⟩ := own_form hown
      obtain ⟨M, hM⟩ : ∃ M, M = Lx.moved p sh (l.take k) := ⟨_, rfl⟩
      rw [← hM] at hst hml hown
      generalize hT : l[k] = T at *
      have CP := Lib.hid (fun W hW => HP.out T.line W hW)
      have HST := Lib.hid hst
      have HO := Lib.hid hown
      have HB := Lib.hid hB
      clear hst hM hown hT
      by_cases hpt : p T.line = true
      · go_wp2_with (first
          | (go_at_call 38; refine (CP.out _ (HB.out.alloc hBs _)).mono ?_; rintro e w2 ⟨rfl, rfl⟩)
          | (at_builtin; refine wpList_append_own _ rfl _ _ 36 rfl w.heap.size 43 i0 (.agg #[.int .i64 0, .string ⟨#[]⟩, .int .i64 0, .int .i64 0]) 4 40 Tryz.underlying36 hi hz0 hz1 hz2 rfl (by decide) _ _ _ rfl ((HO.out.alloc _).alloc _) ⟨wr.heap.size + 1, 0, none⟩ 1 1 (tokCells { T with line := T.line + sh }) rfl rfl ?c1 (tok_one _) ?c3 ?c4 ?c5 ?_))
        case c1 => exact tok_laid2 _ _ { T with line := T.line + sh }
        case c3 => unfold maxLen; omega
        case c4 => omega
        case c5 => simp; omega
        · intro v' w1 hown' hgrow _
          go_wp2
          go_roundw
          case rel =>
            refine ⟨k + 1, by omega, by go_num, ?_, ?_⟩
            · rw [HST.out, if_pos hpt, toksCells_append, List.length_append]
              exact hown'
            · exact Below.grown ((HB.out.alloc hBs _).alloc (by simp; omega) _) hgrow (by simp; omega) (fun g hg => own_ge HO.out hg)
          case measure => simp [intOf]; omega
      · have hpf : p T.line = false := by simpa using hpt
        clear hpt
        go_wp2_with (go_at_call 38; refine (CP.out _ (HB.out.alloc hBs _)).mono ?_; rintro e w2 ⟨rfl, rfl⟩)
        go_roundw
        case rel => exact ⟨k + 1, by omega, by go_num, by rw [HST.out, hpf]; simpa using HO.out.alloc _, HB.out.alloc hBs _⟩
        case measure => simp [intOf]; omega
    · obtain rfl : k = l.length := by omega
      go_wp2
      go_ret
      exact ⟨_, rfl, by rw [← hfull]; exact hown, hB⟩

set_option maxRecDepth 100000 in
set_option maxHeartbeats 1000000 in
theorem moved_behind (v : Value) (l : List Lx.Tok) (sh : Int) (bx : Nat) (n : Int) (w : World) (hl : ToksAt w v l) (hlen : l.length ≤ 100000) (hs0 : -1000000 ≤ sh) (hs1 : sh ≤ 1000000) (hline : ∀ t ∈ l, 0 ≤ t.line ∧ t.line ≤ 1000000) (hb : w.cell? ⟨bx, 0, none⟩ = some (.int .i64 n)) :
    Calls Tryz.prog 37 #[v, .int .i64 sh, .func (.func 39) #[] #[.pointer (some ⟨bx, 0, none⟩)]] w fun e w' => ∃ v', e = .returned v' ∧ w'.ownsRow w.heap.size 43 4 v' (Lx.moved (fun x => decide (n < x)) sh l).length (toksCells (Lx.moved (fun x => decide (n < x)) sh l)) ∧ Below w.heap.size w w' := by
  have hP := behind_any bx n w hb
  obtain ⟨i0, hi, hz0, hz1, hz2⟩ := info_parts tokInfo
  generalize (fun x : Int => decide (n < x)) = p at *
  have HP := Lib.hid hP
  clear hP hb
  have hl' : ∀ W, Below w.heap.size w W → ToksAt W v l := fun W h => hl.below h (Nat.le_refl _)
  have HL := Lib.hid hl'
  obtain ⟨A, c, rfl, -⟩ := hl
  clear hl'
  have hfull : Lx.moved p sh (l.take l.length) = Lx.moved p sh l := by rw [List.take_length]
  go_enter Tryz.func37, Tryz.ntmps37
  go_wp2
  go_loopw [7, 12] (fun o i wr => ∃ k : Nat, k ≤ l.length ∧ i = .int .i64 k ∧ wr.ownsRow w.heap.size 43 4 o (Lx.moved p sh (l.take k)).length (toksCells (Lx.moved p sh (l.take k))) ∧ Below w.heap.size w wr) (fun _ i _ => l.length - (intOf i).toNat)
  case atStart => exact ⟨0, Nat.zero_le _, rfl, World.ownsRow_nil _ _ _ _, Below.refl _ _⟩
  case round =>
    obtain ⟨k, hk, rfl, hown, hB⟩ := hrel
    have hBs := hB.size
    by_cases hlt : k < l.length
    · obtain ⟨A', c', hv, hc⟩ := HL.out wr hB
      cases hv
      obtain ⟨b, o, hA, hc2⟩ := hc (by omega)
      obtain ⟨c0, c1, c2, c3⟩ := hc2 k hlt
      subst hA
      clear hc hc2
      have hblt := World.block_lt_of_cell? _ _ c0
      have hst := Lx.moved_step p sh l k hlt
      have hml := Lx.moved_length p sh (l.take k)
      rw [List.length_take, Nat.min_eq_left hk] at hml
      have hln := hline l[k] (List.getElem_mem _)
      obtain ⟨A2, n2, c2', rfl⟩ := own_form hown
      obtain ⟨M, hM⟩ : ∃ M, M = Lx.moved p sh (l.take k) := ⟨_, rfl⟩
      rw [← hM] at hst hml hown
      generalize hT : l[k] = T at *
      have CP := Lib.hid (fun W hW => HP.out T.line W hW)
      have HST := Lib.hid hst
      have HO := Lib.hid hown
      have HB := Lib.hid hB
      clear hst hM hown hT
      by_cases hpt : p T.line = true
      · go_wp2_with (first
          | (go_at_call 39; refine (CP.out _ (HB.out.alloc hBs _)).mono ?_; rintro e w2 ⟨rfl, rfl⟩)
          | (at_builtin; refine wpList_append_own _ rfl _ _ 36 rfl w.heap.size 43 i0 (.agg #[.int .i64 0, .string ⟨#[]⟩, .int .i64 0, .int .i64 0]) 4 40 Tryz.underlying36 hi hz0 hz1 hz2 rfl (by decide) _ _ _ rfl ((HO.out.alloc _).alloc _) ⟨wr.heap.size + 1, 0, none⟩ 1 1 (tokCells { T with line := T.line + sh }) rfl rfl ?c1 (tok_one _) ?c3 ?c4 ?c5 ?_))
        case c1 => exact tok_laid2 _ _ { T with line := T.line + sh }
        case c3 => unfold maxLen; omega
        case c4 => omega
        case c5 => simp; omega
        · intro v' w1 hown' hgrow _
          go_wp2
          go_roundw
          case rel =>
            refine ⟨k + 1, by omega, by go_num, ?_, ?_⟩
            · rw [HST.out, if_pos hpt, toksCells_append, List.length_append]
              exact hown'
            · exact Below.grown ((HB.out.alloc hBs _).alloc (by simp; omega) _) hgrow (by simp; omega) (fun g hg => own_ge HO.out hg)
          case measure => simp [intOf]; omega
      · have hpf : p T.line = false := by simpa using hpt
        clear hpt
        go_wp2_with (go_at_call 39; refine (CP.out _ (HB.out.alloc hBs _)).mono ?_; rintro e w2 ⟨rfl, rfl⟩)
        go_roundw
        case rel => exact ⟨k + 1, by omega, by go_num, by rw [HST.out, hpf]; simpa using HO.out.alloc _, HB.out.alloc hBs _⟩
        case measure => simp [intOf]; omega
    · obtain rfl : k = l.length := by omega
      go_wp2
      go_ret
      exact ⟨_, rfl, by rw [← hfull]; exact hown, hB⟩
end Go.Proofs.YtadicempblgmhaaGreatDoor
namespace Go.Proofs.YtadicempblgmhaaGreatDoor
open Go.RowKit Go.Shelf

namespace Lx
def joinedK (ls : List (List Tok)) (k : Nat) : List Tok := (ls.take k).flatten
theorem joinedK_step (ls : List (List Tok)) (k : Nat) (h : k < ls.length) : joinedK ls (k + 1) = joinedK ls k ++ ls[k] := by
  unfold joinedK
  rw [List.take_succ_eq_append_getElem h, List.flatten_append]
  simp only [List.flatten_cons, List.flatten_nil, List.append_nil]
theorem joinedK_le (ls : List (List Tok)) (k : Nat) : (joinedK ls k).length ≤ ls.flatten.length := by
  have h : ls.flatten = joinedK ls k ++ (ls.drop k).flatten := by
    unfold joinedK; rw [← List.flatten_append, List.take_append_drop]
  rw [h, List.length_append]
  omega
end Lx

theorem toks_one : ∀ (l : List Lx.Tok), ∀ u ∈ toksCells l, u.oneCell' = true
  | [], u, h => by cases h
  | t :: r, u, h => by
    simp only [toksCells] at h
    rcases List.mem_append.1 h with h | h
    · exact tok_one t u h
    · exact toks_one r u h

/-- 'append(s, l...)' of no element leaves s. -/
theorem append_none {P : Program} {ops : Array Oper} {rest : List Oper} {o : Oper} {a : Act} {Q : Exit → Act → World → Prop} {w : World} (hgd : o.guard = none) (s x : Operand) (t : TypeId)
    (ho : o.op = .call { callee := .builtin .append, args := #[s, x], argTypes := #[t, t] }) (base : Nat) (e : TypeId) (i : TypeInfo) (size : Nat) (ht : P.underlying t = some (.slice e)) (hi : P.info? e = some i)
    (v : Value) (n : Nat) (xs : List Value) (hs : a.eval s = v) (hown : w.ownsRow base e size v n xs) (hx : a.eval x = .slice none 0 0) (h : wpList P ops Q rest (a.put o.dst v) w) : wpList P ops Q (o :: rest) a w := by
  refine wpList_plain hgd fun K hK => ?_
  have hr := run_append_owned_none (P := P) w base t o.type e i size ht hi v n xs hown
  unfold Oper.wp execOp
  simp only [ho, resolve, invoke, builtin, Sem.run_bind, Sem.run_pure, Result.andThen_ok, List.map_toArray, List.map_cons, List.map_nil, hs, hx, hr]
  exact hK _ _ h

/-- A row of rows of tokens of the call's own. -/
def RowsAt (w : World) (B g : Nat) (vs : List Value) (ls : List (List Lx.Tok)) : Prop :=
  vs.length = ls.length ∧ (∀ i (h : i < vs.length), w.cell? ⟨g, i, none⟩ = some vs[i]) ∧ ∀ i (h : i < vs.length) (h' : i < ls.length), w.ownsRow B 43 4 vs[i] ls[i].length (toksCells ls[i])

set_option maxRecDepth 100000 in
set_option maxHeartbeats 1000000 in
theorem joined_any (g B c : Nat) (vs : List Value) (ls : List (List Lx.Tok)) (w : World) (hr : RowsAt w B g vs ls) (hlen : ls.length ≤ 1000) (htot : ls.flatten.length ≤ 1000000) :
    Calls Tryz.prog 40 #[.slice (some ⟨g, 0, none⟩) vs.length c] w fun e w' => ∃ v', e = .returned v' ∧ w'.ownsRow w.heap.size 43 4 v' ls.flatten.length (toksCells ls.flatten) ∧ Below w.heap.size w w' := by
  obtain ⟨i0, hi, hz0, hz1, hz2⟩ := info_parts tokInfo
  obtain ⟨hl, hc, ho⟩ := hr
  have HC := Lib.hid hc
  have HO := Lib.hid ho
  have hfull : Lx.joinedK ls ls.length = ls.flatten := by unfold Lx.joinedK; rw [List.take_length]
  have HF := Lib.hid hfull
  have hvl : vs.length ≤ 1000 := by omega
  have HLN := Lib.hid hl
  clear hc ho hfull hl
  go_enter Tryz.func40, Tryz.ntmps40
  go_wp2
  go_loopw [3, 8] (fun o i wr => ∃ k : Nat, k ≤ vs.length ∧ i = .int .i64 k ∧ wr.ownsRow w.heap.size 43 4 o (Lx.joinedK ls k).length (toksCells (Lx.joinedK ls k)) ∧ Below w.heap.size w wr) (fun _ i _ => vs.length - (intOf i).toNat)
  case atStart => exact ⟨0, Nat.zero_le _, rfl, World.ownsRow_nil _ _ _ _, Below.refl _ _⟩
  case round =>
    obtain ⟨k, hk, rfl, hown, hB⟩ := hrel
    have hBs := hB.size
    by_cases hlt : k < vs.length
    · have hck := kept_below hB (Nat.le_refl _) _ _ (HC.out k hlt)
      have hok := own_below (HO.out k hlt (by have := HLN.out; omega)) hB (Nat.le_refl _)
      have hst := Lx.joinedK_step ls k (by have := HLN.out; omega)
      have hle := Lx.joinedK_le ls k
      have hle2 := Lx.joinedK_le ls (k + 1)
      rw [hst, List.length_append] at hle2
      have hglt := World.block_lt_of_cell? _ _ hck
      obtain ⟨A2, n2, c2', rfl⟩ := own_form hown
      generalize ls[k] = L at *
      generalize Lx.joinedK ls k = M at *
      generalize vs[k] = vk at *
      have HLT : k + 1 ≤ vs.length := hlt
      have HST := Lib.hid hst
      have HOW := Lib.hid hown
      have HBB := Lib.hid hB
      clear hst hown
      have h1 := hok.2
      rcases h1 with ⟨rfl, hn⟩ | ⟨gk, cap, cur, rfl, hrest⟩
      · clear hok
        have hL : L = [] := List.eq_nil_of_length_eq_zero hn
        go_wp2_with (at_builtin; refine append_none rfl _ _ 36 rfl w.heap.size 43 i0 4 Tryz.underlying36 hi _ _ _ rfl HOW.out rfl ?_)
        go_roundw
        case rel =>
          refine ⟨k + 1, by omega, by go_num, ?_, HBB.out⟩
          rw [HST.out, hL, List.append_nil]
          exact HOW.out
        case measure => simp [intOf]; omega
      · have hcs := hok.cells (g := gk) rfl
        have HOK := Lib.hid hcs
        have hlL := hok.1
        clear hok hcs hrest
        go_wp2_with (at_builtin; refine wpList_append_own _ rfl _ _ 36 rfl w.heap.size 43 i0 (.agg #[.int .i64 0, .string ⟨#[]⟩, .int .i64 0, .int .i64 0]) 4 40 Tryz.underlying36 hi hz0 hz1 hz2 rfl (by decide) _ _ _ rfl HOW.out ⟨gk, 0, none⟩ L.length cap (toksCells L) rfl (toksCells_length _) ?c1 ?c2 ?c3 ?c4 ?c5 ?_)
        case c1 => intro j u h; have := HOK.out j u h; simp only [Addr.add] at this; split at this <;> simp_all
        case c2 =>
          exact toks_one L
        case c3 => unfold maxLen; omega
        case c4 => omega
        · intro v' w1 hown' hgrow _
          go_wp2
          go_roundw
          case rel =>
            refine ⟨k + 1, by omega, by go_num, ?_, ?_⟩
            · rw [HST.out, toksCells_append, List.length_append]
              exact hown'
            · exact Below.grown HBB.out hgrow hBs (fun g hg => own_ge HOW.out hg)
          case measure => simp [intOf]; omega
    · obtain rfl : k = vs.length := by omega
      go_wp2
      go_ret
      exact ⟨_, rfl, by rw [← HF.out, ← HLN.out]; exact hown, hB⟩
end Go.Proofs.YtadicempblgmhaaGreatDoor
