/-
  What joined returns, in package lex: one list of several.
-/
import Derived.Test.YtadicempblgmhaaDoorMoved
namespace Go.Proofs.YtadicempblgmhaaDoor
open Go.RowKit Go.Shelf

namespace Lx
def joinedK (ls : List (List Tok)) (k : Nat) : List Tok := (ls.take k).flatten
theorem joinedK_step (ls : List (List Tok)) (k : Nat) (h : k < ls.length) : joinedK ls (k + 1) = joinedK ls k ++ ls[k] := by
  unfold joinedK
  rw [List.take_succ_eq_append_getElem h, List.flatten_append]
  simp only [List.flatten_cons, List.flatten_nil, List.append_nil]
theorem joinedK_le (ls : List (List Tok)) (k : Nat) : (joinedK ls k).length ≤ ls.flatten.length := by
  have h : ls.flatten = joinedK ls k ++ (ls.drop k).flatten := by
    unfold joinedK; rw [← List.flatten_append, List.take_append_drop]
  rw [h, List.length_append]
  omega
end Lx

theorem toks_one : ∀ (l : List Lx.Tok), ∀ u ∈ toksCells l, u.oneCell' = true
  | [], u, h => by cases h
  | t :: r, u, h => by
    simp only [toksCells] at h
    rcases List.mem_append.1 h with h | h
    · exact tok_one t u h
    · exact toks_one r u h

/-- 'append(s, l...)' of no element leaves s. -/
theorem append_none {P : Program} {ops : Array Oper} {rest : List Oper} {o : Oper} {a : Act} {Q : Exit → Act → World → Prop} {w : World} (hgd : o.guard = none) (s x : Operand) (t : TypeId)
    (ho : o.op = .call { callee := .builtin .append, args := #[s, x], argTypes := #[t, t] }) (base : Nat) (e : TypeId) (i : TypeInfo) (size : Nat) (ht : P.underlying t = some (.slice e)) (hi : P.info? e = some i)
    (v : Value) (n : Nat) (xs : List Value) (hs : a.eval s = v) (hown : w.ownsRow base e size v n xs) (hx : a.eval x = .slice none 0 0) (h : wpList P ops Q rest (a.put o.dst v) w) : wpList P ops Q (o :: rest) a w := by
  refine wpList_plain hgd fun K hK => ?_
  have hr := run_append_owned_none (P := P) w base t o.type e i size ht hi v n xs hown
  unfold Oper.wp execOp
  simp only [ho, resolve, invoke, builtin, Sem.run_bind, Sem.run_pure, Result.andThen_ok, List.map_toArray, List.map_cons, List.map_nil, hs, hx, hr]
  exact hK _ _ h

/-- A row of rows of tokens of the call's own. -/
def RowsAt (w : World) (B g : Nat) (vs : List Value) (ls : List (List Lx.Tok)) : Prop :=
  vs.length = ls.length ∧ (∀ i (h : i < vs.length), w.cell? ⟨g, i, none⟩ = some vs[i]) ∧ ∀ i (h : i < vs.length) (h' : i < ls.length), w.ownsRow B 55 4 vs[i] ls[i].length (toksCells ls[i])

set_option maxRecDepth 100000 in
set_option maxHeartbeats 1000000 in
theorem joined_any (g B c : Nat) (vs : List Value) (ls : List (List Lx.Tok)) (w : World) (hr : RowsAt w B g vs ls) (hlen : ls.length ≤ 1000) (htot : ls.flatten.length ≤ 1000000) :
    Calls Tryd.prog 88 #[.slice (some ⟨g, 0, none⟩) vs.length c] w fun e w' => ∃ v', e = .returned v' ∧ w'.ownsRow w.heap.size 55 4 v' ls.flatten.length (toksCells ls.flatten) ∧ Below w.heap.size w w' := by
  obtain ⟨i0, hi, hz0, hz1, hz2⟩ := info_parts tokInfo
  obtain ⟨hl, hc, ho⟩ := hr
  have HC := Lib.hid hc
  have HO := Lib.hid ho
  have hfull : Lx.joinedK ls ls.length = ls.flatten := by unfold Lx.joinedK; rw [List.take_length]
  have HF := Lib.hid hfull
  have hvl : vs.length ≤ 1000 := by omega
  have HLN := Lib.hid hl
  clear hc ho hfull hl
  go_enter Tryd.func88, Tryd.ntmps88
  go_wp2
  go_loopw [3, 8] (fun o i wr => ∃ k : Nat, k ≤ vs.length ∧ i = .int .i64 k ∧ wr.ownsRow w.heap.size 55 4 o (Lx.joinedK ls k).length (toksCells (Lx.joinedK ls k)) ∧ Below w.heap.size w wr) (fun _ i _ => vs.length - (intOf i).toNat)
  case atStart => exact ⟨0, Nat.zero_le _, rfl, World.ownsRow_nil _ _ _ _, Below.refl _ _⟩
  case round =>
    obtain ⟨k, hk, rfl, hown, hB⟩ := hrel
    have hBs := hB.size
    by_cases hlt : k < vs.length
    · have hck := kept_below hB (Nat.le_refl _) _ _ (HC.out k hlt)
      have hok := own_below (HO.out k hlt (by have := HLN.out; omega)) hB (Nat.le_refl _)
      have hst := Lx.joinedK_step ls k (by have := HLN.out; omega)
      have hle := Lx.joinedK_le ls k
      have hle2 := Lx.joinedK_le ls (k + 1)
      rw [hst, List.length_append] at hle2
      have hglt := World.block_lt_of_cell? _ _ hck
      obtain ⟨A2, n2, c2', rfl⟩ := own_form hown
      generalize ls[k] = L at *
      generalize Lx.joinedK ls k = M at *
      generalize vs[k] = vk at *
      have HLT : k + 1 ≤ vs.length := hlt
      have HST := Lib.hid hst
      have HOW := Lib.hid hown
      have HBB := Lib.hid hB
      clear hst hown
      have h1 := hok.2
      rcases h1 with ⟨rfl, hn⟩ | ⟨gk, cap, cur, rfl, hrest⟩
      · clear hok
        have hL : L = [] := List.eq_nil_of_length_eq_zero hn
        go_wp2_with (at_builtin; refine append_none rfl _ _ 35 rfl w.heap.size 55 i0 4 Tryd.underlying35 hi _ _ _ rfl HOW.out rfl ?_)
        go_roundw
        case rel =>
          refine ⟨k + 1, by omega, by go_num, ?_, HBB.out⟩
          rw [HST.out, hL, List.append_nil]
          exact HOW.out
        case measure => simp [intOf]; omega
      · have hcs := hok.cells (g := gk) rfl
        have HOK := Lib.hid hcs
        have hlL := hok.1
        clear hok hcs hrest
        go_wp2_with (at_builtin; refine wpList_append_own _ rfl _ _ 35 rfl w.heap.size 55 i0 (.agg #[.int .i64 0, .string ⟨#[]⟩, .int .i64 0, .int .i64 0]) 4 40 Tryd.underlying35 hi hz0 hz1 hz2 rfl (by decide) _ _ _ rfl HOW.out ⟨gk, 0, none⟩ L.length cap (toksCells L) rfl (toksCells_length _) ?c1 ?c2 ?c3 ?c4 ?c5 ?_)
        case c1 => intro j u h; have := HOK.out j u h; simp only [Addr.add] at this; split at this <;> simp_all
        case c2 =>
          exact toks_one L
        case c3 => unfold maxLen; omega
        case c4 => omega
        · intro v' w1 hown' hgrow _
          go_wp2
          go_roundw
          case rel =>
            refine ⟨k + 1, by omega, by go_num, ?_, ?_⟩
            · rw [HST.out, toksCells_append, List.length_append]
              exact hown'
            · exact Below.grown HBB.out hgrow hBs (fun g hg => own_ge HOW.out hg)
          case measure => simp [intOf]; omega
    · obtain rfl : k = vs.length := by omega
      go_wp2
      go_ret
      exact ⟨_, rfl, by rw [← HF.out, ← HLN.out]; exact hown, hB⟩
end Go.Proofs.YtadicempblgmhaaDoor
