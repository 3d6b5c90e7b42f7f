/-
  The reference's lines, places, offsets and changes, by contract: they are the program's.
-/
import Derived.Test.YtadicempblgmhaaGreatDoorRefG
import Derived.Test.YtadicempblgmhaaGreatDoorPlaceP
import Derived.Maps.AppendAt
import Derived.Deep.QuietTactic
import Derived.BigQuiet
namespace Go.Proofs.YtadicempblgmhaaGreatDoor
open Go.RowKit Go.Shelf

theorem strInfo : (Tryz.prog.info? 9).map (fun i => (i.zero, i.size, i.bytes)) = some (some (.string ⟨#[]⟩), 1, 16) := by kernel_rfl
abbrev strRow (ls : List (List UInt8)) : List Value := ls.map fun l => .string ⟨l.toArray⟩
theorem strRow_of {w : World} {B : Nat} {v : Value} {ls : List (List UInt8)} (h : w.ownsRow B 9 1 v ls.length (strRow ls)) : StrsAt w v (bytesOf ls) := by
  obtain ⟨A, c, rfl⟩ := own_len h
  refine ⟨A, c, by simp, fun h0 => ?_⟩
  have h00 : 0 < ls.length := by simpa using h0
  rcases h.2 with ⟨_, h1⟩ | ⟨g, cap, cur, hv, _⟩
  · omega
  · cases hv
    have hc := h.cells (g := g) rfl
    refine ⟨g, 0, rfl, fun i hi => ?_⟩
    have hi2 : i < ls.length := by simpa using hi
    have := hc i (.string ⟨(ls[i]).toArray⟩) (by simp [strRow, hi2])
    have e : (⟨g, 0, none⟩ : Addr).add i = ⟨g, 0 + i, none⟩ := by unfold Addr.add; split <;> simp_all
    rw [e] at this
    simpa [bytesOf] using this

theorem strRow_snoc (ls : List (List UInt8)) (x : ByteArray) : strRow (ls ++ [x.data.toList]) = strRow ls ++ [.string x] := by
  unfold strRow
  rw [List.map_append, List.map_cons, List.map_nil, show (⟨x.data.toList.toArray⟩ : ByteArray) = x from Lib.mk_data x]

namespace Lx
theorem drop_head (s : ByteArray) (a : Nat) (h : a < s.size) : s.data.toList.drop a = s[a] :: s.data.toList.drop (a + 1) := by
  rw [List.drop_eq_getElem_cons (by simpa using h)]
  rfl
/-- Up to offset k, the lines that are done, and where the one begins that is not. -/
structure LInv (s : ByteArray) (k f : Nat) (ls : List (List UInt8)) : Prop where
  hf : f ≤ k
  hk : k ≤ s.size
  hl : ls.length ≤ f
  hn : ∀ i (_ : f ≤ i) (_ : i < k) (h : i < s.size), s[i] ≠ 10
  he : lines s.data.toList = ls ++ lines (s.data.toList.drop f)
theorem drop_free (s : ByteArray) (f k : Nat) (hf : f ≤ k) (hk : k ≤ s.size) (hn : ∀ i (_ : f ≤ i) (_ : i < k) (h : i < s.size), s[i] ≠ 10) : ∀ c ∈ (s.data.toList.drop f).take (k - f), c ≠ 10 := by
  intro c hc
  obtain ⟨i, hi, rfl⟩ := List.getElem_of_mem hc
  rw [List.length_take, List.length_drop, show s.data.toList.length = s.size from by simp] at hi
  rw [List.getElem_take, List.getElem_drop]
  exact hn (f + i) (by omega) (by omega) (by omega)
theorem LInv.next {s : ByteArray} {k f : Nat} {ls : List (List UInt8)} (h : LInv s k f ls) (hlt : k < s.size) (h10 : s[k] ≠ 10) : LInv s (k + 1) f ls :=
  ⟨Nat.le_succ_of_le h.hf, hlt, h.hl, fun i h1 h2 h3 => by
    by_cases e : i = k
    · subst e; exact h10
    · exact h.hn i h1 (by omega) h3, h.he⟩
theorem LInv.line {s : ByteArray} {k f : Nat} {ls : List (List UInt8)} (h : LInv s k f ls) (hlt : k < s.size) (h10 : s[k] = 10) : LInv s (k + 1) (k + 1) (ls ++ [(s.extract f k).data.toList]) := by
  refine ⟨Nat.le_refl _, hlt, by have := h.hl; have := h.hf; simp; omega, fun i h1 h2 => by omega, ?_⟩
  have hfree := drop_free s f k h.hf h.hk h.hn
  have hsplit : s.data.toList.drop f = (s.data.toList.drop f).take (k - f) ++ 10 :: s.data.toList.drop (k + 1) := by
    conv => lhs; rw [← List.take_append_drop (k - f) (s.data.toList.drop f)]
    rw [List.drop_drop, show f + (k - f) = k from by have := h.hf; omega, drop_head s k hlt, h10]
  rw [h.he, hsplit, lines_cat, lines_none _ hfree, Lib.extract_data, List.append_assoc]
theorem LInv.last {s : ByteArray} {f : Nat} {ls : List (List UInt8)} (h : LInv s s.size f ls) : lines s.data.toList = ls ++ [(s.extract f s.size).data.toList] := by
  have hfree := drop_free s f s.size h.hf h.hk h.hn
  have e : (s.data.toList.drop f).take (s.size - f) = s.data.toList.drop f := List.take_of_length_le (by simp)
  rw [e] at hfree
  rw [h.he, lines_none _ hfree, Lib.extract_data, e]
end Lx

set_option maxRecDepth 100000 in
set_option maxHeartbeats 2000000 in
theorem rlines_any (s : ByteArray) (w : World) (hs : s.size ≤ 1000000) :
    Calls Tryz.prog 23 #[.string s] w fun e w' => ∃ v, e = .returned v ∧ w'.ownsRow w.heap.size 9 1 v (Lx.lines s.data.toList).length (strRow (Lx.lines s.data.toList)) ∧ Below w.heap.size w w' := by
  obtain ⟨i0, hi, hz0, hz1, hz2⟩ := info_parts strInfo
  go_enter Tryz.func23, Tryz.ntmps23
  go_wp2_with fail
  go_loopw [3, 4, 5] (fun o f i wr => ∃ (k b : Nat) (ls : List (List UInt8)), i = .int .i64 k ∧ f = .int .i64 b ∧ Lx.LInv s k b ls ∧ Hid (wr.ownsRow w.heap.size 9 1 o ls.length (strRow ls)) ∧ Hid (Below w.heap.size w wr)) (fun _ _ i _ => s.size - (intOf i).toNat)
  case atStart => exact ⟨0, 0, [], rfl, rfl, ⟨Nat.le_refl _, Nat.zero_le _, Nat.le_refl _, fun i h1 h2 => by omega, rfl⟩, World.ownsRow_nil _ _ _ _, Below.refl _ _⟩
  case round =>
    obtain ⟨k, b, ls, rfl, rfl, hI, HO, HB⟩ := hrel
    have hbk := hI.hf
    have hks := hI.hk
    have hlb := hI.hl
    have I := Lib.hid hI
    clear hI
    have N7 : Hid (w.heap.size ≤ (wr.alloc (.cells #[.string (s.extract b k)] 9)).heap.size) := by show _ ≤ _; have := HB.out.size; simp; omega
    have N8 : Hid (ls.length + 1 ≤ maxLen) := by show _ ≤ _; unfold maxLen; omega
    have N9 : Hid ((ls.length + 1) * 16 ≤ 140737488355328) := by show _ ≤ _; omega
    by_cases hlt : k < s.size
    · have hltI : (k : Int) < s.size := by omega
      by_cases h10 : (s[k].toNat : Int) = 10
      · have hNX := I.out.line hlt (UInt8.toNat_inj.1 (by simp; omega))
        have NX := Lib.hid hNX
        clear hNX
        have hb0 : (0 : Int) ≤ k := by omega
        have hb1 : (b : Int) ≤ k := by omega
        have hb2 : (k : Int) ≤ s.size := by omega
        have O5 : Hid ((wr.alloc (.cells #[.string (s.extract b k)] 9)).ownsRow w.heap.size 9 1 u3 ls.length (strRow ls)) := HO.out.alloc _
        have B5 : Hid (Below w.heap.size w (wr.alloc (.cells #[.string (s.extract b k)] 9))) := HB.out.alloc HB.out.size _
        go_wp2_with (at_builtin; refine wpList_append_own_at _ rfl _ _ 54 rfl w.heap.size 9 i0 (.string ⟨#[]⟩) 1 16 Tryz.underlying54 hi hz0 hz1 hz2 rfl (by decide) _ _ _ rfl O5.out ⟨wr.heap.size, 0, none⟩ 1 1 [.string (s.extract b k)] rfl rfl (cell_one_new _ _ _) (by simp [Value.oneCell']) N8.out N9.out N7.out ?_)
        intro v' w5 hown5 hg5 _ hat5
        have hb5 := Below.grown B5.out hg5 N7.out (fun g hg => own_ge O5.out hg)
        have R1 := Lib.hid hown5
        have R4 := Lib.hid hb5
        clear hown5 hb5 hg5 hat5
        go_wp2_with fail
        go_roundw
        case rel =>
          refine ⟨k + 1, k + 1, _, by go_num, by go_num, NX.out, ?_, R4⟩
          show World.ownsRow _ _ _ _ _ _ _
          rw [strRow_snoc, List.length_append]
          exact R1.out
        case measure => simp [intOf]; omega
      · have hNX := I.out.next hlt (fun h => h10 (by rw [h]; rfl))
        have NX := Lib.hid hNX
        clear hNX
        go_wp2_with fail
        go_roundw
        case rel => exact ⟨k + 1, b, ls, by go_num, rfl, NX.out, HO, HB⟩
        case measure => simp [intOf]; omega
    · obtain rfl : k = s.size := by omega
      have hfin := I.out.last
      have HF := Lib.hid hfin
      clear hfin
      have hb0 : (0 : Int) ≤ b := by omega
      have hb1 : (b : Int) ≤ s.size := by omega
      have O5 : Hid ((wr.alloc (.cells #[.string (s.extract b s.size)] 9)).ownsRow w.heap.size 9 1 u3 ls.length (strRow ls)) := HO.out.alloc _
      have B5 : Hid (Below w.heap.size w (wr.alloc (.cells #[.string (s.extract b s.size)] 9))) := HB.out.alloc HB.out.size _
      go_wp2_with (at_builtin; refine wpList_append_own_at _ rfl _ _ 54 rfl w.heap.size 9 i0 (.string ⟨#[]⟩) 1 16 Tryz.underlying54 hi hz0 hz1 hz2 rfl (by decide) _ _ _ rfl O5.out ⟨wr.heap.size, 0, none⟩ 1 1 [.string (s.extract b s.size)] rfl rfl (cell_one_new _ _ _) (by simp [Value.oneCell']) N8.out N9.out N7.out ?_)
      intro v' w5 hown5 hg5 _ hat5
      have hb5 := Below.grown B5.out hg5 N7.out (fun g hg => own_ge O5.out hg)
      have R1 := Lib.hid hown5
      have R4 := Lib.hid hb5
      clear hown5 hb5 hg5 hat5
      go_wp2_with fail
      go_ret
      refine ⟨_, rfl, ?_, R4.out⟩
      rw [HF.out, strRow_snoc, List.length_append]
      exact R1.out

end Go.Proofs.YtadicempblgmhaaGreatDoor
