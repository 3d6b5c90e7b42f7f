/-
  What the rows' condition gives: the signs, the table of blanks, and some integer in bytealg's variable. A world that meets it.
-/
import Derived.Test.YtadicempblgmhaaDoorCards
import Derived.Test.YtadicempblgmhaaDoorTie
import Derived.Test.YtadicempblgmhaaDoorSane
import Derived.ProofKit
import Derived.OpenShut
import Derived.Deep.DeepHandedRow
import Derived.Lib.LaidTab
import Derived.Shelf.Vars
import Derived.Lay
import Derived.LaidMore
import Derived.MakeChecks
namespace Go.Proofs.YtadicempblgmhaaDoor
open Go.ChangeShapes Go.WideShapes Go.ChangeAt Go.RowKit

theorem own : ownKnob Tryd.prog.godebug = none := by kernel_rfl
theorem gSigns : Tryd.prog.globalNamed "cosigner/lex.signs" = some 0 := by kernel_rfl
theorem gSpace : Tryd.prog.globalNamed "strings.asciiSpace" = some 1 := by kernel_rfl
theorem tSigns : (Tryd.prog.globals[0]?).map (·.type) = some 32 := by kernel_rfl
theorem tSpace : (Tryd.prog.globals[1]?).map (·.type) = some 131 := by kernel_rfl

def laidList : List (String × DataW Unit) := [("unicode/utf8.acceptRanges", Rows.laid_unicode_utf8_acceptRanges), ("unicode.White_Space", Rows.laid_unicode_White_Space), ("strings.asciiSpace", Rows.laid_strings_asciiSpace), ("cosigner/lex.signs", Rows.laid_cosigner_lex_signs), ("unicode/utf8.first", Rows.laid_unicode_utf8_first)]

theorem signs_data {H : Type} : (Rows.laid_cosigner_lex_signs : DataW H) = .slice (Lx.signs.map fun l => .lit (.string l)) [] := rfl
theorem space_data : (Rows.laid_strings_asciiSpace : DataW Unit) = Lib.tabData .u8 Lib.asciiSpaceTab := by kernel_rfl

theorem env_of {W : World} (h : laidMet Tryd.prog laidList W) (hsh : W.ShapedOpen Tryd.prog) : Env W ∧ Lib.TabIs Tryd.prog W "strings.asciiSpace" .u8 Lib.asciiSpaceTab := by
  obtain ⟨ps, ⟨g0, t0, cs0, f0, p0, q0, hg0, ht0, hv0, hd0, ⟨g1, t1, cs1, f1, p1, q1, hg1, ht1, hv1, hd1, ⟨g2, t2, cs2, f2, p2, q2, hg2, ht2, hv2, hd2, ⟨g3, t3, cs3, f3, p3, q3, hg3, ht3, hv3, hd3, _, _⟩, _⟩, _⟩, _⟩, _, _⟩ := h
  obtain rfl := Option.some.inj (gSpace.symm.trans hg2)
  obtain rfl := Option.some.inj (tSpace.symm.trans ht2)
  obtain rfl := Option.some.inj (gSigns.symm.trans hg3)
  obtain rfl := Option.some.inj (tSigns.symm.trans ht3)
  refine ⟨⟨?_, ?_⟩, ?_⟩
  · rw [signs_data] at hd3
    rcases DataW.trod_slice Tryd.underlying32 hd3 with ⟨_, hx⟩ | ⟨a, len, cap, elems, rest, n, _, hcs, hx, _, hl, _, hlen, hel, hsp, _⟩
    · simp at hx
    · simp only [Prod.mk.injEq, DataW.slice.injEq] at hx
      obtain ⟨⟨hx1, hx2⟩, _⟩ := hx
      have hr : rest = [] := by cases rest with
        | nil => rfl
        | cons x r => simp at hx2
      have hrc := (hsp rfl).1
      rw [hr] at hrc
      have hel2 : elems.length = 22 := by
        have := congrArg List.length hx1
        simp [Lx.signs] at this
        omega
      have hlen2 : len = 22 := by omega
      have hcap : cap = 22 := by simp at hrc; omega
      subst hlen2 hcap
      have hv := World.var?_cell hg3 hv3 0
      rw [Array.eq_one_of_toList hcs] at hv
      refine ⟨a, by simpa using hv, fun i hi => ?_⟩
      have hi2 : i < 22 := hi
      have he := hel i hi2
      rw [show Tryd.prog.cellsOf 9 = 1 from by kernel_rfl, Nat.mul_one] at he
      cases hy : elems[i]? with
      | none => rw [List.getElem?_eq_none_iff] at hy; omega
      | some y =>
        rw [hy] at he
        have hy1 : y.1 = .lit (.string Lx.signs[i]) := by
          have h1 : (elems.map (·.1))[i]? = some y.1 := by rw [List.getElem?_map, hy]; rfl
          rw [← hx1, List.getElem?_map, List.getElem?_eq_getElem hi] at h1
          simp at h1
          exact h1.symm
        simp only [Option.bind_eq_some_iff] at he
        obtain ⟨c1, hc1, ht⟩ := he
        obtain ⟨s, rfl, hs, _⟩ := DataW.trod_string Tryd.underlying9 ht
        have hs1 : y.1 = .lit (.string s.data.toList) := by rw [hs]
        rw [hy1] at hs1
        have hss : s = ⟨(Lx.signs[i]).toArray⟩ := by
          injection hs1 with h1
          injection h1 with h1
          exact of_list h1.symm
        have e0 : (a.add i).add 0 = a.add i := by simp [Addr.add]
        unfold World.cells? at hc1
        split at hc1
        · simp only [List.range_succ, List.range_zero, List.nil_append, List.mapM_cons, List.mapM_nil, e0] at hc1
          cases hcc : W.cell? (a.add i) with
          | none => simp [hcc] at hc1
          | some c => simp [hcc] at hc1; rw [hc1, hss]; rfl
        · cases hc1
  · exact cell_of_shapedOpen_int (zero := #[.int .i64 0]) (t := 3) hsh (by decide +kernel) (by kernel_rfl) rfl (by kernel_rfl) (by kernel_rfl) Tryd.underlying3
  · unfold Lib.TabIs
    rw [space_data] at hd2
    rw [hv2, ← Lib.cells_of_tab Tryd.underlying131 Tryd.underlying5 (by kernel_rfl) (by kernel_rfl) hd2]

/-- A world that meets the condition. -/
noncomputable def witWorld (os : Os) : World := World.laidAll Tryd.prog os laidList
theorem wit_shaped (os : Os) (args : Array Value) : ((witWorld os).forCall (fun _ _ => 0) ⟨#[], args, []⟩).Shaped Tryd.prog :=
  World.shaped_of_ZipB (by kernel_rfl) (by kernel_rfl)
theorem wit_met (os : Os) (args : Array Value) : laidMet Tryd.prog laidList ((witWorld os).forCall (fun _ _ => 0) ⟨#[], args, []⟩).memory :=
  laidMet_laidAll _ (by kernel_rfl) (by kernel_rfl)
end Go.Proofs.YtadicempblgmhaaDoor
