/-
  What Strip returns, in package lex.
-/
import Derived.Test.YtadicempblgmhaaDoorNote
import Derived.Test.YtadicempblgmhaaDoorStripR
namespace Go.Proofs.YtadicempblgmhaaDoor
open Go.RowKit Go.Shelf

theorem trim_any (s : ByteArray) (w : World) (hs : s.size ≤ 1000000) :
    Calls Tryd.prog 92 #[.string s, .string ⟨#[32]⟩] w fun e w' => e = .returned (.string ⟨(Lib.trimRightB s.data.toList 32).toArray⟩) ∧ w' = w :=
  Tryd.strings_TrimRight_one s 32 (by decide) w (by omega)

/-- The lines of a text, the first k of them without their comments. -/
def stripped (Ls : List ByteArray) (k : Nat) : Array Value := ((Ls.take k).map (fun x => Value.string ⟨(Lx.bareL x.data.toList).toArray⟩) ++ (Ls.drop k).map Value.string).toArray
theorem stripped_zero (Ls : List ByteArray) : stripped Ls 0 = (Ls.map Value.string).toArray := by simp [stripped]
theorem stripped_end (Ls : List ByteArray) : stripped Ls Ls.length = (Ls.map (fun x => Value.string ⟨(Lx.bareL x.data.toList).toArray⟩)).toArray := by simp [stripped]
theorem stripped_get (Ls : List ByteArray) (k : Nat) (h : k < Ls.length) : (stripped Ls k)[k]? = some (.string Ls[k]) := by
  unfold stripped
  rw [List.getElem?_toArray, List.getElem?_append_right (by simp; omega)]
  simp [Nat.min_eq_left (Nat.le_of_lt h), h]
theorem stripped_set (Ls : List ByteArray) (k : Nat) (h : k < Ls.length) : (stripped Ls k).setIfInBounds k (.string ⟨(Lx.bareL Ls[k].data.toList).toArray⟩) = stripped Ls (k + 1) := by
  unfold stripped
  rw [List.setIfInBounds_toArray]
  congr 1
  rw [List.set_append_right _ _ (by simp; omega), List.take_succ_eq_append_getElem h, List.map_append, List.drop_eq_getElem_cons h]
  rw [List.map_cons]
  simp [Nat.min_eq_left (Nat.le_of_lt h)]

theorem stripped_fine (Ls : List ByteArray) (S : List UInt8) (h : Ls.map (·.data.toList) = Lx.lines S) :
    Lib.join ((Ls.map fun x => (⟨(Lx.bareL x.data.toList).toArray⟩ : ByteArray)).map (·.data.toList)) [10] = Lx.strip S := by
  unfold Lx.strip
  rw [← h, List.map_map, List.map_map]
  rfl
theorem lines_size (Ls : List ByteArray) (S : List UInt8) (h : Ls.map (·.data.toList) = Lx.lines S) (k : Nat) (hk : k < Ls.length) : Ls[k].size ≤ S.length := by
  have hm : Ls[k].data.toList ∈ Lx.lines S := by rw [← h]; exact List.mem_map.2 ⟨_, List.getElem_mem hk, rfl⟩
  have h1 := Lx.lines_total S
  have key : ∀ (ls : List (List UInt8)) x, x ∈ ls → x.length + 1 ≤ ls.foldr (fun x n => x.length + 1 + n) 0 := by
    intro ls
    induction ls with
    | nil => intro x hx; cases hx
    | cons a b ih =>
      intro x hx
      rw [List.foldr_cons]
      rcases List.mem_cons.1 hx with rfl | hx
      · omega
      · have := ih x hx; omega
  have h2 := key _ _ hm
  have h3 : Ls[k].data.toList.length = Ls[k].size := by simp
  omega

set_option maxRecDepth 100000 in
set_option maxHeartbeats 2000000 in
theorem Strip_any (s : ByteArray) (w : World) (hs : s.size ≤ 100000) (hE : Env w) :
    Calls Tryd.prog 45 #[.string s] w fun e w' => e = .returned (.tuple #[.string ⟨(if (Lx.readText s.data.toList).err = 0 then Lx.strip s.data.toList else []).toArray⟩, .int .i64 (Lx.readText s.data.toList).err]) ∧ Below w.heap.size w w' := by
  have CR := Lib.hid (readText_any s w hs hE)
  have CS := Lib.hid (fun W (h : Below w.heap.size w W) => split_any s W (by omega) (hE.below h (Nat.le_refl _)))
  have CN := Lib.hid (fun x W (hx : x.size ≤ 100000) (h : Below w.heap.size w W) => withoutNote_any x W hx (hE.below h (Nat.le_refl _)))
  generalize Lx.readText s.data.toList = R at *
  obtain ⟨rt, rn, rl, rc, re⟩ := R
  dsimp only
  obtain ⟨res, hres⟩ : ∃ res, res = if re = 0 then Lx.strip s.data.toList else [] := ⟨_, rfl⟩
  rw [← hres]
  have HRES := Lib.hid hres
  clear hres
  go_enter Tryd.func45, Tryd.ntmps45
  go_wp2_with fail
  refine CR.out.mono ?_
  rintro e w1 ⟨vt, vn, rfl, o1, o2, hb1⟩
  dsimp only at o1 o2
  obtain ⟨At, ct, rfl⟩ := own_len o1
  obtain ⟨An, cn, rfl⟩ := own_len o2
  have B1 := Lib.hid hb1
  have hH := Has.new w1 98 #[.slice At rt.length ct, .slice An rn.length cn, .int .i64 rl, .int .i64 rc, .int .i64 re]
  have HH := Lib.hid hH
  have r3 := hH.cell 4
  have ltw := hH.lt
  simp only [List.getElem?_toArray, List.getElem?_cons_zero, List.getElem?_cons_succ] at r3
  clear hb1 o1 o2 hH
  by_cases he : re = 0
  · subst he
    go_wp2_with fail
    refine (CS.out _ (B1.out.alloc B1.out.size _)).mono ?_
    rintro e w2 ⟨Ls, hLs, rfl, rfl⟩
    have HLS := Lib.hid hLs
    have hB2 : Below w.heap.size w ((w1.alloc (.cells #[.slice At rt.length ct, .slice An rn.length cn, .int .i64 rl, .int .i64 rc, .int .i64 0] 98)).alloc (.cells (Ls.map Value.string).toArray 9)) := (B1.out.alloc B1.out.size _).alloc (by simp; have := B1.out.size; omega) _
    have hrow := Has.new (w1.alloc (.cells #[.slice At rt.length ct, .slice An rn.length cn, .int .i64 rl, .int .i64 rc, .int .i64 0] 98)) 9 (Ls.map Value.string).toArray
    have hlb : w.heap.size ≤ (w1.alloc (.cells #[.slice At rt.length ct, .slice An rn.length cn, .int .i64 rl, .int .i64 rc, .int .i64 0] 98)).heap.size := by simp; have := B1.out.size; omega
    generalize (w1.alloc (.cells #[.slice At rt.length ct, .slice An rn.length cn, .int .i64 rl, .int .i64 rc, .int .i64 0] 98)).alloc (.cells (Ls.map Value.string).toArray 9) = w2 at *
    generalize (w1.alloc (.cells #[.slice At rt.length ct, .slice An rn.length cn, .int .i64 rl, .int .i64 rc, .int .i64 0] 98)).heap.size = g at *
    have B2 := Lib.hid hB2
    have ROW := Lib.hid hrow
    have htot := Lx.tot_lines s.data.toList
    have hlenL : Ls.length ≤ 100001 := by
      have h1 := congrArg List.length hLs
      rw [List.length_map, Lx.lines_length] at h1
      have h2 := List.count_le_length (l := s.data.toList) (a := 10)
      have h3 : s.data.toList.length = s.size := by simp
      omega
    clear hB2 hrow hLs HH r3 ltw htot CR
    have hsz := lines_size Ls s.data.toList HLS.out
    rw [show s.data.toList.length = s.size from by simp] at hsz
    have HSZ := Lib.hid hsz
    clear hsz
    go_wp2_with fail
    go_loopw [19] (fun i wr => ∃ k : Nat, k ≤ Ls.length ∧ i = .int .i64 k ∧ Hid (Has wr g 9 (stripped Ls k)) ∧ Hid (Below w.heap.size w wr)) (fun i _ => Ls.length - (intOf i).toNat)
    case atStart => exact ⟨0, Nat.zero_le _, rfl, by rw [stripped_zero]; exact ROW.out, B2.out⟩
    case round =>
      obtain ⟨k, hk, rfl, HR, HB⟩ := hrel
      by_cases hlt : k < Ls.length
      · have hltI : (k : Int) < Ls.length := by omega
        have hc := HR.out.cell k
        rw [stripped_get Ls k hlt] at hc
        have hlw := HR.out.lt
        have hset := stripped_set Ls k hlt
        have HSET := Lib.hid hset
        have hxs := HSZ.out k hlt
        have HG := Lib.hid (stripped_get Ls k hlt)
        clear hset
        generalize Ls[k] = x at *
        have CT : ∀ W, Calls Tryd.prog 92 #[.string ⟨(Lx.cut x.data.toList).toArray⟩, .string ⟨#[32]⟩] W fun e w' => e = .returned (.string ⟨(Lx.bareL x.data.toList).toArray⟩) ∧ w' = W := fun W => by
          have hl : (⟨(Lx.cut x.data.toList).toArray⟩ : ByteArray).size ≤ 1000000 := by
            have h1 := (Lx.cut_prefix x.data.toList).length_le
            have h3 : x.data.toList.length = x.size := by simp
            rw [Lib.size_mk]
            omega
          have := trim_any ⟨(Lx.cut x.data.toList).toArray⟩ W hl
          simpa [Lx.bareL] using this
        have HCT := Lib.hid CT
        clear CT
        have HCN := Lib.hid (CN.out x wr (by omega) HB.out)
        go_wp2_with fail
        refine HCN.out.mono ?_
        rintro e w3 ⟨rfl, hb3⟩
        have HR3 := Lib.hid (HR.out.below hb3 hlw)
        have HB3 := Lib.hid (HB.out.trans (hb3.mono HB.out.size))
        clear hb3
        have hlw3 := HR3.out.lt
        have hfr := HR3.out.free k
        have hc3 := HR3.out.cell k
        rw [HG.out] at hc3
        clear hc
        go_wp2_with fail
        refine (HCT.out _).mono ?_
        rintro e w4 ⟨rfl, rfl⟩
        go_wp2_with fail
        go_roundw
        case rel => exact ⟨k + 1, hlt, by go_num, by have := HR3.out.set k (.string ⟨(Lx.bareL x.data.toList).toArray⟩); rw [HSET.out] at this; exact this, HB3.out.setCell (by show w.heap.size ≤ g; omega) _⟩
        case measure => simp [intOf]; omega
      · obtain rfl : k = Ls.length := by omega
        have hj := stripped_fine Ls s.data.toList HLS.out
        have HJ := Lib.hid hj
        have hc := HR.out
        rw [stripped_end] at hc
        have hlw := hc.lt
        have hlen2 : (Ls.map fun x => (⟨(Lx.bareL x.data.toList).toArray⟩ : ByteArray)).length = Ls.length := by simp
        have CJ := Tryd.strings_Join g 0 Ls.length (Ls.map fun x => (⟨(Lx.bareL x.data.toList).toArray⟩ : ByteArray)) ⟨#[10]⟩ wr (fun j x hx => by
          rw [Nat.zero_add, hc.cell j, List.getElem?_toArray]
          rw [List.getElem?_map] at hx ⊢
          cases hq : Ls[j]? with
          | none => rw [hq] at hx; cases hx
          | some y => rw [hq] at hx; cases hx; rfl) hlw (by rw [hlen2]; omega) (by rw [hlen2]; omega) (by
            rw [show (⟨#[10]⟩ : ByteArray).data.toList = [10] from rfl, hj]
            have := Lx.strip_length s.data.toList
            rw [show s.data.toList.length = s.size from by simp] at this
            omega)
        rw [hlen2, show (⟨#[10]⟩ : ByteArray).data.toList = [10] from rfl, hj] at CJ
        have HCJ := Lib.hid CJ
        clear CJ hc hj
        go_wp2_with fail
        refine HCJ.out.mono ?_
        rintro e w3 ⟨rfl, hb3⟩
        have HB3 := Lib.hid (HB.out.trans (hb3.mono HB.out.size))
        clear hb3
        go_wp2_with fail
        go_ret2
        exact ⟨by rw [HRES.out, if_pos True.intro]; rfl, HB3.out⟩
  · have heb : (re == 0) = false := by simpa using he
    rw [if_neg he] at HRES
    go_wp2_with fail
    go_region
    all_goals
      go_wp2
      go_ret2
      exact ⟨by rw [HRES.out]; rfl, (B1.out.alloc B1.out.size _).drew⟩
end Go.Proofs.YtadicempblgmhaaDoor
