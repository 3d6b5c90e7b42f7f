/-
  What Join returns, in package lex.
-/
import Derived.Test.YtadicempblgmhaaDoorJoined
namespace Go.Proofs.YtadicempblgmhaaDoor
open Go.RowKit Go.Shelf

/-- A slice value reads as these texts. -/
def StrsAt (w : World) (v : Value) (L : List ByteArray) : Prop :=
  ∃ A c, v = .slice A L.length c ∧ (0 < L.length → ∃ b o, A = some ⟨b, o, none⟩ ∧ ∀ i (h : i < L.length), w.cell? ⟨b, o + i, none⟩ = some (.string L[i]))
theorem StrsAt.keep {w w' : World} {v : Value} {L : List ByteArray} (h : StrsAt w v L) (hk : ∀ (p : Addr) (u : Value), w.cell? p = some u → w'.cell? p = some u) : StrsAt w' v L := by
  obtain ⟨A, c, hv, h⟩ := h
  refine ⟨A, c, hv, fun h0 => ?_⟩
  obtain ⟨b, o, hA, hc⟩ := h h0
  exact ⟨b, o, hA, fun i hi => hk _ _ (hc i hi)⟩
theorem StrsAt.below {w w' : World} {B : Nat} {v : Value} {L : List ByteArray} (h : StrsAt w v L) (hb : Below B w w') (hB : w.heap.size ≤ B) : StrsAt w' v L := h.keep (kept_below hb hB)

namespace Lx
def joinSize : List ByteArray → Nat
  | [] => 0
  | s :: r => s.size + 1 + joinSize r
def joinText : List ByteArray → List UInt8
  | [] => []
  | s :: r => s.data.toList ++ [10] ++ joinText r
def joinLines : Nat → List ByteArray → List Nat
  | _, [] => []
  | n, s :: r => n :: joinLines (n + s.data.toList.count 10 + 1) r
def lineAfter (n : Nat) (L : List ByteArray) : Nat := n + (L.map (fun s => s.data.toList.count 10 + 1)).sum
theorem joinSize_snoc (s : ByteArray) : ∀ L, joinSize (L ++ [s]) = joinSize L + (s.size + 1)
  | [] => by simp [joinSize]
  | x :: r => by simp only [List.cons_append, joinSize, joinSize_snoc s r]; omega
theorem joinText_snoc (s : ByteArray) : ∀ L, joinText (L ++ [s]) = joinText L ++ s.data.toList ++ [10]
  | [] => by simp [joinText]
  | x :: r => by simp only [List.cons_append, joinText, joinText_snoc s r]; simp
theorem joinLines_snoc (s : ByteArray) : ∀ n L, joinLines n (L ++ [s]) = joinLines n L ++ [lineAfter n L]
  | n, [] => by simp [joinLines, lineAfter]
  | n, x :: r => by
    simp only [List.cons_append, joinLines, joinLines_snoc s _ r]
    congr 2
    simp [lineAfter]
    omega
theorem lineAfter_snoc (n : Nat) (s : ByteArray) (L : List ByteArray) : lineAfter n (L ++ [s]) = lineAfter n L + (s.data.toList.count 10 + 1) := by
  simp [lineAfter]
  omega
theorem joinLines_length : ∀ n L, (joinLines n L).length = L.length
  | _, [] => rfl
  | n, x :: r => by simp only [joinLines, List.length_cons, joinLines_length _ r]
theorem joinText_length : ∀ L, (joinText L).length = joinSize L
  | [] => rfl
  | x :: r => by simp only [joinText, joinSize, List.length_append, joinText_length r]; simp; 
theorem lineAfter_le (n : Nat) : ∀ L, lineAfter n L ≤ n + joinSize L
  | [] => by simp [lineAfter, joinSize]
  | x :: r => by
    have ih := lineAfter_le n r
    have h := List.count_le_length (l := x.data.toList) (a := (10 : UInt8))
    have h2 : x.data.toList.length = x.size := by simp
    simp only [lineAfter, List.map_cons, List.sum_cons, joinSize] at *
    omega
theorem joinSize_take (L : List ByteArray) (k : Nat) : joinSize (L.take k) ≤ joinSize L := by
  induction L generalizing k with
  | nil => simp
  | cons x r ih => cases k with
    | zero => simp [joinSize]
    | succ k => simp only [List.take_succ_cons, joinSize]; have := ih k; omega
end Lx

theorem own_wrote {w w' : World} {B b e size n : Nat} {v : Value} {xs : List Value} (h : w.ownsRow (b + 1) e size v n xs) (hw : Wrote B b w w') (he : e ≠ 5) : w'.ownsRow (b + 1) e size v n xs := by
  refine ⟨h.1, h.2.imp id ?_⟩
  rintro ⟨g, cap, cur, h1, h2, h3, h4⟩
  exact ⟨g, cap, cur, h1, h2, hw.has h3 (by omega) he, h4⟩

theorem Holds.grown {B b : Nat} {l : List UInt8} {w w' : World} {row : Option Nat} (h : Holds B b l w) (hg : w.grownBy w' row) (hb : row ≠ some b) (hr : ∀ g, row = some g → ∃ cs t, Has w g t cs ∧ t ≠ 5) : Holds B b l w' := by
  have key : ∀ p, Lib.BuilderAtF 114 5 B b p (Lib.byteCells l) w → Lib.BuilderAtF 114 5 B b p (Lib.byteCells l) w' := by
    rintro p ⟨h1, v, h2, h3, h4⟩
    refine ⟨h1, v, (hg.block b (Array.getElem?_eq_some_iff.1 h2).1 (fun e => hb e.symm)).trans h2, h3.kept hg ?_, h4⟩
    cases hrow : row with
    | none => cases hv : v.ownBlock <;> simp
    | some g =>
      obtain ⟨cs, t, hh, hne⟩ := hr g hrow
      refine .inr fun e => ?_
      rcases h3.2 with ⟨rfl, _⟩ | ⟨g', cap, cur, fz, rfl, _, hgg, _⟩
      · cases e
      · simp [Value.ownBlock] at e
        subst e
        unfold Has at hh
        rw [hh] at hgg
        cases hgg
        exact hne rfl
  rcases h with h | h
  · exact .inl (key _ h)
  · exact .inr (key _ h)

theorem own_has {w : World} {B e size n g : Nat} {v : Value} {xs : List Value} (h : w.ownsRow B e size v n xs) (hg : v.ownBlock = some g) : B ≤ g ∧ ∃ cs, Has w g e cs := by
  rcases h.2 with ⟨rfl, _⟩ | ⟨g', cap, cur, rfl, hb, hh, _⟩
  · cases hg
  · simp [Value.ownBlock] at hg
    subst hg
    exact ⟨hb, cur, hh⟩

theorem intInfo : (Tryd.prog.info? 3).map (fun i => (i.zero, i.size, i.bytes)) = some (some (.int .i64 0), 1, 8) := by kernel_rfl

namespace Lx
def joined (L : List ByteArray) : List UInt8 × List Nat × Int :=
  if 24 < L.length then ([], [], 3) else if 20000 < joinSize L then ([], [], 3) else (joinText L, joinLines 1 L, 0)
end Lx
abbrev intCells (l : List Nat) : List Value := l.map fun (n : Nat) => Value.int .i64 ((n : Nat) : Int)

set_option maxRecDepth 100000 in
set_option maxHeartbeats 2000000 in
theorem Join_any (v : Value) (L : List ByteArray) (w : World) (hl : StrsAt w v L) (hlen : L.length ≤ 100000) (hs : ∀ s ∈ L, s.size ≤ 100000) :
    Calls Tryd.prog 39 #[v] w fun e w' => ∃ vl, e = .returned (.tuple #[.string ⟨(Lx.joined L).1.toArray⟩, vl, .int .i64 (Lx.joined L).2.2]) ∧ w'.ownsRow w.heap.size 3 1 vl (Lx.joined L).2.1.length (intCells (Lx.joined L).2.1) ∧ Below w.heap.size w w' := by
  have hl' : ∀ W, Below w.heap.size w W → StrsAt W v L := fun W h => hl.below h (Nat.le_refl _)
  have HL := Lib.hid hl'
  obtain ⟨A, c, rfl, -⟩ := hl
  clear hl'
  obtain ⟨i0, hi, hz0, hz1, hz2⟩ := info_parts intInfo
  by_cases h24 : (24 : Int) < L.length
  · have hsp : Lx.joined L = ([], [], 3) := by unfold Lx.joined; rw [if_pos (by omega)]
    have HSP := Lib.hid hsp
    clear hsp
    go_enter Tryd.func39, Tryd.ntmps39
    go_wp2
    refine bodyPost_ret (results_tmp3 rfl _ _ _) rfl ?_
    rw [HSP.out]
    exact ⟨_, rfl, World.ownsRow_nil _ _ _ _, Below.refl _ _⟩
  · go_enter Tryd.func39, Tryd.ntmps39
    go_wp2
    go_loopw [5, 18] (fun z i wr => ∃ k : Nat, k ≤ L.length ∧ i = .int .i64 k ∧ z = .int .i64 (Lx.joinSize (L.take k)) ∧ wr = w) (fun _ i _ => L.length - (intOf i).toNat)
    case atStart => exact ⟨0, Nat.zero_le _, rfl, rfl, rfl⟩
    case round =>
      obtain ⟨k, hk, rfl, rfl, hw⟩ := hrel
      obtain rfl : w = wr := hw.symm
      by_cases hlt : k < L.length
      · obtain ⟨A', c', hv, hc⟩ := HL.out w (Below.refl _ _)
        cases hv
        obtain ⟨b, o, hA, hc2⟩ := hc (by omega)
        have c0 := hc2 k hlt
        subst hA
        clear hc hc2
        have hblt := World.block_lt_of_cell? _ _ c0
        have hst : Lx.joinSize (L.take (k + 1)) = Lx.joinSize (L.take k) + (L[k].size + 1) := by rw [List.take_succ_eq_append_getElem hlt, Lx.joinSize_snoc]
        have hsk := hs L[k] (List.getElem_mem _)
        have hbd : Lx.joinSize (L.take k) ≤ k * 100001 := by
          have h : ∀ (M : List ByteArray), (∀ s ∈ M, s.size ≤ 100000) → Lx.joinSize M ≤ M.length * 100001 := by
            intro M
            induction M with
            | nil => intro _; simp [Lx.joinSize]
            | cons x r ih =>
              intro h
              have h1 := h x (by simp)
              have h2 := ih (fun s hs => h s (by simp [hs]))
              simp only [Lx.joinSize, List.length_cons]
              omega
          have h1 := h (L.take k) (fun s h => hs s (List.mem_of_mem_take h))
          rw [List.length_take, Nat.min_eq_left hk] at h1
          exact h1
        generalize Lx.joinSize (L.take k) = z at *
        have HST := Lib.hid hst
        clear hst
        generalize L[k] = s at *
        go_wp2
        go_roundw
        case rel => exact ⟨k + 1, by omega, by go_num, by rw [HST.out]; go_num, trivial⟩
        case measure => simp [intOf]; omega
      · obtain rfl : k = L.length := by omega
        rw [List.take_length]
        have hsp : Lx.joined L = if 20000 < Lx.joinSize L then ([], [], 3) else (Lx.joinText L, Lx.joinLines 1 L, 0) := by unfold Lx.joined; rw [if_neg (by omega)]
        have HSP := Lib.hid hsp
        clear hsp
        by_cases h20 : (20000 : Int) < Lx.joinSize L
        · go_wp2
          refine bodyPost_ret (results_tmp3 rfl _ _ _) rfl ?_
          rw [HSP.out, if_pos (by omega)]
          exact ⟨_, rfl, World.ownsRow_nil _ _ _ _, Below.refl _ _⟩
        · go_wp2
          obtain ⟨W0, hW0⟩ : ∃ W0, W0 = w.heap.size := ⟨_, rfl⟩
          rw [← hW0]
          have hH0 := Holds.new w
          rw [← hW0] at hH0
          have hB1 : Below w.heap.size w (w.alloc (.cells #[.pointer none, .slice none 0 0] 114)) := (Below.refl _ _).alloc (Nat.le_refl _) _
          have hWs : W0 < (w.alloc (.cells #[.pointer none, .slice none 0 0] 114)).heap.size := by simp; omega
          generalize hW1 : w.alloc (.cells #[.pointer none, .slice none 0 0] 114) = w1 at *
          have HW := Lib.hid hW0
          have hjl : ∀ k, (Lx.joinText (L.take k)).length ≤ 20000 := fun k => by rw [Lx.joinText_length]; have := Lx.joinSize_take L k; omega
          have hla : ∀ k, Lx.lineAfter 1 (L.take k) ≤ 20001 := fun k => by have := Lx.lineAfter_le 1 (L.take k); have := Lx.joinSize_take L k; omega
          have HJL := Lib.hid hjl
          have HLA := Lib.hid hla
          have H20 := Lib.hid h20
          clear hW0 hW1 hlt hk hjl hla
          go_loopw [9, 10, 32] (fun ls ln i wx => ∃ k : Nat, k ≤ L.length ∧ i = .int .i64 k ∧ ln = .int .i64 (Lx.lineAfter 1 (L.take k)) ∧ Below w.heap.size w wx ∧ W0 < wx.heap.size ∧ Holds W0 W0 (Lx.joinText (L.take k)) wx ∧ wx.ownsRow (W0 + 1) 3 1 ls k (intCells (Lx.joinLines 1 (L.take k)))) (fun _ _ i _ => L.length - (intOf i).toNat)
          case atStart => exact ⟨0, Nat.zero_le _, rfl, rfl, hB1, hWs, hH0, World.ownsRow_nil _ _ _ _⟩
          case round =>
            clear hB1 hWs hH0
            obtain ⟨k, hk, rfl, rfl, hB, hWx, hH, hown⟩ := hrel
            have hBs := hB.size
            have hla := HLA.out k
            have hjl := HJL.out k
            have hjl2 := HJL.out (k + 1)
            by_cases hlt : k < L.length
            · obtain ⟨A', c', hv, hc⟩ := HL.out wr hB
              cases hv
              obtain ⟨b, o, hA, hc2⟩ := hc (by omega)
              have c0 := hc2 k hlt
              subst hA
              clear hc hc2
              have hblt := World.block_lt_of_cell? _ _ c0
              have htk : L.take (k + 1) = L.take k ++ [L[k]] := List.take_succ_eq_append_getElem hlt
              have hj1 : Lx.joinText (L.take (k + 1)) = Lx.joinText (L.take k) ++ L[k].data.toList ++ [10] := by rw [htk, Lx.joinText_snoc]
              have hj2 : Lx.joinLines 1 (L.take (k + 1)) = Lx.joinLines 1 (L.take k) ++ [Lx.lineAfter 1 (L.take k)] := by rw [htk, Lx.joinLines_snoc]
              have hj3 : Lx.lineAfter 1 (L.take (k + 1)) = Lx.lineAfter 1 (L.take k) + (L[k].data.toList.count 10 + 1) := by rw [htk, Lx.lineAfter_snoc]
              have hla2 := HLA.out (k + 1)
              rw [hj3] at hla2
              rw [hj1] at hjl2
              simp only [List.length_append, List.length_singleton] at hjl2
              obtain ⟨A2, n2, c2', rfl⟩ := own_form hown
              generalize L[k] = s at *
              generalize Lx.joinText (L.take k) = T at *
              generalize Lx.joinLines 1 (L.take k) = J at *
              generalize Lx.lineAfter 1 (L.take k) = la at *
              have cC := fun W => Tryd.strings_Count_one s 10 W
              rw [show Lib.countByte s.data.toList 10 = s.data.toList.count 10 from rfl] at cC
              generalize s.data.toList.count 10 = cn at *
              have HJ1 := Lib.hid hj1
              have HJ2 := Lib.hid hj2
              have HJ3 := Lib.hid hj3
              have HTK := Lib.hid htk
              have CC := Lib.hid cC
              have HB := Lib.hid hB
              have HH := Lib.hid hH
              have HO := Lib.hid hown
              clear hj1 hj2 hj3 htk cC hB hH hown
              go_wp2_with (at_builtin; refine wpList_append_own _ rfl _ _ 70 rfl (W0 + 1) 3 i0 (.int .i64 0) 1 8 Tryd.underlying70 hi hz0 hz1 hz2 rfl (by decide) _ _ _ rfl (HO.out.alloc _) ⟨wr.heap.size, 0, none⟩ 1 1 [.int .i64 la] rfl rfl ?c1 ?c2 ?c3 ?c4 ?c5 ?_)
              case c2 => first | rfl | (intro u hu; simp at hu; subst hu; rfl) | simp [Value.oneCell']
              case c3 => unfold maxLen; omega
              case c4 => omega
              case c5 => first | omega | (simp; omega)
              · intro v' wz hown' hgrow _
                have hHz : Holds W0 W0 T wz := Holds.grown (HH.out.alloc _) hgrow (fun e => by have := (own_has HO.out e).1; omega) (fun g e => by obtain ⟨_, cs, h⟩ := own_has HO.out e; exact ⟨cs, _, h.alloc _, by decide⟩)
                have hBz : Below w.heap.size w wz := Below.grown (HB.out.alloc hBs _) hgrow (by simp; omega) (fun g e => by have := (own_has HO.out e).1; have := HW.out; omega)
                have hsz := hgrow.size
                rw [World.size_alloc] at hsz
                have hsl : s.data.toList.length = s.size := by simp
                have CW := Lib.hid (writeString_any W0 W0 T s wz hHz (by omega) (by omega))
                have HOW := Lib.hid hown'
                have HBZ := Lib.hid hBz
                clear hown' hgrow hHz hBz
                go_wp2_with (first | (go_at_call 74; refine (CC.out _).mono ?_; rintro e w' ⟨rfl, rfl⟩) | (go_at_call 78; refine CW.out.mono ?_; rintro e w3 ⟨rfl, hH3, hb3⟩))
                have hs3 := hb3.below.size
                have CB := Lib.hid (writeByte_any W0 W0 (T ++ s.data.toList) 10 w3 hH3 (by simp only [List.length_append]; omega) (by omega))
                go_wp2_with (go_at_call 79; refine CB.out.mono ?_; rintro e w4 ⟨rfl, hH4, hb4⟩)
                have hs4 := hb4.below.size
                have hw0 := HW.out
                go_roundw
                case rel =>
                  refine ⟨k + 1, by omega, by go_num, by rw [HJ3.out]; go_num, (HBZ.out.trans (hb3.below.mono (by omega))).trans (hb4.below.mono (by omega)), by omega, by rw [HJ1.out]; exact hH4, ?_⟩
                  rw [HJ2.out]
                  have := own_wrote (own_wrote HOW.out hb3 (by decide)) hb4 (by decide)
                  simpa [intCells] using this
                case measure => simp [intOf]; omega
            · obtain rfl : k = L.length := by omega
              rw [List.take_length] at hH hown
              have CT := Lib.hid (builderString_any W0 W0 _ wr hH (by omega))
              have hjll := Lx.joinLines_length 1 L
              have HJLL := Lib.hid hjll
              obtain ⟨A2, n2, c2', rfl⟩ := own_form hown
              have HO := Lib.hid hown
              clear hown hjll
              go_wp2_with (go_at_call 80; refine CT.out.mono ?_; rintro e w3 ⟨rfl, hw3⟩)
              refine bodyPost_ret (results_tmp3 rfl _ _ _) rfl ?_
              rw [HSP.out, if_neg (by have := H20.out; omega)]
              have hw0 := HW.out
              refine ⟨_, rfl, ?_, hB.trans (hw3.below.mono (by omega))⟩
              rw [HJLL.out]
              exact own_base (own_wrote HO.out hw3 (by decide)) (by omega)
end Go.Proofs.YtadicempblgmhaaDoor
