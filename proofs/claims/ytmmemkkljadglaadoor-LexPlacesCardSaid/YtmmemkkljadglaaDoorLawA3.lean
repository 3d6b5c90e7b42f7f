/-
  For every text, place, offset, change and list of texts, LexPlaces returns true: Offset, PlaceOf, Edit and Join return what the reference returns.
-/
import Derived.Test.YtmmemkkljadglaaDoorRefM
import Derived.Test.YtmmemkkljadglaaDoorSane
namespace Go.Proofs.YtmmemkkljadglaaDoor
open Go.RowKit Go.Shelf

theorem short2_any (s : ByteArray) (w : World) : Calls Tryd.prog 15 #[.string s] w fun e w' => e = .returned (.bool (decide (s.size ≤ 400 ∨ (20000 < s.size ∧ s.size ≤ 20100)))) ∧ w' = w := by
  go_enter Tryd.func15, Tryd.ntmps15
  go_wp2
  all_goals go_ret
  all_goals exact ⟨ret_bool (by rw [Bool.eq_iff_iff]; simp; omega), rfl⟩
theorem own_ints2 {w : World} {B n c : Nat} {A : Option Addr} {ls : List Nat} (h : w.ownsRow B 3 1 (.slice A n c) n (intCells ls)) (h0 : 0 < n) : ∃ g, A = some ⟨g, 0, none⟩ ∧ ∀ (i k : Nat), ls[i]? = some k → w.cell? ⟨g, i, none⟩ = some (.int .i64 (k : Int)) := by
  rcases h.2 with ⟨hv, h1⟩ | ⟨g, cap, cur, hv, _⟩
  · omega
  · cases hv
    have hc := h.cells (g := g) rfl
    refine ⟨g, rfl, fun i k hk => ?_⟩
    have := hc i (.int .i64 (k : Int)) (by simp [intCells, hk])
    have e : (⟨g, 0, none⟩ : Addr).add i = ⟨g, 0 + i, none⟩ := by unfold Addr.add; split <;> simp_all
    rw [e, Nat.zero_add] at this
    exact this
theorem Has.laterA {W W' : World} {g : Nat} {t : TypeId} {cs : Array Value} (h : Has W g t cs) (o : Obj) (hb : Below (W.alloc o).heap.size (W.alloc o) W') : Has W' g t cs := (h.alloc o).below hb (by have := h.lt; rw [World.size_alloc]; omega)
theorem Has.laterN {W W' : World} {g : Nat} {t : TypeId} {cs : Array Value} (h : Has W g t cs) (hb : Below W.heap.size W W') : Has W' g t cs := h.below hb h.lt

/-- PlaceOf of the program and of the reference answer alike, whatever the offset. -/
theorem placeOf_both (s : ByteArray) (k : Int) (hs : s.size ≤ 900000) : ∃ a b er : Int,
    (∀ W, Calls Tryd.prog 29 #[.string s, .int .i64 k] W fun e w' => e = .returned (.tuple #[.agg #[.int .i64 a, .int .i64 b], .int .i64 er]) ∧ Below W.heap.size W w') ∧
    (∀ W, Calls Tryd.prog 30 #[.string s, .int .i64 k] W fun e w' => e = .returned (.agg #[.int .i64 a, .int .i64 b, .int .i64 er]) ∧ Below W.heap.size W w') := by
  by_cases hk : k < 0 ∨ (s.size : Int) < k
  · exact ⟨0, 0, 1, fun W => PlaceOf_bad s k W hs hk, fun W => rPlaceOf_bad s k W (by omega) hk⟩
  · obtain ⟨n, rfl⟩ := Int.eq_ofNat_of_zero_le (show 0 ≤ k by omega)
    exact ⟨_, _, 0, fun W => PlaceOf_any s n W hs (by omega), fun W => rPlaceOf_any s n W (by omega) (by omega)⟩

set_option maxRecDepth 100000 in
set_option maxHeartbeats 8000000 in
theorem LexPlaces_any (s x : ByteArray) (pl pc ofs f t : Int) (v : Value) (L : List ByteArray) (w : World) (hl : StrsAt w v L) (hE : Env w) (htab : Lib.TabIs Tryd.prog w "strings.asciiSpace" .u8 Lib.asciiSpaceTab) :
    Calls Tryd.prog 6 #[.string s, .agg #[.int .i64 pl, .int .i64 pc], .int .i64 ofs, chVal f t x, v] w fun e w' => e = .returned (.bool true) ∧ Below w.heap.size w w' := by
  have HSan := Lib.hid (fun W (hb : Below w.heap.size w W) => sanity_any W (hE.below hb (Nat.le_refl _)) (tab_below (g := 1) (by kernel_rfl) htab hb (Nat.le_refl _)))
  have HL := Lib.hid hl
  have HSh := Lib.hid (short2_any s)
  obtain ⟨A, c, rfl, -⟩ := hl
  clear hE htab
  have HB0 : Hid (Below w.heap.size w ((w.alloc (.cells #[.int .i64 pl, .int .i64 pc] 37)).alloc (.cells #[.int .i64 f, .int .i64 t, .string x] 60))) := ((Below.refl w.heap.size w).alloc (Nat.le_refl _) _).alloc (by simp) _
  have HP0 : Hid (Has ((w.alloc (.cells #[.int .i64 pl, .int .i64 pc] 37)).alloc (.cells #[.int .i64 f, .int .i64 t, .string x] 60)) w.heap.size 37 #[.int .i64 pl, .int .i64 pc]) := (Has.new _ _ _).alloc _
  have HC0 : Hid (Has ((w.alloc (.cells #[.int .i64 pl, .int .i64 pc] 37)).alloc (.cells #[.int .i64 f, .int .i64 t, .string x] 60)) (w.heap.size + 1) 60 #[.int .i64 f, .int .i64 t, .string x]) := by
    have := Has.new (w.alloc (.cells #[.int .i64 pl, .int .i64 pc] 37)) 60 #[.int .i64 f, .int .i64 t, .string x]
    rw [World.size_alloc] at this
    exact this
  by_cases hsh : s.size ≤ 400 ∨ (20000 < s.size ∧ s.size ≤ 20100)
  · have hd := HSh.out
    rw [decide_eq_true hsh] at hd
    have HD := Lib.hid hd
    clear hd HSh
    have hs : s.size ≤ 100000 := by omega
    by_cases hx : (21000 : Int) < x.size
    · have g1 : decide ((21000 : Int) < x.size) = true := decide_eq_true hx
      go_enter Tryd.func6, Tryd.ntmps6
      go_wp2_with fail
      refine (HD.out _).mono ?_
      rintro e w0 ⟨rfl, rfl⟩
      go_wp2_with fail
      refine (HSan.out _ HB0.out).mono ?_
      rintro e w1 ⟨rfl, hb1⟩
      go_wp2_with fail
      go_ret
      exact ⟨rfl, stepN HB0.out hb1⟩
    · have g1 : decide ((21000 : Int) < x.size) = false := decide_eq_false hx
      by_cases h30 : (30 : Int) < L.length
      · have g2 : decide ((30 : Int) < L.length) = true := decide_eq_true h30
        go_enter Tryd.func6, Tryd.ntmps6
        go_wp2_with fail
        refine (HD.out _).mono ?_
        rintro e w0 ⟨rfl, rfl⟩
        go_wp2_with fail
        refine (HSan.out _ HB0.out).mono ?_
        rintro e w1 ⟨rfl, hb1⟩
        go_wp2_with fail
        go_ret
        exact ⟨rfl, stepN HB0.out hb1⟩
      · have g2 : decide ((30 : Int) < L.length) = false := decide_eq_false h30
        have CO := Lib.hid (fun W => Offset_any s pl pc W (by omega))
        have CRO := Lib.hid (fun W => rOffset_any s pl pc W (by omega))
        have CE := Lib.hid (fun W => Edit_any s x f t W (by omega) (by omega))
        have CRE := Lib.hid (fun W => rEdit_any s x f t W (by omega) (by omega))
        obtain ⟨qa, qb, qe, hq1, hq2⟩ := placeOf_both s ofs (by omega)
        have CP := Lib.hid hq1
        have CRP := Lib.hid hq2
        clear hq1 hq2
        generalize Lx.offset s.data.toList (pl, pc) = on at *
        obtain ⟨on, oe⟩ := on
        generalize Lx.edited s.data.toList x.data.toList f t = ed at *
        obtain ⟨et, ee⟩ := ed
        dsimp only at CO CRO CE CRE
        generalize (⟨et.toArray⟩ : ByteArray) = E at *
        go_enter Tryd.func6, Tryd.ntmps6
        go_wp2_with fail
        refine (HD.out _).mono ?_
        rintro e w0 ⟨rfl, rfl⟩
        go_wp2_with fail
        generalize (w.alloc (.cells #[.int .i64 pl, .int .i64 pc] 37)).alloc (.cells #[.int .i64 f, .int .i64 t, .string x] 60) = w0 at *
        go_loopw [11] (fun i wr => ∃ k : Nat, k ≤ L.length ∧ i = .int .i64 k ∧ w0 = wr ∧ Hid (∀ i (_ : i < k) (h : i < L.length), L[i].size ≤ 900)) (fun i _ => L.length - (intOf i).toNat)
        case atStart => exact ⟨0, Nat.zero_le _, rfl, rfl, fun i hi => absurd hi (Nat.not_lt_zero _)⟩
        case round =>
          obtain ⟨k, hk, rfl, rfl, hall⟩ := hrel
          by_cases hlt : k < L.length
          · have hltI : (k : Int) < L.length := by omega
            obtain ⟨A', c', hv, hc⟩ := HL.out.below HB0.out (Nat.le_refl _)
            cases hv
            obtain ⟨b, o, hA, hc2⟩ := hc (by omega)
            have c0 := hc2 k hlt
            subst hA
            clear hc hc2
            have hnext : L[k].size ≤ 900 → ∀ i (_ : i < k + 1) (h : i < L.length), L[i].size ≤ 900 := fun h i hi h2 => by
              by_cases e : i = k
              · subst e; exact h
              · exact hall.out i (by omega) h2
            have HNX := Lib.hid hnext
            clear hnext
            generalize L[k] = y at *
            by_cases h900 : (900 : Int) < y.size
            · go_wp2_with fail
              refine (HSan.out _ HB0.out).mono ?_
              rintro e w1 ⟨rfl, hb1⟩
              go_wp2_with fail
              go_ret
              exact ⟨rfl, stepN HB0.out hb1⟩
            · go_wp2_with fail
              go_roundw
              case rel => exact ⟨k + 1, hlt, by go_num, by trivial, HNX.out (by omega)⟩
              case measure => simp [intOf]; omega
          · obtain rfl : k = L.length := by omega
            have hall2 : ∀ y ∈ L, y.size ≤ 100000 := fun y hy => by
              obtain ⟨i, hi, rfl⟩ := List.getElem_of_mem hy
              have := hall.out i hi hi
              omega
            have CJ := Lib.hid (fun W (hW : Below w.heap.size w W) => Join_any _ L W (HL.out.below hW (Nat.le_refl _)) (by omega) hall2)
            have CRJ := Lib.hid (fun W (hW : Below w.heap.size w W) => rJoin_any _ L W (HL.out.below hW (Nat.le_refl _)) (by omega) hall2)
            have hjl : (Lx.joined L).2.1.length ≤ 100000 := by
              unfold Lx.joined
              split
              · simp
              · split
                · simp
                · simp only [Lx.joinLines_length]; omega
            generalize Lx.joined L = jn at *
            obtain ⟨jt, jl, je⟩ := jn
            dsimp only at CJ CRJ hjl
            clear hall hall2
            have p0 := HP0.out.cell 0
            have p1 := HP0.out.cell 1
            simp only [List.getElem?_toArray, List.getElem?_cons_zero, List.getElem?_cons_succ] at p0 p1
            go_wp2_with fail
            refine (CO.out _).mono ?_
            rintro e w1 ⟨rfl, hb1⟩
            have B1 := Lib.hid (stepN HB0.out hb1)
            have P1 := Lib.hid (HP0.out.laterN hb1)
            have C1 := Lib.hid (HC0.out.laterN hb1)
            clear hb1 p0 p1
            have p0 := P1.out.cell 0
            have p1 := P1.out.cell 1
            simp only [List.getElem?_toArray, List.getElem?_cons_zero, List.getElem?_cons_succ] at p0 p1
            go_wp2_with fail
            refine (CRO.out _).mono ?_
            rintro e w2 ⟨rfl, hb2⟩
            have B2 := Lib.hid (stepN B1.out hb2)
            have C2 := Lib.hid (C1.out.laterN hb2)
            have X2 := Lib.hid (Has.new w2 30 #[.int .i64 on, .int .i64 oe])
            clear hb2 p0 p1
            go_wp2_with fail
            refine (CP.out _).mono ?_
            rintro e w3 ⟨rfl, hb3⟩
            have B3 := Lib.hid (stepA B2.out _ hb3)
            have C3 := Lib.hid (C2.out.laterA _ hb3)
            have X3 := Lib.hid (X2.out.laterN hb3)
            have Q3 := Lib.hid (Has.new w3 37 #[.int .i64 qa, .int .i64 qb])
            clear hb3
            go_wp2_with fail
            refine (CRP.out _).mono ?_
            rintro e w4 ⟨rfl, hb4⟩
            have B4 := Lib.hid (stepA B3.out _ hb4)
            have C4 := Lib.hid (C3.out.laterA _ hb4)
            have X4 := Lib.hid (X3.out.laterA _ hb4)
            have Q4 := Lib.hid (Q3.out.laterN hb4)
            have Y4 := Lib.hid (Has.new w4 66 #[.int .i64 qa, .int .i64 qb, .int .i64 qe])
            have c40 := (C4.out.alloc (.cells #[.int .i64 qa, .int .i64 qb, .int .i64 qe] 66)).cell 0
            have c41 := (C4.out.alloc (.cells #[.int .i64 qa, .int .i64 qb, .int .i64 qe] 66)).cell 1
            have c42 := (C4.out.alloc (.cells #[.int .i64 qa, .int .i64 qb, .int .i64 qe] 66)).cell 2
            simp only [List.getElem?_toArray, List.getElem?_cons_zero, List.getElem?_cons_succ] at c40 c41 c42
            clear hb4
            go_wp2_with fail
            refine (CE.out _).mono ?_
            rintro e w5 ⟨rfl, hb5⟩
            have B5 := Lib.hid (stepA B4.out _ hb5)
            have C5 := Lib.hid (C4.out.laterA _ hb5)
            have X5 := Lib.hid (X4.out.laterA _ hb5)
            have Q5 := Lib.hid (Q4.out.laterA _ hb5)
            have Y5 := Lib.hid (Y4.out.laterN hb5)
            clear hb5 c40 c41 c42
            have c40 := C5.out.cell 0
            have c41 := C5.out.cell 1
            have c42 := C5.out.cell 2
            simp only [List.getElem?_toArray, List.getElem?_cons_zero, List.getElem?_cons_succ] at c40 c41 c42
            go_wp2_with fail
            refine (CRE.out _).mono ?_
            rintro e w6 ⟨rfl, hb6⟩
            have B6 := Lib.hid (stepN B5.out hb6)
            have X6 := Lib.hid (X5.out.laterN hb6)
            have Q6 := Lib.hid (Q5.out.laterN hb6)
            have Y6 := Lib.hid (Y5.out.laterN hb6)
            have Z6 := Lib.hid (Has.new w6 50 #[.string E, .int .i64 ee])
            clear hb6 c40 c41 c42 C1 C2 C3 C4 C5 P1
            go_wp2_with fail
            refine (CJ.out _ (B6.out.alloc B6.out.size _)).mono ?_
            rintro e w7 ⟨vl, rfl, ho7, hb7⟩
            obtain ⟨A7, c7, rfl⟩ := own_len ho7
            have B7 := Lib.hid (stepA B6.out _ hb7)
            have X7 := Lib.hid (X6.out.laterA _ hb7)
            have Q7 := Lib.hid (Q6.out.laterA _ hb7)
            have Y7 := Lib.hid (Y6.out.laterA _ hb7)
            have Z7 := Lib.hid (Z6.out.laterN hb7)
            have O7 := Lib.hid ho7
            clear hb7 ho7 CJ
            go_wp2_with fail
            refine (CRJ.out _ B7.out).mono ?_
            rintro e w8 ⟨A8, c8, rfl, ho8', hb8⟩
            have ho8 : w8.ownsRow w7.heap.size 3 1 (.slice A8 jl.length c8) jl.length (intCells jl) := ho8'
            clear ho8'
            have B8 := Lib.hid ((stepN B7.out hb8).alloc (stepN B7.out hb8).size (.cells #[.string ⟨jt.toArray⟩, .slice A8 jl.length c8, .int .i64 je] 74))
            have X8 := Lib.hid ((X7.out.laterN hb8).alloc (.cells #[.string ⟨jt.toArray⟩, .slice A8 jl.length c8, .int .i64 je] 74))
            have Q8 := Lib.hid ((Q7.out.laterN hb8).alloc (.cells #[.string ⟨jt.toArray⟩, .slice A8 jl.length c8, .int .i64 je] 74))
            have Y8 := Lib.hid ((Y7.out.laterN hb8).alloc (.cells #[.string ⟨jt.toArray⟩, .slice A8 jl.length c8, .int .i64 je] 74))
            have Z8 := Lib.hid ((Z7.out.laterN hb8).alloc (.cells #[.string ⟨jt.toArray⟩, .slice A8 jl.length c8, .int .i64 je] 74))
            have O8 := Lib.hid ((own_below O7.out hb8 (Nat.le_refl _)).alloc (.cells #[.string ⟨jt.toArray⟩, .slice A8 jl.length c8, .int .i64 je] 74))
            have U8 := Lib.hid (ho8.alloc (.cells #[.string ⟨jt.toArray⟩, .slice A8 jl.length c8, .int .i64 je] 74))
            have J8 := Lib.hid (Has.new w8 74 #[.string ⟨jt.toArray⟩, .slice A8 jl.length c8, .int .i64 je])
            clear hb8 ho8 CRJ X2 X3 X4 X5 X6 X7 Q3 Q4 Q5 Q6 Q7 Y4 Y5 Y6 Y7 Z6 Z7 O7
            go_wp2_with fail
            generalize w8.alloc (.cells #[.string ⟨jt.toArray⟩, .slice A8 jl.length c8, .int .i64 je] 74) = wJ at *
            go_loopw [25] (fun i wr => ∃ k : Nat, k ≤ jl.length ∧ i = .int .i64 k ∧ Hid (Below wJ.heap.size wJ wr)) (fun i _ => jl.length - (intOf i).toNat)
            case atStart => exact ⟨0, Nat.zero_le _, rfl, Below.refl _ _⟩
            case round =>
              obtain ⟨k, hk, rfl, HB⟩ := hrel
              by_cases hlt : k < jl.length
              · have hltI : (k : Int) < jl.length := by omega
                obtain ⟨g7, rfl, h7⟩ := own_ints2 O8.out (by omega)
                obtain ⟨g8, rfl, h8⟩ := own_ints2 U8.out (by omega)
                have f1 := kept_below HB.out (Nat.le_refl _) _ _ (h7 k jl[k] (List.getElem?_eq_getElem hlt))
                have f2 := kept_below HB.out (Nat.le_refl _) _ _ (h8 k jl[k] (List.getElem?_eq_getElem hlt))
                have j1 := (J8.out.laterN HB.out).cell 1
                simp only [List.getElem?_toArray, List.getElem?_cons_zero, List.getElem?_cons_succ] at j1
                generalize jl[k] = y at *
                clear h7 h8
                go_wp2_with fail
                go_quiet (fail)
                go_wp2_with fail
                exact ⟨⟨k + 1, hlt, by go_num, below_drewN HB.out nq⟩, by simp [intOf]; omega⟩
              · obtain rfl : k = jl.length := by omega
                have BW := Lib.hid (B8.out.trans (HB.out.mono B8.out.size))
                go_wp2_with fail
                refine (HSan.out _ BW.out).mono ?_
                rintro e w9 ⟨rfl, hb9⟩
                have BZ := Lib.hid (stepN BW.out hb9)
                have X9 := (X8.out.laterN HB.out).laterN hb9
                have Q9 := (Q8.out.laterN HB.out).laterN hb9
                have Y9 := (Y8.out.laterN HB.out).laterN hb9
                have Z9 := (Z8.out.laterN HB.out).laterN hb9
                have x0 := X9.cell 0
                have x1 := X9.cell 1
                have q0 := Q9.cell 0
                have q1 := Q9.cell 1
                have y0 := Y9.cell 0
                have y1 := Y9.cell 1
                have y2 := Y9.cell 2
                have z0 := Z9.cell 0
                have z1 := Z9.cell 1
                simp only [List.getElem?_toArray, List.getElem?_cons_zero, List.getElem?_cons_succ] at x0 x1 q0 q1 y0 y1 y2 z0 z1
                clear hb9 X9 Q9 Y9 Z9
                go_wp2_with fail
                go_ret
                exact ⟨by simp, BZ.out⟩
  · have hd := HSh.out
    rw [decide_eq_false hsh] at hd
    have HD := Lib.hid hd
    clear hd HSh
    go_enter Tryd.func6, Tryd.ntmps6
    go_wp2_with fail
    refine (HD.out _).mono ?_
    rintro e w0 ⟨rfl, rfl⟩
    go_wp2_with fail
    refine (HSan.out _ HB0.out).mono ?_
    rintro e w1 ⟨rfl, hb1⟩
    go_wp2_with fail
    go_ret
    exact ⟨rfl, stepN HB0.out hb1⟩
end Go.Proofs.YtmmemkkljadglaaDoor
