/-
  What linksOf returns, in package heir: the links of a system, of several classes with one name those of the first alone.
-/
import Derived.Test.YtojfimbanaijdaaHGraph
namespace Go.Proofs.Ytojfimbanaijdaa
open Go.RowKit Go.Shelf

namespace Hr
theorem firstAt_self (S : List Cls) (k : Nat) (h : k < S.length) : ∃ q, firstAt S S[k].name = some q ∧ q ≤ k := by
  unfold firstAt
  cases hf : List.findIdx? (fun c => c.name == S[k].name) S with
  | none =>
    rw [List.findIdx?_eq_none_iff] at hf
    have := hf S[k] (List.getElem_mem _)
    simp at this
  | some q =>
    refine ⟨q, rfl, ?_⟩
    rw [List.findIdx?_eq_some_iff_getElem] at hf
    obtain ⟨h1, h2, h3⟩ := hf
    rcases Nat.lt_or_ge k q with h4 | h4
    · have := h3 k h4
      simp at this
    · exact h4
/-- The links of the first k classes and of the next one's first j parents. -/
def linksPart (S : List Cls) (k : Nat) (c : Cls) (j : Nat) : List (Nm × Nm) := linksTo S k ++ (c.ups.take j).map fun p => (c.name, p)
theorem linksTo_other (S : List Cls) (k : Nat) (h : k < S.length) (hq : firstAt S S[k].name ≠ some k) : linksTo S (k + 1) = linksTo S k := by
  show linksTo S k ++ (match S[k]? with | some c => linksAt S k c | none => []) = _
  rw [List.getElem?_eq_getElem h]
  dsimp only
  unfold linksAt
  rw [if_neg hq, List.append_nil]
theorem linksTo_this (S : List Cls) (k : Nat) (h : k < S.length) (hq : firstAt S S[k].name = some k) : linksTo S (k + 1) = linksPart S k S[k] S[k].ups.length := by
  show linksTo S k ++ (match S[k]? with | some c => linksAt S k c | none => []) = _
  rw [List.getElem?_eq_getElem h]
  dsimp only
  unfold linksAt linksPart
  rw [if_pos hq, List.take_length]
theorem linksPart_step (S : List Cls) (k : Nat) (c : Cls) (j : Nat) (h : j < c.ups.length) : linksPart S k c (j + 1) = linksPart S k c j ++ [(c.name, c.ups[j])] := by
  unfold linksPart
  rw [List.take_succ_eq_append_getElem h, List.map_append, ← List.append_assoc]
  rfl
theorem linksPart_zero (S : List Cls) (k : Nat) (c : Cls) : linksPart S k c 0 = linksTo S k := by
  unfold linksPart
  simp
theorem linksPart_length (S : List Cls) (k : Nat) (c : Cls) (j : Nat) (h : j ≤ c.ups.length) : (linksPart S k c j).length = (linksTo S k).length + j := by
  unfold linksPart
  rw [List.length_append, List.length_map, List.length_take, Nat.min_eq_left h]
theorem linksTo_le (S : List Cls) : ∀ (n k : Nat), k ≤ n → (linksTo S k).length ≤ (linksTo S n).length
  | 0, k, h => by rw [Nat.le_zero.1 h]; exact Nat.le_refl _
  | n + 1, k, h => by
    rcases Nat.eq_or_lt_of_le h with rfl | h
    · exact Nat.le_refl _
    · refine Nat.le_trans (linksTo_le S n k (by omega)) ?_
      show _ ≤ (linksTo S n ++ _).length
      rw [List.length_append]
      omega
end Hr

theorem linkInfo : (Try.prog.info? 64).map (fun i => (i.zero, i.size, i.bytes)) = some (some (.agg #[.string ⟨#[]⟩, .string ⟨#[]⟩]), 2, 32) := by kernel_rfl

section
variable {P : Program} {k e t : TypeId} {w w' : World} {b n : Nat}
variable {ops : Array Oper} {rest : List Oper} {o : Oper} {a : Act} {Q : Exit → Act → World → Prop}
/-- 'm[name]', the name's value known. -/
theorem wpI_at (hg : o.guard = none) (m x : Operand) (hop : o.op = Op.lookup t m x false) (hk : P.underlying k = some .string) (ht : P.underlying t = some (.map k e)) (he : P.underlying e = some (.int .i64)) (hz : (zeroValue e).run P w = .ok (.int .i64 0) w)
    (hm : a.eval m = .map (some b)) {f} (h : MapI P k e w b n f) (N : Hr.Nm) (hx : a.eval x = nm N) (hs : N.length ≤ 140737488355328) (i : Int) (hf : (f N).getD 0 = i)
    (hK : wpList P ops Q rest (a.put o.dst (.int .i64 i)) w) : wpList P ops Q (o :: rest) a w := by
  refine wpI_look hg m x hop hk ht he hz hm h _ hx (size_fine hs) ?_
  rw [show (⟨N.toArray⟩ : ByteArray).data.toList = N from by simp, hf]
  exact hK
end

/-- A map is no row. -/
theorem MapI.apart {P : Program} {k e : TypeId} {w : World} {b n B e' size m : Nat} {f : Hr.Nm → Option Int} {v : Value} {xs : List Value} (h : MapI P k e w b n f) (ho : w.ownsRow B e' size v m xs) : some b ≠ v.ownBlock := by
  rcases ho.2 with ⟨rfl, _⟩ | ⟨g', cap, cur, rfl, _, hh, _⟩
  · intro e; cases e
  · intro he
    cases he
    obtain ⟨D, ⟨es, clock, h1, _⟩, _⟩ := h
    rw [h1] at hh
    cases hh

set_option maxRecDepth 100000 in
set_option maxHeartbeats 2000000 in
theorem linksOf_any (v : Value) (S : List Hr.Cls) (w : World) (h : SysAt w v S) (hS : S.length ≤ 1000000) (hL : (Hr.links S).length ≤ 1000000) :
    Calls Try.prog 47 #[v] w fun e w' => ∃ x, e = .returned x ∧ w'.ownsRow w.heap.size 64 2 x (Hr.links S).length (linkCells (Hr.links S)) ∧ Below w.heap.size w w' := by
  obtain ⟨i0, hi, hz0, hz1, hz2⟩ := info_parts linkInfo
  have cF := firsts_any v S w h hS
  have HC := Lib.hid h
  obtain ⟨A, c, rfl, -⟩ := h
  have CF := Lib.hid cF
  clear cF
  go_enter Try.func47, Try.ntmps47
  go_wp2_with (go_at_call 41; refine CF.out.mono ?_; rintro e wF ⟨m, rfl, rfl, hm0, hbF⟩)
  generalize hg : w.heap.size = g at *
  have HM := Lib.hid hm0
  have HBF := Lib.hid hbF
  have hgF : g < wF.heap.size := hm0.lt
  clear hm0 hbF CF
  go_loopw [4, 13] (fun r i wr => ∃ k : Nat, k ≤ S.length ∧ i = .int .i64 k ∧ Hid (wr.ownsRow (g + 1) 64 2 r (Hr.linksTo S k).length (linkCells (Hr.linksTo S k))) ∧ Hid (Below (g + 1) wF wr)) (fun _ i _ => S.length - (intOf i).toNat)
  case atStart => exact ⟨0, Nat.zero_le _, rfl, World.ownsRow_nil _ _ _ _, Below.refl _ _⟩
  case round =>
    obtain ⟨k, hk, rfl, HO, HB⟩ := hrel
    by_cases hlt : k < S.length
    · have hBw : Below g w wr := HBF.out.trans (HB.out.mono (Nat.le_succ _))
      obtain ⟨A', c', hv, hat1⟩ := HC.out
      cases hv
      obtain ⟨b, o, hA, hat⟩ := hat1 (by omega)
      subst hA
      clear hat1
      obtain ⟨hn, c0, d1, A2, n2, k2, A3, k3, A4, n4, k4, A5, n5, k5, A6, n6, k6, c1, c2, c3, hups, c4, c5, c6⟩ := hat k hlt
      have hkw := kept_below hBw (by omega)
      replace c0 := hkw _ _ c0
      replace c1 := hkw _ _ c1
      replace c2 := hkw _ _ c2
      replace c3 := hkw _ _ c3
      replace c4 := hkw _ _ c4
      replace c5 := hkw _ _ c5
      replace c6 := hkw _ _ c6
      clear hat hkw
      have hblt := World.block_lt_of_cell? _ _ c0
      obtain ⟨q, hq, hqk⟩ := Hr.firstAt_self S k hlt
      have hval : ((fun s => (Hr.firstAt S s).map Int.ofNat) S[k].name).getD 0 = (q : Int) := by simp [hq]
      have HVAL := Lib.hid hval
      have hoth := Hr.linksTo_other S k hlt
      have hthis := Hr.linksTo_this S k hlt
      have hstep := Hr.linksPart_step S k S[k]
      have hzero := Hr.linksPart_zero S k S[k]
      have hplen := Hr.linksPart_length S k S[k]
      have htot := Hr.linksTo_le S S.length (k + 1) (by omega)
      have hw1 : IntKind.i64.wrap ((k : Int) + 1) = (k : Int) + 1 := IntWalk.i64_in _ (by omega)
      have hltI : (k : Int) < S.length := by omega
      have HUPS := Lib.hid hups
      have HSTEP := Lib.hid hstep
      have HZERO := Lib.hid hzero
      have HPL := Lib.hid hplen
      have HTHIS := Lib.hid hthis
      have HOTH := Lib.hid hoth
      have HTOT := Lib.hid htot
      have HQ := Lib.hid hq
      clear hval hups hstep hzero hplen hthis hoth htot hq
      generalize S[k] = C at *
      obtain ⟨N, ups⟩ := C
      dsimp only at *
      have HM1 := Lib.hid ((HM.out.below HB.out (Nat.lt_succ_self _)).alloc (.cells #[nm N, .bool d1, .slice A2 n2 k2, .slice A3 ups.length k3, .slice A4 n4 k4, .slice A5 n5 k5, .slice A6 n6 k6] 48))
      have hBs := HB.out.size
      have HB1 := Lib.hid (HB.out.alloc (by omega) (.cells #[nm N, .bool d1, .slice A2 n2 k2, .slice A3 ups.length k3, .slice A4 n4 k4, .slice A5 n5 k5, .slice A6 n6 k6] 48))
      have HO1 := Lib.hid (HO.out.alloc (.cells #[nm N, .bool d1, .slice A2 n2 k2, .slice A3 ups.length k3, .slice A4 n4 k4, .slice A5 n5 k5, .slice A6 n6 k6] 48))
      by_cases hqk' : q = k
      · subst hqk'
        have hqI : ((q : Int) == q) = true := by simp
        go_wp2_with (at_lookup; refine wpI_at rfl _ _ rfl Try.underlying9 tMap Try.underlying3 (zInt _) rfl HM1.out N rfl hn _ HVAL.out ?_)
        have HX : Hid (Has (wr.alloc (.cells #[nm N, .bool d1, .slice A2 n2 k2, .slice A3 ups.length k3, .slice A4 n4 k4, .slice A5 n5 k5, .slice A6 n6 k6] 48)) wr.heap.size 48 #[nm N, .bool d1, .slice A2 n2 k2, .slice A3 ups.length k3, .slice A4 n4 k4, .slice A5 n5 k5, .slice A6 n6 k6]) := Has.new _ _ _
        have hXg : g + 1 ≤ wr.heap.size := by omega
        clear HM1 HB HO
        generalize wr.alloc (.cells #[nm N, .bool d1, .slice A2 n2 k2, .slice A3 ups.length k3, .slice A4 n4 k4, .slice A5 n5 k5, .slice A6 n6 k6] 48) = wX at *
        generalize wr.heap.size = X at *
        go_loopw [4, 27] (fun r i wy => ∃ j : Nat, j ≤ ups.length ∧ i = .int .i64 j ∧ Hid (wy.ownsRow (g + 1) 64 2 r (Hr.linksPart S q ⟨N, ups⟩ j).length (linkCells (Hr.linksPart S q ⟨N, ups⟩ j))) ∧ Hid (Below (g + 1) wF wy) ∧ Hid (Has wy X 48 #[nm N, .bool d1, .slice A2 n2 k2, .slice A3 ups.length k3, .slice A4 n4 k4, .slice A5 n5 k5, .slice A6 n6 k6]) ) (fun _ i _ => ups.length - (intOf i).toNat)
        case atStart => exact ⟨0, Nat.zero_le _, rfl, by rw [HZERO.out]; exact HO1, HB1, HX⟩
        case round =>
          obtain ⟨j, hj, rfl, HO, HB, HX⟩ := hrel
          have hBy : Below g w wr := HBF.out.trans (HB.out.mono (Nat.le_succ _))
          by_cases hjt : j < ups.length
          · obtain ⟨A7, c7, hv7, hat7⟩ := HUPS.out.keep (kept_below hBy (by omega))
            cases hv7
            obtain ⟨pb, po, hA7, hat8⟩ := hat7 (by omega)
            subst hA7
            obtain ⟨hnM, p0, B1, m1, l1, B2, m2, l2, B3, m3, l3, B4, m4, l4, B5, m5, l5, p1, p2, p3, p4, p5⟩ := hat8 j hjt
            clear hat7 hat8
            have hpblt := World.block_lt_of_cell? _ _ p0
            have x0 := HX.out.cell 0
            simp only [List.getElem?_toArray, List.getElem?_cons_zero] at x0
            have xlt := HX.out.lt
            have hw2 : IntKind.i64.wrap ((j : Int) + 1) = (j : Int) + 1 := IntWalk.i64_in _ (by have := HPL.out ups.length (Nat.le_refl _); have := HTOT.out; have := HTHIS.out HQ.out; unfold Hr.links at hL; rw [HTHIS.out HQ.out] at HTOT; have := HTOT.out; omega)
            have hjtI : (j : Int) < ups.length := by omega
            have hpl := HPL.out j (by omega)
            have hpu := HPL.out ups.length (Nat.le_refl _)
            have htt := HTOT.out
            rw [HTHIS.out HQ.out] at htt
            unfold Hr.links at hL
            have HST := Lib.hid (HSTEP.out j hjt)
            have hBs2 := HB.out.size
            generalize ups[j] = M at *
            have B5' : Hid (Below (g + 1) wF ((wr.alloc (.cells #[nm M, .slice B1 m1 l1, .slice B2 m2 l2, .slice B3 m3 l3, .slice B4 m4 l4, .slice B5 m5 l5] 52)).alloc (.cells #[nm N, nm M] 64))) := (HB.out.alloc (by omega) _).alloc (by rw [World.size_alloc]; omega) _
            have O5 : Hid (World.ownsRow ((wr.alloc (.cells #[nm M, .slice B1 m1 l1, .slice B2 m2 l2, .slice B3 m3 l3, .slice B4 m4 l4, .slice B5 m5 l5] 52)).alloc (.cells #[nm N, nm M] 64)) (g + 1) 64 2 u4 (Hr.linksPart S q ⟨N, ups⟩ j).length (linkCells (Hr.linksPart S q ⟨N, ups⟩ j))) := (HO.out.alloc _).alloc _
            have X5 : Hid (Has ((wr.alloc (.cells #[nm M, .slice B1 m1 l1, .slice B2 m2 l2, .slice B3 m3 l3, .slice B4 m4 l4, .slice B5 m5 l5] 52)).alloc (.cells #[nm N, nm M] 64)) X 48 #[nm N, .bool d1, .slice A2 n2 k2, .slice (some ⟨pb, po, none⟩) ups.length k3, .slice A4 n4 k4, .slice A5 n5 k5, .slice A6 n6 k6]) := (HX.out.alloc _).alloc _
            have N1 : Hid (∀ i u, ([nm N, nm M] : List Value)[i]? = some u → World.cell? ((wr.alloc (.cells #[nm M, .slice B1 m1 l1, .slice B2 m2 l2, .slice B3 m3 l3, .slice B4 m4 l4, .slice B5 m5 l5] 52)).alloc (.cells #[nm N, nm M] 64)) ((⟨wr.heap.size + 1, 0, none⟩ : Addr).add i) = some u) := fun i u hu => by
              have hh := Has.new (wr.alloc (.cells #[nm M, .slice B1 m1 l1, .slice B2 m2 l2, .slice B3 m3 l3, .slice B4 m4 l4, .slice B5 m5 l5] 52)) 64 #[nm N, nm M]
              rw [World.size_alloc] at hh
              have := hh.cell i
              rw [show ((⟨wr.heap.size + 1, 0, none⟩ : Addr).add i) = ⟨wr.heap.size + 1, i, none⟩ from by unfold Addr.add; split <;> simp_all]
              rw [this]; simpa using hu
            have N7 : Hid (g + 1 ≤ (World.heap ((wr.alloc (.cells #[nm M, .slice B1 m1 l1, .slice B2 m2 l2, .slice B3 m3 l3, .slice B4 m4 l4, .slice B5 m5 l5] 52)).alloc (.cells #[nm N, nm M] 64))).size) := by have := B5'.out.size; show _ ≤ _; omega
            have N8 : Hid ((Hr.linksPart S q ⟨N, ups⟩ j).length + 1 ≤ maxLen) := by show _ ≤ _; unfold maxLen; omega
            have N9 : Hid (((Hr.linksPart S q ⟨N, ups⟩ j).length + 1) * 32 ≤ 140737488355328) := by show _ ≤ _; omega
            go_wp2_with (at_builtin; refine wpList_append_own_at _ rfl _ _ 59 rfl (g + 1) 64 i0 (.agg #[.string ⟨#[]⟩, .string ⟨#[]⟩]) 2 32 Try.underlying59 hi hz0 hz1 hz2 rfl (by decide) _ _ _ rfl O5.out ⟨wr.heap.size + 1, 0, none⟩ 1 1 [nm N, nm M] rfl rfl N1.out (by simp [Value.oneCell']) N8.out N9.out N7.out ?_)
            intro v' w5 hown5 hg5 _ hat5
            have hb5 := Below.grown B5'.out hg5 N7.out (fun g hg => own_ge O5.out hg)
            have hx5 := X5.out.grown hg5 (own_apart O5.out X5.out (by decide))
            have R1 := Lib.hid hown5
            have R2 := Lib.hid hb5
            have R3 := Lib.hid hx5
            clear hown5 hb5 hx5 hg5 hat5
            go_wp2_with fail
            go_roundw
            case rel =>
              refine ⟨j + 1, by omega, by go_num, ?_, R2, R3⟩
              show World.ownsRow _ _ _ _ _ _ _
              rw [HST.out, linkCells_append, List.length_append, hpl]
              exact R1.out
            case measure => simp [intOf]; omega
          · obtain rfl : j = ups.length := by omega
            go_wp2_with fail
            go_roundw
            case rel => exact ⟨q + 1, by omega, by go_num, by rw [HTHIS.out HQ.out]; exact HO, HB⟩
            case measure => simp [intOf]; omega
      · have hqI : ¬ (q : Int) = k := by omega
        have hqI2 : ¬ (k : Int) = q := by omega
        have HF := Lib.hid (HOTH.out (by rw [HQ.out]; intro h; injection h with h; exact hqk' h))
        go_wp2_with (at_lookup; refine wpI_at rfl _ _ rfl Try.underlying9 tMap Try.underlying3 (zInt _) rfl HM1.out N rfl hn _ HVAL.out ?_)
        go_roundw
        case rel => exact ⟨k + 1, by omega, by go_num, by rw [HF.out]; exact HO1.out, HB1.out⟩
        case measure => simp [intOf]; omega
    · obtain rfl : k = S.length := by omega
      go_wp2_with fail
      go_ret
      refine ⟨_, rfl, ?_, ?_⟩
      · rw [hg]; exact own_base HO.out (Nat.le_succ _)
      · rw [hg]; exact HBF.out.trans (HB.out.mono (Nat.le_succ _))
end Go.Proofs.Ytojfimbanaijdaa
