/-
  What Same returns where both texts are right, in package lex: whether their tokens are the same but for places.
-/
import Derived.Test.YtadicempblgmhaaDoorSane
import Derived.Test.YtadicempblgmhaaDoorTight
namespace Go.Proofs.YtadicempblgmhaaDoor
open Go.RowKit Go.Shelf

namespace Lx
def likes (a b : Tok) : Bool := (a.kind == b.kind) && (a.text == b.text)
theorem kinds_nth (l m : List Tok) (h : l.length = m.length) : kinds l = kinds m ↔ ∀ i (h1 : i < l.length) (h2 : i < m.length), likes l[i] m[i] = true := by
  unfold kinds likes
  constructor
  · intro e i h1 h2
    have := congrArg (·[i]?) e
    simp only [List.getElem?_map, List.getElem?_eq_getElem h1, List.getElem?_eq_getElem h2, Option.map_some, Option.some.injEq, Prod.mk.injEq] at this
    simp [this.1, this.2]
  · intro e
    apply List.ext_getElem (by simp [h])
    intro i h1 h2
    simp only [List.length_map] at h1 h2
    have := e i h1 h2
    simp only [Bool.and_eq_true, beq_iff_eq] at this
    simp [this.1, this.2]
theorem kinds_length {l m : List Tok} (h : kinds l = kinds m) : l.length = m.length := by
  have := congrArg List.length h
  simpa [kinds] using this
end Lx

theorem alike_any (a b : Lx.Tok) (w : World) : Calls Tryd.prog 91 #[tokVal a, tokVal b] w fun e w' => e = .returned (.bool (Lx.likes a b)) ∧ Below w.heap.size w w' := by
  obtain ⟨ak, atx, al, ac⟩ := a
  obtain ⟨bk, btx, bl, bc⟩ := b
  have hl : Lx.likes ⟨ak, atx, al, ac⟩ ⟨bk, btx, bl, bc⟩ = ((ak == bk) && (atx == btx)) := rfl
  have hB : Below w.heap.size w ((w.alloc (.cells #[.int .i64 ak, .string ⟨atx.toArray⟩, .int .i64 al, .int .i64 ac] 55)).alloc (.cells #[.int .i64 bk, .string ⟨btx.toArray⟩, .int .i64 bl, .int .i64 bc] 55)) := ((Below.refl _ _).alloc (Nat.le_refl _) _).alloc (by simp) _
  have HL := Lib.hid hl
  have HB := Lib.hid hB
  clear hl hB
  generalize Lx.likes ⟨ak, atx, al, ac⟩ ⟨bk, btx, bl, bc⟩ = r at *
  by_cases hk : ak = bk
  · subst hk
    by_cases htx : atx = btx
    · subst htx
      go_enter Tryd.func91, Tryd.ntmps91
      go_wp2
      go_ret
      exact ⟨ret_bool (by rw [HL.out]; simp), HB.out⟩
    · have ht : ((⟨atx.toArray⟩ : ByteArray).toList == (⟨btx.toArray⟩ : ByteArray).toList) = false := by rw [Lib.toList_data, Lib.toList_data]; simpa using htx
      go_enter Tryd.func91, Tryd.ntmps91
      go_wp2
      go_ret
      exact ⟨ret_bool (by rw [HL.out]; simp [htx]), HB.out⟩
  · have hkb : (ak == bk) = false := by simpa using hk
    go_enter Tryd.func91, Tryd.ntmps91
    go_wp2
    go_ret
    exact ⟨ret_bool (by rw [HL.out, hkb]; simp), HB.out⟩

set_option maxRecDepth 100000 in
set_option maxHeartbeats 2000000 in
theorem equal_any (u v : Value) (l m : List Lx.Tok) (w : World) (hl : ToksAt w u l) (hm : ToksAt w v m) (hlen : l.length ≤ 100000) (hlen2 : m.length ≤ 100000) :
    Calls Tryd.prog 90 #[u, v, .func (.func 91) #[] #[]] w fun e w' => e = .returned (.bool (decide (Lx.kinds l = Lx.kinds m))) ∧ Below w.heap.size w w' := by
  have HLt := Lib.hid hl
  have HMt := Lib.hid hm
  obtain ⟨A, c, rfl, -⟩ := hl
  obtain ⟨A', c', rfl, -⟩ := hm
  by_cases hne : (l.length : Int) = m.length
  · have hno : l.length = m.length := by omega
    have hiff := Lx.kinds_nth l m hno
    have HI := Lib.hid hiff
    have HNO := Lib.hid hno
    clear hiff hno
    have hml : m.length = l.length := by omega
    have hMt2 := HMt.out
    clear HMt
    rw [hml] at hMt2
    have HMt := Lib.hid hMt2
    clear hMt2
    rw [hml]
    have HML := Lib.hid hml
    clear hne hml hlen2
    go_enter Tryd.func90, Tryd.ntmps90
    go_wp2_with fail
    go_loopw [17] (fun i wr => ∃ j : Nat, j ≤ l.length ∧ i = .int .i64 j ∧ (∀ k (_ : k < j) (h1 : k < l.length) (h2 : k < m.length), Lx.likes l[k] m[k] = true) ∧ Below w.heap.size w wr) (fun i _ => l.length - (intOf i).toNat)
    case atStart => exact ⟨0, Nat.zero_le _, rfl, fun k hk => absurd hk (Nat.not_lt_zero _), Below.refl _ _⟩
    case round =>
      obtain ⟨j, hj, rfl, hall, hB⟩ := hrel
      have HAll := Lib.hid hall
      have HB := Lib.hid hB
      clear hall hB
      by_cases hlt : j < l.length
      · have hlt2 : j < m.length := by rw [HML.out]; exact hlt
        obtain ⟨b1, o1, d1, hv1, k1⟩ := HLt.out.first (by omega)
        have HMt' := HMt.out
        rw [← HML.out] at HMt'
        obtain ⟨b2, o2, d2, hv2, k2⟩ := HMt'.first (by omega)
        cases hv1
        rw [HML.out] at hv2
        cases hv2
        clear HMt'
        have t1 := (k1 j hlt).below HB.out (Nat.le_refl _)
        have t2 := (k2 j hlt2).below HB.out (Nat.le_refl _)
        clear k1 k2
        have hstep : Lx.likes l[j] m[j] = true → ∀ k (_ : k < j + 1) (h1 : k < l.length) (h2 : k < m.length), Lx.likes l[k] m[k] = true := fun h k hk h1 h2 => by
          rcases Nat.lt_or_ge k j with h3 | h3
          · exact HAll.out k h3 h1 h2
          · obtain rfl : k = j := by omega
            exact h
        have hstop : Lx.likes l[j] m[j] = false → decide (Lx.kinds l = Lx.kinds m) = false := fun h => by
          rw [decide_eq_false_iff_not, HI.out]
          intro h2
          have := h2 j hlt hlt2
          rw [h] at this
          cases this
        have CA := Lib.hid (fun W => alike_any l[j] m[j] W)
        generalize l[j] = x at *
        generalize m[j] = y at *
        generalize hlk : Lx.likes x y = lk at *
        have HST := Lib.hid hstep
        have HSP := Lib.hid hstop
        clear hstep hstop hlk
        obtain ⟨xk, xt, xl, xc⟩ := x
        obtain ⟨yk, yt, yl, yc⟩ := y
        obtain ⟨e0, e1, e2, e3⟩ := t1
        obtain ⟨g0, g1, g2, g3⟩ := t2
        dsimp only at e0 e1 e2 e3 g0 g1 g2 g3
        have hjI : (j : Int) < l.length := by omega
        have b1lt := World.block_lt_of_cell? _ _ e0
        have b2lt := World.block_lt_of_cell? _ _ g0
        have HLT2 := Lib.hid hlt2
        clear hlt2
        have HBW := Lib.hid ((HB.out.alloc HB.out.size (.cells #[.int .i64 xk, .string ⟨xt.toArray⟩, .int .i64 xl, .int .i64 xc] 55)).alloc (by rw [World.size_alloc]; have := HB.out.size; omega) (.cells #[.int .i64 yk, .string ⟨yt.toArray⟩, .int .i64 yl, .int .i64 yc] 55))
        cases lk
        · go_wp2_with fail
          refine (CA.out _).mono ?_
          rintro e w3 ⟨rfl, hb3⟩
          have BZ := Lib.hid (stepN HBW.out hb3)
          clear hb3
          go_wp2_with fail
          go_ret
          exact ⟨ret_bool (HSP.out (by trivial)).symm, BZ.out⟩
        · go_wp2_with fail
          refine (CA.out _).mono ?_
          rintro e w3 ⟨rfl, hb3⟩
          have BZ := Lib.hid (stepN HBW.out hb3)
          clear hb3
          go_wp2_with fail
          go_roundw
          case rel => exact ⟨j + 1, hlt, by go_num, HST.out (by trivial), BZ.out⟩
          case measure => simp [intOf]; omega
      · obtain rfl : j = l.length := by omega
        have hfin : decide (Lx.kinds l = Lx.kinds m) = true := by
          rw [decide_eq_true_eq, HI.out]
          exact fun i h1 h2 => HAll.out i h1 h1 h2
        have HF := Lib.hid hfin
        clear hfin
        go_wp2_with fail
        go_ret
        exact ⟨ret_bool HF.out.symm, HB.out⟩
  · have hfin : decide (Lx.kinds l = Lx.kinds m) = false := decide_eq_false (fun h => hne (by rw [Lx.kinds_length h]))
    have HF := Lib.hid hfin
    clear hfin
    generalize decide (Lx.kinds l = Lx.kinds m) = fin at *
    go_enter Tryd.func90, Tryd.ntmps90
    go_wp2_with fail
    go_ret
    exact ⟨ret_bool (by rw [HF.out]), Below.refl _ _⟩

set_option maxRecDepth 100000 in
set_option maxHeartbeats 2000000 in
theorem Same_good (a b : ByteArray) (w : World) (hE : Env w) (ha : a.size ≤ 100000) (hb : b.size ≤ 100000) (ea : (Lx.readText a.data.toList).err = 0) (eb : (Lx.readText b.data.toList).err = 0) (hk : Lx.kinds (Lx.readText a.data.toList).toks = Lx.kinds (Lx.readText b.data.toList).toks) (la : (Lx.readText a.data.toList).toks.length ≤ 100000) (lb : (Lx.readText b.data.toList).toks.length ≤ 100000) :
    Calls Tryd.prog 44 #[.string a, .string b] w fun e w' => e = .returned (.tuple #[.bool true, .int .i64 0]) ∧ Below w.heap.size w w' := by
  have CA := Lib.hid (readText_any a w ha hE)
  have CB := Lib.hid (fun W (h : Below w.heap.size w W) => readText_any b W hb (hE.below h (Nat.le_refl _)))
  generalize Lx.readText a.data.toList = R at *
  generalize Lx.readText b.data.toList = S at *
  obtain ⟨rt, rn, rl, rc, re⟩ := R
  obtain ⟨st, sn, sl, sc, se⟩ := S
  dsimp only at ea eb hk la lb
  subst ea eb
  have HK := Lib.hid hk
  clear hk
  go_enter Tryd.func44, Tryd.ntmps44
  go_wp2_with fail
  refine CA.out.mono ?_
  rintro e w1 ⟨vt, vn, rfl, o1, o2, hb1⟩
  dsimp only at o1 o2
  obtain ⟨At, ct, rfl⟩ := own_len o1
  obtain ⟨An, cn, rfl⟩ := own_len o2
  have B1 := Lib.hid hb1
  have T1 := Lib.hid (ToksAt.of_own o1)
  clear hb1 o1 o2
  have hH := Has.new w1 98 #[.slice At rt.length ct, .slice An rn.length cn, .int .i64 rl, .int .i64 rc, .int .i64 0]
  have HH := Lib.hid hH
  clear hH
  go_wp2_with fail
  refine (CB.out _ (B1.out.alloc B1.out.size _)).mono ?_
  rintro e w2 ⟨vt2, vn2, rfl, o1, o2, hb2⟩
  dsimp only at o1 o2
  obtain ⟨At2, ct2, rfl⟩ := own_len o1
  obtain ⟨An2, cn2, rfl⟩ := own_len o2
  have B2 := Lib.hid (stepA B1.out _ hb2)
  have T2 := Lib.hid (ToksAt.of_own o1)
  have T12 := Lib.hid ((T1.out.below ((Below.refl _ _).alloc (Nat.le_refl _) (.cells #[.slice At rt.length ct, .slice An rn.length cn, .int .i64 rl, .int .i64 rc, .int .i64 0] 98)) (Nat.le_refl _)).below hb2 (Nat.le_refl _))
  have hH2 := HH.out.below hb2 HH.out.lt
  have r0 := hH2.cell 0
  have r4 := hH2.cell 4
  have ltw := hH2.lt
  simp only [List.getElem?_toArray, List.getElem?_cons_zero, List.getElem?_cons_succ] at r0 r4
  clear hb2 o1 o2 hH2 HH
  have hA2 := (Below.refl w2.heap.size w2).alloc (Nat.le_refl _) (.cells #[.slice At2 st.length ct2, .slice An2 sn.length cn2, .int .i64 sl, .int .i64 sc, .int .i64 0] 98)
  have CE := Lib.hid (equal_any _ _ rt st _ (T12.out.below hA2 (Nat.le_refl _)) (T2.out.below hA2 (Nat.le_refl _)) la lb)
  rw [show decide (Lx.kinds rt = Lx.kinds st) = true from decide_eq_true HK.out] at CE
  clear hA2
  go_wp2_with fail
  refine CE.out.mono ?_
  rintro e w3 ⟨rfl, hb3⟩
  have B3 := Lib.hid (stepA B2.out _ hb3)
  clear hb3
  go_wp2_with fail
  go_ret2
  exact ⟨rfl, B3.out⟩
end Go.Proofs.YtadicempblgmhaaDoor
