/-
  What Check returns, in package heir, of a valid system.
-/
import Derived.Test.YtojfimbanaijdaaHCheckF
namespace Go.Proofs.Ytojfimbanaijdaa
open Go.RowKit Go.Shelf

/-- A valid system. -/
structure Hr.Valid (S : List Hr.Cls) : Prop where
  h24 : S.length ≤ 24
  hal : ∀ i (h : i < S.length), Hr.alone S[i] = 0 ∧ Hr.firstAt S S[i].name = some i
  hup : ∀ i (h : i < S.length), (S[i].ups.any fun p => ((Hr.firstAt S p).map Int.ofNat).isNone) = false
  hno : (Hr.visited (Hr.links S) (Hr.sources (Hr.links S))).ring = false
  hL : (Hr.links S).length ≤ 400000

set_option maxRecDepth 100000 in
/-- 'm[name]' as an equation, for a guarded look-up. -/
theorem run_lookI {w : World} {b n : Nat} {f : Hr.Nm → Option Int} (h : MI w b n f) (N : Hr.Nm) (hs : N.length ≤ 140737488355328) (i : Int) (hf : (f N).getD 0 = i) :
    (Instr.lookup 58 (.map (some b)) (nm N) false).run Try.prog w = .ok (.int .i64 i) w := by
  obtain ⟨D, h1, _, h3⟩ := h
  obtain ⟨c, hrun, hat, _⟩ := h1.lookup_int (Maps.string_keyed Try.underlying9) tMap Try.underlying3 (zInt w) (WideMaps.keyOf_string_mk Try.underlying9 (size_fine hs))
  rw [show (⟨N.toArray⟩ : ByteArray).data.toList = N from by simp, (h3 N).2] at hat
  injection hat with hat
  injection hat with _ hat
  rw [← hf, hat]
  exact hrun

set_option maxRecDepth 100000 in
set_option maxHeartbeats 2000000 in
theorem Check_ok (v : Value) (S : List Hr.Cls) (w : World) (h : SysAt w v S) (hV : Hr.Valid S) :
    Calls Try.prog 16 #[v] w fun e w' => e = .returned (.tuple #[.int .i64 0, .string ⟨#[]⟩]) ∧ Below w.heap.size w w' := by
  have h24 := hV.h24
  have HV := Lib.hid hV
  have HF := Lib.hid (firsts_any v S w h (by omega))
  have HC := Lib.hid h
  obtain ⟨A, c, rfl, -⟩ := h
  clear hV
  have h24I : ¬ (24 : Int) < S.length := by omega
  go_enter Try.func16, Try.ntmps16
  go_wp2_with (first
    | (go_at_call 41; refine HF.out.mono ?_
       rintro e w1 ⟨m, rfl, hmw, hm, hb1⟩
       have HM1 := Lib.hid hm
       have HB1 := Lib.hid hb1
       clear hm hb1 hmw))
  obtain ⟨w2, hw2⟩ : ∃ w2, w2 = w1.alloc (.cells #[.map (some m)] 58) := ⟨_, rfl⟩
  rw [← hw2]
  obtain ⟨X, hX⟩ : ∃ X, X = w1.heap.size := ⟨_, rfl⟩
  rw [← hX]
  have hx2 : w2.cell? ⟨X, 0, none⟩ = some (.map (some m)) := by
    rw [hw2, hX]
    exact (Has.new w1 58 #[.map (some m)]).cell 0
  have hsz2 : w2.heap.size = X + 1 := by rw [hw2, hX]; simp
  have HM2 : Hid (MI w2 m S.length (fun s => (Hr.firstAt S s).map Int.ofNat)) := by rw [hw2]; exact HM1.out.alloc _
  have HB2 : Hid (Below w.heap.size w w2) := by rw [hw2]; exact HB1.out.alloc HB1.out.size _
  have HX2 := Lib.hid hx2
  clear hw2 hX HM1 HB1 hx2
  have hs2 := HB2.out.size
  go_wp2_with fail
  go_loopw [19] (fun i wr => ∃ k : Nat, k ≤ S.length ∧ i = .int .i64 k ∧ Hid (Below w2.heap.size w2 wr)) (fun i _ => S.length - (intOf i).toNat)
  case atStart => exact ⟨0, Nat.zero_le _, rfl, Below.refl _ _⟩
  case round =>
    obtain ⟨k, hk, rfl, HB⟩ := hrel
    by_cases hlt : k < S.length
    · have hBw : Below w.heap.size w wr := HB2.out.trans (HB.out.mono hs2)
      obtain ⟨A', c', hv, hat1⟩ := HC.out.below hBw (Nat.le_refl _)
      cases hv
      obtain ⟨b, o, hA, hat⟩ := hat1 (by omega)
      subst hA
      obtain ⟨hn, c0, d1, A2, n2, k2, A3, k3, A4, n4, k4, A5, n5, k5, A6, n6, k6, c1, c2, c3, hups, c4, c5, c6⟩ := hat k hlt
      have hblt := World.block_lt_of_cell? _ _ c0
      have hw1 : IntKind.i64.wrap ((k : Int) + 1) = (k : Int) + 1 := IntWalk.i64_in _ (by omega)
      have hltI : (k : Int) < S.length := by omega
      have hBs := HB.out.size
      have hxr := kept_below HB.out (Nat.le_refl _) _ _ HX2.out
      obtain ⟨hal, hfa⟩ := HV.out.hal k hlt
      have hval : ((fun s => (Hr.firstAt S s).map Int.ofNat) S[k].name).getD 0 = (k : Int) := by simp [hfa]
      have hB3 : Below wr.heap.size wr (wr.alloc (.cells #[nm S[k].name, .bool d1, .slice A2 n2 k2, .slice A3 S[k].ups.length k3, .slice A4 n4 k4, .slice A5 n5 k5, .slice A6 n6 k6] 48)) := (Below.refl _ _).alloc (Nat.le_refl _) _
      have HAL := Lib.hid (alone_any S[k] d1 A2 A3 A4 A5 A6 n2 k2 k3 n4 k4 n5 k5 n6 k6 (wr.alloc (.cells #[nm S[k].name, .bool d1, .slice A2 n2 k2, .slice A3 S[k].ups.length k3, .slice A4 n4 k4, .slice A5 n5 k5, .slice A6 n6 k6] 48)) hn (hups.keep (kept_below hB3 (Nat.le_refl _))))
      rw [hal] at HAL
      have HVAL := Lib.hid hval
      have HMR := Lib.hid ((HM2.out.below HB.out HM2.out.lt).alloc (.cells #[nm S[k].name, .bool d1, .slice A2 n2 k2, .slice A3 S[k].ups.length k3, .slice A4 n4 k4, .slice A5 n5 k5, .slice A6 n6 k6] 48))
      have HB3 := Lib.hid (HB.out.alloc hBs (.cells #[nm S[k].name, .bool d1, .slice A2 n2 k2, .slice A3 S[k].ups.length k3, .slice A4 n4 k4, .slice A5 n5 k5, .slice A6 n6 k6] 48))
      have hxc := Has.new wr 48 #[nm S[k].name, .bool d1, .slice A2 n2 k2, .slice A3 S[k].ups.length k3, .slice A4 n4 k4, .slice A5 n5 k5, .slice A6 n6 k6]
      have HXC := Lib.hid hxc
      clear hat hat1 hups hal hfa hval hB3 hxc
      generalize S[k].name = N at *
      generalize S[k].ups.length = n3 at *
      have hkk : ¬ (k : Int) < k := by omega
      go_wp2_with (first
        | (go_at_call 42; refine HAL.out.mono ?_
           rintro e w4 ⟨rfl, hb4⟩
           have hx4 := HXC.out.below hb4 (by simp)
           have y0 := hx4.cell 0
           have y4 := kept_below hb4 (Nat.le_refl _) _ _ ((kept_below ((Below.refl wr.heap.size wr).alloc (Nat.le_refl _) (.cells #[nm N, .bool d1, .slice A2 n2 k2, .slice A3 n3 k3, .slice A4 n4 k4, .slice A5 n5 k5, .slice A6 n6 k6] 48)) (Nat.le_refl _)) _ _ hxr)
           have ylt := hx4.lt
           have zlt := World.block_lt_of_cell? _ _ y4
           simp only [List.getElem?_toArray, List.getElem?_cons_zero] at y0
           have hlk := run_lookI (HMR.out.below hb4 HMR.out.lt) N hn _ HVAL.out
           have HB4 := Lib.hid (stepN HB3.out hb4)
           clear hb4 hx4))
      go_roundw
      case rel => exact ⟨k + 1, by omega, by go_num, HB4⟩
      case measure => simp [intOf]; omega
    · obtain rfl : k = S.length := by omega
      have HBE := Lib.hid HB.out
      clear HB
      generalize hwe : wr = wE at *
      clear hwe
      go_wp2_with fail
      go_loopw [44] (fun i wr => ∃ k : Nat, k ≤ S.length ∧ i = .int .i64 k ∧ Hid (Below w2.heap.size w2 wr)) (fun i _ => S.length - (intOf i).toNat)
      case atStart => exact ⟨0, Nat.zero_le _, rfl, HBE⟩
      case round =>
        obtain ⟨k, hk, rfl, HB⟩ := hrel
        have hBw : Below w.heap.size w wr := HB2.out.trans (HB.out.mono hs2)
        by_cases hlt : k < S.length
        · obtain ⟨A', c', hv, hat1⟩ := HC.out.below hBw (Nat.le_refl _)
          cases hv
          obtain ⟨b, o, hA, hat⟩ := hat1 (by omega)
          subst hA
          obtain ⟨hn, c0, d1, A2, n2, k2, A3, k3, A4, n4, k4, A5, n5, k5, A6, n6, k6, c1, c2, c3, hups, c4, c5, c6⟩ := hat k hlt
          have hblt := World.block_lt_of_cell? _ _ c0
          have hw1 : IntKind.i64.wrap ((k : Int) + 1) = (k : Int) + 1 := IntWalk.i64_in _ (by omega)
          have hltI : (k : Int) < S.length := by omega
          have hBs := HB.out.size
          have hxr := kept_below HB.out (Nat.le_refl _) _ _ HX2.out
          have hup := HV.out.hup k hlt
          have hB3 : Below wr.heap.size wr (wr.alloc (.cells #[nm S[k].name, .bool d1, .slice A2 n2 k2, .slice A3 S[k].ups.length k3, .slice A4 n4 k4, .slice A5 n5 k5, .slice A6 n6 k6] 48)) := (Below.refl _ _).alloc (Nat.le_refl _) _
          have hal := (HV.out.hal k hlt).1
          have hul : S[k].ups.length ≤ 1000000 := by
            unfold Hr.alone at hal
            split at hal
            · cases hal
            · omega
          have HCF := Lib.hid (containsFunc_any _ S[k].ups X m S.length _ (wr.alloc (.cells #[nm S[k].name, .bool d1, .slice A2 n2 k2, .slice A3 S[k].ups.length k3, .slice A4 n4 k4, .slice A5 n5 k5, .slice A6 n6 k6] 48)) (hups.keep (kept_below hB3 (Nat.le_refl _))) hul ((kept_below hB3 (Nat.le_refl _)) _ _ hxr) ((HM2.out.below HB.out HM2.out.lt).alloc (.cells #[nm S[k].name, .bool d1, .slice A2 n2 k2, .slice A3 S[k].ups.length k3, .slice A4 n4 k4, .slice A5 n5 k5, .slice A6 n6 k6] 48)))
          rw [hup] at HCF
          have HB3 := Lib.hid (HB.out.alloc hBs (.cells #[nm S[k].name, .bool d1, .slice A2 n2 k2, .slice A3 S[k].ups.length k3, .slice A4 n4 k4, .slice A5 n5 k5, .slice A6 n6 k6] 48))
          clear hat hat1 hups hB3 hup hal hul
          go_wp2_with (go_at_call 43; refine HCF.out.mono ?_; rintro e w4 ⟨rfl, hb4⟩)
          have HB4 := Lib.hid (stepN HB3.out hb4)
          go_roundw
          case rel => exact ⟨k + 1, by omega, by go_num, HB4⟩
          case measure => simp [intOf]; omega
        · obtain rfl : k = S.length := by omega
          have HRN := Lib.hid (Ring_none _ S wr (HC.out.below hBw (Nat.le_refl _)) (by omega) HV.out.hL HV.out.hno)
          have HBW := Lib.hid hBw
          clear hBw
          go_wp2_with (go_at_call 17; refine HRN.out.mono ?_; rintro e w4 ⟨rfl, hb4⟩)
          have HBF := Lib.hid (stepN HBW.out hb4)
          refine bodyPost_ret (v := .tuple #[.int .i64 0, .string ⟨#[]⟩]) ?_ rfl ⟨rfl, HBF.out⟩
          simp [results, Try.results16, go_sem]
end Go.Proofs.Ytojfimbanaijdaa
