/-
  What has, firsts and graphOf return, in package heir: maps from names to where they stand first.
-/
import Derived.Test.YtojfimbanaijdaaHMem
import Derived.Test.YtojfimbanaijdaaHFirstP
import Derived.Lib.TrimByte
import Derived.Lib.Hide
import Derived.WalkArith
namespace Go.Proofs.Ytojfimbanaijdaa
open Go.RowKit Go.Shelf

theorem tMap : Try.prog.underlying 58 = some (.map 9 3) := Try.underlying58
theorem zInt (w : World) : (zeroValue 3).run Try.prog w = .ok (.int .i64 0) w := Try.zeroValue3 w
abbrev MI (w : World) (m k : Nat) (f : Hr.Nm → Option Int) : Prop := MapI Try.prog 9 3 w m k f

theorem size_fine {s : Hr.Nm} (hs : s.length ≤ 140737488355328) : (⟨s.toArray⟩ : ByteArray).size ≤ maxLen := by
  rw [Lib.size_mk]
  show s.length ≤ 9223372036854775807
  omega

theorem has_any (m k : Nat) (f : Hr.Nm → Option Int) (s : Hr.Nm) (w : World) (hs : s.length ≤ 140737488355328) (h : MI w m k f) :
    Calls Try.prog 45 #[.map (some m), nm s] w fun e w' => e = .returned (.bool (f s).isSome) ∧ w = w' := by
  have hz : (⟨s.toArray⟩ : ByteArray).size ≤ maxLen := size_fine hs
  have H := Lib.hid h
  clear h
  go_enter Try.func45, Try.ntmps45
  go_wp2_with (at_lookup; refine wpI_look_ok rfl _ _ rfl Try.underlying9 tMap Try.underlying3 (zInt _) rfl H.out _ rfl hz ?_)
  go_ret
  exact ⟨by simp, rfl⟩

theorem Below.alloc' {B : Nat} {w W : World} (h : Below B w W) (hB : B ≤ w.heap.size) (o : Obj) : Below B w (W.alloc o) := h.alloc (Nat.le_trans hB h.size) o

set_option maxRecDepth 100000 in
set_option maxHeartbeats 1000000 in
theorem firsts_any (v : Value) (S : List Hr.Cls) (w : World) (h : SysAt w v S) (hS : S.length ≤ 1000000) :
    Calls Try.prog 41 #[v] w fun e w' => ∃ m, e = .returned (.map (some m)) ∧ m = w.heap.size ∧ MI w' m S.length (fun s => (Hr.firstAt S s).map Int.ofNat) ∧ Below w.heap.size w w' := by
  have HC := Lib.hid h
  obtain ⟨A, c, rfl, -⟩ := h
  have h0 : MI (w.alloc (.map #[] 0)) w.heap.size 0 (fun s => (Hr.firstAt (S.take 0) s).map Int.ofNat) := MapI.made w
  have H0 := Lib.hid h0
  have hB0 : Below w.heap.size w (w.alloc (.map #[] 0)) := (Below.refl _ _).alloc (Nat.le_refl _) _
  have HB0 := Lib.hid hB0
  clear h0 hB0
  have hmm := @run_makeMap Try.prog
  go_enter Try.func41, Try.ntmps41
  go_wp2_with fail
  generalize hg : w.heap.size = g at *
  go_loopw [9] (fun i wr => ∃ k : Nat, k ≤ S.length ∧ i = .int .i64 k ∧ Hid (MI wr g k (fun s => (Hr.firstAt (S.take k) s).map Int.ofNat)) ∧ Hid (Below g w wr)) (fun i _ => S.length - (intOf i).toNat)
  case atStart => exact ⟨0, Nat.zero_le _, rfl, H0.out, HB0.out⟩
  case round =>
    obtain ⟨k, hk, rfl, HM, HB⟩ := hrel
    by_cases hlt : k < S.length
    · obtain ⟨A', c', hv, hat1⟩ := HC.out.below HB.out (by omega)
      cases hv
      obtain ⟨b, o, hA, hat⟩ := hat1 (by omega)
      subst hA
      clear hat1
      obtain ⟨hn, c0, d1, A2, n2, k2, A3, k3, A4, n4, k4, A5, n5, k5, A6, n6, k6, c1, c2, c3, -, c4, c5, c6⟩ := hat k hlt
      have hblt := World.block_lt_of_cell? _ _ c0
      have hkt : ((fun s => (Hr.firstAt (S.take k) s).map Int.ofNat) S[k].name).isSome = false → upd (fun s => (Hr.firstAt (S.take k) s).map Int.ofNat) S[k].name (k : Int) = fun s => (Hr.firstAt (S.take (k + 1)) s).map Int.ofNat :=
        fun h => Hr.firstAt_upd S k hlt (by cases hx : Hr.firstAt (S.take k) S[k].name <;> simp_all)
      have hkk : ((fun s => (Hr.firstAt (S.take k) s).map Int.ofNat) S[k].name).isSome = true → (fun s => (Hr.firstAt (S.take k) s).map Int.ofNat) = fun s => (Hr.firstAt (S.take (k + 1)) s).map Int.ofNat :=
        fun h => Hr.firstAt_keep S k hlt (by intro hx; simp [hx] at h)
      have HKT := Lib.hid hkt
      have HKK := Lib.hid hkk
      clear hkt hkk hat
      have hw1 : IntKind.i64.wrap ((k : Int) + 1) = (k : Int) + 1 := IntWalk.i64_in _ (by omega)
      have hltI : (k : Int) < S.length := by omega
      generalize (fun s => (Hr.firstAt (S.take k) s).map Int.ofNat) = fk at *
      obtain ⟨fk', hfk'⟩ : ∃ f, f = fun s => (Hr.firstAt (S.take (k + 1)) s).map Int.ofNat := ⟨_, rfl⟩
      rw [← hfk'] at HKT HKK
      have HFK := Lib.hid hfk'
      clear hfk'
      generalize S[k].name = N at *
      generalize S[k].ups.length = n3 at *
      have HM1 := Lib.hid (HM.out.alloc (.cells #[nm N, .bool d1, .slice A2 n2 k2, .slice A3 n3 k3, .slice A4 n4 k4, .slice A5 n5 k5, .slice A6 n6 k6] 48))
      have hgr : g < wr.heap.size := HM.out.lt
      clear HM
      have HB1 := Lib.hid (HB.out.alloc (by omega) (.cells #[nm N, .bool d1, .slice A2 n2 k2, .slice A3 n3 k3, .slice A4 n4 k4, .slice A5 n5 k5, .slice A6 n6 k6] 48))
      by_cases hf : (fk N).isSome = true
      · have HF := Lib.hid (HKK.out hf)
        have hf2 : (fk N).isNone = false := by cases hx : fk N <;> simp_all
        clear HKT HKK HB
        go_wp2_with (go_at_call 45; refine (has_any g k _ _ _ hn HM1.out).mono ?_; rintro e w' ⟨rfl, rfl⟩)
        go_roundw
        case rel => exact ⟨k + 1, by omega, by go_num, by have h := HM1.out.mono (Nat.le_succ k); rw [HF.out, HFK.out] at h; exact h, HB1.out⟩
        case measure => simp [intOf]; omega
      · have hf' : (fk N).isSome = false := by simpa using hf
        have HF := Lib.hid (HKT.out hf')
        have hf2 : (fk N).isNone = true := by cases hx : fk N <;> simp_all
        have hwf : (Lit.int .i64 (k : Int)).wf = true := WalkArith.wf_i64 (by omega)
        clear HKT HKK HB hf
        go_wp2_with (first
          | (go_at_call 45; refine (has_any g k _ _ _ hn HM1.out).mono ?_; rintro e w' ⟨rfl, rfl⟩)
          | (at_mapUpdate; refine wpI_store rfl _ _ _ rfl Try.underlying9 tMap Try.underlying3 rfl HM1.out (by simp [maxLen]; omega) _ rfl (size_fine hn) _ rfl hwf (fun w' hm' hg' => ?_); clear HM1))
        have hB2 : Below g w w' := HB1.out.grown hg' (by rw [World.size_alloc]; omega) (fun r e => by cases e; omega)
        go_roundw
        case rel => exact ⟨k + 1, by omega, by go_num, by have h := hm'; rw [HF.out, HFK.out] at h; exact h, hB2⟩
        case measure => simp [intOf]; omega
    · obtain rfl : k = S.length := by omega
      go_wp2_with fail
      go_ret
      subst hg
      refine ⟨_, rfl, rfl, ?_, HB.out⟩
      have := HM.out
      rwa [List.take_length] at this
end Go.Proofs.Ytojfimbanaijdaa
