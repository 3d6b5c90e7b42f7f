/-
  What slices.Sorted(maps.Keys(m)) returns in package heir: the library's contracts laid at this program by hand. What slices.Sorted(maps.Keys(g.first)) returns in package heir: the classes that have links, sorted. What keep returns of names, in package heir, whatever function it is given.
-/
import Derived.Test.YtojfimbanaijdaaHFree
import Derived.Shelf.SlIter.Nil
import Derived.Shelf.SlIter.Sorted
namespace Go.Proofs.Ytojfimbanaijdaa
open Go.RowKit Go.Shelf Go.Sort

namespace KeysOf
def keys_ren : Go.Shelf.Ren := ⟨fun | 7 => 49 | 10 => 82 | n => n, fun | 23 => 58 | 26 => 9 | 3 => 3 | 28 => 92 | 0 => 0 | 27 => 91 | 33 => 80 | 4 => 4 | n => n, fun n => n⟩
theorem keys : Go.Proofs.SlLaysZ.n7 Try.prog keys_ren := {
  mixed := by kernel_rfl
  f7 := ⟨"maps.Keys[map[string]int,string,int]", of_decide_eq_true (id (Eq.refl true)), Try.func49.trans (congrArg some (by kernel_rfl))⟩
  f10 := ⟨"maps.Keys[map[string]int,string,int]$1", of_decide_eq_true (id (Eq.refl true)), Try.func82.trans (congrArg some (by kernel_rfl))⟩
  t0 := Try.underlying0
  a0 := Try.isAgg0
  z0 := Try.sizeOf0
  v0 := Try.zeroValue0
  t4 := Try.underlying4
  a4 := Try.isAgg4
  z4 := Try.sizeOf4
  v4 := Try.zeroValue4
  t23 := Try.underlying58
  a23 := Try.isAgg58
  z23 := Try.sizeOf58
  v23 := Try.zeroValue58
  t26 := Try.underlying9
  a26 := Try.isAgg9
  z26 := Try.sizeOf9
  v26 := Try.zeroValue9
  t27 := Try.underlying91
  a27 := Try.isAgg91
  z27 := Try.sizeOf91
  v27 := Try.zeroValue91
  t28 := Try.underlying92
  a28 := Try.isAgg92
  z28 := Try.sizeOf92
  v28 := Try.zeroValue92
  t33 := Try.underlying80
  a33 := Try.isAgg80
  z33 := Try.sizeOf80
  v33 := Try.zeroValue80 }
def sorted_ren : Go.Shelf.Ren := ⟨fun | 6 => 48 | 8 => 81 | 9 => 71 | 11 => 93 | 13 => 90 | 12 => 89 | 23 => 104 | 24 => 105 | 14 => 95 | 15 => 96 | 16 => 97 | 17 => 98 | 18 => 99 | 19 => 100 | 20 => 101 | 21 => 102 | 22 => 103 | 25 => 106 | 26 => 107 | 27 => 108 | 28 => 109 | 29 => 110 | 30 => 111 | 31 => 112 | n => n, fun | 26 => 9 | 28 => 92 | 24 => 26 | 0 => 0 | 3 => 3 | 37 => 129 | 48 => 141 | 50 => 143 | 4 => 4 | 40 => 135 | 39 => 134 | 45 => 121 | 5 => 5 | 9 => 9 | 51 => 144 | 55 => 148 | 57 => 150 | 58 => 151 | 33 => 80 | n => n, fun n => n⟩
theorem sorted : Go.Proofs.SlLaysZ.n6 Try.prog sorted_ren := {
  mixed := by kernel_rfl
  f6 := ⟨"slices.Sorted[string]", of_decide_eq_true (id (Eq.refl true)), Try.func48.trans (congrArg some (by kernel_rfl))⟩
  f8 := ⟨"slices.Collect[string]", of_decide_eq_true (id (Eq.refl true)), Try.func81.trans (congrArg some (by kernel_rfl))⟩
  f11 := ⟨"slices.AppendSeq[[]string,string]", of_decide_eq_true (id (Eq.refl true)), Try.func93.trans (congrArg some (by kernel_rfl))⟩
  t0 := Try.underlying0
  a0 := Try.isAgg0
  z0 := Try.sizeOf0
  v0 := Try.zeroValue0
  t24 := Try.underlying26
  a24 := Try.isAgg26
  z24 := Try.sizeOf26
  v24 := Try.zeroValue26
  t26 := Try.underlying9
  a26 := Try.isAgg9
  z26 := Try.sizeOf9
  v26 := Try.zeroValue9
  t28 := Try.underlying92
  a28 := Try.isAgg92
  z28 := Try.sizeOf92
  v28 := Try.zeroValue92
  i26 := by kernel_rfl }
end KeysOf

theorem sorts_any (m : Nat) : AnyZ.SortsIn Try.prog KeysOf.sorted_ren Fence.wide m :=
  ⟨fun blk off cap ss W hH hblk hsz => callsIn_wide.2 (Try.slices_Sort_string blk off cap ss W hH hblk hsz),
   fun p cap W => callsIn_wide.2 (Try.slices_Sort_string_none p cap W)⟩

theorem keys_any (mb : Option Nat) (W : World) : Calls Try.prog 49 #[.map mb] W fun e w' => e = .returned (.func (.func 82) #[] #[.pointer (some ⟨W.heap.size, 0, none⟩)]) ∧ w' = W.alloc (.cells #[.map mb] 58) :=
  callsIn_wide.1 (AnyZ.keys_in KeysOf.keys Fence.wide 5 trivial rfl mb W)

theorem sortedKeys_any {H : Type} (b nn : Nat) (D0 : DataW H) (R : Value → Option (DataW H × List MemPlace)) (w : World) (hown : w.ownsMap Try.prog 9 R b nn D0) (hmax : Maps.size D0 ≤ 1000000) :
    Calls Try.prog 48 #[.func (.func 82) #[] #[.pointer (some ⟨w.heap.size, 0, none⟩)]] (w.alloc (.cells #[.map (some b)] 58)) fun e w' => ∃ (v : Value) (ss : List (List UInt8)), e = .returned v ∧ ss.Perm (strKeys D0) ∧
      w'.ownsRow (w.alloc (.cells #[.map (some b)] 58)).heap.size 9 1 v (Hr.isort ss).length (nmRow (Hr.isort ss)) ∧ Below (w.alloc (.cells #[.map (some b)] 58)).heap.size (w.alloc (.cells #[.map (some b)] 58)) w' := by
  have hbl := hown.lt
  have hseq : SeqGives Fence.wide 2 Try.prog 82 #[.pointer (some ⟨w.heap.size, 0, none⟩)] encStr (fun ss => ss.Perm (strKeys D0)) (Maps.size D0) (w.alloc (.cells #[.map (some b)] 58)) :=
    AnyZ.keys_gives (ρ := KeysOf.keys_ren) { KeysOf.keys with } Fence.wide _ trivial rfl (by omega) w.heap.size b nn D0 _ (by simp) (by simp) (by
      obtain ⟨es, clock, hb, Ft, hs, hD⟩ := hown
      exact ⟨es, clock, (Below.heap_alloc _ _ b hbl).trans hb, Ft, hs, hD⟩)
  have h := AnyZ.sorted_in KeysOf.sorted Fence.wide 5 trivial trivial trivial trivial rfl (by omega) (sorts_any _) (enters_of Try.func71 (by kernel_rfl) rfl) 82 #[.pointer (some ⟨w.heap.size, 0, none⟩)] trivial (enters_of Try.func82 (by kernel_rfl) rfl) _ _ (by unfold maxLen; omega) (by omega) _ hseq
  refine (callsIn_wide.1 h).mono ?_
  rintro e w' ⟨v, ss, rfl, hS, ho, -, hb⟩
  refine ⟨v, ss, rfl, hS, ?_, hb⟩
  rw [← Hr.isort_merge, List.length_mergeSort]
  exact ho
end Go.Proofs.Ytojfimbanaijdaa
namespace Go.Proofs.Ytojfimbanaijdaa
open Go.RowKit Go.Shelf Go.Sort

namespace Hr
theorem isort_of_perm {l l' : List Nm} (h : l.Perm l') : isort l = isort l' :=
  List.Perm.eq_of_pairwise (le := (· ≤ ·)) (fun _ _ _ _ h1 h2 => List.le_antisymm h1 h2) (isort_sorted l) (isort_sorted l') (((isort_perm l).trans h).trans (isort_perm l').symm)
theorem firstLink_some (L : List (Nm × Nm)) (s : Nm) : (firstLink L s).isSome = true ↔ s ∈ L.map (·.1) := by
  unfold firstLink
  rw [List.findIdx?_isSome, List.any_eq_true]
  simp only [beq_iff_eq, List.mem_map]
theorem eraseDups_nodup : ∀ (n : Nat) (l : List Nm), l.length ≤ n → l.eraseDups.Nodup
  | _, [], _ => by simp
  | 0, x :: r, h => by simp at h
  | n + 1, x :: r, h => by
    rw [List.eraseDups_cons]
    refine List.nodup_cons.2 ⟨?_, eraseDups_nodup n _ (Nat.le_trans (List.length_filter_le _ _) (by simpa using h))⟩
    rw [List.mem_eraseDups]
    simp
theorem eraseDups_le : ∀ (n : Nat) (l : List Nm), l.length ≤ n → l.eraseDups.length ≤ l.length
  | _, [], _ => by simp
  | 0, x :: r, h => by simp at h
  | n + 1, x :: r, h => by
    rw [List.eraseDups_cons, List.length_cons, List.length_cons]
    have h1 := List.length_filter_le (fun b => !b == x) r
    have h2 := eraseDups_le n (r.filter fun b => !b == x) (by simp at h; omega)
    omega
end Hr

theorem sources_any (m k : Nat) (L : List (Hr.Nm × Hr.Nm)) (w : World) (hm : MI w m k (fun s => (Hr.firstLink L s).map Int.ofNat)) (hL : L.length ≤ 900000) :
    Calls Try.prog 48 #[.func (.func 82) #[] #[.pointer (some ⟨w.heap.size, 0, none⟩)]] (w.alloc (.cells #[.map (some m)] 58)) fun e w' => ∃ v, e = .returned v ∧
      w'.ownsRow w.heap.size 9 1 v (Hr.sources L).length (nmRow (Hr.sources L)) ∧ Below (w.alloc (.cells #[.map (some m)] 58)).heap.size (w.alloc (.cells #[.map (some m)] 58)) w' := by
  obtain ⟨D, h1, h2, h3⟩ := hm
  have hc : Collected D (fun _ => false) ((L.map (·.1)).eraseDups) := by
    refine ⟨Hr.eraseDups_nodup _ _ (Nat.le_refl _), fun x => ?_⟩
    rw [List.mem_eraseDups, ← Hr.firstLink_some, (h3 x).1]
    simp
  have hp2 := hc.perm h1 (Maps.string_keyed Try.underlying9) Try.underlying9 (fun _ => rfl)
  have hsz : Maps.size D ≤ 1000000 := by
    have h4 := hp2.length_eq
    have h5 := Hr.eraseDups_le _ (L.map (·.1)) (Nat.le_refl _)
    rw [List.length_map] at h5
    obtain ⟨es, rfl⟩ := h2
    have h6 : (strKeys (.map es)).length = Maps.size (.map es) := by simp [strKeys, Maps.size]
    omega
  refine (sortedKeys_any m k D _ w h1 hsz).mono ?_
  rintro e w' ⟨v, ss, rfl, hp, ho, hb⟩
  have he : Hr.isort ss = Hr.sources L := Hr.isort_of_perm (hp.trans hp2.symm)
  rw [he] at ho
  exact ⟨v, rfl, own_base ho (by simp), hb⟩
end Go.Proofs.Ytojfimbanaijdaa
namespace Go.Proofs.Ytojfimbanaijdaa
open Go.RowKit Go.Shelf

set_option maxRecDepth 100000 in
set_option maxHeartbeats 1000000 in
theorem keep_any (fn : Nat) (lb : Array Value) (eg : ∀ args w, (callFunc fn args).run Try.prog w = .ok (.enter fn args) w) (want : Hr.Nm → Bool) (v : Value) (l : List Hr.Nm) (w : World) (h : NmsAt w v l) (hl : l.length ≤ 1000000)
    (hF : ∀ x ∈ l, ∀ W, Below w.heap.size w W → Calls Try.prog fn (#[nm x] ++ lb) W fun e W' => e = .returned (.bool (want x)) ∧ Below W.heap.size W W') :
    Calls Try.prog 35 #[v, .func (.func fn) #[] lb] w fun e w' => ∃ o, e = .returned o ∧ w'.ownsRow w.heap.size 9 1 o (l.filter want).length (nmRow (l.filter want)) ∧ Below w.heap.size w w' := by
  obtain ⟨i0, hi, hz0, hz1, hz2⟩ := info_parts strInfo
  have HC := Lib.hid h
  have HF := Lib.hid hF
  obtain ⟨A, c, rfl, -⟩ := h
  clear hF
  go_enter Try.func35, Try.ntmps35
  go_wp2_with fail
  generalize hg : w.heap.size = g at *
  go_loopw [5, 10] (fun o i wr => ∃ k : Nat, k ≤ l.length ∧ i = .int .i64 k ∧ Hid (wr.ownsRow g 9 1 o ((l.take k).filter want).length (nmRow ((l.take k).filter want))) ∧ Hid (Below g w wr)) (fun _ i _ => l.length - (intOf i).toNat)
  case atStart => exact ⟨0, Nat.zero_le _, rfl, World.ownsRow_nil _ _ _ _, by rw [← hg]; exact Below.refl _ _⟩
  case round =>
    obtain ⟨k, hk, rfl, HO, HB⟩ := hrel
    by_cases hlt : k < l.length
    · obtain ⟨A', c', hv, hat1⟩ := HC.out.below HB.out (by omega)
      cases hv
      obtain ⟨b, o, hA, hat⟩ := hat1 (by omega)
      subst hA
      have c0 := hat k hlt
      have hblt := World.block_lt_of_cell? _ _ c0
      have hcall := HF.out l[k] (List.getElem_mem hlt) wr HB.out
      have hst : (l.take (k + 1)).filter want = (l.take k).filter want ++ (if want l[k] then [l[k]] else []) := by
        rw [List.take_succ_eq_append_getElem hlt, List.filter_append]
        congr 1
        cases hwl : want l[k] <;> simp [hwl]
      have hfl : ((l.take k).filter want).length ≤ 1000000 := Nat.le_trans (List.length_filter_le _ _) (by rw [List.length_take]; omega)
      have hw1 : IntKind.i64.wrap ((k : Int) + 1) = (k : Int) + 1 := IntWalk.i64_in _ (by omega)
      have hltI : (k : Int) < l.length := by omega
      have HST := Lib.hid hst
      have HCL := Lib.hid hcall
      clear hst hcall hat hat1
      generalize (l.take k).filter want = pre at *
      generalize want l[k] = bw at *
      generalize l[k] = N at *
      cases bw with
      | false =>
        go_wp2_with (refine HCL.out.mono ?_; rintro e w4 ⟨rfl, hb4⟩)
        have h4 := own_below HO.out hb4 (Nat.le_refl _)
        have hs := HB.out.size
        go_roundw
        case rel =>
          refine ⟨k + 1, by omega, by go_num, ?_, HB.out.trans (hb4.mono (by omega))⟩
          show World.ownsRow _ _ _ _ _ _ _
          rw [HST.out]
          simpa using h4
        case measure => simp [intOf]; omega
      | true =>
        have hs : g ≤ wr.heap.size := by have := HB.out.size; omega
        go_wp2_with (first
          | (refine HCL.out.mono ?_
             rintro e w4 ⟨rfl, hb4⟩
             have hs4 := hb4.size
             have O5 : Hid ((w4.alloc (.cells #[nm N] 9)).ownsRow g 9 1 u5 pre.length (nmRow pre)) := (own_below HO.out hb4 (Nat.le_refl _)).alloc _
             have B5 : Hid (Below g w (w4.alloc (.cells #[nm N] 9))) := (HB.out.trans (hb4.mono hs)).alloc (by omega) _
             have N1 := Lib.hid (one_new w4 (nm N) 9)
             have N7 : Hid (g ≤ (w4.alloc (.cells #[nm N] 9)).heap.size) := by show _ ≤ _; simp; omega
             have N8 : Hid (pre.length + 1 ≤ maxLen) := by show _ ≤ _; unfold maxLen; omega
             have N9 : Hid ((pre.length + 1) * 16 ≤ 140737488355328) := by show _ ≤ _; omega
             clear hb4)
          | (at_builtin; refine wpList_append_own_at _ rfl _ _ 26 rfl g 9 i0 (.string ⟨#[]⟩) 1 16 Try.underlying26 hi hz0 hz1 hz2 rfl (by decide) _ _ _ rfl O5.out ⟨w4.heap.size, 0, none⟩ 1 1 [nm N] rfl rfl N1.out (by simp [Value.oneCell']) N8.out N9.out N7.out ?_
             intro v' w5 hown5 hg5 _ hat5
             have R1 := Lib.hid hown5
             have R2 := Lib.hid (Below.grown B5.out hg5 N7.out (fun g hg => own_ge O5.out hg))
             clear hown5 hg5 hat5))
        go_roundw
        case rel =>
          refine ⟨k + 1, by omega, by go_num, ?_, R2⟩
          show World.ownsRow _ _ _ _ _ _ _
          rw [HST.out]
          simp only [if_true]
          rw [nmRow_snoc, List.length_append]
          exact R1.out
        case measure => simp [intOf]; omega
    · obtain rfl : k = l.length := by omega
      go_wp2_with fail
      go_ret
      refine ⟨_, rfl, ?_, ?_⟩
      · have h := HO.out
        rw [List.take_length] at h
        first | exact h | (rw [hg]; exact h)
      · first | exact HB.out | (rw [hg]; exact HB.out)
end Go.Proofs.Ytojfimbanaijdaa
