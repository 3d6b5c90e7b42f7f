/-
  The laws of maps by names, within a fence. What parents returns, in package heir, and what its iterator yields.
-/
import Derived.Test.YtojfimbanaijdaaHLinks
import Derived.Maps.OwnIn
import Derived.RangeFuncWrites
namespace Go.Proofs.Ytojfimbanaijdaa
open Go.RowKit Go.Shelf
section
variable {F : Fence} {nF : Nat} {P : Program} {k e t : TypeId} {w w' : World} {b n : Nat}
variable {ops : Array Oper} {rest : List Oper} {o : Oper} {a : Act} {Q : Exit → Act → World → Prop}
/-- 'm[name]', the name's value known. -/
theorem wpIn_at (hg : o.guard = none) (m x : Operand) (hop : o.op = Op.lookup t m x false) (hk : P.underlying k = some .string) (ht : P.underlying t = some (.map k e)) (he : P.underlying e = some (.int .i64)) (hz : (zeroValue e).run P w = .ok (.int .i64 0) w)
    (hm : a.eval m = .map (some b)) {f} (h : MapI P k e w b n f) (N : Hr.Nm) (hx : a.eval x = nm N) (hs : N.length ≤ 140737488355328) (i : Int) (hf : (f N).getD 0 = i)
    (hK : wpListIn F nF P ops Q rest (a.put o.dst (.int .i64 i)) w) : wpListIn F nF P ops Q (o :: rest) a w := by
  obtain ⟨D, h1, _, h3⟩ := h
  refine wpListIn_lookup_own_int w hg m x t hop k e .i64 (Maps.string_keyed hk) ht he hz b n D hm h1 _ _ hx (WideMaps.keyOf_string_mk hk (size_fine hs)) (fun c hc _ => ?_)
  rw [show (⟨N.toArray⟩ : ByteArray).data.toList = N from by simp, (h3 N).2] at hc
  injection hc with hc
  injection hc with _ hc
  rw [← hc, hf]
  exact hK
/-- 'm[name] = v'. -/
theorem wpIn_put (hg : o.guard = none) (m x v : Operand) (hop : o.op = Op.mapUpdate t m x v) (hk : P.underlying k = some .string) (ht : P.underlying t = some (.map k e)) (he : P.underlying e = some (.int .i64))
    (hm : a.eval m = .map (some b)) {f} (h : MapI P k e w b n f) (hn : n < maxLen) (N : Hr.Nm) (hx : a.eval x = nm N) (hs : N.length ≤ 140737488355328) (c : Int) (hv : a.eval v = .int .i64 c) (hw : (Lit.int .i64 c).wf = true)
    (hK : ∀ w', MapI P k e w' b (n + 1) (upd f N c) → w.grownBy w' (some b) → wpListIn F nF P ops Q rest (a.put o.dst undef) w') : wpListIn F nF P ops Q (o :: rest) a w := by
  obtain ⟨D, h1, h2, h3⟩ := h
  refine wpListIn_mapUpdate_own w hg m x v t hop k e (Maps.string_keyed hk) ht (plainElem P e) b n D hm h1 hn _ _ _ hx hv (WideMaps.keyOf_string_mk hk (size_fine hs)) _ [] (plainElem_int he hw) (fun w' h1' hg' => ?_)
  have h4 := MapI.put h2 h3 N c
  rw [show (⟨N.toArray⟩ : ByteArray).data.toList = N from by simp] at h1'
  exact hK w' ⟨_, h1', put_isMap h2, h4⟩ hg'
end
end Go.Proofs.Ytojfimbanaijdaa
namespace Go.Proofs.Ytojfimbanaijdaa
open Go.RowKit Go.Shelf
attribute [local go_sem] Oper.semAt_some

namespace Hr
theorem takeWhile_take (p : Nm × Nm → Bool) : ∀ (l : List (Nm × Nm)) (j : Nat), j ≤ l.length → (∀ i (_ : i < j) (h2 : i < l.length), p l[i] = true) → (∀ h : j < l.length, p l[j] = false) → l.takeWhile p = l.take j
  | [], j, h, _, _ => by simp
  | x :: r, 0, h, _, h2 => by
    have := h2 (by simp)
    rw [List.takeWhile_cons_of_neg (by simpa using this)]
    rfl
  | x :: r, j + 1, h, h1, h2 => by
    have h0 := h1 0 (by omega) (by simp)
    simp only [List.getElem_cons_zero] at h0
    rw [List.takeWhile_cons_of_pos h0, List.take_succ_cons, takeWhile_take p r j (by simpa using h) (fun i hi hl => by have := h1 (i + 1) (by omega) (by simpa using hl); simpa using this) (fun hl => by have := h2 (by simpa using hl); simpa using this)]
theorem take_prefix (p : Nm × Nm → Bool) : ∀ (l : List (Nm × Nm)) (j : Nat), j ≤ l.length → (∀ i (_ : i < j) (h2 : i < l.length), p l[i] = true) → l.take j <+: l.takeWhile p
  | [], j, h, _ => by simp
  | x :: r, 0, h, _ => by simp
  | x :: r, j + 1, h, h1 => by
    have h0 := h1 0 (by omega) (by simp)
    simp only [List.getElem_cons_zero] at h0
    rw [List.takeWhile_cons_of_pos h0, List.take_succ_cons, List.cons_prefix_cons]
    exact ⟨rfl, take_prefix p r j (by simpa using h) (fun i hi hl => by have := h1 (i + 1) (by omega) (by simpa using hl); simpa using this)⟩
def firstOf (L : List (Nm × Nm)) (c : Nm) : Nat := (firstLink L c).getD 0
theorem firstOf_le (L : List (Nm × Nm)) (c : Nm) : firstOf L c ≤ L.length := by
  unfold firstOf firstLink
  cases hf : List.findIdx? (fun x => x.1 == c) L with
  | none => simp
  | some q =>
    rw [List.findIdx?_eq_some_iff_getElem] at hf
    obtain ⟨h1, _⟩ := hf
    simp; omega
/-- How far the iterator has come. -/
def Come (L : List (Nm × Nm)) (c : Nm) (j : Nat) : Prop := firstOf L c + j ≤ L.length ∧ ∀ i (_ : i < j) (h2 : firstOf L c + i < L.length), L[firstOf L c + i].1 = c
theorem Come.pre {L : List (Nm × Nm)} {c : Nm} {j : Nat} (h : Come L c j) : ((L.drop (firstOf L c)).take j).map (·.2) <+: parents L c := by
  obtain ⟨h1, h2⟩ := h
  unfold parents
  exact (take_prefix _ _ _ (by rw [List.length_drop]; omega) (fun i hi hl => by
    rw [List.length_drop] at hl
    rw [List.getElem_drop]
    simpa using h2 i hi (by omega))).map _
theorem Come.all {L : List (Nm × Nm)} {c : Nm} {j : Nat} (h : Come L c j) (hend : ∀ h : firstOf L c + j < L.length, L[firstOf L c + j].1 ≠ c) : ((L.drop (firstOf L c)).take j).map (·.2) = parents L c := by
  obtain ⟨h1, h2⟩ := h
  unfold parents
  rw [show (firstLink L c).getD 0 = firstOf L c from rfl, takeWhile_take _ _ j (by rw [List.length_drop]; omega) (fun i hi hl => by
    rw [List.length_drop] at hl
    rw [List.getElem_drop]
    simpa using h2 i hi (by omega)) (fun hl => by
    rw [List.length_drop] at hl
    rw [List.getElem_drop]
    simpa using hend (by omega))]
theorem Come.next {L : List (Nm × Nm)} {c : Nm} {j : Nat} (h : Come L c j) (hlt : firstOf L c + j < L.length) (he : L[firstOf L c + j].1 = c) : Come L c (j + 1) :=
  ⟨by omega, fun i hi hl => by
    rcases Nat.lt_or_ge i j with h3 | h3
    · exact h.2 i h3 hl
    · obtain rfl : i = j := by omega
      exact he⟩
theorem come_map {L : List (Nm × Nm)} {c : Nm} {j : Nat} (hlt : firstOf L c + j < L.length) : ((L.drop (firstOf L c)).take (j + 1)).map (·.2) = ((L.drop (firstOf L c)).take j).map (·.2) ++ [L[firstOf L c + j].2] := by
  rw [List.take_succ_eq_append_getElem (by rw [List.length_drop]; omega), List.map_append, List.getElem_drop]
  rfl
end Hr

/-- A parent's name. -/
abbrev Up (L : List (Hr.Nm × Hr.Nm)) := { s : Hr.Nm // s ∈ L.map (·.2) }
abbrev encUp {L : List (Hr.Nm × Hr.Nm)} (x : Up L) : Array Value := #[nm x.1]

/-- What the iterator reads. -/
structure GF (bg bc : Nat) (A : Option Addr) (cp m k : Nat) (L : List (Hr.Nm × Hr.Nm)) (c : Hr.Nm) (W : World) : Prop where
  hg : Has W bg 73 #[.slice A L.length cp, .map (some m)]
  hc : Has W bc 9 #[nm c]
  hl : LinksAt W (.slice A L.length cp) L
  hm : MI W m k (fun s => (Hr.firstLink L s).map Int.ofNat)
  hn : c.length ≤ 140737488355328

theorem GF.grown {bg bc cp m k : Nat} {A : Option Addr} {L : List (Hr.Nm × Hr.Nm)} {c : Hr.Nm} {W W' : World} (h : GF bg bc A cp m k L c W) (hk : Keeps W W') (hh : ∀ g, g = bg ∨ g = bc ∨ g = m → W'.heap[g]? = W.heap[g]?) : GF bg bc A cp m k L c W' := by
  obtain ⟨h1, h2, h3, ⟨D, ⟨es, clock, h4, h5⟩, h6⟩, h7⟩ := h
  exact ⟨(hh bg (.inl rfl)).trans h1, (hh bc (.inr (.inl rfl))).trans h2, h3.keep hk, ⟨D, ⟨es, clock, (hh m (.inr (.inr rfl))).trans h4, h5⟩, h6⟩, h7⟩
theorem GF.below {bg bc cp m k : Nat} {A : Option Addr} {L : List (Hr.Nm × Hr.Nm)} {c : Hr.Nm} {W W' : World} (h : GF bg bc A cp m k L c W) (hb : Below W.heap.size W W') : GF bg bc A cp m k L c W' :=
  h.grown (kept_below hb (Nat.le_refl _)) (fun g hg => hb.block g (by rcases hg with e | e | e; exact e ▸ h.hg.lt; exact e ▸ h.hc.lt; exact e ▸ h.hm.lt))
theorem GF.alloc {bg bc cp m k : Nat} {A : Option Addr} {L : List (Hr.Nm × Hr.Nm)} {c : Hr.Nm} {W : World} (h : GF bg bc A cp m k L c W) (o : Obj) : GF bg bc A cp m k L c (W.alloc o) := h.below ((Below.refl _ _).alloc (Nat.le_refl _) o)

theorem results_no {P : Program} {fn : Func} (h : fn.results = #[]) (t : Array Value) (w : World) : (results fn t).run P w = .ok (.tuple #[]) w := by
  unfold results
  simp [h, go_sem]

theorem parents_any (x y : Value) (A : Option Addr) (n cp : Nat) (m : Option Nat) (c : Hr.Nm) (w : World) (hx : x = .agg #[.slice A n cp, .map m]) (hy : y = nm c) :
    Calls Try.prog 52 #[x, y] w fun e w' => e = .returned (.func (.func 85) #[] #[.pointer (some ⟨w.heap.size, 0, none⟩), .pointer (some ⟨w.heap.size + 1, 0, none⟩)]) ∧ w' = (w.alloc (.cells #[.slice A n cp, .map m] 73)).alloc (.cells #[nm c] 9) := by
  subst hx hy
  go_enter Try.func52, Try.ntmps52
  go_wp2_with fail
  go_ret
  exact ⟨rfl, rfl⟩

set_option maxRecDepth 100000 in
set_option maxHeartbeats 1000000 in
theorem parents_stops (n : Nat) (hn : 1 ≤ n) (bg bc : Nat) (A : Option Addr) (cp m k : Nat) (L : List (Hr.Nm × Hr.Nm)) (c : Hr.Nm) (w : World) (hG : GF bg bc A cp m k L c w) (hL : L.length ≤ 1000000) :
    SeqStopsK Fence.wide n Try.prog 85 #[.pointer (some ⟨bg, 0, none⟩), .pointer (some ⟨bc, 0, none⟩)] (encUp (L := L)) (fun W W' => GF bg bc A cp m k L c W → GF bg bc A cp m k L c W') (fun xs => xs.map (·.1) = Hr.parents L c) (fun pre => pre.map (·.1) <+: Hr.parents L c) (Hr.parents L c).length w := fun l J Jx W hW hJA hJxA hY h0 => by
  have hG0 := Lib.hid (hG.below hW)
  have JA := Lib.hid hJA
  have JXA := Lib.hid hJxA
  clear hJA hJxA hW
  have hfi := Hr.firstOf_le L c
  have hval : ((fun s => (Hr.firstLink L s).map Int.ofNat) c).getD 0 = ((Hr.firstOf L c : Nat) : Int) := by
    unfold Hr.firstOf
    dsimp only
    cases Hr.firstLink L c <;> rfl
  have HVAL := Lib.hid hval
  clear hval
  obtain ⟨pb, po, hA⟩ : ∃ pb po, 0 < L.length → A = some ⟨pb, po, none⟩ := by
    obtain ⟨_, A', c', hv, _, h⟩ := hG.hl
    cases hv
    by_cases h0 : 0 < L.length
    · obtain ⟨b, o, hA, _⟩ := h h0
      exact ⟨b, o, fun _ => hA⟩
    · exact ⟨0, 0, fun h => absurd h h0⟩
  refine callsIn_of_wp Try.func85 rfl trivial ?_ rfl
  simp only [Try.ntmps85, List.size_toArray, List.length_cons, List.length_nil, Nat.reduceAdd, Nat.reduceSub, Array.replicate_succ, Array.replicate_zero, List.push_toArray, List.append_toArray, List.nil_append, List.cons_append]
  have e0 := hG0.out.hg.cell 0
  have e1 := hG0.out.hg.cell 1
  have e2 := hG0.out.hc.cell 0
  simp only [List.getElem?_toArray, List.getElem?_cons_zero, List.getElem?_cons_succ] at e0 e1 e2
  have HG := Lib.hid (hG0.out.hl)
  by_cases hp : Hr.firstOf L c < L.length
  · have hA' := hA (by omega)
    subst hA'
    have hcap : L.length ≤ cp := by
      obtain ⟨_, A', c', hv, h, _⟩ := HG.out
      cases hv
      exact h
    have hne : ¬ cp = Hr.firstOf L c := by omega
    have hsub : ((L.length : Int) - (Hr.firstOf L c : Nat)).toNat = L.length - Hr.firstOf L c := by omega
    have s1 : (0 : Int) ≤ ((Hr.firstOf L c : Nat) : Int) := by omega
    have s2 : ((Hr.firstOf L c : Nat) : Int) ≤ L.length := by omega
    have HC0 : Hid (Hr.Come L c 0) := ⟨by omega, fun i h => absurd h (Nat.not_lt_zero _)⟩
    have hlen : (Hr.parents L c).length ≤ 1000000 := by
      unfold Hr.parents
      rw [List.length_map]
      refine Nat.le_trans (List.takeWhile_sublist _).length_le ?_
      rw [List.length_drop]; omega
    have hpre := fun j (h : Hr.Come L c j) => h.pre
    have hall := fun j (h : Hr.Come L c j) => h.all
    have hnext := fun j (h : Hr.Come L c j) => h.next
    have hmap := fun j => Hr.come_map (L := L) (c := c) (j := j)
    have hle := fun j (h : Hr.Come L c j) => h.1
    have HPRE := Lib.hid hpre
    have HALL := Lib.hid hall
    have HNEXT := Lib.hid hnext
    have HMAP := Lib.hid hmap
    have HLE := Lib.hid hle
    clear hpre hall hnext hmap hle hA
    generalize hfp : Hr.firstOf L c = p at *
    gi_wp2_with (gi_at_lookup; refine wpIn_at rfl _ _ rfl Try.underlying9 tMap Try.underlying3 (zInt _) rfl hG0.out.hm c rfl hG0.out.hn _ HVAL.out ?_)
    gi_loopw [14] (fun v wr => ∃ (j : Nat) (pre : List (Up L)), v = .int .i64 j ∧ Hid (Hr.Come L c j) ∧ p + j ≤ L.length ∧ Hid (pre.map (·.1) = ((L.drop p).take j).map (·.2)) ∧ Hid (J pre wr) ∧ Hid (GF bg bc (some ⟨pb, po, none⟩) cp m k L c wr)) (fun v wr => L.length - p - (intOf v).toNat)
    case atStart => exact ⟨0, [], rfl, HC0, by omega, by show _ = _; simp, h0, hG0⟩
    case round =>
      obtain ⟨j, pre, rfl, HC, hjl, HP, HJ, HG⟩ := hrel
      by_cases hlt : p + j < L.length
      · have hltI : (j : Int) < (L.length - p : Nat) := by omega
        have hltN : j < L.length - p := by omega
        obtain ⟨hfine, A', c', hv, _, hat⟩ := HG.out.hl
        cases hv
        obtain ⟨b, o, hbo, hat2⟩ := hat (by omega)
        cases hbo
        obtain ⟨c0, c1⟩ := hat2 (p + j) hlt
        rw [show po + (p + j) * 2 = po + p * 2 + j * 2 from by omega] at c0 c1
        have hmem : L[p + j].2 ∈ L.map (·.2) := List.mem_map.2 ⟨_, List.getElem_mem hlt, rfl⟩
        have hblt := World.block_lt_of_cell? _ _ c0
        have e0 := HG.out.hg.cell 0
        have e1 := HG.out.hg.cell 1
        have e2 := HG.out.hc.cell 0
        simp only [List.getElem?_toArray, List.getElem?_cons_zero, List.getElem?_cons_succ] at e0 e1 e2
        have hclt := HG.out.hc.lt
        have hw1 : IntKind.i64.wrap ((j : Int) + 1) = (j : Int) + 1 := IntWalk.i64_in _ (by omega)
        have hpl := (HPRE.out j HC.out).length_le
        have hM := HMAP.out j hlt
        have hN := HNEXT.out j HC.out hlt
        have hA := HALL.out j HC.out
        clear hat hat2 hfine
        by_cases he : L[p + j].1 = c
        · have hC2 := hN he
          have hP2 := HPRE.out (j + 1) hC2
          rw [hM, ← HP.out] at hP2
          have hlen2 := hP2.length_le
          rw [List.length_append, List.length_map, List.length_singleton] at hlen2
          have HP2 := Lib.hid hP2
          have HC2 := Lib.hid hC2
          have HM := Lib.hid hM
          rw [he] at c0
          clear hP2 hC2 hM hN hA hpl he
          generalize L[p + j].2 = N at *
          have hJ2 : J pre (wr.alloc (.cells #[nm c, nm N] 64)) := JA.out pre wr _ none HJ.out (World.grownBy_alloc _ _ none) (fun r e => by cases e)
          have hG2 := HG.out.alloc (.cells #[nm c, nm N] 64)
          have HG2 := Lib.hid hG2
          obtain ⟨fn, tmps, assign, body, hy, hR⟩ := hY pre ⟨N, hmem⟩ _ hJ2 (by omega)
          dsimp only [encUp] at hy
          clear hG2 hJ2
          gi_wp2_with fail
          refine hR.mono ?_
          rintro e W3 (⟨rfl, hJ3, hk3⟩ | ⟨rfl, hJx3⟩)
          · gi_wp2
            go_roundw
            case rel => exact ⟨j + 1, _, by go_num, HC2, by omega, by show _ = _; rw [HM.out, ← HP.out, List.map_append]; rfl, hJ3, hk3 HG2.out⟩
            case measure => simp [intOf]; omega
          · gi_wp2
            refine bodyPost_ret (results_no rfl _ _) rfl ?_
            exact ⟨⟨_, rfl⟩, .inr ⟨_, by rw [List.map_append]; exact HP2.out, hJx3⟩⟩
        · have hA2 := hA (fun _ => he)
          have HA := Lib.hid (HP.out.trans hA2)
          have hJ2 : J pre (wr.alloc (.cells #[nm L[p + j].1, nm L[p + j].2] 64)) := JA.out pre wr _ none HJ.out (World.grownBy_alloc _ _ none) (fun r e => by cases e)
          have hne1 : ¬ L[p + j].1.toArray = c.toArray := fun h => he (by simpa using h)
          have hne2 : ¬ c.toArray = L[p + j].1.toArray := fun h => hne1 h.symm
          have HJ2 := Lib.hid hJ2
          have hMc : (L[p + j].1 == c) = false := by simpa using he
          clear hM hN hA hpl he hA2 hmem hJ2
          generalize L[p + j].1 = M at *
          generalize L[p + j].2 = N at *
          gi_wp2_with fail
          refine ⟨fun _ h => (by cases h), ?_⟩
          gi_wp2
          refine bodyPost_ret (results_no rfl _ _) rfl ?_
          exact ⟨⟨_, rfl⟩, .inl ⟨pre, HA.out, HJ2.out⟩⟩
      · obtain hje : p + j = L.length := by omega
        have hltN : ¬ j < L.length - p := by omega
        have hltI : ¬ (j : Int) < (L.length - p : Nat) := by omega
        have HA := Lib.hid (HP.out.trans (HALL.out j HC.out (fun h => absurd h hlt)))
        gi_wp2_with fail
        go_end0
        exact ⟨⟨_, rfl⟩, .inl ⟨pre, HA.out, HJ.out⟩⟩
  · have hp0 : Hr.firstOf L c = L.length := by omega
    have hA := (Hr.Come.all (L := L) (c := c) (j := 0) ⟨by omega, fun i h => absurd h (Nat.not_lt_zero _)⟩ (fun h => absurd h (by omega)))
    rw [List.take_zero, List.map_nil] at hA
    have HA := Lib.hid hA
    have hcap : L.length ≤ cp := by
      obtain ⟨_, A', c', hv, h, _⟩ := HG.out
      cases hv
      exact h
    have s2 : (L.length : Int) ≤ L.length := by omega
    have s1 : (0 : Int) ≤ L.length := by omega
    have s3 : ((L.length : Int) - L.length).toNat = 0 := by omega
    rw [hp0] at HVAL
    clear hA hfi hp hp0
    gi_wp2_with (gi_at_lookup; refine wpIn_at rfl _ _ rfl Try.underlying9 tMap Try.underlying3 (zInt _) rfl hG0.out.hm c rfl hG0.out.hn _ HVAL.out ?_)
    all_goals
      gi_loopw [14] (fun v wr => v = .int .i64 0 ∧ Hid (J [] wr)) (fun v wr => 0)
      case atStart => exact ⟨rfl, h0⟩
      case round =>
        obtain ⟨rfl, HJ⟩ := hrel
        gi_wp2_with fail
        go_end0
        exact ⟨⟨_, rfl⟩, .inl ⟨[], HA.out, HJ.out⟩⟩
end Go.Proofs.Ytojfimbanaijdaa
