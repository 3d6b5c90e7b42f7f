/-
  What slices.Index and slices.Contains return at a list of links. What slices.Contains returns at a list of links, and chained, in package heir. What CheckWay returns, in package heir, of a valid system, two of its classes and a list of names.
-/
import Derived.Test.YtojfimbanaijdaaHLawA
import Derived.Deep.RegionHeld3
namespace Go.Proofs.Ytojfimbanaijdaa
open Go.RowKit Go.Shelf
attribute [local go_sem] Oper.semAt_some

abbrev lk (x : Hr.Nm × Hr.Nm) : Value := .agg #[nm x.1, nm x.2]
def Hr.idxL (l : List (Hr.Nm × Hr.Nm)) (x : Hr.Nm × Hr.Nm) : Int := Hr.idxI (l.findIdx? (· == x))
theorem Hr.idxL_nonneg (l : List (Hr.Nm × Hr.Nm)) (s : Hr.Nm × Hr.Nm) : 0 ≤ Hr.idxL l s ↔ s ∈ l := by
  unfold Hr.idxL
  cases h : l.findIdx? (· == s) with
  | none =>
    rw [List.findIdx?_eq_none_iff] at h
    simp only [Hr.idxI]
    exact ⟨fun h => by omega, fun hs => by have := h s hs; simp at this⟩
  | some k =>
    rw [List.findIdx?_eq_some_iff_getElem] at h
    obtain ⟨hk, he, -⟩ := h
    simp only [Hr.idxI]
    refine ⟨fun _ => ?_, fun _ => by omega⟩
    have : l[k] = s := by simpa using he
    rw [← this]
    exact List.getElem_mem hk

set_option maxRecDepth 100000 in
set_option maxHeartbeats 1000000 in
theorem indexL_any (v : Value) (l : List (Hr.Nm × Hr.Nm)) (s : Hr.Nm × Hr.Nm) (w : World) (hv : LinksAt w v l) (hl : l.length ≤ 1000000) :
    Calls Try.prog 94 #[v, lk s] w fun e w' => e = .returned (.int .i64 (Hr.idxL l s)) ∧ Below w.heap.size w w' := by
  have HV := Lib.hid hv
  obtain ⟨-, A, c, rfl, -⟩ := hv
  obtain ⟨s1, s2⟩ := s
  go_enter Try.func94, Try.ntmps94
  go_wp2_with fail
  have hb0 : Below w.heap.size w (w.alloc (.cells #[nm s1, nm s2] 64)) := (Below.refl _ _).alloc (Nat.le_refl _) _
  have HEND := Lib.hid (fun (W : World) (hW : Below (w.alloc (.cells #[nm s1, nm s2] 64)).heap.size (w.alloc (.cells #[nm s1, nm s2] 64)) W) => (⟨HV.out.below (stepN hb0 hW) (Nat.le_refl _), (Has.new w 64 #[nm s1, nm s2]).below hW (Has.new w 64 #[nm s1, nm s2]).lt, stepN hb0 hW⟩ : LinksAt W (.slice A l.length c) l ∧ Has W w.heap.size 64 #[nm s1, nm s2] ∧ Below w.heap.size w W))
  clear hb0 HV
  generalize w.alloc (.cells #[nm s1, nm s2] 64) = w1 at *
  go_loopw [8] (fun i wr => ∃ k : Nat, k ≤ l.length ∧ i = .int .i64 k ∧ Hid (∀ j (h : j < l.length), j < k → l[j] ≠ (s1, s2)) ∧ Hid (Below w1.heap.size w1 wr)) (fun i _ => l.length - (intOf i).toNat)
  case atStart => exact ⟨0, Nat.zero_le _, rfl, fun j _ h => by omega, Below.refl _ _⟩
  case round =>
    obtain ⟨k, hk, rfl, HT, HB⟩ := hrel
    obtain ⟨hvw, hxw, hbw⟩ := HEND.out wr HB.out
    have HBW := Lib.hid hbw
    clear hbw
    by_cases hlt : k < l.length
    · obtain ⟨-, A', c', hv', -, hat⟩ := hvw
      cases hv'
      obtain ⟨b, ob, hA, hat2⟩ := hat (by omega)
      subst hA
      obtain ⟨c0, c1⟩ := hat2 k hlt
      have hblt := World.block_lt_of_cell? _ _ c0
      have x0 := hxw.cell 0
      have x1 := hxw.cell 1
      have xlt := hxw.lt
      simp only [List.getElem?_toArray, List.getElem?_cons_zero, List.getElem?_cons_succ] at x0 x1
      have hw1 : IntKind.i64.wrap ((k : Int) + 1) = (k : Int) + 1 := IntWalk.i64_in _ (by omega)
      have hltI : (k : Int) < l.length := by omega
      have hst : l[k] ≠ (s1, s2) → ∀ j (h : j < l.length), j < k + 1 → l[j] ≠ (s1, s2) := fun h j hj hjk => by
        rcases Nat.lt_or_ge j k with h' | h'
        · exact HT.out j hj h'
        · have : j = k := by omega
          subst this
          exact h
      have hyes : l[k] = (s1, s2) → Hr.idxL l (s1, s2) = k := fun h => by
        have : l.findIdx? (· == (s1, s2)) = some k := List.findIdx?_eq_some_iff_getElem.2 ⟨hlt, by simpa using h, fun j hj => by simpa using HT.out j (by omega) hj⟩
        unfold Hr.idxL
        rw [this]
        rfl
      have HST := Lib.hid hst
      have HYES := Lib.hid hyes
      clear hst hyes hat hat2 hxw
      generalize l[k] = X at *
      obtain ⟨N1, N2⟩ := X
      dsimp only at *
      by_cases h1 : s1 = N1
      · subst h1
        by_cases h2 : s2 = N2
        · subst h2
          have HS2 := Lib.hid (HYES.out rfl)
          clear HST HYES
          go_wp2_with fail
          go_quiet (fail)
          go_wp2_with fail
          go_ret
          exact ⟨by rw [HS2.out]; rfl, below_drewN HBW.out _⟩
        · have HN2 := Lib.hid (HST.out (fun e => h2 (by cases e; rfl)))
          have heb : (s2 == N2) = false := by simpa using h2
          clear HST HYES
          go_wp2_with fail
          go_quiet (fail)
          go_wp2_with fail
          go_roundw
          case rel => exact ⟨k + 1, by omega, by go_num, HN2, below_drewN HB.out _⟩
          case measure => simp [intOf]; omega
      · have HN2 := Lib.hid (HST.out (fun e => h1 (by cases e; rfl)))
        have heb : (s1 == N1) = false := by simpa using h1
        clear HST HYES
        go_wp2_with fail
        go_quiet (fail)
        go_wp2_with fail
        go_roundw
        case rel => exact ⟨k + 1, by omega, by go_num, HN2, below_drewN HB.out _⟩
        case measure => simp [intOf]; omega
    · obtain rfl : k = l.length := by omega
      go_wp2_with fail
      go_ret
      have hno : Hr.idxL l (s1, s2) = -1 := by
        have : l.findIdx? (· == (s1, s2)) = none := by
          rw [List.findIdx?_eq_none_iff]
          intro x hx
          obtain ⟨i, hi, rfl⟩ := List.getElem_of_mem hx
          simpa using HT.out i hi hi
        unfold Hr.idxL
        rw [this]
        rfl
      exact ⟨by rw [hno]; rfl, HBW.out⟩
end Go.Proofs.Ytojfimbanaijdaa
namespace Go.Proofs.Ytojfimbanaijdaa
open Go.RowKit Go.Shelf
attribute [local go_sem] Oper.semAt_some

set_option maxRecDepth 100000 in
set_option maxHeartbeats 1000000 in
theorem containsL_any (v : Value) (l : List (Hr.Nm × Hr.Nm)) (s : Hr.Nm × Hr.Nm) (w : World) (hv : LinksAt w v l) (hl : l.length ≤ 1000000) :
    Calls Try.prog 87 #[v, lk s] w fun e w' => e = .returned (.bool (decide (s ∈ l))) ∧ Below w.heap.size w w' := by
  have hb0 : Below w.heap.size w (w.alloc (.cells #[nm s.1, nm s.2] 64)) := (Below.refl _ _).alloc (Nat.le_refl _) _
  have HI := Lib.hid (indexL_any v l s _ (hv.below hb0 (Nat.le_refl _)) hl)
  have HB0 := Lib.hid hb0
  obtain ⟨-, A, c, rfl, -⟩ := hv
  obtain ⟨s1, s2⟩ := s
  have hd : decide ((s1, s2) ∈ l) = decide (0 ≤ Hr.idxL l (s1, s2)) := decide_eq_decide.2 (Hr.idxL_nonneg l (s1, s2)).symm
  rw [hd]
  clear hd hb0
  dsimp only at *
  generalize Hr.idxL l (s1, s2) = K at *
  go_enter Try.func87, Try.ntmps87
  go_wp2_with (first
    | (go_at_call 94; refine HI.out.mono ?_
       rintro e w1 ⟨rfl, hb1⟩
       have HB1 := Lib.hid (stepN HB0.out hb1)
       clear hb1 HI))
  go_ret
  exact ⟨rfl, HB1.out⟩

/-- Each name has the next one as a parent. -/
def Hr.chain (L : List (Hr.Nm × Hr.Nm)) (ns : List Hr.Nm) : Prop := ∀ j (h : j + 1 < ns.length), (ns[j], ns[j + 1]) ∈ L

set_option maxRecDepth 100000 in
set_option maxHeartbeats 1000000 in
theorem chained_any (A : Option Addr) (cp : Nat) (m : Option Nat) (L : List (Hr.Nm × Hr.Nm)) (A2 : Option Addr) (c2 : Nat) (ns : List Hr.Nm) (w : World) (hv : LinksAt w (.slice A L.length cp) L) (hl : L.length ≤ 1000000) (hn : NmsAt w (.slice A2 ns.length c2) ns) (hne : 0 < ns.length) (hns : ns.length ≤ 1000000) (hcp : ns.length ≤ c2) :
    Calls Try.prog 56 #[.agg #[.slice A L.length cp, .map m], .slice A2 ns.length c2] w fun e w' => ∃ b : Bool, e = .returned (.bool b) ∧ (b = true ↔ Hr.chain L ns) ∧ Below w.heap.size w w' := by
  have hb0 : Below w.heap.size w (w.alloc (.cells #[.slice A L.length cp, .map m] 73)) := (Below.refl _ _).alloc (Nat.le_refl _) _
  obtain ⟨A2', c2', hv2, hat⟩ := hn
  cases hv2
  obtain ⟨b, o, hA2, hat2⟩ := hat hne
  subst hA2
  have hi1 : (1 : Int) ≤ ns.length := by omega
  have hi2 : (ns.length : Int) ≤ c2 := by omega
  have GIVE0 := Lib.hid (fun (W : World) (hW : Below (w.alloc (.cells #[.slice A L.length cp, .map m] 73)).heap.size (w.alloc (.cells #[.slice A L.length cp, .map m] 73)) W) => (⟨hv.below (stepN hb0 hW) (Nat.le_refl _), fun j hj => kept_below (stepN hb0 hW) (Nat.le_refl _) _ _ (hat2 j hj), (Has.new w 73 #[.slice A L.length cp, .map m]).below hW (Has.new w 73 #[.slice A L.length cp, .map m]).lt, stepN hb0 hW⟩ :
    LinksAt W (.slice A L.length cp) L ∧ (∀ j (hj : j < ns.length), W.cell? ⟨b, o + j, none⟩ = some (nm ns[j])) ∧ Has W w.heap.size 73 #[.slice A L.length cp, .map m] ∧ Below w.heap.size w W))
  clear hb0 hat hat2 hv
  go_enter Try.func56, Try.ntmps56
  go_wp2_with fail
  case inl =>
    generalize w.alloc (.cells #[.slice A L.length cp, .map m] 73) = w1 at *
    go_loopw [10] (fun i wr => ∃ k : Nat, k ≤ ns.length - 1 ∧ i = .int .i64 k ∧ Hid (∀ j (h : j + 1 < ns.length), j < k → (ns[j], ns[j + 1]) ∈ L) ∧ Hid (Below w1.heap.size w1 wr)) (fun i _ => ns.length - (intOf i).toNat)
    case atStart => exact ⟨0, Nat.zero_le _, rfl, fun j _ h => by omega, Below.refl _ _⟩
    case round =>
      obtain ⟨k, hk, rfl, HT, HB⟩ := hrel
      by_cases hlt : k < ns.length - 1
      · exfalso
        omega
      · have hkk : k = ns.length - 1 := by omega
        subst hkk
        have HBY := Lib.hid (GIVE0.out _ HB.out).2.2.2
        go_wp2_with fail
        go_ret
        exact ⟨true, rfl, ⟨fun _ j hj => HT.out j hj (by omega), fun _ => rfl⟩, HBY.out⟩
  case inr =>
    generalize w.alloc (.cells #[.slice A L.length cp, .map m] 73) = w1 at *
    go_loopw [10] (fun i wr => ∃ k : Nat, k ≤ ns.length - 1 ∧ i = .int .i64 k ∧ Hid (∀ j (h : j + 1 < ns.length), j < k → (ns[j], ns[j + 1]) ∈ L) ∧ Hid (Below w1.heap.size w1 wr)) (fun i _ => ns.length - (intOf i).toNat)
    case atStart => exact ⟨0, Nat.zero_le _, rfl, fun j _ h => by omega, Below.refl _ _⟩
    case round =>
      obtain ⟨k, hk, rfl, HT, HB⟩ := hrel
      by_cases hlt : k < ns.length - 1
      · have hk1 : k + 1 < ns.length := by omega
        have hltI : (k : Int) < ((ns.length - 1 : Nat) : Int) := by omega
        have hltI2 : (k : Int) < ns.length := by omega
        have hw1 : IntKind.i64.wrap ((k : Int) + 1) = (k : Int) + 1 := IntWalk.i64_in _ (by omega)
        obtain ⟨-, hcs, hxs, -⟩ := GIVE0.out wr HB.out
        have ck0 := hcs k (by omega)
        have ck1 := hcs (k + 1) hk1
        rw [show o + (k + 1) = o + 1 + k by omega] at ck1
        have hblt := World.block_lt_of_cell? _ _ ck1
        have hst : (ns[k], ns[k + 1]) ∈ L → ∀ j (h : j + 1 < ns.length), j < k + 1 → (ns[j], ns[j + 1]) ∈ L := fun h j hj hjk => by
          rcases Nat.lt_or_ge j k with h' | h'
          · exact HT.out j hj h'
          · have : j = k := by omega
            subst this
            exact h
        have hno : (ns[k], ns[k + 1]) ∉ L → ¬ Hr.chain L ns := fun h hc => h (hc k hk1)
        have HST := Lib.hid hst
        have HNO := Lib.hid hno
        have CT := Lib.hid (fun (W : World) (hW : Below wr.heap.size wr W) => (containsL_any _ L (ns[k], ns[k + 1]) W (GIVE0.out W (stepN HB.out hW)).1 hl).mono (fun e w' h => (⟨h.1, stepN hW h.2⟩ : e = .returned (.bool (decide ((ns[k], ns[k + 1]) ∈ L))) ∧ Below wr.heap.size wr w')))
        have x0 := hxs.cell 0
        simp only [List.getElem?_toArray, List.getElem?_cons_zero] at x0
        have GIVE := Lib.hid (fun (W : World) (hW : Below wr.heap.size wr W) => (⟨kept_below hW (Nat.le_refl _) _ _ x0, kept_below hW (Nat.le_refl _) _ _ ck0, hW⟩ : W.cell? ⟨w.heap.size, 0, none⟩ = some (.slice A L.length cp) ∧ W.cell? ⟨b, o + k, none⟩ = some (nm ns[k]) ∧ Below wr.heap.size wr W))
        clear hst hno hcs hxs x0 ck0
        generalize hd : decide ((ns[k], ns[k + 1]) ∈ L) = dd at *
        have HD := Lib.hid hd
        clear hd
        dsimp only at *
        generalize hN1 : ns[k] = N1 at *
        generalize hN2 : ns[k + 1] = N2 at *
        clear hN1 hN2
        go_wp2_with fail
        go_region_held3 (fun W => W.cell? ⟨w.heap.size, 0, none⟩ = some (.slice A L.length cp) ∧ W.cell? ⟨b, o + k, none⟩ = some (nm N1) ∧ Below wr.heap.size wr W)
          (with_reducible (refine GIVE.out _ ?_; first | exact hbx | exact (Below.refl _ _).drew))
          (first
            | (go_at_call 87; refine (CT.out _ (by with_reducible first | exact hbx | exact (Below.refl _ _).drew)).mono ?_; rintro e wx ⟨rfl, hbx⟩))
        all_goals
          have HBX := Lib.hid (stepN HB.out hbx)
          have HBY := Lib.hid (GIVE0.out _ (stepN HB.out hbx)).2.2.2
          cases dd
          · go_wp2_with fail
            go_ret
            exact ⟨false, rfl, ⟨fun h => by simp at h, fun h => (HNO.out (by simpa using HD.out) h).elim⟩, HBY.out⟩
          · go_wp2_with fail
            go_roundw
            case rel => exact ⟨k + 1, by omega, by go_num, HST.out (by simpa using HD.out), HBX⟩
            case measure => simp [intOf]; omega
      · have hkk : k = ns.length - 1 := by omega
        subst hkk
        have HBY := Lib.hid (GIVE0.out _ HB.out).2.2.2
        go_wp2_with fail
        go_ret
        exact ⟨true, rfl, ⟨fun _ j hj => HT.out j hj (by omega), fun _ => rfl⟩, HBY.out⟩
end Go.Proofs.Ytojfimbanaijdaa
namespace Go.Proofs.Ytojfimbanaijdaa
open Go.RowKit Go.Shelf
attribute [local go_sem] Oper.semAt_some

/-- The list is a way. -/
def Hr.isWay (L : List (Hr.Nm × Hr.Nm)) (c a : Hr.Nm) (ns : List Hr.Nm) : Prop := ∃ h : 0 < ns.length, ns[0] = c ∧ ns[ns.length - 1] = a ∧ Hr.chain L ns

set_option maxRecDepth 100000 in
set_option maxHeartbeats 2000000 in
theorem CheckWay_ok (v : Value) (S : List Hr.Cls) (c a : Hr.Nm) (A2 : Option Addr) (c2 : Nat) (ns : List Hr.Nm) (w : World) (h : SysAt w v S) (hV : Hr.Valid S) (hc : c.length ≤ 140737488355328) (ha : a.length ≤ 140737488355328) (hin : (Hr.firstAt S c).isSome = true) (hina : (Hr.firstAt S a).isSome = true)
    (hn : NmsAt w (.slice A2 ns.length c2) ns) (hns : ns.length ≤ 1000000) (hcp : ns.length ≤ c2) :
    Calls Try.prog 20 #[v, nm c, nm a, .slice A2 ns.length c2] w fun e w' => ∃ r : Int, e = .returned (.int .i64 r) ∧ (r = 0 ↔ Hr.isWay (Hr.links S) c a ns) ∧ Below w.heap.size w w' := by
  have hLL := hV.hL
  have hB1 : Below w.heap.size w (w.alloc (.cells #[nm c, nm a] 9)) := (Below.refl _ _).alloc (Nat.le_refl _) _
  have HE := Lib.hid (enter_ok v _ S [c, a] _ (h.below hB1 (Nat.le_refl _)) hV (nms_laid w [c, a] 2) (by simp) (fun s hs => by
    rcases List.mem_cons.1 hs with h | h
    · rw [h]; exact hc
    · rw [List.mem_singleton.1 h]; exact ha) (fun s hs => by
    rcases List.mem_cons.1 hs with h | h
    · rw [h]; exact hin
    · rw [List.mem_singleton.1 h]; exact hina))
  have HB1 := Lib.hid hB1
  have HN := Lib.hid hn
  clear h hV hin hina hB1 hn
  generalize Hr.links S = L at *
  by_cases h0 : ns.length = 0
  · have h0I : (ns.length : Int) = 0 := by omega
    go_enter Try.func20, Try.ntmps20
    go_wp2_with (first
      | (go_at_call 34; refine HE.out.mono ?_
         rintro e w2 ⟨x, rfl, ⟨A, cp, m, k, rfl, hl2, -, hm2⟩, hb2⟩
         have HB3 := Lib.hid (stepN (stepN HB1.out hb2) ((Below.refl _ _).alloc (Nat.le_refl _) (.cells #[.slice A L.length cp, .map (some m)] 73)))
         clear hl2 hm2 hb2 HE))
    go_ret
    exact ⟨11, rfl, ⟨fun h => by omega, fun ⟨h, _⟩ => by omega⟩, HB3.out⟩
  · obtain ⟨A', c', hv', hat⟩ := HN.out
    cases hv'
    obtain ⟨b, o, hA, hat2⟩ := hat (by omega)
    subst hA
    have hp : 0 < ns.length := by omega
    have hp1 : ns.length - 1 < ns.length := by omega
    have PC := Lib.hid (fun (W : World) (hW : Below w.heap.size w W) => (⟨by simpa using kept_below hW (Nat.le_refl _) _ _ (hat2 0 hp), kept_below hW (Nat.le_refl _) _ _ (hat2 (ns.length - 1) hp1)⟩ : W.cell? ⟨b, o, none⟩ = some (nm (ns[0]'hp)) ∧ W.cell? ⟨b, o + (ns.length - 1), none⟩ = some (nm (ns[ns.length - 1]'hp1))))
    have h0I : ¬ (ns.length : Int) = 0 := by omega
    have hpos : (0 : Int) < ns.length := by omega
    have hl0 : ((ns.length : Int) == 0) = false := by simpa using h0I
    have hws : IntKind.i64.wrap ((ns.length : Int) - 1) = ((ns.length - 1 : Nat) : Int) := by
      rw [IntWalk.i64_in _ (by omega)]
      omega
    have hlt : ((ns.length - 1 : Nat) : Int) < ns.length := by omega
    have WAY : Hid (Hr.isWay L c a ns ↔ ns[0]'hp = c ∧ ns[ns.length - 1]'hp1 = a ∧ Hr.chain L ns) := ⟨fun ⟨_, h⟩ => h, fun h => ⟨hp, h⟩⟩
    clear hat hat2
    generalize hX0 : ns[0]'hp = X0 at *
    generalize hX1 : ns[ns.length - 1]'hp1 = X1 at *
    clear hX0 hX1
    have hc1 : ((X0 == c) = true ∧ X0 = c) ∨ ((X0 == c) = false ∧ X0 ≠ c) := by by_cases e : X0 = c <;> simp [e]
    have hc2 : ((X1 == a) = true ∧ X1 = a) ∨ ((X1 == a) = false ∧ X1 ≠ a) := by by_cases e : X1 = a <;> simp [e]
    rcases hc1 with ⟨e1, f1⟩ | ⟨e1, f1⟩ <;> rcases hc2 with ⟨e2, f2⟩ | ⟨e2, f2⟩
    all_goals
      have F1 := Lib.hid f1
      have F2 := Lib.hid f2
      clear f1 f2
      go_enter Try.func20, Try.ntmps20
      go_wp2_with (first
        | (go_at_call 34; refine HE.out.mono ?_
           rintro e w2 ⟨x, rfl, ⟨A, cp, m, k, rfl, hl2, -, hm2⟩, hb2⟩
           have hb3 : Below w2.heap.size w2 (w2.alloc (.cells #[.slice A L.length cp, .map (some m)] 73)) := (Below.refl _ _).alloc (Nat.le_refl _) _
           have hb4 := stepN (stepN HB1.out hb2) hb3
           have CH := Lib.hid (chained_any A cp (some m) L _ c2 ns _ (hl2.below hb3 (Nat.le_refl _)) (by omega) (HN.out.below hb4 (Nat.le_refl _)) (by omega) hns hcp)
           obtain ⟨q0, q1⟩ := PC.out _ hb4
           have hblt := World.block_lt_of_cell? _ _ q0
           have HB3 := Lib.hid hb4
           clear hl2 hm2 hb2 hb3 hb4 HE PC)
        | (go_at_call 56; refine CH.out.mono ?_
           rintro e w4 ⟨bb, rfl, hiff, hb5⟩
           have HIFF := Lib.hid hiff
           have HB5 := Lib.hid (stepN HB3.out hb5)
           clear hiff hb5 CH))
    all_goals
      go_ret
      refine ⟨_, rfl, ?_, by first | exact HB5.out | exact HB3.out⟩
      rw [WAY.out]
      have f1 := F1.out
      have f2 := F2.out
      first
        | exact ⟨fun h => absurd h (by decide), fun h => (f1 h.1).elim⟩
        | exact ⟨fun h => absurd h (by decide), fun h => (f2 h.2.1).elim⟩
        | (cases bb
           · first
               | contradiction
               | (exfalso; rename_i hz; simp at hz; done)
               | exact ⟨fun h => absurd h (by decide), fun h => (by have h9 := HIFF.out.2 h.2.2; cases h9)⟩
           · first
               | contradiction
               | (exfalso; rename_i hz; simp at hz; done)
               | exact ⟨fun _ => ⟨f1, f2, HIFF.out.1 rfl⟩, fun _ => rfl⟩)
        | exact ⟨fun _ => ⟨f1, f2, HIFF.out.1 rfl⟩, fun _ => rfl⟩
        | exact ⟨fun h => absurd h (by decide), fun h => (by have h9 := HIFF.out.2 h.2.2; cases h9)⟩
end Go.Proofs.Ytojfimbanaijdaa
