/-
  What the law's Five returns: the classes of the chapter's example, as they lie. What the reference's SameLinks and SameLists return. What the law's sanity returns: true.
-/
import Derived.Test.YtojfimbanaijdaaHClass
import Derived.Test.YtojfimbanaijdaaHLevel
import Derived.Deep.RegionHeld3
import Derived.Test.YtojfimbanaijdaaHCheckA
import Derived.Deep.AppendLies
namespace Go.Proofs.Ytojfimbanaijdaa
open Go.RowKit Go.Shelf

abbrev ClsRow := Hr.Nm × Option Addr × Nat × Nat
def clsCell (x : ClsRow) : List Value := [nm x.1, .bool false, .slice none 0 0, .slice x.2.1 x.2.2.1 x.2.2.2, .slice none 0 0, .slice none 0 0, .slice none 0 0]
def clsCells : List ClsRow → List Value
  | [] => []
  | x :: r => clsCell x ++ clsCells r
theorem clsCells_get : ∀ (l : List ClsRow) (i j : Nat) (h : i < l.length), j < 7 → (clsCells l)[i * 7 + j]? = (clsCell l[i])[j]?
  | x :: r, 0, j, _, hj => by
    show (clsCell x ++ clsCells r)[0 * 7 + j]? = _
    rw [List.getElem?_append_left (by simp [clsCell]; omega), Nat.zero_mul, Nat.zero_add]
    rfl
  | x :: r, i + 1, j, h, hj => by
    show (clsCell x ++ clsCells r)[(i + 1) * 7 + j]? = _
    rw [List.getElem?_append_right (by simp [clsCell]; omega), show (i + 1) * 7 + j - (clsCell x).length = i * 7 + j from by simp [clsCell]; omega]
    exact clsCells_get r i j (by simpa using h) hj
theorem sys_of (w : World) (b c : Nat) (xs : List ClsRow) (S : List Hr.Cls) (hlen : xs.length = S.length)
    (hx : ∀ i (h : i < xs.length) (h' : i < S.length), xs[i].1 = S[i].name ∧ xs[i].2.2.1 = S[i].ups.length ∧ S[i].name.length ≤ 140737488355328 ∧ UpsAt w (.slice xs[i].2.1 xs[i].2.2.1 xs[i].2.2.2) S[i].ups)
    (hc : ∀ j u, (clsCells xs)[j]? = some u → w.cell? ⟨b, j, none⟩ = some u) : SysAt w (.slice (some ⟨b, 0, none⟩) S.length c) S := by
  refine ⟨_, c, rfl, fun _ => ⟨b, 0, rfl, fun i hi => ?_⟩⟩
  have hxi : i < xs.length := by omega
  obtain ⟨h1, h2, h3, h4⟩ := hx i hxi hi
  have key : ∀ j u, j < 7 → (clsCell xs[i])[j]? = some u → w.cell? ⟨b, 0 + i * 7 + j, none⟩ = some u := fun j u hj hu => by
    rw [Nat.zero_add]
    exact hc _ _ ((clsCells_get xs i j hxi hj).trans hu)
  refine ⟨h3, ?_, false, none, 0, 0, xs[i].2.1, xs[i].2.2.2, none, 0, 0, none, 0, 0, none, 0, 0, key 1 _ (by omega) rfl, key 2 _ (by omega) rfl, ?_, ?_, key 4 _ (by omega) rfl, key 5 _ (by omega) rfl, key 6 _ (by omega) rfl⟩
  · have h := key 0 (nm xs[i].1) (by omega) rfl
    rw [h1] at h
    exact h
  · have h := key 3 (.slice xs[i].2.1 xs[i].2.2.1 xs[i].2.2.2) (by omega) rfl
    rw [h2] at h
    exact h
  · rw [h2] at h4
    exact h4

theorem UpsAt.up {W W' : World} {v : Value} {l : List Hr.Nm} (h : UpsAt W v l) (hb : Below W.heap.size W W') : UpsAt W' v l := h.keep (kept_below hb (Nat.le_refl _))
theorem nms_nil (w : World) : NmsAt w (.slice none 0 0) [] := ⟨none, 0, rfl, fun h => by simp at h⟩

set_option maxRecDepth 100000 in
set_option maxHeartbeats 2000000 in
theorem Five_any (w : World) : Calls Try.prog 29 #[] w fun e w' => ∃ g A1 c1 A2 c2 A3 c3 A4 c4 A5 c5, e = .returned (.slice (some ⟨g, 0, none⟩) 5 5) ∧
    Has w' g 48 (clsCells [([65], A1, 0, c1), ([66], A2, 1, c2), ([67], A3, 1, c3), ([68], A4, 2, c4), ([69], A5, 2, c5)]).toArray ∧
    UpsAt w' (.slice A1 0 c1) [] ∧ UpsAt w' (.slice A2 1 c2) [[65]] ∧ UpsAt w' (.slice A3 1 c3) [[65]] ∧ UpsAt w' (.slice A4 2 c4) [[66], [67]] ∧ UpsAt w' (.slice A5 2 c5) [[68], [65]] ∧ Below w.heap.size w w' ∧ w.heap.size ≤ g := by
  have al : ∀ (W : World) (l : List Hr.Nm), Below W.heap.size W (W.alloc (.cells (nmRow l).toArray 9)) := fun W l => (Below.refl _ _).alloc (Nat.le_refl _) _
  have HC1 := Lib.hid (class_any [65] (.slice none 0 0) [] w (nms_nil w) (by simp) (fun s hs => by cases hs))
  have AL := Lib.hid al
  clear al
  have f1 : FineN [[65]] := by intro s hs; simp at hs; subst hs; simp
  have f2 : FineN [[66], [67]] := by intro s hs; simp at hs; rcases hs with rfl | rfl <;> simp
  have f3 : FineN [[68], [65]] := by intro s hs; simp at hs; rcases hs with rfl | rfl <;> simp
  have F1 := Lib.hid f1
  have F2 := Lib.hid f2
  have F3 := Lib.hid f3
  clear f1 f2 f3
  go_enter Try.func29, Try.ntmps29
  go_wp2_with (first
    | (go_at_call 30; refine HC1.out.mono ?_
       rintro e w1 ⟨A1, c1, rfl, hu1, hb1⟩
       have HU1 := Lib.hid hu1
       have HB1 := Lib.hid hb1
       have HC2 := Lib.hid (class_any [66] _ [[65]] _ (nms_laid w1 [[65]] 1) (by simp) F1.out)
       clear hu1 hb1 HC1)
    | (go_at_call 30; refine HC2.out.mono ?_
       rintro e w2 ⟨A2, c2, rfl, hu2, hb2⟩
       have hb2' := stepN (AL.out w1 [[65]]) hb2
       have HU2 := Lib.hid hu2
       have HB2 := Lib.hid hb2'
       have HC3 := Lib.hid (class_any [67] _ [[65]] _ (nms_laid w2 [[65]] 1) (by simp) F1.out)
       clear hu2 hb2 hb2' HC2)
    | (go_at_call 30; refine HC3.out.mono ?_
       rintro e w3 ⟨A3, c3, rfl, hu3, hb3⟩
       have hb3' := stepN (AL.out w2 [[65]]) hb3
       have HU3 := Lib.hid hu3
       have HB3 := Lib.hid hb3'
       have HC4 := Lib.hid (class_any [68] _ [[66], [67]] _ (nms_laid w3 [[66], [67]] 2) (by simp) F2.out)
       clear hu3 hb3 hb3' HC3)
    | (go_at_call 30; refine HC4.out.mono ?_
       rintro e w4 ⟨A4, c4, rfl, hu4, hb4⟩
       have hb4' := stepN (AL.out w3 [[66], [67]]) hb4
       have HU4 := Lib.hid hu4
       have HB4 := Lib.hid hb4'
       have HC5 := Lib.hid (class_any [69] _ [[68], [65]] _ (nms_laid w4 [[68], [65]] 2) (by simp) F3.out)
       clear hu4 hb4 hb4' HC4)
    | (go_at_call 30; refine HC5.out.mono ?_
       rintro e w5 ⟨A5, c5, rfl, hu5, hb5⟩
       have hb5' := stepN (AL.out w4 [[68], [65]]) hb5
       have HU5 := Lib.hid hu5
       have HB5 := Lib.hid hb5'
       clear hu5 hb5 hb5' HC5))
  go_ret
  have hb6 : Below w5.heap.size w5 (w5.alloc (.cells (clsCells [([65], A1, 0, c1), ([66], A2, 1, c2), ([67], A3, 1, c3), ([68], A4, 2, c4), ([69], A5, 2, c5)]).toArray 48)) := (Below.refl _ _).alloc (Nat.le_refl _) _
  have b5 := stepN HB5.out hb6
  have b4 := stepN HB4.out b5
  have b3 := stepN HB3.out b4
  have b2 := stepN HB2.out b3
  have b1 := stepN HB1.out b2
  have hsz := (stepN (stepN (stepN (stepN HB1.out HB2.out) HB3.out) HB4.out) HB5.out).size
  exact ⟨w5.heap.size, A1, c1, A2, c2, A3, c3, A4, c4, A5, c5, rfl, Has.new _ _ _, HU1.out.up b2, HU2.out.up b3, HU3.out.up b4, HU4.out.up b5, HU5.out.up hb6, b1, hsz⟩
end Go.Proofs.Ytojfimbanaijdaa
namespace Go.Proofs.Ytojfimbanaijdaa
open Go.RowKit Go.Shelf
attribute [local go_sem] Oper.semAt_some

set_option maxRecDepth 100000 in
set_option maxHeartbeats 1000000 in
theorem SameLinks_any (v u : Value) (l r : List (Hr.Nm × Hr.Nm)) (w : World) (hv : LinksAt w v l) (hu : LinksAt w u r) (hl : l.length ≤ 1000000) (hr : r.length ≤ 1000000) :
    Calls Try.prog 33 #[v, u] w fun e w' => e = .returned (.bool (decide (l = r))) ∧ Below w.heap.size w w' := by
  have HV := Lib.hid hv
  have HU := Lib.hid hu
  obtain ⟨-, A, c, rfl, -⟩ := hv
  obtain ⟨-, A2, c2, rfl, -⟩ := hu
  by_cases hlen : l.length = r.length
  · have hlenI : (l.length : Int) = r.length := by omega
    go_enter Try.func33, Try.ntmps33
    go_wp2_with fail
    have HLEN := Lib.hid hlen
    clear hlen hlenI
    go_loopw [5] (fun i wr => ∃ k : Nat, k ≤ l.length ∧ i = .int .i64 k ∧ Hid (l.take k = r.take k) ∧ Hid (Below w.heap.size w wr)) (fun i _ => l.length - (intOf i).toNat)
    case atStart => exact ⟨0, Nat.zero_le _, rfl, rfl, Below.refl _ _⟩
    case round =>
      obtain ⟨k, hk, rfl, HT, HB⟩ := hrel
      by_cases hlt : k < l.length
      · obtain ⟨-, A', c', hv', -, hat⟩ := HV.out.below HB.out (Nat.le_refl _)
        cases hv'
        obtain ⟨b, ob, hA, hat2⟩ := hat (by omega)
        subst hA
        obtain ⟨c0, c1⟩ := hat2 k hlt
        obtain ⟨-, A'', c'', hv', -, hat⟩ := HU.out.below HB.out (Nat.le_refl _)
        cases hv'
        obtain ⟨b2, ob2, hA, hat3⟩ := hat (by have := HLEN.out; omega)
        subst hA
        have hlr : k < r.length := by have := HLEN.out; omega
        obtain ⟨d0, d1⟩ := hat3 k hlr
        have hblt := World.block_lt_of_cell? _ _ c0
        have hblt2 := World.block_lt_of_cell? _ _ d0
        have hw1 : IntKind.i64.wrap ((k : Int) + 1) = (k : Int) + 1 := IntWalk.i64_in _ (by omega)
        have hltI : (k : Int) < l.length := by omega
        have hltI2 : (k : Int) < r.length := by omega
        have hst : l[k] = r[k] → l.take (k + 1) = r.take (k + 1) := fun h => by
          rw [List.take_succ_eq_append_getElem hlt, List.take_succ_eq_append_getElem (by omega), HT.out, h]
        have hno : l[k] ≠ r[k] → l ≠ r := fun h e => h (by subst e; rfl)
        have HST := Lib.hid hst
        have HNO := Lib.hid hno
        clear hst hno hat hat2 hat3
        generalize l[k] = X at *
        generalize r[k] = Y at *
        obtain ⟨N, M⟩ := X
        obtain ⟨N2, M2⟩ := Y
        dsimp only at *
        by_cases he : N = N2
        · subst he
          by_cases he2 : M = M2
          · subst he2
            have HS2 := Lib.hid (HST.out rfl)
            clear HST HNO
            go_wp2_with fail
            go_quiet (fail)
            go_wp2_with fail
            go_roundw
            case rel => exact ⟨k + 1, by omega, by go_num, HS2, below_drewN HB.out _⟩
            case measure => simp [intOf]; omega
          · have HN2 := Lib.hid (HNO.out (fun e => he2 (by cases e; rfl)))
            have heb : (M == M2) = false := by simpa using he2
            clear HST HNO
            go_wp2_with fail
            go_quiet (fail)
            go_wp2_with fail
            go_ret
            exact ⟨by simp [HN2.out], below_drewN HB.out _⟩
        · have HN2 := Lib.hid (HNO.out (fun e => he (by cases e; rfl)))
          have heb : (N == N2) = false := by simpa using he
          clear HST HNO
          go_wp2_with fail
          go_quiet (fail)
          go_wp2_with fail
          go_ret
          exact ⟨by simp [HN2.out], below_drewN HB.out _⟩
      · obtain rfl : k = l.length := by omega
        go_wp2_with fail
        go_ret
        have h := HT.out
        rw [List.take_length, HLEN.out, List.take_length] at h
        exact ⟨by simp [h], HB.out⟩
  · have hlenI : ¬ (l.length : Int) = r.length := by omega
    have hne : l ≠ r := fun e => hlen (by rw [e])
    go_enter Try.func33, Try.ntmps33
    go_wp2_with fail
    go_ret
    exact ⟨by simp [hne], Below.refl _ _⟩

/-- A list of lists of names. -/
def ListsAt (w : World) (v : Value) (V : List (List Hr.Nm)) : Prop :=
  ∃ A c, v = .slice A V.length c ∧ (0 < V.length → ∃ b o, A = some ⟨b, o, none⟩ ∧ ∀ i (h : i < V.length), ∃ u, w.cell? ⟨b, o + i, none⟩ = some u ∧ NmsAt w u V[i])
theorem ListsAt.below {w w' : World} {v : Value} {V : List (List Hr.Nm)} (h : ListsAt w v V) (hb : Below w.heap.size w w') : ListsAt w' v V := by
  obtain ⟨A, c, hv, h⟩ := h
  refine ⟨A, c, hv, fun h0 => ?_⟩
  obtain ⟨b, o, hA, hc⟩ := h h0
  refine ⟨b, o, hA, fun i hi => ?_⟩
  obtain ⟨u, h1, h2⟩ := hc i hi
  exact ⟨u, kept_below hb (Nat.le_refl _) _ _ h1, h2.below hb (Nat.le_refl _)⟩
theorem LvAt.get {w : World} {G : Nat} : ∀ {vs : List Value} {V : List (List Hr.Nm)}, LvAt w G vs V → ∀ i (h : i < V.length), ∃ u, vs[i]? = some u ∧ NmsAt w u V[i]
  | [], [], _, i, h => by simp at h
  | v :: vs, l :: V, h, 0, _ => ⟨v, rfl, NmsAt.of_own h.1⟩
  | v :: vs, l :: V, h, i + 1, hi => by
    obtain ⟨u, h1, h2⟩ := LvAt.get h.2 i (by simpa using hi)
    exact ⟨u, by simpa using h1, h2⟩
  | [], _ :: _, h, _, _ => h.elim
  | _ :: _, [], h, _, _ => h.elim
theorem ListsAt.of {w : World} {B G : Nat} {v : Value} {vs : List Value} {V : List (List Hr.Nm)} (ho : w.ownsRow B 26 1 v vs.length vs) (hl : LvAt w G vs V) : ListsAt w v V := by
  have hlen := hl.length
  rcases ho.2 with ⟨rfl, h0⟩ | ⟨g, cap, cur, rfl, hb, hh, hr⟩
  · exact ⟨none, 0, by rw [← hlen, h0], fun h => by omega⟩
  · have hc := ho.cells (g := g) rfl
    refine ⟨some ⟨g, 0, none⟩, cap, by rw [hlen], fun _ => ⟨g, 0, rfl, fun i hi => ?_⟩⟩
    obtain ⟨u, h1, h2⟩ := hl.get i hi
    have e : ∀ k, (⟨g, 0, none⟩ : Addr).add k = ⟨g, 0 + k, none⟩ := fun k => by unfold Addr.add; split <;> simp_all
    have h3 := hc i u h1
    rw [e] at h3
    exact ⟨u, h3, h2⟩

set_option maxRecDepth 100000 in
set_option maxHeartbeats 1000000 in
theorem SameLists_any (v u : Value) (l r : List (List Hr.Nm)) (w : World) (hv : ListsAt w v l) (hu : ListsAt w u r) (hl : l.length ≤ 1000000) (hr : r.length ≤ 1000000) (hll : ∀ x ∈ l, x.length ≤ 1000000) (hrl : ∀ x ∈ r, x.length ≤ 1000000) :
    Calls Try.prog 32 #[v, u] w fun e w' => e = .returned (.bool (decide (l = r))) ∧ Below w.heap.size w w' := by
  have HV := Lib.hid hv
  have HU := Lib.hid hu
  have HLL := Lib.hid hll
  have HRL := Lib.hid hrl
  obtain ⟨A, c, rfl, -⟩ := hv
  obtain ⟨A2, c2, rfl, -⟩ := hu
  clear hll hrl
  by_cases hlen : l.length = r.length
  · have hlenI : (l.length : Int) = r.length := by omega
    go_enter Try.func32, Try.ntmps32
    go_wp2_with fail
    have HLEN := Lib.hid hlen
    clear hlen hlenI
    go_loopw [5] (fun i wr => ∃ k : Nat, k ≤ l.length ∧ i = .int .i64 k ∧ Hid (l.take k = r.take k) ∧ Hid (Below w.heap.size w wr)) (fun i _ => l.length - (intOf i).toNat)
    case atStart => exact ⟨0, Nat.zero_le _, rfl, rfl, Below.refl _ _⟩
    case round =>
      obtain ⟨k, hk, rfl, HT, HB⟩ := hrel
      by_cases hlt : k < l.length
      · obtain ⟨A', c', hv', hat⟩ := HV.out
        cases hv'
        obtain ⟨b, ob, hA, hat2⟩ := hat (by omega)
        subst hA
        obtain ⟨x, c0, hx⟩ := hat2 k hlt
        obtain ⟨A'', c'', hv', hat⟩ := HU.out
        cases hv'
        obtain ⟨b2, ob2, hA, hat3⟩ := hat (by have := HLEN.out; omega)
        subst hA
        have hlr : k < r.length := by have := HLEN.out; omega
        obtain ⟨y, d0, hy⟩ := hat3 k hlr
        replace c0 := kept_below HB.out (Nat.le_refl _) _ _ c0
        replace d0 := kept_below HB.out (Nat.le_refl _) _ _ d0
        have hblt := World.block_lt_of_cell? _ _ c0
        have hblt2 := World.block_lt_of_cell? _ _ d0
        have hw1 : IntKind.i64.wrap ((k : Int) + 1) = (k : Int) + 1 := IntWalk.i64_in _ (by omega)
        have hltI : (k : Int) < l.length := by omega
        have hltI2 : (k : Int) < r.length := by omega
        have hst : l[k] = r[k] → l.take (k + 1) = r.take (k + 1) := fun h => by
          rw [List.take_succ_eq_append_getElem hlt, List.take_succ_eq_append_getElem (by omega), HT.out, h]
        have hno : l[k] ≠ r[k] → l ≠ r := fun h e => h (by subst e; rfl)
        have hbs := HB.out.size
        have SN := Lib.hid (fun (W : World) (hW : Below wr.heap.size wr W) => (SameNames_any x y l[k] r[k] W ((hx.below HB.out (Nat.le_refl _)).below hW (Nat.le_refl _)) ((hy.below HB.out (Nat.le_refl _)).below hW (Nat.le_refl _)) (HLL.out _ (List.getElem_mem hlt)) (HRL.out _ (List.getElem_mem hlr))).mono (fun e w' (h : e = .returned (.bool (decide (l[k] = r[k]))) ∧ Below W.heap.size W w') => (⟨h.1, stepN hW h.2⟩ : e = .returned (.bool (decide (l[k] = r[k]))) ∧ Below wr.heap.size wr w')))
        have HST := Lib.hid hst
        have HNO := Lib.hid hno
        obtain ⟨xA, xc, hxv, -⟩ := hx
        obtain ⟨yA, yc, hyv, -⟩ := hy
        subst hxv
        subst hyv
        have GIVE := Lib.hid (fun (W : World) (hW : Below wr.heap.size wr W) => (⟨kept_below hW (Nat.le_refl _) _ _ c0, kept_below hW (Nat.le_refl _) _ _ d0, hW⟩ :
          W.cell? ⟨b, ob + k, none⟩ = some (.slice xA l[k].length xc) ∧ W.cell? ⟨b2, ob2 + k, none⟩ = some (.slice yA r[k].length yc) ∧ Below wr.heap.size wr W))
        clear hst hno hat hat2 hat3 c0 d0
        generalize l[k] = X at *
        generalize r[k] = Y at *
        go_wp2_with fail
        go_cut [6] from 27 (fun v wx => v = .bool (decide (X = Y)) ∧ Below wr.heap.size wr wx)
        case first =>
          go_region_held3 (fun W => W.cell? ⟨b, ob + k, none⟩ = some (.slice xA X.length xc) ∧ W.cell? ⟨b2, ob2 + k, none⟩ = some (.slice yA Y.length yc) ∧ Below wr.heap.size wr W)
            (with_reducible (refine GIVE.out _ ?_; first | exact hbx | exact (Below.refl _ _).drew))
            (first
              | (go_at_call 31; refine (SN.out _ (by with_reducible first | exact hbx | exact (Below.refl _ _).drew)).mono ?_; rintro e wx ⟨rfl, hbx⟩))
          all_goals
            go_wp2_with fail
            go_meet
            exact ⟨rfl, hbx⟩
        case rest =>
          obtain ⟨rfl, hbx⟩ := hcut
          have hb9 : Below w.heap.size w wc := stepN HB.out hbx
          have HB9 := Lib.hid hb9
          clear hbx hb9
          by_cases he : X = Y
          · have HS2 := Lib.hid (HST.out he)
            have hde : decide (X = Y) = true := by simp [he]
            rw [hde]
            clear HST HNO SN GIVE he hde
            go_wp2_with fail
            go_roundw
            case rel => exact ⟨k + 1, by omega, by go_num, HS2, HB9⟩
            case measure => simp [intOf]; omega
          · have HN2 := Lib.hid (HNO.out he)
            have hde : decide (X = Y) = false := by simp [he]
            rw [hde]
            clear HST HNO SN GIVE he hde
            go_wp2_with fail
            go_ret
            exact ⟨by simp [HN2.out], HB9.out⟩
      · obtain rfl : k = l.length := by omega
        go_wp2_with fail
        go_ret
        have h := HT.out
        rw [List.take_length, HLEN.out, List.take_length] at h
        exact ⟨by simp [h], HB.out⟩
  · have hlenI : ¬ (l.length : Int) = r.length := by omega
    have hne : l ≠ r := fun e => hlen (by rw [e])
    go_enter Try.func32, Try.ntmps32
    go_wp2_with fail
    go_ret
    exact ⟨by simp [hne], Below.refl _ _⟩
end Go.Proofs.Ytojfimbanaijdaa
namespace Go.Proofs.Ytojfimbanaijdaa
open Go.RowKit Go.Shelf
attribute [local go_sem] Oper.semAt_some

theorem same_laid (W : World) (o : Value) (l : List Hr.Nm) (c : Nat) (ho : NmsAt W o l) (hl : l.length ≤ 1000) :
    Calls Try.prog 31 #[o, .slice (some ⟨W.heap.size, 0, none⟩) l.length c] (W.alloc (.cells (nmRow l).toArray 9)) fun e w' => e = .returned (.bool true) ∧ Below W.heap.size W w' := by
  have hb : Below W.heap.size W (W.alloc (.cells (nmRow l).toArray 9)) := (Below.refl _ _).alloc (Nat.le_refl _) _
  refine (SameNames_any o _ l l _ (ho.below hb (Nat.le_refl _)) (nms_laid W l c) (by omega) (by omega)).mono ?_
  rintro e w' ⟨rfl, h⟩
  exact ⟨by simp, stepN hb h⟩

theorem Has.newAt (W : World) (t : TypeId) (cs : Array Value) (n : Nat) (h : W.heap.size = n) : Has (W.alloc (.cells cs t)) n t cs := by subst h; exact Has.new W t cs
theorem nms_has {W : World} {b : Nat} (l : List Hr.Nm) (c : Nat) (h : Has W b 9 (nmRow l).toArray) : NmsAt W (.slice (some ⟨b, 0, none⟩) l.length c) l := by
  refine ⟨_, c, rfl, fun h0 => ⟨b, 0, rfl, fun i hi => ?_⟩⟩
  rw [h.cell]
  simp [nmRow, hi]
abbrev laidRow (l : List Hr.Nm) : Obj := .cells (nmRow l).toArray 9
theorem lists_laid (W : World) : ListsAt (((((W.alloc (laidRow [[65]])).alloc (laidRow [[66], [67]])).alloc (laidRow [[68]])).alloc (laidRow [[69]])).alloc (.cells #[.slice (some ⟨W.heap.size, 0, none⟩) 1 1, .slice (some ⟨W.heap.size + 1, 0, none⟩) 2 2, .slice (some ⟨W.heap.size + 1 + 1, 0, none⟩) 1 1, .slice (some ⟨W.heap.size + 1 + 1 + 1, 0, none⟩) 1 1] 26)) (.slice (some ⟨W.heap.size + 1 + 1 + 1 + 1, 0, none⟩) 4 4) [[[65]], [[66], [67]], [[68]], [[69]]] := by
  have h1 := (((((Has.new W 9 (nmRow [[65]]).toArray).alloc (laidRow [[66], [67]])).alloc (laidRow [[68]])).alloc (laidRow [[69]])).alloc (.cells #[.slice (some ⟨W.heap.size, 0, none⟩) 1 1, .slice (some ⟨W.heap.size + 1, 0, none⟩) 2 2, .slice (some ⟨W.heap.size + 1 + 1, 0, none⟩) 1 1, .slice (some ⟨W.heap.size + 1 + 1 + 1, 0, none⟩) 1 1] 26))
  have h2 := (((Has.newAt (W.alloc (laidRow [[65]])) 9 (nmRow [[66], [67]]).toArray (W.heap.size + 1) (by simp)).alloc (laidRow [[68]])).alloc (laidRow [[69]])).alloc (.cells #[.slice (some ⟨W.heap.size, 0, none⟩) 1 1, .slice (some ⟨W.heap.size + 1, 0, none⟩) 2 2, .slice (some ⟨W.heap.size + 1 + 1, 0, none⟩) 1 1, .slice (some ⟨W.heap.size + 1 + 1 + 1, 0, none⟩) 1 1] 26)
  have h3 := ((Has.newAt ((W.alloc (laidRow [[65]])).alloc (laidRow [[66], [67]])) 9 (nmRow [[68]]).toArray (W.heap.size + 1 + 1) (by simp)).alloc (laidRow [[69]])).alloc (.cells #[.slice (some ⟨W.heap.size, 0, none⟩) 1 1, .slice (some ⟨W.heap.size + 1, 0, none⟩) 2 2, .slice (some ⟨W.heap.size + 1 + 1, 0, none⟩) 1 1, .slice (some ⟨W.heap.size + 1 + 1 + 1, 0, none⟩) 1 1] 26)
  have h4 := (Has.newAt (((W.alloc (laidRow [[65]])).alloc (laidRow [[66], [67]])).alloc (laidRow [[68]])) 9 (nmRow [[69]]).toArray (W.heap.size + 1 + 1 + 1) (by simp)).alloc (.cells #[.slice (some ⟨W.heap.size, 0, none⟩) 1 1, .slice (some ⟨W.heap.size + 1, 0, none⟩) 2 2, .slice (some ⟨W.heap.size + 1 + 1, 0, none⟩) 1 1, .slice (some ⟨W.heap.size + 1 + 1 + 1, 0, none⟩) 1 1] 26)
  have h5 := Has.newAt ((((W.alloc (laidRow [[65]])).alloc (laidRow [[66], [67]])).alloc (laidRow [[68]])).alloc (laidRow [[69]])) 26 #[.slice (some ⟨W.heap.size, 0, none⟩) 1 1, .slice (some ⟨W.heap.size + 1, 0, none⟩) 2 2, .slice (some ⟨W.heap.size + 1 + 1, 0, none⟩) 1 1, .slice (some ⟨W.heap.size + 1 + 1 + 1, 0, none⟩) 1 1] (W.heap.size + 1 + 1 + 1 + 1) (by simp)
  refine ⟨_, 4, rfl, fun _ => ⟨W.heap.size + 1 + 1 + 1 + 1, 0, rfl, fun i hi => ?_⟩⟩
  rw [h5.cell]
  rcases i with _ | _ | _ | _ | i
  · exact ⟨_, rfl, nms_has [[65]] 1 h1⟩
  · exact ⟨_, rfl, nms_has [[66], [67]] 2 h2⟩
  · exact ⟨_, rfl, nms_has [[68]] 1 h3⟩
  · exact ⟨_, rfl, nms_has [[69]] 1 h4⟩
  · simp only [List.length_cons, List.length_nil] at hi
    omega
theorem lists_below (W : World) : Below W.heap.size W (((((W.alloc (laidRow [[65]])).alloc (laidRow [[66], [67]])).alloc (laidRow [[68]])).alloc (laidRow [[69]])).alloc (.cells #[.slice (some ⟨W.heap.size, 0, none⟩) 1 1, .slice (some ⟨W.heap.size + 1, 0, none⟩) 2 2, .slice (some ⟨W.heap.size + 1 + 1, 0, none⟩) 1 1, .slice (some ⟨W.heap.size + 1 + 1 + 1, 0, none⟩) 1 1] 26)) :=
  (((((Below.refl _ _).alloc (by simp) _).alloc (by simp) _).alloc (by simp; omega) _).alloc (by simp; omega) _).alloc (by simp; omega) _
theorem links_laid (W : World) : LinksAt (W.alloc (.cells #[nm [69], nm [65]] 64)) (.slice (some ⟨W.heap.size, 0, none⟩) 1 1) [([69], [65])] := by
  have h := Has.new W 64 #[nm [69], nm [65]]
  refine ⟨fun x hx => by rw [List.mem_singleton.1 hx]; exact ⟨by decide, by decide⟩, _, 1, rfl, by simp, fun _ => ⟨W.heap.size, 0, rfl, fun i hi => ?_⟩⟩
  rcases i with _ | i
  · rw [h.cell, h.cell]
    exact ⟨rfl, rfl⟩
  · simp at hi

namespace Hr
theorem five_valid : Valid five := (check_zero five).1 (by decide +kernel)
theorem five_wayErr : wayErr (links five) [69] [65] = 0 := by unfold wayErr; rw [five_way]
theorem bad_check : check badFive = (7, [65]) := by decide +kernel
theorem bad_yes : (visited (links badFive) (sources (links badFive))).ring = true := by decide +kernel
theorem bad_links : (links badFive).length ≤ 400000 := by decide +kernel
end Hr

theorem clsInfo : (Try.prog.info? 48).map (fun i => (i.zero, i.size, i.bytes)) = some (some (.agg #[.string ⟨#[]⟩, .bool false, .slice none 0 0, .slice none 0 0, .slice none 0 0, .slice none 0 0, .slice none 0 0]), 7, 144) := by kernel_rfl
theorem own_new (w : World) (cs : Array Value) (t : TypeId) (k : Nat) (hk : cs.size = k) (B : Nat) (hB : B ≤ w.heap.size) : (w.alloc (.cells cs t)).ownsRow B t k (.slice (some ⟨w.heap.size, 0, none⟩) 1 1) 1 cs.toList :=
  ⟨by simp [hk], .inr ⟨w.heap.size, 1, cs, rfl, hB, Has.new w t cs, Nat.le_refl _, by unfold maxLen; omega, by omega, by rw [List.take_of_length_le]; simp [hk]⟩⟩

theorem five_sys {w : World} {g c : Nat} {A1 A2 A3 A4 A5 : Option Addr} {c1 c2 c3 c4 c5 : Nat} (hc : ∀ j u, (clsCells [([65], A1, 0, c1), ([66], A2, 1, c2), ([67], A3, 1, c3), ([68], A4, 2, c4), ([69], A5, 2, c5)])[j]? = some u → w.cell? ⟨g, j, none⟩ = some u)
    (h1 : UpsAt w (.slice A1 0 c1) []) (h2 : UpsAt w (.slice A2 1 c2) [[65]]) (h3 : UpsAt w (.slice A3 1 c3) [[65]]) (h4 : UpsAt w (.slice A4 2 c4) [[66], [67]]) (h5 : UpsAt w (.slice A5 2 c5) [[68], [65]]) : SysAt w (.slice (some ⟨g, 0, none⟩) 5 c) Hr.five :=
  sys_of w g c _ Hr.five rfl (fun i h h' => by
    rcases i with _ | _ | _ | _ | _ | i
    · exact ⟨rfl, rfl, (by show 1 ≤ 140737488355328; omega), h1⟩
    · exact ⟨rfl, rfl, (by show 1 ≤ 140737488355328; omega), h2⟩
    · exact ⟨rfl, rfl, (by show 1 ≤ 140737488355328; omega), h3⟩
    · exact ⟨rfl, rfl, (by show 1 ≤ 140737488355328; omega), h4⟩
    · exact ⟨rfl, rfl, (by show 1 ≤ 140737488355328; omega), h5⟩
    · simp only [List.length_cons, List.length_nil] at h
      omega) hc
theorem bad_sys {w : World} {g c : Nat} {A1 A2 A3 A4 A5 : Option Addr} {c1 c2 c3 c4 c5 : Nat} (hc : ∀ j u, (clsCells [([65], A1, 1, c1), ([66], A2, 1, c2), ([67], A3, 1, c3), ([68], A4, 2, c4), ([69], A5, 2, c5)])[j]? = some u → w.cell? ⟨g, j, none⟩ = some u)
    (h1 : UpsAt w (.slice A1 1 c1) [[68]]) (h2 : UpsAt w (.slice A2 1 c2) [[65]]) (h3 : UpsAt w (.slice A3 1 c3) [[65]]) (h4 : UpsAt w (.slice A4 2 c4) [[66], [67]]) (h5 : UpsAt w (.slice A5 2 c5) [[68], [65]]) : SysAt w (.slice (some ⟨g, 0, none⟩) 5 c) Hr.badFive :=
  sys_of w g c _ Hr.badFive rfl (fun i h h' => by
    rcases i with _ | _ | _ | _ | _ | i
    · exact ⟨rfl, rfl, (by show 1 ≤ 140737488355328; omega), h1⟩
    · exact ⟨rfl, rfl, (by show 1 ≤ 140737488355328; omega), h2⟩
    · exact ⟨rfl, rfl, (by show 1 ≤ 140737488355328; omega), h3⟩
    · exact ⟨rfl, rfl, (by show 1 ≤ 140737488355328; omega), h4⟩
    · exact ⟨rfl, rfl, (by show 1 ≤ 140737488355328; omega), h5⟩
    · simp only [List.length_cons, List.length_nil] at h
      omega) hc

set_option maxRecDepth 100000 in
set_option maxHeartbeats 4000000 in
theorem sanity_any (w : World) : Calls Try.prog 11 #[] w fun e w' => e = .returned (.bool true) ∧ Below w.heap.size w w' := by
  obtain ⟨i0, hi, hz0, hz1, hz2⟩ := info_parts clsInfo
  have HF := Lib.hid (Five_any w)
  go_enter Try.func11, Try.ntmps11
  go_wp2_with (first
    | (go_at_call 29; refine HF.out.mono ?_
       rintro e w1 ⟨g, A1, c1, A2, c2, A3, c3, A4, c4, A5, c5, rfl, hrow, hu1, hu2, hu3, hu4, hu5, hb1, hgw⟩
       have SY := Lib.hid (fun (W : World) (hW : Below w1.heap.size w1 W) => (five_sys (c := 5) (fun j u hj => kept_below hW (Nat.le_refl _) _ _ (by rw [hrow.cell]; simpa using hj)) (hu1.up hW) (hu2.up hW) (hu3.up hW) (hu4.up hW) (hu5.up hW) : SysAt W (.slice (some ⟨g, 0, none⟩) 5 5) Hr.five))
       have HROW := Lib.hid hrow
       have HU2 := Lib.hid hu2
       have HU3 := Lib.hid hu3
       have HU4 := Lib.hid hu4
       have HU5 := Lib.hid hu5
       have HB1 := Lib.hid hb1
       have hab := Above_ok _ Hr.five [69] w1 (SY.out w1 (Below.refl _ _)) Hr.five_valid (by decide) (by decide)
       rw [Hr.five_above] at hab
       have HAB := Lib.hid hab
       clear hrow hu1 hu2 hu3 hu4 hu5 hb1 hab HF)
    | (go_at_call 24; refine HAB.out.mono ?_
       rintro e w2 ⟨o2, rfl, ho2, hb2⟩
       have N2 := Lib.hid (NmsAt.of_own ho2)
       have B2 := Lib.hid hb2
       have C2 := Lib.hid hb2
       have hwa := Ways_ok _ Hr.five [69] [65] w2 (SY.out w2 C2.out) Hr.five_valid (by decide) (by decide) (by decide) (by decide)
       rw [Hr.five_waysW] at hwa
       have HWA := Lib.hid hwa
       clear ho2 hb2 hwa)
    | (go_at_call 21; refine HWA.out.mono ?_
       rintro e w3 ⟨rfl, hb3⟩
       have B3 := Lib.hid hb3
       have C3 := Lib.hid (stepN C2.out hb3)
       have hwy := Way_ok _ Hr.five [69] [65] w3 (SY.out w3 C3.out) Hr.five_valid (by decide) (by decide) (by decide) (by decide)
       rw [Hr.five_wayErr, Hr.five_way] at hwy
       have HWY := Lib.hid hwy
       clear hb3 hwy)
    | (go_at_call 19; refine HWY.out.mono ?_
       rintro e w4 ⟨o4, rfl, ho4, hb4⟩
       have N4 := Lib.hid (NmsAt.of_own (l := [[69], [65]]) ho4)
       have B4 := Lib.hid hb4
       have C4 := Lib.hid (stepN C3.out hb4)
       have hor := Order_ok _ Hr.five w4 (SY.out w4 C4.out) Hr.five_valid
       rw [Hr.five_order] at hor
       have HOR := Lib.hid hor
       clear ho4 hb4 hor)
    | (go_at_call 22; refine HOR.out.mono ?_
       rintro e w5 ⟨o5, rfl, ho5, hb5⟩
       have N5 := Lib.hid (NmsAt.of_own ho5)
       have B5 := Lib.hid hb5
       have C5 := Lib.hid (stepN C4.out hb5)
       have hle := Levels_ok _ Hr.five w5 (SY.out w5 C5.out) Hr.five_valid
       rw [Hr.five_levels] at hle
       have HLE := Lib.hid hle
       clear ho5 hb5 hle)
    | (go_at_call 23; refine HLE.out.mono ?_
       rintro e w6 ⟨o6, vs6, rfl, ho6, hl6, hb6⟩
       have N6 := Lib.hid (ListsAt.of ho6 hl6)
       have B6 := Lib.hid hb6
       have C6 := Lib.hid (stepN C5.out hb6)
       have hls := Least_ok _ Hr.five [66] [67] w6 (SY.out w6 C6.out) Hr.five_valid (by decide) (by decide) (by decide) (by decide)
       rw [Hr.five_least] at hls
       have HL1 := Lib.hid hls
       clear ho6 hl6 hb6 hls)
    | (go_at_call 25; refine HL1.out.mono ?_
       rintro e w7 ⟨o7, rfl, ho7, hb7⟩
       have N7 := Lib.hid (NmsAt.of_own ho7)
       have B7 := Lib.hid hb7
       have C7 := Lib.hid (stepN C6.out hb7)
       have hls := Least_ok _ Hr.five [68] [66] w7 (SY.out w7 C7.out) Hr.five_valid (by decide) (by decide) (by decide) (by decide)
       rw [Hr.five_least2] at hls
       have HL2 := Lib.hid hls
       clear ho7 hb7 hls HL1)
    | (go_at_call 25; refine HL2.out.mono ?_
       rintro e w8 ⟨o8, rfl, ho8, hb8⟩
       have N8 := Lib.hid (NmsAt.of_own ho8)
       have B8 := Lib.hid hb8
       have C8 := Lib.hid (stepN C7.out hb8)
       have hnd := Needless_ok _ Hr.five w8 (SY.out w8 C8.out) Hr.five_valid
       rw [Hr.five_needless] at hnd
       have HND := Lib.hid hnd
       clear ho8 hb8 hnd HL2)
    | (go_at_call 26; refine HND.out.mono ?_
       rintro e w9 ⟨o9, rfl, ho9, hb9⟩
       have N9 := Lib.hid (LinksAt.of_own (fun x hx => by rw [List.mem_singleton.1 hx]; exact ⟨by decide, by decide⟩) ho9)
       have B9 := Lib.hid hb9
       have C9 := Lib.hid (stepN C8.out hb9)
       have hal9 : Below w9.heap.size w9 (w9.alloc (.cells (nmRow [[67]]).toArray 9)) := (Below.refl _ _).alloc (Nat.le_refl _) _
       have htd := Touched_ok _ (.slice (some ⟨w9.heap.size, 0, none⟩) 1 1) Hr.five [[67]] _ (SY.out _ (stepN C9.out hal9)) Hr.five_valid (nms_laid w9 [[67]] 1) (by decide)
       rw [Hr.five_touched] at htd
       have HTD := Lib.hid htd
       have HAL9 := Lib.hid hal9
       clear ho9 hb9 htd hal9)
    | (go_at_call 28; refine HTD.out.mono ?_
       rintro e w10 ⟨o10, rfl, ho10, hb10⟩
       have N10 := Lib.hid (NmsAt.of_own ho10)
       have hb10' := stepN HAL9.out hb10
       have B10 := Lib.hid hb10'
       have C10 := Lib.hid (stepN C9.out hb10')
       clear ho10 hb10 hb10'))
  have f68 : FineN [[68]] := by intro s hs; simp at hs; subst hs; simp
  have hd0 : Below w10.heap.size w10 (w10.alloc (.cells (nmRow [[68]]).toArray 9)).drew := ((Below.refl _ _).alloc (Nat.le_refl _) _).drew
  have cl0 : Calls Try.prog 30 #[nm [65], .slice (some ⟨w10.heap.size, 0, none⟩) 1 1] (w10.alloc (.cells (nmRow [[68]]).toArray 9)).drew (fun e w' => ∃ A c, e = .returned (.agg #[nm [65], .bool false, .slice none 0 0, .slice A 1 c, .slice none 0 0, .slice none 0 0, .slice none 0 0]) ∧ UpsAt w' (.slice A 1 c) [[68]] ∧ Below w10.heap.size w10 w') := (class_any [65] _ [[68]] _ ((nms_laid w10 [[68]] 1).below ((Below.refl _ _).drew) (Nat.le_refl _)) (by simp) f68).mono (by
    rintro e w' ⟨A, c, h1, h2, h3⟩
    exact ⟨A, c, h1, h2, stepN hd0 h3⟩)
  have CL := Lib.hid cl0
  have hlast : ∀ (W : World), Below w10.heap.size w10 W → ∀ j u, (clsCells [([66], A2, 1, c2), ([67], A3, 1, c3), ([68], A4, 2, c4), ([69], A5, 2, c5)])[j]? = some u → W.cell? ((⟨g, 7, none⟩ : Addr).add j) = some u := fun W hW j u hj => by
    have h1 := HROW.out.cell (7 + j)
    have h2 : w1.cell? ⟨g, 7 + j, none⟩ = some u := by
      rw [h1]
      rw [List.getElem?_toArray]
      show (clsCell ([65], A1, 0, c1) ++ clsCells [([66], A2, 1, c2), ([67], A3, 1, c3), ([68], A4, 2, c4), ([69], A5, 2, c5)])[7 + j]? = some u
      rw [List.getElem?_append_right (by simp [clsCell]), show 7 + j - (clsCell ([65], A1, 0, c1)).length = j from by simp [clsCell]]
      exact hj
    have h3 := kept_below hW (Nat.le_refl _) _ _ (kept_below C10.out (Nat.le_refl _) _ _ h2)
    rw [show ((⟨g, 7, none⟩ : Addr).add j) = ⟨g, 7 + j, none⟩ from by unfold Addr.add; split <;> simp_all]
    exact h3
  have HLAST := Lib.hid hlast
  clear f68 hlast hd0 cl0
  go_cut [20] from 115 (fun v wx => ∃ g' cap, v = .slice (some ⟨g', 0, none⟩) 5 cap ∧ SysAt wx v Hr.badFive ∧ Below w10.heap.size w10 wx)
  case first =>
    go_region_held3 (fun _ => True) (trivial) (first
      | (go_at_call 30; refine CL.out.mono ?_; rintro e w11 ⟨AX, cX, rfl, huX, hbX⟩)
      | (refine step_append_lies _ (by rfl) _ _ 22 (by rfl) w10.heap.size 48 i0 (.agg #[.string ⟨#[]⟩, .bool false, .slice none 0 0, .slice none 0 0, .slice none 0 0, .slice none 0 0, .slice none 0 0]) 7 144 Try.underlying22 hi hz0 hz1 hz2 (by rfl) (by decide) _ _ _ (by rfl) (own_new _ _ _ 7 rfl _ hbX.size) ⟨g, 7, none⟩ 4 4 (clsCells [([66], A2, 1, c2), ([67], A3, 1, c3), ([68], A4, 2, c4), ([69], A5, 2, c5)]) (by rfl) (by rfl) (HLAST.out _ (hbX.alloc hbX.size _)) (by simp [clsCells, clsCell, Value.oneCell']) (by decide) (by decide) (by decide) (by simp; have := hbX.size; omega) _ rfl ?_; intro g' cap w12 hown hg12 hat hlt))
    all_goals go_wp2_with fail
    go_meet
    have hbY : Below w11.heap.size w11 w12 := Below.grown ((Below.refl _ _).alloc (Nat.le_refl _) _) hg12 (by simp) (fun r hr => by cases hr; exact Nat.le_refl _)
    have hbZ := stepN hbX hbY
    have hbW := stepN C10.out hbZ
    have hc := hown.cells (g := g') rfl
    refine ⟨g', cap, rfl, bad_sys (fun j u hj => ?_) (huX.up hbY) (HU2.out.up hbW) (HU3.out.up hbW) (HU4.out.up hbW) (HU5.out.up hbW), hbZ⟩
    have h3 := hc j u (by simpa [clsCells, clsCell] using hj)
    rw [show ((⟨g', 0, none⟩ : Addr).add j) = ⟨g', j, none⟩ from by unfold Addr.add; split <;> simp_all] at h3
    exact h3
  case rest =>
    obtain ⟨g', cap, rfl, hsys, hbc⟩ := hcut
    have hck := Check_any _ Hr.badFive wc hsys (by decide)
    rw [Hr.bad_check] at hck
    have HCK := Lib.hid hck
    have HRG := Lib.hid (fun (W : World) (hW : Below wc.heap.size wc W) => (Ring_some _ Hr.badFive W (hsys.below hW (Nat.le_refl _)) (by decide) Hr.bad_links Hr.bad_yes))
    have HBC := Lib.hid hbc
    clear hck hsys hbc CL HLAST HROW HU2 HU3 HU4 HU5
    go_wp2_with (first
      | (go_at_call 16; refine HCK.out.mono ?_
         rintro e w13 ⟨rfl, hb13⟩
         have B13 := Lib.hid hb13
         have HRG2 := Lib.hid (HRG.out w13 hb13)
         clear hb13 HCK HRG)
      | (go_at_call 17; refine HRG2.out.mono ?_
         rintro e w14 ⟨rg, or, hrg, rfl, hor, hb14⟩
         cases Hr.bad_ring.symm.trans hrg
         have hb14' := stepN B13.out hb14
         have D10 := stepN HBC.out hb14'
         have D9 := stepN B10.out D10
         have D8 := stepN B9.out D9
         have D7 := stepN B8.out D8
         have D6 := stepN B7.out D7
         have D5 := stepN B6.out D6
         have D4 := stepN B5.out D5
         have D3 := stepN B4.out D4
         have D2 := stepN B3.out D3
         have le := fun (n : Nat) => Nat.le_refl n
         have P2 := Lib.hid (N2.out.below D2 (le _))
         have P4 := Lib.hid (N4.out.below D4 (le _))
         have P5 := Lib.hid (N5.out.below D5 (le _))
         have P6 := Lib.hid (N6.out.below D6)
         have P7 := Lib.hid (N7.out.below D7 (le _))
         have P8 := Lib.hid (N8.out.below D8 (le _))
         have P9 := Lib.hid (N9.out.below D9 (le _))
         have P10 := Lib.hid (N10.out.below D10 (le _))
         have P14 := Lib.hid (NmsAt.of_own hor)
         have BALL := Lib.hid (stepN HB1.out (stepN B2.out D2))
         have HS1 := Lib.hid (same_laid w14 _ _ 5 P2.out (by decide))
         clear hor hb14 hb14' hrg HRG2 D10 D9 D8 D7 D6 D5 D4 D3 D2 N2 N4 N5 N6 N7 N8 N9 N10 B2 B3 B4 B5 B6 B7 B8 B9 B10 C2 C3 C4 C5 C6 C7 C8 C9 C10 le SY HB1 HBC B13)
      | (go_at_call 31; refine HS1.out.mono ?_
         rintro e w15 ⟨rfl, hb15⟩
         have M15 := Lib.hid hb15
         have HS2 := Lib.hid (same_laid w15 _ _ 2 (P4.out.below hb15 (Nat.le_refl _)) (by decide))
         clear hb15 HS1)
      | (go_at_call 31; refine HS2.out.mono ?_
         rintro e w16 ⟨rfl, hb⟩
         have hb16 := stepN M15.out hb
         have M16 := Lib.hid hb16
         have HS3 := Lib.hid ((SameNames_any _ _ _ _ w16 (P5.out.below hb16 (Nat.le_refl _)) (P2.out.below hb16 (Nat.le_refl _)) (by decide) (by decide)).mono (fun e w' h => (⟨h.1, stepN hb16 h.2⟩ : e = .returned (.bool true) ∧ Below w14.heap.size w14 w')))
         clear hb hb16 HS2)
      | (go_at_call 31; refine HS3.out.mono ?_
         rintro e w17 ⟨rfl, hb17⟩
         have M17 := Lib.hid hb17
         have hll := lists_below w17
         have HS4 := Lib.hid ((SameLists_any _ _ _ _ _ (P6.out.below (stepN hb17 hll)) (lists_laid w17) (by decide) (by decide) (by decide) (by decide)).mono (fun e w' h => (⟨h.1, stepN (stepN hb17 hll) h.2⟩ : e = .returned (.bool true) ∧ Below w14.heap.size w14 w')))
         clear hll hb17 HS3)
      | (go_at_call 32; refine HS4.out.mono ?_
         rintro e w18 ⟨rfl, hb18⟩
         have M18 := Lib.hid hb18
         have HS5 := Lib.hid (same_laid w18 _ _ 1 (P7.out.below hb18 (Nat.le_refl _)) (by decide))
         clear hb18 HS4)
      | (go_at_call 31; refine HS5.out.mono ?_
         rintro e w19 ⟨rfl, hb⟩
         have hb19 := stepN M18.out hb
         have M19 := Lib.hid hb19
         have HS6 := Lib.hid (same_laid w19 _ _ 1 (P8.out.below hb19 (Nat.le_refl _)) (by decide))
         clear hb hb19 HS5)
      | (go_at_call 31; refine HS6.out.mono ?_
         rintro e w20 ⟨rfl, hb⟩
         have hb20 := stepN M19.out hb
         have M20 := Lib.hid hb20
         have hal : Below w20.heap.size w20 (w20.alloc (.cells #[nm [69], nm [65]] 64)) := (Below.refl _ _).alloc (Nat.le_refl _) _
         have HS7 := Lib.hid ((SameLinks_any _ _ _ _ _ (P9.out.below (stepN hb20 hal) (Nat.le_refl _)) (links_laid w20) (by decide) (by decide)).mono (fun e w' h => (⟨h.1, stepN (stepN hb20 hal) h.2⟩ : e = .returned (.bool true) ∧ Below w14.heap.size w14 w')))
         clear hb hb20 hal HS6)
      | (go_at_call 33; refine HS7.out.mono ?_
         rintro e w21 ⟨rfl, hb21⟩
         have M21 := Lib.hid hb21
         have HS8 := Lib.hid (same_laid w21 _ _ 3 (P10.out.below hb21 (Nat.le_refl _)) (by decide))
         clear hb21 HS7)
      | (go_at_call 31; refine HS8.out.mono ?_
         rintro e w22 ⟨rfl, hb⟩
         have hb22 := stepN M21.out hb
         have M22 := Lib.hid hb22
         have HS9 := Lib.hid (same_laid w22 _ _ 3 (P14.out.below hb22 (Nat.le_refl _)) (by decide))
         clear hb hb22 HS8)
      | (go_at_call 31; refine HS9.out.mono ?_
         rintro e w23 ⟨rfl, hb⟩
         have M23 := Lib.hid (stepN M22.out hb)
         clear hb HS9))
    go_ret
    exact ⟨rfl, stepN BALL.out M23.out⟩
end Go.Proofs.Ytojfimbanaijdaa
