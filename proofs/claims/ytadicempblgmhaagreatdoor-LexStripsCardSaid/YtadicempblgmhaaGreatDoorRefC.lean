/-
  The reference's small functions, by contract: letters, digits, runs, lists of words.
-/
import Derived.Test.YtadicempblgmhaaGreatDoorRefB
import Derived.Test.YtadicempblgmhaaGreatDoorJoin
import Derived.Test.YtadicempblgmhaaGreatDoorShapeA
namespace Go.Proofs.YtadicempblgmhaaGreatDoor
open Go.RowKit Go.Shelf

theorem lower_eq (c : UInt8) : Lx.lower c = decide (97 ≤ (c.toNat : Int) ∧ (c.toNat : Int) ≤ 122) := by
  rw [Bool.eq_iff_iff]; simp [Lx.lower, UInt8.le_iff_toNat_le]; omega
theorem upper_eq (c : UInt8) : Lx.upper c = decide (65 ≤ (c.toNat : Int) ∧ (c.toNat : Int) ≤ 90) := by
  rw [Bool.eq_iff_iff]; simp [Lx.upper, UInt8.le_iff_toNat_le]; omega

theorem rdigit_any (c : UInt8) (w : World) : Calls Tryz.prog 98 #[.int .u8 c.toNat] w fun e w' => e = .returned (.bool (Lx.digit c)) ∧ w = w' := by
  go_enter Tryz.func98, Tryz.ntmps98
  go_wp2
  all_goals go_ret
  all_goals exact ⟨ret_bool (by rw [digit_eq, Bool.eq_iff_iff]; simp; omega), rfl⟩
theorem rsmall_any (c : UInt8) (w : World) : Calls Tryz.prog 96 #[.int .u8 c.toNat] w fun e w' => e = .returned (.bool (Lx.lower c)) ∧ w = w' := by
  go_enter Tryz.func96, Tryz.ntmps96
  go_wp2
  all_goals go_ret
  all_goals exact ⟨ret_bool (by rw [lower_eq, Bool.eq_iff_iff]; simp; omega), rfl⟩
theorem rcapital_any (c : UInt8) (w : World) : Calls Tryz.prog 97 #[.int .u8 c.toNat] w fun e w' => e = .returned (.bool (Lx.upper c)) ∧ w = w' := by
  go_enter Tryz.func97, Tryz.ntmps97
  go_wp2
  all_goals go_ret
  all_goals exact ⟨ret_bool (by rw [upper_eq, Bool.eq_iff_iff]; simp; omega), rfl⟩
theorem part_eq (c : UInt8) : Lx.inRun c = (Lx.lower c || Lx.upper c || Lx.digit c || ((c.toNat : Int) == 95)) := by
  unfold Lx.inRun
  rw [byte_eq c 95]
  rfl
theorem rpart_any (c : UInt8) (w : World) : Calls Tryz.prog 76 #[.int .u8 c.toNat] w fun e w' => e = .returned (.bool (Lx.inRun c)) ∧ w = w' := by
  have hp := part_eq c
  have CS := fun W => rsmall_any c W
  have CC := fun W => rcapital_any c W
  have CD := fun W => rdigit_any c W
  generalize Lx.inRun c = pt at *
  generalize Lx.lower c = lo at *
  generalize Lx.upper c = up at *
  generalize Lx.digit c = di at *
  go_enter Tryz.func76, Tryz.ntmps76
  cases lo <;> cases up <;> cases di
  all_goals
    go_wp2_with (first
      | (go_at_call 96; refine (CS _).mono ?_; rintro e w' ⟨rfl, rfl⟩)
      | (go_at_call 97; refine (CC _).mono ?_; rintro e w' ⟨rfl, rfl⟩)
      | (go_at_call 98; refine (CD _).mono ?_; rintro e w' ⟨rfl, rfl⟩))
  all_goals go_ret
  all_goals exact ⟨ret_bool (by rw [hp]; simp), rfl⟩

theorem span_from (p : UInt8 → Bool) (s : ByteArray) (a k : Nat) (hk : a + k ≤ s.size) (h : ∀ i (_ : i < k), ∀ (h : a + i < s.size), p s[a + i] = true) (hs : ∀ (h : a + k < s.size), p s[a + k] = false) : Lx.span p (s.data.toList.drop a) = k := by
  refine Lx.span_eq p _ k (by rw [List.length_drop]; simp; omega) (fun i hi => ?_) (fun hl => ?_)
  · have := h i hi (by omega)
    rw [List.getElem_drop]
    exact this
  · rw [List.length_drop] at hl
    have := hs (by simp at hl; omega)
    rw [List.getElem_drop]
    exact this

set_option maxHeartbeats 400000 in
theorem rrun_any (s : ByteArray) (a : Nat) (w : World) (hs : s.size ≤ 1000000) (ha : a ≤ s.size) : Calls Tryz.prog 77 #[.string s, .int .i64 a] w fun e w' => e = .returned (.int .i64 (Lx.span Lx.inRun (s.data.toList.drop a))) ∧ w = w' := by
  go_enter Tryz.func77, Tryz.ntmps77
  go_wp2
  go_loop [5] (fun n => ∃ k : Nat, a + k ≤ s.size ∧ n = .int .i64 k ∧ ∀ i (_ : i < k), ∀ (h : a + i < s.size), Lx.inRun s[a + i] = true) (fun n => s.size - (intOf n).toNat)
  case atStart => exact ⟨0, ha, rfl, fun i hi => by omega⟩
  case round =>
    obtain ⟨k, hk, rfl, hall⟩ := hrel
    have Hall := Lib.hid hall
    clear hall
    have hwr : IntKind.i64.wrap ((a : Int) + k) = ((a + k : Nat) : Int) := by rw [IntWalk.i64_in _ (by omega)]; omega
    by_cases hlt : a + k < s.size
    · have CP := fun W => rpart_any s[a + k] W
      generalize hb : Lx.inRun s[a + k] = bb at *
      have HB := Lib.hid hb
      clear hb
      have hi1 : ((a + k : Nat) : Int) < s.size := by omega
      cases bb
      · go_wp2_with (go_at_call 76; refine (CP _).mono ?_; rintro e w' ⟨rfl, rfl⟩)
        go_ret
        exact ⟨ret_int (by rw [span_from _ s a k hk Hall.out (fun _ => HB.out)]), rfl⟩
      · go_wp2_with (go_at_call 76; refine (CP _).mono ?_; rintro e w' ⟨rfl, rfl⟩)
        go_round
        case rel => exact ⟨k + 1, by omega, by go_num, fun i hi h => by
          by_cases e : i = k
          · subst e; exact HB.out
          · exact Hall.out i (by omega) h⟩
        case measure => simp [intOf]; omega
    · have hi1 : ¬ ((a + k : Nat) : Int) < s.size := by omega
      go_wp2_with fail
      go_ret
      exact ⟨ret_int (by rw [span_from _ s a k hk Hall.out (fun h => absurd h hlt)]), rfl⟩

set_option maxRecDepth 100000 in
set_option maxHeartbeats 1000000 in
theorem rhas_any (v : Value) (L : List ByteArray) (x : ByteArray) (w : World) (hl : StrsAt w v L) (hlen : L.length ≤ 100000) : Calls Tryz.prog 99 #[v, .string x] w fun e w' => e = .returned (.bool (decide (x.data.toList ∈ L.map fun s => s.data.toList))) ∧ w = w' := by
  obtain ⟨A, c, rfl, hc⟩ := hl
  have HC := Lib.hid hc
  clear hc
  go_enter Tryz.func99, Tryz.ntmps99
  go_wp2
  go_loop [5] (fun n => ∃ k : Nat, k ≤ L.length ∧ n = .int .i64 k ∧ ∀ i (_ : i < k) (h : i < L.length), L[i] ≠ x) (fun n => L.length - (intOf n).toNat)
  case atStart => exact ⟨0, Nat.zero_le _, rfl, fun i hi => by omega⟩
  case round =>
    obtain ⟨k, hk, rfl, hall⟩ := hrel
    have Hall := Lib.hid hall
    clear hall
    by_cases hlt : k < L.length
    · obtain ⟨b, o, rfl, hc⟩ := HC.out (by omega)
      have c0 := hc k hlt
      clear hc
      generalize hy : L[k] = y at *
      have HY := Lib.hid hy
      clear hy
      have hmem : y ∈ L := HY.out ▸ List.getElem_mem hlt
      by_cases he : (y.toList == x.toList) = true
      · go_wp2
        go_ret
        have : y = x := by
          rw [beq_iff_eq, Lib.toList_data, Lib.toList_data] at he
          exact ByteArray.ext (Array.toList_inj.1 he)
        exact ⟨ret_bool (by rw [eq_comm, decide_eq_true_eq]; exact ⟨y, hmem, by rw [this]⟩), rfl⟩
      · have he2 : (y.toList == x.toList) = false := by simpa using he
        go_wp2
        go_round
        case rel => exact ⟨k + 1, by omega, by go_num, fun i hi h => by
          by_cases e : i = k
          · subst e
            rw [HY.out]
            rintro rfl
            simp at he2
          · exact Hall.out i (by omega) h⟩
        case measure => simp [intOf]; omega
    · go_wp2
      go_ret
      refine ⟨ret_bool ?_, rfl⟩
      rw [eq_comm, decide_eq_false_iff_not]
      intro hm
      obtain ⟨y, hy, hx⟩ := hm
      obtain ⟨i, hi, rfl⟩ := List.getElem_of_mem hy
      exact Hall.out i (by omega) hi (ByteArray.ext hx)
end Go.Proofs.YtadicempblgmhaaGreatDoor
namespace Go.Proofs.YtadicempblgmhaaGreatDoor
open Go.RowKit Go.Shelf

theorem StrsAt.laid (w : World) (L : List ByteArray) (c g : Nat) (hg : g = w.heap.size) (cs : Array Value) (hcs : cs = (L.map Value.string).toArray) : StrsAt (w.alloc (.cells cs 9)) (.slice (some ⟨g, 0, none⟩) L.length c) L := by
  subst hcs hg
  refine ⟨_, c, rfl, fun h0 => ⟨w.heap.size, 0, rfl, fun i hi => ?_⟩⟩
  have hc := (Has.new w 9 (L.map Value.string).toArray).cell i
  rw [Nat.zero_add, hc]
  simp [hi]

abbrev bytesOf (l : List (List UInt8)) : List ByteArray := l.map fun x => ⟨x.toArray⟩
theorem bytesOf_mem (l : List (List UInt8)) (x : List UInt8) : (x ∈ (bytesOf l).map fun s => s.data.toList) ↔ x ∈ l := by
  simp [bytesOf]

set_option maxRecDepth 100000 in
theorem rsigns_any (w : World) : Calls Tryz.prog 95 #[] w fun e w' => ∃ v, e = .returned v ∧ StrsAt w' v (bytesOf Lx.signs) ∧ Below w.heap.size w w' := by
  have hl := StrsAt.laid w (bytesOf Lx.signs) 22 w.heap.size rfl _ rfl
  have HL := Lib.hid hl
  clear hl
  go_enter Tryz.func95, Tryz.ntmps95
  go_wp2
  go_ret
  exact ⟨_, rfl, HL.out, (Below.refl _ _).alloc (Nat.le_refl _) _⟩

set_option maxRecDepth 100000 in
theorem rKeywords_any (w : World) : Calls Tryz.prog 112 #[] w fun e w' => ∃ A, e = .returned (.slice A 37 37) ∧ StrsAt w' (.slice A 37 37) (bytesOf Lx.keywords) ∧ Below w.heap.size w w' := by
  have hl := StrsAt.laid w (bytesOf Lx.keywords) 37 w.heap.size rfl _ rfl
  have hlen : (bytesOf Lx.keywords).length = 37 := by rw [List.length_map, Lx.keywords_length]
  rw [hlen] at hl
  have HL := Lib.hid hl
  clear hl
  go_enter Tryz.func112, Tryz.ntmps112
  go_wp2
  go_ret
  exact ⟨_, rfl, HL.out, (Below.refl _ _).alloc (Nat.le_refl _) _⟩

set_option maxRecDepth 100000 in
set_option maxHeartbeats 1000000 in
theorem rnumber_any (s : ByteArray) (w : World) (hs : s.size ≤ 1000000) (h1 : 0 < s.size) :
    Calls Tryz.prog 100 #[.string s] w fun e w' => e = .returned (.agg #[.int .i64 (Lx.number s.data.toList).1, .int .i64 (Lx.number s.data.toList).2]) ∧ Below w.heap.size w w' := by
  rw [← Lx.refNumber_eq]
  have hR := Has.new w 142 #[.int .i64 0, .int .i64 0]
  have hB : Below w.heap.size w (w.alloc (.cells #[.int .i64 0, .int .i64 0] 142)) := (Below.refl _ _).alloc (Nat.le_refl _) _
  have hn1 : s.data.toList.all Lx.digit = false → Lx.refNumber s.data.toList = (0, 2) := fun h => by unfold Lx.refNumber; rw [if_pos h]
  have hhead : s.data.toList.head? = some s[0] := by
    rw [List.head?_eq_getElem?, List.getElem?_eq_getElem (by simpa using h1)]; rfl
  have hlen : s.data.toList.length = s.size := by simp
  have hn2 : s.data.toList.all Lx.digit = true → (s[0].toNat : Int) = 48 → (1 : Int) < s.size → Lx.refNumber s.data.toList = (0, 2) := fun h e1 e2 => by
    unfold Lx.refNumber
    rw [if_neg (by simp [h]), if_pos ⟨by rw [hhead]; congr 1; exact UInt8.toNat_inj.1 (by simp; omega), by omega⟩]
  have hn3 : s.data.toList.all Lx.digit = true → ((s[0].toNat : Int) = 48 → ¬ (1 : Int) < s.size) → Lx.refNumber s.data.toList = match Lx.numTo 0 s.data.toList with | none => (0, 3) | some n => (n, 0) := fun h e => by
    unfold Lx.refNumber
    have hno : ¬ (s.data.toList.head? = some 48 ∧ 1 < s.data.toList.length) := by
      rintro ⟨e1, e2⟩
      rw [hhead] at e1
      injection e1 with e1
      exact e (by rw [e1]; rfl) (by omega)
    rw [if_neg (by simp [h]), if_neg hno]
    cases Lx.numTo 0 s.data.toList <;> rfl
  generalize hfin : Lx.refNumber s.data.toList = fin at *
  have N1 := Lib.hid hn1
  have N2 := Lib.hid hn2
  have N3 := Lib.hid hn3
  have HH := Lib.hid hhead
  have CD := Lib.hid (fun c W => rdigit_any c W)
  clear hn1 hn2 hn3 hfin hhead hlen
  go_enter Tryz.func100, Tryz.ntmps100
  go_wp2
  generalize w.alloc (.cells #[.int .i64 0, .int .i64 0] 142) = wA at *
  have c80 := hR.cell 0
  have c81 := hR.cell 1
  have f80 := hR.free 0
  have f81 := hR.free 1
  simp only [List.getElem?_toArray, List.getElem?_cons_zero, List.getElem?_cons_succ] at c80 c81
  have HR := Lib.hid hR
  have HB := Lib.hid hB
  clear hR hB
  have CL := Lib.hid (fun (K E : Int) => ((HR.out.set 0 (.int .i64 K)).set 1 (.int .i64 E)))
  have BL := Lib.hid (fun (u v : Value) => ((HB.out.setCell (p := ⟨w.heap.size, 0, none⟩) (Nat.le_refl _) u).setCell (p := ⟨w.heap.size, 1, none⟩) (Nat.le_refl _) v))
  go_loop [3] (fun n => ∃ k : Nat, k ≤ s.size ∧ n = .int .i64 k ∧ ∀ i (_ : i < k), ∀ (h : i < s.size), Lx.digit s[i] = true) (fun n => s.size - (intOf n).toNat)
  case atStart => exact ⟨0, Nat.zero_le _, rfl, fun i hi => by omega⟩
  case round =>
    obtain ⟨k, hk, rfl, hall⟩ := hrel
    have Hall := Lib.hid hall
    clear hall
    by_cases hlt : k < s.size
    · generalize hb : Lx.digit s[k] = bb at *
      have HBB := Lib.hid hb
      have CDk := Lib.hid (fun W => CD.out s[k] W)
      rw [hb] at CDk
      clear hb
      cases bb
      · go_wp2_with (go_at_call 98; refine (CDk.out _).mono ?_; rintro e w' ⟨rfl, rfl⟩)
        have d0 := (CL.out 0 2).cell 0
        have d1 := (CL.out 0 2).cell 1
        simp at d0 d1
        refine bodyPost_ret (v := .agg #[.int .i64 0, .int .i64 2]) ?_ rfl ⟨?_, BL.out _ _⟩
        · simp [results, Tryz.results100, go_sem, d0, d1]
        · have : s.data.toList.all Lx.digit = false := by
            rw [Bool.eq_false_iff]
            intro h
            have := List.all_eq_true.1 h s[k] (List.getElem_mem (l := s.data.toList) (by simpa using hlt))
            rw [HBB.out] at this
            cases this
          rw [N1.out this]
      · go_wp2_with (go_at_call 98; refine (CDk.out _).mono ?_; rintro e w' ⟨rfl, rfl⟩)
        go_round
        case rel => exact ⟨k + 1, by omega, by go_num, fun i hi h => by
          by_cases e : i = k
          · subst e; exact HBB.out
          · exact Hall.out i (by omega) h⟩
        case measure => simp [intOf]; omega
    · have hall : s.data.toList.all Lx.digit = true := by
        rw [List.all_eq_true]
        intro x hx
        obtain ⟨i, hi, rfl⟩ := List.getElem_of_mem hx
        simp at hi
        exact Hall.out i (by omega) hi
      have HALL := Lib.hid hall
      clear hall
      have hsz : (0 : Int) < s.size := by omega
      by_cases hz : (s[0].toNat : Int) = 48
      · by_cases hz1 : (1 : Int) < s.size
        · go_wp2_with fail
          have d0 := (CL.out 0 2).cell 0
          have d1 := (CL.out 0 2).cell 1
          simp at d0 d1
          refine bodyPost_ret (v := .agg #[.int .i64 0, .int .i64 2]) ?_ rfl ⟨?_, BL.out _ _⟩
          · simp [results, Tryz.results100, go_sem, d0, d1]
          · rw [N2.out HALL.out hz hz1]
        · have hN := Lib.hid (N3.out HALL.out (fun _ => by omega))
          have hm1 : ∀ m : Int, 0 ≤ m → m ≤ 1099511627776 → IntKind.i64.wrap (10 * m) = 10 * m := fun m h1 h2 => IntWalk.i64_in _ (by omega)
          have hm2 : ∀ (m : Int) (c : UInt8), 0 ≤ m → m ≤ 1099511627776 → 48 ≤ (c.toNat : Int) → (c.toNat : Int) ≤ 57 → IntKind.i64.wrap (10 * m + (c.toNat : Int)) = 10 * m + (c.toNat : Int) ∧ IntKind.i64.wrap (10 * m + (c.toNat : Int) - 48) = 10 * m + (c.toNat : Int) - 48 := fun m c h1 h2 h3 h4 => ⟨IntWalk.i64_in _ (by omega), IntWalk.i64_in _ (by omega)⟩
          have HM1 := Lib.hid hm1
          have HM2 := Lib.hid hm2
          clear hm1 hm2
          go_wp2_with fail
          go_loop [4, 5] (fun n i => ∃ (k : Nat) (m : Int), k ≤ s.size ∧ i = .int .i64 k ∧ n = .int .i64 m ∧ Hid (Lx.numTo 0 (s.data.toList.take k) = some m) ∧ 0 ≤ m ∧ m ≤ 1099511627776) (fun _ i => s.size - (intOf i).toNat)
          case atStart => exact ⟨0, 0, Nat.zero_le _, rfl, rfl, rfl, by omega, by omega⟩
          case round =>
            obtain ⟨k, m, hk, rfl, rfl, HM, hm0, hm1⟩ := hrel
            by_cases hlt : k < s.size
            · have hdk : 48 ≤ (s[k].toNat : Int) ∧ (s[k].toNat : Int) ≤ 57 := by
                have := List.all_eq_true.1 HALL.out s[k] (List.getElem_mem (l := s.data.toList) (by simpa using hlt))
                rw [digit_eq] at this; simpa using this
              obtain ⟨hd0, hd1⟩ := hdk
              have hsn := numTo_snoc (s.data.toList.take k) s[k] 0
              rw [← take_snoc s k hlt, HM.out] at hsn
              have HSN := Lib.hid hsn
              clear hsn
              have w1 := HM1.out m hm0 hm1
              obtain ⟨w2, w3⟩ := HM2.out m s[k] hm0 hm1 hd0 hd1
              by_cases hb : 1099511627776 < 10 * m + (s[k].toNat : Int) - 48
              · have hnone : Lx.numTo 0 s.data.toList = none := by
                  have h1 := HSN.out
                  simp only [Option.bind, show 1099511627776 < 10 * m + ((s[k].toNat : Int) - 48) from by omega, if_true] at h1
                  have := numTo_none _ (s.data.toList.drop (k + 1)) 0 h1
                  rwa [List.take_append_drop] at this
                have HNN := Lib.hid hnone
                clear hnone
                go_wp2_with fail
                have d0 := (CL.out 0 3).cell 0
                have d1 := (CL.out 0 3).cell 1
                simp at d0 d1
                refine bodyPost_ret (v := .agg #[.int .i64 0, .int .i64 3]) ?_ rfl ⟨?_, BL.out _ _⟩
                · simp [results, Tryz.results100, go_sem, d0, d1]
                · rw [hN.out, HNN.out]
              · have hsm : Lx.numTo 0 (s.data.toList.take (k + 1)) = some (10 * m + (s[k].toNat : Int) - 48) := by
                  have h1 := HSN.out
                  simp only [Option.bind, show ¬ 1099511627776 < 10 * m + ((s[k].toNat : Int) - 48) from by omega, if_false] at h1
                  rw [h1]
                  congr 1
                  omega
                have HSM := Lib.hid hsm
                clear hsm
                go_wp2_with fail
                go_round
                case rel => exact ⟨k + 1, _, by omega, by go_num, rfl, HSM.out, by omega, by omega⟩
                case measure => simp [intOf]; omega
            · obtain rfl : k = s.size := by omega
              have hsome : Lx.numTo 0 s.data.toList = some m := by
                have := HM.out
                rwa [List.take_of_length_le (by simp)] at this
              have HSO := Lib.hid hsome
              clear hsome
              go_wp2_with fail
              have d0 := (CL.out m 0).cell 0
              have d1 := (CL.out m 0).cell 1
              simp at d0 d1
              refine bodyPost_ret (v := .agg #[.int .i64 m, .int .i64 0]) ?_ rfl ⟨?_, BL.out _ _⟩
              · simp [results, Tryz.results100, go_sem, d0, d1]
              · rw [hN.out, HSO.out]
      · have hN := Lib.hid (N3.out HALL.out (fun h => absurd h hz))
        have hm1 : ∀ m : Int, 0 ≤ m → m ≤ 1099511627776 → IntKind.i64.wrap (10 * m) = 10 * m := fun m h1 h2 => IntWalk.i64_in _ (by omega)
        have hm2 : ∀ (m : Int) (c : UInt8), 0 ≤ m → m ≤ 1099511627776 → 48 ≤ (c.toNat : Int) → (c.toNat : Int) ≤ 57 → IntKind.i64.wrap (10 * m + (c.toNat : Int)) = 10 * m + (c.toNat : Int) ∧ IntKind.i64.wrap (10 * m + (c.toNat : Int) - 48) = 10 * m + (c.toNat : Int) - 48 := fun m c h1 h2 h3 h4 => ⟨IntWalk.i64_in _ (by omega), IntWalk.i64_in _ (by omega)⟩
        have HM1 := Lib.hid hm1
        have HM2 := Lib.hid hm2
        clear hm1 hm2
        go_wp2_with fail
        go_loop [4, 5] (fun n i => ∃ (k : Nat) (m : Int), k ≤ s.size ∧ i = .int .i64 k ∧ n = .int .i64 m ∧ Hid (Lx.numTo 0 (s.data.toList.take k) = some m) ∧ 0 ≤ m ∧ m ≤ 1099511627776) (fun _ i => s.size - (intOf i).toNat)
        case atStart => exact ⟨0, 0, Nat.zero_le _, rfl, rfl, rfl, by omega, by omega⟩
        case round =>
          obtain ⟨k, m, hk, rfl, rfl, HM, hm0, hm1⟩ := hrel
          by_cases hlt : k < s.size
          · have hdk : 48 ≤ (s[k].toNat : Int) ∧ (s[k].toNat : Int) ≤ 57 := by
              have := List.all_eq_true.1 HALL.out s[k] (List.getElem_mem (l := s.data.toList) (by simpa using hlt))
              rw [digit_eq] at this; simpa using this
            obtain ⟨hd0, hd1⟩ := hdk
            have hsn := numTo_snoc (s.data.toList.take k) s[k] 0
            rw [← take_snoc s k hlt, HM.out] at hsn
            have HSN := Lib.hid hsn
            clear hsn
            have w1 := HM1.out m hm0 hm1
            obtain ⟨w2, w3⟩ := HM2.out m s[k] hm0 hm1 hd0 hd1
            by_cases hb : 1099511627776 < 10 * m + (s[k].toNat : Int) - 48
            · have hnone : Lx.numTo 0 s.data.toList = none := by
                have h1 := HSN.out
                simp only [Option.bind, show 1099511627776 < 10 * m + ((s[k].toNat : Int) - 48) from by omega, if_true] at h1
                have := numTo_none _ (s.data.toList.drop (k + 1)) 0 h1
                rwa [List.take_append_drop] at this
              have HNN := Lib.hid hnone
              clear hnone
              go_wp2_with fail
              have d0 := (CL.out 0 3).cell 0
              have d1 := (CL.out 0 3).cell 1
              simp at d0 d1
              refine bodyPost_ret (v := .agg #[.int .i64 0, .int .i64 3]) ?_ rfl ⟨?_, BL.out _ _⟩
              · simp [results, Tryz.results100, go_sem, d0, d1]
              · rw [hN.out, HNN.out]
            · have hsm : Lx.numTo 0 (s.data.toList.take (k + 1)) = some (10 * m + (s[k].toNat : Int) - 48) := by
                have h1 := HSN.out
                simp only [Option.bind, show ¬ 1099511627776 < 10 * m + ((s[k].toNat : Int) - 48) from by omega, if_false] at h1
                rw [h1]
                congr 1
                omega
              have HSM := Lib.hid hsm
              clear hsm
              go_wp2_with fail
              go_round
              case rel => exact ⟨k + 1, _, by omega, by go_num, rfl, HSM.out, by omega, by omega⟩
              case measure => simp [intOf]; omega
          · obtain rfl : k = s.size := by omega
            have hsome : Lx.numTo 0 s.data.toList = some m := by
              have := HM.out
              rwa [List.take_of_length_le (by simp)] at this
            have HSO := Lib.hid hsome
            clear hsome
            go_wp2_with fail
            have d0 := (CL.out m 0).cell 0
            have d1 := (CL.out m 0).cell 1
            simp at d0 d1
            refine bodyPost_ret (v := .agg #[.int .i64 m, .int .i64 0]) ?_ rfl ⟨?_, BL.out _ _⟩
            · simp [results, Tryz.results100, go_sem, d0, d1]
            · rw [hN.out, HSO.out]
end Go.Proofs.YtadicempblgmhaaGreatDoor
namespace Go.Proofs.YtadicempblgmhaaGreatDoor
open Go.RowKit Go.Shelf

theorem has_laid (ws : List (List UInt8)) (hws : ws.length ≤ 1000) (n : Nat) (hn : n = ws.length) (x : ByteArray) (W : World) (g : Nat) (hg : g = W.heap.size) (cs : Array Value) (hcs : cs = ((bytesOf ws).map Value.string).toArray) (b : Bool) (hb : decide (x.data.toList ∈ ws) = b) :
    Calls Tryz.prog 99 #[.slice (some ⟨g, 0, none⟩) n n, .string x] (W.alloc (.cells cs 9)) fun e w' => e = .returned (.bool b) ∧ w' = W.alloc (.cells cs 9) := by
  have hl := StrsAt.laid W (bytesOf ws) n g hg cs hcs
  have hlen : (bytesOf ws).length = ws.length := by simp
  rw [hlen, ← hn] at hl
  have := rhas_any _ _ x _ hl (by rw [hlen]; omega)
  refine this.mono ?_
  rintro e w' ⟨rfl, rfl⟩
  exact ⟨ret_bool (by rw [← hb]; congr 1; exact propext (bytesOf_mem ws x.data.toList)), rfl⟩

theorem any_snoc (p : UInt8 → Bool) (s : ByteArray) (k : Nat) (h : k < s.size) : (s.data.toList.take (k + 1)).any p = ((s.data.toList.take k).any p || p s[k]) := by
  rw [take_snoc s k h, List.any_append]
  simp

/-- The error's cell and the kind's, and what lay before. -/
structure Pair (w : World) (t : TypeId) (W : World) : Prop where
  below : Below w.heap.size w W
  has : Has W w.heap.size t #[.int .i64 0, .int .i64 0]
theorem Pair.new (w : World) (t : TypeId) : Pair w t (w.alloc (.cells #[.int .i64 0, .int .i64 0] t)) := ⟨(Below.refl _ _).alloc (Nat.le_refl _) _, Has.new _ _ _⟩
theorem Pair.later {w W W' : World} {t : TypeId} (h : Pair w t W) (hb : Below W.heap.size W W') : Pair w t W' := ⟨h.below.trans (hb.mono h.below.size), h.has.below hb h.has.lt⟩
theorem Pair.alloc {w W : World} {t : TypeId} (h : Pair w t W) (o : Obj) : Pair w t (W.alloc o) := h.later ((Below.refl _ _).alloc (Nat.le_refl _) o)
theorem Pair.c0 {w W : World} {t : TypeId} (h : Pair w t W) : W.cell? ⟨w.heap.size, 0, none⟩ = some (.int .i64 0) := (h.has.cell 0).trans rfl
theorem Pair.c1 {w W : World} {t : TypeId} (h : Pair w t W) : W.cell? ⟨w.heap.size, 1, none⟩ = some (.int .i64 0) := (h.has.cell 1).trans rfl
theorem Pair.set {w W : World} {t : TypeId} (h : Pair w t W) (K E : Int) : Has ((W.setCell ⟨w.heap.size, 0, none⟩ (.int .i64 K)).setCell ⟨w.heap.size, 1, none⟩ (.int .i64 E)) w.heap.size t #[.int .i64 K, .int .i64 E] := (h.has.set 0 (.int .i64 K)).set 1 (.int .i64 E)
theorem Pair.kept {w W : World} {t : TypeId} (h : Pair w t W) (u v : Value) : Below w.heap.size w ((W.setCell ⟨w.heap.size, 0, none⟩ u).setCell ⟨w.heap.size, 1, none⟩ v) := (h.below.setCell (p := ⟨w.heap.size, 0, none⟩) (Nat.le_refl _) u).setCell (p := ⟨w.heap.size, 1, none⟩) (Nat.le_refl _) v

set_option maxRecDepth 100000 in
set_option maxHeartbeats 2000000 in
theorem rword_any (s : ByteArray) (w : World) (hs : s.size ≤ 1000000) :
    Calls Tryz.prog 101 #[.string s] w fun e w' => e = .returned (.agg #[.int .i64 (Lx.refWord s.data.toList).1, .int .i64 (Lx.refWord s.data.toList).2]) ∧ Below w.heap.size w w' := by
  have hsp : Lx.refWord s.data.toList = if decide (s.data.toList ∈ Lx.keywords) || decide (s.data.toList ∈ Lx.capitals) then (3, 0) else if decide (s.data.toList ∈ Lx.smalls) then (0, 4) else if s.data.toList.any Lx.lower && s.data.toList.any Lx.upper then (0, 2) else if 20 < s.size then (0, 3) else if s.data.toList.any Lx.lower then (1, 0) else (2, 0) := by
    unfold Lx.refWord
    have e : s.data.toList.length = s.size := by simp
    rw [e]
    simp only [Bool.or_eq_true, decide_eq_true_eq]
  have CH := fun W v (hv : StrsAt W v (bytesOf Lx.keywords)) => rhas_any v (bytesOf Lx.keywords) s W hv (by rw [List.length_map, Lx.keywords_length]; decide)
  have hkm : decide (s.data.toList ∈ (bytesOf Lx.keywords).map fun s => s.data.toList) = decide (s.data.toList ∈ Lx.keywords) := decide_eq_decide.2 (bytesOf_mem _ _)
  simp only [hkm] at CH
  clear hkm
  have CC := fun W g hg cs hcs => has_laid Lx.capitals (by decide) 5 rfl s W g hg cs hcs _ rfl
  have CM := fun W g hg cs hcs => has_laid Lx.smalls (by decide) 5 rfl s W g hg cs hcs _ rfl
  have hend1 : s.data.toList.take s.size = s.data.toList := List.take_of_length_le (by simp)
  have hlo := fun k h => any_snoc Lx.lower s k h
  have hup := fun k h => any_snoc Lx.upper s k h
  generalize decide (s.data.toList ∈ Lx.keywords) = b1 at *
  generalize decide (s.data.toList ∈ Lx.capitals) = b2 at *
  generalize decide (s.data.toList ∈ Lx.smalls) = b3 at *
  generalize Lx.refWord s.data.toList = fin at *
  have HS := Lib.hid hsp
  have HCH := Lib.hid CH
  have HCC := Lib.hid CC
  have HCM := Lib.hid CM
  have HLO := Lib.hid hlo
  have HUP := Lib.hid hup
  have HEND := Lib.hid hend1
  have P0 := Lib.hid (Pair.new w 125)
  clear hsp CH CC CM hend1 hlo hup
  go_enter Tryz.func101, Tryz.ntmps101
  go_wp2_with fail
  refine (rKeywords_any _).mono ?_
  rintro e w1 ⟨Ak, rfl, hk1, hb1⟩
  have P1 := Lib.hid (P0.out.later hb1)
  have HK1 := Lib.hid hk1
  clear hb1 hk1 P0
  go_wp2_with fail
  refine (HCH.out _ _ HK1.out).mono ?_
  rintro e w2 ⟨rfl, rfl⟩
  cases b1
  case true =>
    have c0 := P1.out.c0
    have c1 := P1.out.c1
    have q0 := P1.out.has.free 0
    have q1 := P1.out.has.free 1
    go_wp2_with fail
    have d0 := (P1.out.set 3 0).cell 0
    have d1 := (P1.out.set 3 0).cell 1
    simp at d0 d1
    refine bodyPost_ret (v := .agg #[.int .i64 3, .int .i64 0]) ?_ rfl ⟨?_, P1.out.kept _ _⟩
    · simp [results, Tryz.results101, go_sem, d0, d1]
    · rw [HS.out]; simp
  case false =>
    go_wp2_with fail
    refine (HCC.out _ _ rfl _ rfl).mono ?_
    rintro e w3 ⟨rfl, hw3⟩
    have P2 := Lib.hid (show Pair w 125 w3 from hw3 ▸ P1.out.alloc _)
    clear hw3
    cases b2
    case true =>
      have c0 := P2.out.c0
      have c1 := P2.out.c1
      have q0 := P2.out.has.free 0
      have q1 := P2.out.has.free 1
      go_wp2_with fail
      have d0 := (P2.out.set 3 0).cell 0
      have d1 := (P2.out.set 3 0).cell 1
      simp at d0 d1
      refine bodyPost_ret (v := .agg #[.int .i64 3, .int .i64 0]) ?_ rfl ⟨?_, P2.out.kept _ _⟩
      · simp [results, Tryz.results101, go_sem, d0, d1]
      · rw [HS.out]; simp
    case false =>
      go_wp2_with fail
      refine (HCM.out _ _ rfl _ rfl).mono ?_
      rintro e w4 ⟨rfl, hw4⟩
      have P3 := Lib.hid (show Pair w 125 w4 from hw4 ▸ P2.out.alloc _)
      clear hw4
      have c0 := P3.out.c0
      have c1 := P3.out.c1
      have q0 := P3.out.has.free 0
      have q1 := P3.out.has.free 1
      cases b3
      case true =>
        go_wp2_with fail
        have d0 := (P3.out.set 0 4).cell 0
        have d1 := (P3.out.set 0 4).cell 1
        simp at d0 d1
        refine bodyPost_ret (v := .agg #[.int .i64 0, .int .i64 4]) ?_ rfl ⟨?_, P3.out.kept _ _⟩
        · simp [results, Tryz.results101, go_sem, d0, d1]
        · rw [HS.out]; simp
      case false =>
        go_wp2_with fail
        go_loop [3, 4, 5] (fun lo hi n => ∃ k : Nat, k ≤ s.size ∧ n = .int .i64 k ∧ lo = .bool ((s.data.toList.take k).any Lx.lower) ∧ hi = .bool ((s.data.toList.take k).any Lx.upper)) (fun _ _ n => s.size - (intOf n).toNat)
        case atStart => exact ⟨0, Nat.zero_le _, rfl, rfl, rfl⟩
        case round =>
          obtain ⟨k, hk, rfl, rfl, rfl⟩ := hrel
          by_cases hlt : k < s.size
          · have e1 := HLO.out k hlt
            have e2 := HUP.out k hlt
            have CS := Lib.hid (fun W => rsmall_any s[k] W)
            have CA := Lib.hid (fun W => rcapital_any s[k] W)
            generalize (s.data.toList.take k).any Lx.lower = lo at *
            generalize (s.data.toList.take k).any Lx.upper = up at *
            generalize Lx.lower s[k] = la at *
            generalize Lx.upper s[k] = ua at *
            have E1 := Lib.hid e1
            have E2 := Lib.hid e2
            clear e1 e2
            cases lo <;> cases up
            all_goals
              go_wp2_with (first
                | (go_at_call 96; refine (CS.out _).mono ?_; rintro e w' ⟨rfl, rfl⟩)
                | (go_at_call 97; refine (CA.out _).mono ?_; rintro e w' ⟨rfl, rfl⟩))
              go_round
              case rel => exact ⟨k + 1, by omega, by go_num, by rw [E1.out]; simp, by rw [E2.out]; simp⟩
              case measure => simp [intOf]; omega
          · obtain rfl : k = s.size := by omega
            rw [HEND.out]
            generalize s.data.toList.any Lx.lower = lo at *
            generalize s.data.toList.any Lx.upper = up at *
            cases lo <;> cases up
            · by_cases h20 : (20 : Int) < s.size
              · go_wp2_with fail
                have d0 := (P3.out.set 0 3).cell 0
                have d1 := (P3.out.set 0 3).cell 1
                simp at d0 d1
                refine bodyPost_ret (v := .agg #[.int .i64 0, .int .i64 3]) ?_ rfl ⟨?_, P3.out.kept _ _⟩
                · simp [results, Tryz.results101, go_sem, d0, d1]
                · rw [HS.out]; simp [show 20 < s.size from by omega]
              · go_wp2_with fail
                have d0 := (P3.out.set 2 0).cell 0
                have d1 := (P3.out.set 2 0).cell 1
                simp at d0 d1
                refine bodyPost_ret (v := .agg #[.int .i64 2, .int .i64 0]) ?_ rfl ⟨?_, P3.out.kept _ _⟩
                · simp [results, Tryz.results101, go_sem, d0, d1]
                · rw [HS.out]; simp [show ¬ 20 < s.size from by omega]
            · by_cases h20 : (20 : Int) < s.size
              · go_wp2_with fail
                have d0 := (P3.out.set 0 3).cell 0
                have d1 := (P3.out.set 0 3).cell 1
                simp at d0 d1
                refine bodyPost_ret (v := .agg #[.int .i64 0, .int .i64 3]) ?_ rfl ⟨?_, P3.out.kept _ _⟩
                · simp [results, Tryz.results101, go_sem, d0, d1]
                · rw [HS.out]; simp [show 20 < s.size from by omega]
              · go_wp2_with fail
                have d0 := (P3.out.set 2 0).cell 0
                have d1 := (P3.out.set 2 0).cell 1
                simp at d0 d1
                refine bodyPost_ret (v := .agg #[.int .i64 2, .int .i64 0]) ?_ rfl ⟨?_, P3.out.kept _ _⟩
                · simp [results, Tryz.results101, go_sem, d0, d1]
                · rw [HS.out]; simp [show ¬ 20 < s.size from by omega]
            · by_cases h20 : (20 : Int) < s.size
              · go_wp2_with fail
                have d0 := (P3.out.set 0 3).cell 0
                have d1 := (P3.out.set 0 3).cell 1
                simp at d0 d1
                refine bodyPost_ret (v := .agg #[.int .i64 0, .int .i64 3]) ?_ rfl ⟨?_, P3.out.kept _ _⟩
                · simp [results, Tryz.results101, go_sem, d0, d1]
                · rw [HS.out]; simp [show 20 < s.size from by omega]
              · go_wp2_with fail
                have d0 := (P3.out.set 1 0).cell 0
                have d1 := (P3.out.set 1 0).cell 1
                simp at d0 d1
                refine bodyPost_ret (v := .agg #[.int .i64 1, .int .i64 0]) ?_ rfl ⟨?_, P3.out.kept _ _⟩
                · simp [results, Tryz.results101, go_sem, d0, d1]
                · rw [HS.out]; simp [show ¬ 20 < s.size from by omega]
            · go_wp2_with fail
              have d0 := (P3.out.set 0 2).cell 0
              have d1 := (P3.out.set 0 2).cell 1
              simp at d0 d1
              refine bodyPost_ret (v := .agg #[.int .i64 0, .int .i64 2]) ?_ rfl ⟨?_, P3.out.kept _ _⟩
              · simp [results, Tryz.results101, go_sem, d0, d1]
              · rw [HS.out]; simp
end Go.Proofs.YtadicempblgmhaaGreatDoor
namespace Go.Proofs.YtadicempblgmhaaGreatDoor
open Go.RowKit Go.Shelf

set_option maxRecDepth 100000 in
set_option maxHeartbeats 2000000 in
theorem rShape_any (s : ByteArray) (w : World) (hs : s.size ≤ 1000000) :
    Calls Tryz.prog 78 #[.string s] w fun e w' => e = .returned (.agg #[.int .i64 (Lx.shape s.data.toList).1, .int .i64 (Lx.shape s.data.toList).2]) ∧ Below w.heap.size w w' := by
  rw [← Lx.refShape_eq]
  have CH := fun W v (hv : StrsAt W v (bytesOf Lx.signs)) => rhas_any v (bytesOf Lx.signs) s W hv (by rw [List.length_map]; decide)
  have hkm : decide (s.data.toList ∈ (bytesOf Lx.signs).map fun s => s.data.toList) = decide (s.data.toList ∈ Lx.signs) := decide_eq_decide.2 (bytesOf_mem _ _)
  simp only [hkm] at CH
  clear hkm
  have P0 := Lib.hid (Pair.new w 125)
  have CR := Lib.hid (fun W => rrun_any s 0 W hs (Nat.zero_le _))
  by_cases h0 : s.size = 0
  · obtain rfl : s = ⟨#[]⟩ := of_list (l := []) (List.eq_nil_of_length_eq_zero (by simpa using h0))
    have HS := Lib.hid (show Lx.refShape (⟨#[]⟩ : ByteArray).data.toList = (0, 2) from rfl)
    rw [show decide ((⟨#[]⟩ : ByteArray).data.toList ∈ Lx.signs) = false from by decide] at CH
    generalize Lx.refShape (⟨#[]⟩ : ByteArray).data.toList = fin at *
    have HCH := Lib.hid CH
    clear CH h0 CR
    go_enter Tryz.func78, Tryz.ntmps78
    go_wp2_with fail
    refine (rsigns_any _).mono ?_
    rintro e w1 ⟨v, rfl, hk1, hb1⟩
    have P1 := Lib.hid (P0.out.later hb1)
    have HK1 := Lib.hid hk1
    clear hb1 hk1 P0
    go_wp2_with fail
    refine (HCH.out _ _ HK1.out).mono ?_
    rintro e w2 ⟨rfl, rfl⟩
    have c0 := P1.out.c0
    have c1 := P1.out.c1
    have q0 := P1.out.has.free 0
    have q1 := P1.out.has.free 1
    go_wp2_with fail
    have d0 := (P1.out.set 0 2).cell 0
    have d1 := (P1.out.set 0 2).cell 1
    simp at d0 d1
    refine bodyPost_ret (v := .agg #[.int .i64 0, .int .i64 2]) ?_ rfl ⟨?_, P1.out.kept _ _⟩
    · simp [results, Tryz.results78, go_sem, d0, d1]
    · rw [HS.out]
  · have hp : 0 < s.size := by omega
    have hp1 : (0 : Int) < s.size := by omega
    have hhead : ∃ r, s.data.toList = s[0] :: r := by
      cases hl : s.data.toList with
      | nil =>
        have h2 : s.data.toList.length = s.size := by simp
        rw [hl] at h2
        simp at h2
        omega
      | cons c r =>
        have : s.data.toList[0]'(by rw [hl]; simp) = c := by simp [hl]
        exact ⟨r, by rw [← this]; rfl⟩
    have hsp : Lx.refShape s.data.toList = if decide (s.data.toList ∈ Lx.signs) then ((5 : Int), (0 : Int)) else if (Lx.span Lx.inRun s.data.toList : Int) < s.size then (0, 2) else if (s[0].toNat : Int) = 95 then (0, 2) else if Lx.digit s[0] then (if (Lx.number s.data.toList).2 ≠ 0 then (0, (Lx.number s.data.toList).2) else (4, 0)) else Lx.refWord s.data.toList := by
      obtain ⟨r, hr⟩ := hhead
      have hz : s.size = s.data.toList.length := by simp
      rw [hz]
      generalize s[0] = c at *
      rw [hr]
      unfold Lx.refShape
      simp only [decide_eq_true_eq, Lx.refNumber_eq]
      by_cases h1 : c :: r ∈ Lx.signs
      · rw [if_pos h1, if_pos h1]
      · rw [if_neg h1, if_neg h1]
        by_cases h2 : Lx.span Lx.inRun (c :: r) < (c :: r).length
        · rw [if_pos (.inl h2), if_pos (by omega)]
        · rw [if_neg (c := ((Lx.span Lx.inRun (c :: r) : Nat) : Int) < ((c :: r).length : Nat)) (by omega)]
          by_cases h3 : c = 95
          · subst h3
            rw [if_pos (.inr rfl), if_pos (show ((95 : UInt8).toNat : Int) = 95 from rfl)]
          · rw [if_neg (by rintro (h | h); exact h2 h; exact h3 h), if_neg (c := (c.toNat : Int) = 95) (fun h => h3 (UInt8.toNat_inj.1 (by simp; omega)))]
    have CN := Lib.hid (fun W => rnumber_any s W hs hp)
    have CW := Lib.hid (fun W => rword_any s W hs)
    have CD := Lib.hid (fun W => rdigit_any s[0] W)
    rw [List.drop_zero] at CR
    generalize decide (s.data.toList ∈ Lx.signs) = bs at *
    generalize Lx.refShape s.data.toList = fin at *
    generalize Lx.span Lx.inRun s.data.toList = sp at *
    generalize Lx.number s.data.toList = nu at *
    generalize Lx.refWord s.data.toList = rw' at *
    generalize Lx.digit s[0] = dg at *
    obtain ⟨n1, n2⟩ := nu
    obtain ⟨r1, r2⟩ := rw'
    have HS := Lib.hid hsp
    have HCH := Lib.hid CH
    clear hsp CH hhead
    go_enter Tryz.func78, Tryz.ntmps78
    go_wp2_with fail
    refine (rsigns_any _).mono ?_
    rintro e w1 ⟨v, rfl, hk1, hb1⟩
    have P1 := Lib.hid (P0.out.later hb1)
    have HK1 := Lib.hid hk1
    clear hb1 hk1 P0
    go_wp2_with fail
    refine (HCH.out _ _ HK1.out).mono ?_
    rintro e w2 ⟨rfl, rfl⟩
    have c0 := P1.out.c0
    have c1 := P1.out.c1
    have q0 := P1.out.has.free 0
    have q1 := P1.out.has.free 1
    cases bs
    case true =>
      go_wp2_with fail
      have d0 := (P1.out.set 5 0).cell 0
      have d1 := (P1.out.set 5 0).cell 1
      simp at d0 d1
      refine bodyPost_ret (v := .agg #[.int .i64 5, .int .i64 0]) ?_ rfl ⟨?_, P1.out.kept _ _⟩
      · simp [results, Tryz.results78, go_sem, d0, d1]
      · rw [HS.out]; simp
    case false =>
      have hz0 : ((s.size : Int) == 0) = false := by rw [beq_eq_false_iff_ne]; omega
      by_cases hr : (sp : Int) < s.size
      · have hrN : sp < s.size := by omega
        go_wp2_with (go_at_call 77; refine (CR.out _).mono ?_; rintro e w' ⟨rfl, rfl⟩)
        have d0 := (P1.out.set 0 2).cell 0
        have d1 := (P1.out.set 0 2).cell 1
        simp at d0 d1
        refine bodyPost_ret (v := .agg #[.int .i64 0, .int .i64 2]) ?_ rfl ⟨?_, P1.out.kept _ _⟩
        · simp [results, Tryz.results78, go_sem, d0, d1]
        · rw [HS.out]; simp [hr, hrN]
      · have hrN : ¬ sp < s.size := by omega
        have hrD : decide (sp < s.size) = false := decide_eq_false hrN
        by_cases h95 : (s[0].toNat : Int) = 95
        · have h95b : ((s[0].toNat : Int) == 95) = true := by rw [h95]; rfl
          go_wp2_with (go_at_call 77; refine (CR.out _).mono ?_; rintro e w' ⟨rfl, rfl⟩)
          have d0 := (P1.out.set 0 2).cell 0
          have d1 := (P1.out.set 0 2).cell 1
          simp at d0 d1
          refine bodyPost_ret (v := .agg #[.int .i64 0, .int .i64 2]) ?_ rfl ⟨?_, P1.out.kept _ _⟩
          · simp [results, Tryz.results78, go_sem, d0, d1]
          · rw [HS.out]; simp [hr, hrN, h95]
        · have h95b : ((s[0].toNat : Int) == 95) = false := by rw [beq_eq_false_iff_ne]; exact h95
          cases dg
          case true =>
            by_cases he : n2 = 0
            · subst he
              go_wp2_with (first
                | (go_at_call 77; refine (CR.out _).mono ?_; rintro e w' ⟨rfl, rfl⟩)
                | (go_at_call 98; refine (CD.out _).mono ?_; rintro e w' ⟨rfl, rfl⟩)
                | (go_at_call 100; refine (CN.out _).mono ?_; rintro e w3 ⟨rfl, hb3⟩; have P3 := P1.out.later hb3; have c30 := P3.c0; have c31 := P3.c1; have q30 := P3.has.free 0; have q31 := P3.has.free 1; have lt3 := P3.has.lt))
              have d0 := ((P3.set 4 0).alloc (.cells #[.int .i64 n1, .int .i64 0] 142)).cell 0
              have d1 := ((P3.set 4 0).alloc (.cells #[.int .i64 n1, .int .i64 0] 142)).cell 1
              simp at d0 d1
              refine bodyPost_ret (v := .agg #[.int .i64 4, .int .i64 0]) ?_ rfl ⟨?_, (P3.kept _ _).alloc (by have := P3.below.size; simp; omega) _⟩
              · simp [results, Tryz.results78, go_sem, d0, d1]
              · rw [HS.out]; simp [hr, hrN, h95]
            · go_wp2_with (first
                | (go_at_call 77; refine (CR.out _).mono ?_; rintro e w' ⟨rfl, rfl⟩)
                | (go_at_call 98; refine (CD.out _).mono ?_; rintro e w' ⟨rfl, rfl⟩)
                | (go_at_call 100; refine (CN.out _).mono ?_; rintro e w3 ⟨rfl, hb3⟩; have P3 := P1.out.later hb3; have c30 := P3.c0; have c31 := P3.c1; have q30 := P3.has.free 0; have q31 := P3.has.free 1; have lt3 := P3.has.lt))
              have d0 := ((P3.set 0 n2).alloc (.cells #[.int .i64 n1, .int .i64 n2] 142)).cell 0
              have d1 := ((P3.set 0 n2).alloc (.cells #[.int .i64 n1, .int .i64 n2] 142)).cell 1
              simp at d0 d1
              refine bodyPost_ret (v := .agg #[.int .i64 0, .int .i64 n2]) ?_ rfl ⟨?_, (P3.kept _ _).alloc (by have := P3.below.size; simp; omega) _⟩
              · simp [results, Tryz.results78, go_sem, d0, d1]
              · rw [HS.out]; simp [hr, hrN, h95, he]
          case false =>
            go_wp2_with (first
                | (go_at_call 77; refine (CR.out _).mono ?_; rintro e w' ⟨rfl, rfl⟩)
                | (go_at_call 98; refine (CD.out _).mono ?_; rintro e w' ⟨rfl, rfl⟩)
                | (go_at_call 101; refine (CW.out _).mono ?_; rintro e w3 ⟨rfl, hb3⟩; have P3 := P1.out.later hb3; have c30 := P3.c0; have c31 := P3.c1; have q30 := P3.has.free 0; have q31 := P3.has.free 1))
            have d0 := (P3.set r1 r2).cell 0
            have d1 := (P3.set r1 r2).cell 1
            simp at d0 d1
            refine bodyPost_ret (v := .agg #[.int .i64 r1, .int .i64 r2]) ?_ rfl ⟨?_, P3.kept _ _⟩
            · simp [results, Tryz.results78, go_sem, d0, d1]
            · rw [HS.out]; simp [hr, hrN, h95]

end Go.Proofs.YtadicempblgmhaaGreatDoor
