/-
  The reference's words, numbers, kinds, by contract: they are the program's.
-/
import Derived.Test.YtmmemkkljadglaaDoorRefC
import Derived.Test.YtmmemkkljadglaaDoorShapeD
namespace Go.Proofs.YtmmemkkljadglaaDoor
open Go.RowKit Go.Shelf

theorem StrsAt.laid (w : World) (L : List ByteArray) (c g : Nat) (hg : g = w.heap.size) (cs : Array Value) (hcs : cs = (L.map Value.string).toArray) : StrsAt (w.alloc (.cells cs 9)) (.slice (some ⟨g, 0, none⟩) L.length c) L := by
  subst hcs hg
  refine ⟨_, c, rfl, fun h0 => ⟨w.heap.size, 0, rfl, fun i hi => ?_⟩⟩
  have hc := (Has.new w 9 (L.map Value.string).toArray).cell i
  rw [Nat.zero_add, hc]
  simp [hi]

abbrev bytesOf (l : List (List UInt8)) : List ByteArray := l.map fun x => ⟨x.toArray⟩
theorem bytesOf_mem (l : List (List UInt8)) (x : List UInt8) : (x ∈ (bytesOf l).map fun s => s.data.toList) ↔ x ∈ l := by
  simp [bytesOf]

set_option maxRecDepth 100000 in
theorem rsigns_any (w : World) : Calls Tryd.prog 46 #[] w fun e w' => ∃ v, e = .returned v ∧ StrsAt w' v (bytesOf Lx.signs) ∧ Below w.heap.size w w' := by
  have hl := StrsAt.laid w (bytesOf Lx.signs) 22 w.heap.size rfl _ rfl
  have HL := Lib.hid hl
  clear hl
  go_enter Tryd.func46, Tryd.ntmps46
  go_wp2
  go_ret
  exact ⟨_, rfl, HL.out, (Below.refl _ _).alloc (Nat.le_refl _) _⟩

set_option maxRecDepth 100000 in
theorem rKeywords_any (w : World) : Calls Tryd.prog 14 #[] w fun e w' => ∃ A, e = .returned (.slice A 37 37) ∧ StrsAt w' (.slice A 37 37) (bytesOf Lx.keywords) ∧ Below w.heap.size w w' := by
  have hl := StrsAt.laid w (bytesOf Lx.keywords) 37 w.heap.size rfl _ rfl
  have hlen : (bytesOf Lx.keywords).length = 37 := by rw [List.length_map, Lx.keywords_length]
  rw [hlen] at hl
  have HL := Lib.hid hl
  clear hl
  go_enter Tryd.func14, Tryd.ntmps14
  go_wp2
  go_ret
  exact ⟨_, rfl, HL.out, (Below.refl _ _).alloc (Nat.le_refl _) _⟩

set_option maxRecDepth 100000 in
set_option maxHeartbeats 1000000 in
theorem rnumber_any (s : ByteArray) (w : World) (hs : s.size ≤ 1000000) (h1 : 0 < s.size) :
    Calls Tryd.prog 49 #[.string s] w fun e w' => e = .returned (.agg #[.int .i64 (Lx.number s.data.toList).1, .int .i64 (Lx.number s.data.toList).2]) ∧ Below w.heap.size w w' := by
  rw [← Lx.refNumber_eq]
  have hR := Has.new w 30 #[.int .i64 0, .int .i64 0]
  have hB : Below w.heap.size w (w.alloc (.cells #[.int .i64 0, .int .i64 0] 30)) := (Below.refl _ _).alloc (Nat.le_refl _) _
  have hn1 : s.data.toList.all Lx.digit = false → Lx.refNumber s.data.toList = (0, 2) := fun h => by unfold Lx.refNumber; rw [if_pos h]
  have hhead : s.data.toList.head? = some s[0] := by
    rw [List.head?_eq_getElem?, List.getElem?_eq_getElem (by simpa using h1)]; rfl
  have hlen : s.data.toList.length = s.size := by simp
  have hn2 : s.data.toList.all Lx.digit = true → (s[0].toNat : Int) = 48 → (1 : Int) < s.size → Lx.refNumber s.data.toList = (0, 2) := fun h e1 e2 => by
    unfold Lx.refNumber
    rw [if_neg (by simp [h]), if_pos ⟨by rw [hhead]; congr 1; exact UInt8.toNat_inj.1 (by simp; omega), by omega⟩]
  have hn3 : s.data.toList.all Lx.digit = true → ((s[0].toNat : Int) = 48 → ¬ (1 : Int) < s.size) → Lx.refNumber s.data.toList = match Lx.numTo 0 s.data.toList with | none => (0, 3) | some n => (n, 0) := fun h e => by
    unfold Lx.refNumber
    have hno : ¬ (s.data.toList.head? = some 48 ∧ 1 < s.data.toList.length) := by
      rintro ⟨e1, e2⟩
      rw [hhead] at e1
      injection e1 with e1
      exact e (by rw [e1]; rfl) (by omega)
    rw [if_neg (by simp [h]), if_neg hno]
    cases Lx.numTo 0 s.data.toList <;> rfl
  generalize hfin : Lx.refNumber s.data.toList = fin at *
  have N1 := Lib.hid hn1
  have N2 := Lib.hid hn2
  have N3 := Lib.hid hn3
  have HH := Lib.hid hhead
  have CD := Lib.hid (fun c W => rdigit_any c W)
  clear hn1 hn2 hn3 hfin hhead hlen
  go_enter Tryd.func49, Tryd.ntmps49
  go_wp2
  generalize w.alloc (.cells #[.int .i64 0, .int .i64 0] 30) = wA at *
  have c80 := hR.cell 0
  have c81 := hR.cell 1
  have f80 := hR.free 0
  have f81 := hR.free 1
  simp only [List.getElem?_toArray, List.getElem?_cons_zero, List.getElem?_cons_succ] at c80 c81
  have HR := Lib.hid hR
  have HB := Lib.hid hB
  clear hR hB
  have CL := Lib.hid (fun (K E : Int) => ((HR.out.set 0 (.int .i64 K)).set 1 (.int .i64 E)))
  have BL := Lib.hid (fun (u v : Value) => ((HB.out.setCell (p := ⟨w.heap.size, 0, none⟩) (Nat.le_refl _) u).setCell (p := ⟨w.heap.size, 1, none⟩) (Nat.le_refl _) v))
  go_loop [3] (fun n => ∃ k : Nat, k ≤ s.size ∧ n = .int .i64 k ∧ ∀ i (_ : i < k), ∀ (h : i < s.size), Lx.digit s[i] = true) (fun n => s.size - (intOf n).toNat)
  case atStart => exact ⟨0, Nat.zero_le _, rfl, fun i hi => by omega⟩
  case round =>
    obtain ⟨k, hk, rfl, hall⟩ := hrel
    have Hall := Lib.hid hall
    clear hall
    by_cases hlt : k < s.size
    · generalize hb : Lx.digit s[k] = bb at *
      have HBB := Lib.hid hb
      have CDk := Lib.hid (fun W => CD.out s[k] W)
      rw [hb] at CDk
      clear hb
      cases bb
      · go_wp2_with (go_at_call 48; refine (CDk.out _).mono ?_; rintro e w' ⟨rfl, rfl⟩)
        have d0 := (CL.out 0 2).cell 0
        have d1 := (CL.out 0 2).cell 1
        simp at d0 d1
        refine bodyPost_ret (v := .agg #[.int .i64 0, .int .i64 2]) ?_ rfl ⟨?_, BL.out _ _⟩
        · simp [results, Tryd.results49, go_sem, d0, d1]
        · have : s.data.toList.all Lx.digit = false := by
            rw [Bool.eq_false_iff]
            intro h
            have := List.all_eq_true.1 h s[k] (List.getElem_mem (l := s.data.toList) (by simpa using hlt))
            rw [HBB.out] at this
            cases this
          rw [N1.out this]
      · go_wp2_with (go_at_call 48; refine (CDk.out _).mono ?_; rintro e w' ⟨rfl, rfl⟩)
        go_round
        case rel => exact ⟨k + 1, by omega, by go_num, fun i hi h => by
          by_cases e : i = k
          · subst e; exact HBB.out
          · exact Hall.out i (by omega) h⟩
        case measure => simp [intOf]; omega
    · have hall : s.data.toList.all Lx.digit = true := by
        rw [List.all_eq_true]
        intro x hx
        obtain ⟨i, hi, rfl⟩ := List.getElem_of_mem hx
        simp at hi
        exact Hall.out i (by omega) hi
      have HALL := Lib.hid hall
      clear hall
      have hsz : (0 : Int) < s.size := by omega
      by_cases hz : (s[0].toNat : Int) = 48
      · by_cases hz1 : (1 : Int) < s.size
        · go_wp2_with fail
          have d0 := (CL.out 0 2).cell 0
          have d1 := (CL.out 0 2).cell 1
          simp at d0 d1
          refine bodyPost_ret (v := .agg #[.int .i64 0, .int .i64 2]) ?_ rfl ⟨?_, BL.out _ _⟩
          · simp [results, Tryd.results49, go_sem, d0, d1]
          · rw [N2.out HALL.out hz hz1]
        · have hN := Lib.hid (N3.out HALL.out (fun _ => by omega))
          have hm1 : ∀ m : Int, 0 ≤ m → m ≤ 1099511627776 → IntKind.i64.wrap (10 * m) = 10 * m := fun m h1 h2 => IntWalk.i64_in _ (by omega)
          have hm2 : ∀ (m : Int) (c : UInt8), 0 ≤ m → m ≤ 1099511627776 → 48 ≤ (c.toNat : Int) → (c.toNat : Int) ≤ 57 → IntKind.i64.wrap (10 * m + (c.toNat : Int)) = 10 * m + (c.toNat : Int) ∧ IntKind.i64.wrap (10 * m + (c.toNat : Int) - 48) = 10 * m + (c.toNat : Int) - 48 := fun m c h1 h2 h3 h4 => ⟨IntWalk.i64_in _ (by omega), IntWalk.i64_in _ (by omega)⟩
          have HM1 := Lib.hid hm1
          have HM2 := Lib.hid hm2
          clear hm1 hm2
          go_wp2_with fail
          go_loop [4, 5] (fun n i => ∃ (k : Nat) (m : Int), k ≤ s.size ∧ i = .int .i64 k ∧ n = .int .i64 m ∧ Hid (Lx.numTo 0 (s.data.toList.take k) = some m) ∧ 0 ≤ m ∧ m ≤ 1099511627776) (fun _ i => s.size - (intOf i).toNat)
          case atStart => exact ⟨0, 0, Nat.zero_le _, rfl, rfl, rfl, by omega, by omega⟩
          case round =>
            obtain ⟨k, m, hk, rfl, rfl, HM, hm0, hm1⟩ := hrel
            by_cases hlt : k < s.size
            · have hdk : 48 ≤ (s[k].toNat : Int) ∧ (s[k].toNat : Int) ≤ 57 := by
                have := List.all_eq_true.1 HALL.out s[k] (List.getElem_mem (l := s.data.toList) (by simpa using hlt))
                rw [digit_eq] at this; simpa using this
              obtain ⟨hd0, hd1⟩ := hdk
              have hsn := numTo_snoc (s.data.toList.take k) s[k] 0
              rw [← take_snoc s k hlt, HM.out] at hsn
              have HSN := Lib.hid hsn
              clear hsn
              have w1 := HM1.out m hm0 hm1
              obtain ⟨w2, w3⟩ := HM2.out m s[k] hm0 hm1 hd0 hd1
              by_cases hb : 1099511627776 < 10 * m + (s[k].toNat : Int) - 48
              · have hnone : Lx.numTo 0 s.data.toList = none := by
                  have h1 := HSN.out
                  simp only [Option.bind, show 1099511627776 < 10 * m + ((s[k].toNat : Int) - 48) from by omega, if_true] at h1
                  have := numTo_none _ (s.data.toList.drop (k + 1)) 0 h1
                  rwa [List.take_append_drop] at this
                have HNN := Lib.hid hnone
                clear hnone
                go_wp2_with fail
                have d0 := (CL.out 0 3).cell 0
                have d1 := (CL.out 0 3).cell 1
                simp at d0 d1
                refine bodyPost_ret (v := .agg #[.int .i64 0, .int .i64 3]) ?_ rfl ⟨?_, BL.out _ _⟩
                · simp [results, Tryd.results49, go_sem, d0, d1]
                · rw [hN.out, HNN.out]
              · have hsm : Lx.numTo 0 (s.data.toList.take (k + 1)) = some (10 * m + (s[k].toNat : Int) - 48) := by
                  have h1 := HSN.out
                  simp only [Option.bind, show ¬ 1099511627776 < 10 * m + ((s[k].toNat : Int) - 48) from by omega, if_false] at h1
                  rw [h1]
                  congr 1
                  omega
                have HSM := Lib.hid hsm
                clear hsm
                go_wp2_with fail
                go_round
                case rel => exact ⟨k + 1, _, by omega, by go_num, rfl, HSM.out, by omega, by omega⟩
                case measure => simp [intOf]; omega
            · obtain rfl : k = s.size := by omega
              have hsome : Lx.numTo 0 s.data.toList = some m := by
                have := HM.out
                rwa [List.take_of_length_le (by simp)] at this
              have HSO := Lib.hid hsome
              clear hsome
              go_wp2_with fail
              have d0 := (CL.out m 0).cell 0
              have d1 := (CL.out m 0).cell 1
              simp at d0 d1
              refine bodyPost_ret (v := .agg #[.int .i64 m, .int .i64 0]) ?_ rfl ⟨?_, BL.out _ _⟩
              · simp [results, Tryd.results49, go_sem, d0, d1]
              · rw [hN.out, HSO.out]
      · have hN := Lib.hid (N3.out HALL.out (fun h => absurd h hz))
        have hm1 : ∀ m : Int, 0 ≤ m → m ≤ 1099511627776 → IntKind.i64.wrap (10 * m) = 10 * m := fun m h1 h2 => IntWalk.i64_in _ (by omega)
        have hm2 : ∀ (m : Int) (c : UInt8), 0 ≤ m → m ≤ 1099511627776 → 48 ≤ (c.toNat : Int) → (c.toNat : Int) ≤ 57 → IntKind.i64.wrap (10 * m + (c.toNat : Int)) = 10 * m + (c.toNat : Int) ∧ IntKind.i64.wrap (10 * m + (c.toNat : Int) - 48) = 10 * m + (c.toNat : Int) - 48 := fun m c h1 h2 h3 h4 => ⟨IntWalk.i64_in _ (by omega), IntWalk.i64_in _ (by omega)⟩
        have HM1 := Lib.hid hm1
        have HM2 := Lib.hid hm2
        clear hm1 hm2
        go_wp2_with fail
        go_loop [4, 5] (fun n i => ∃ (k : Nat) (m : Int), k ≤ s.size ∧ i = .int .i64 k ∧ n = .int .i64 m ∧ Hid (Lx.numTo 0 (s.data.toList.take k) = some m) ∧ 0 ≤ m ∧ m ≤ 1099511627776) (fun _ i => s.size - (intOf i).toNat)
        case atStart => exact ⟨0, 0, Nat.zero_le _, rfl, rfl, rfl, by omega, by omega⟩
        case round =>
          obtain ⟨k, m, hk, rfl, rfl, HM, hm0, hm1⟩ := hrel
          by_cases hlt : k < s.size
          · have hdk : 48 ≤ (s[k].toNat : Int) ∧ (s[k].toNat : Int) ≤ 57 := by
              have := List.all_eq_true.1 HALL.out s[k] (List.getElem_mem (l := s.data.toList) (by simpa using hlt))
              rw [digit_eq] at this; simpa using this
            obtain ⟨hd0, hd1⟩ := hdk
            have hsn := numTo_snoc (s.data.toList.take k) s[k] 0
            rw [← take_snoc s k hlt, HM.out] at hsn
            have HSN := Lib.hid hsn
            clear hsn
            have w1 := HM1.out m hm0 hm1
            obtain ⟨w2, w3⟩ := HM2.out m s[k] hm0 hm1 hd0 hd1
            by_cases hb : 1099511627776 < 10 * m + (s[k].toNat : Int) - 48
            · have hnone : Lx.numTo 0 s.data.toList = none := by
                have h1 := HSN.out
                simp only [Option.bind, show 1099511627776 < 10 * m + ((s[k].toNat : Int) - 48) from by omega, if_true] at h1
                have := numTo_none _ (s.data.toList.drop (k + 1)) 0 h1
                rwa [List.take_append_drop] at this
              have HNN := Lib.hid hnone
              clear hnone
              go_wp2_with fail
              have d0 := (CL.out 0 3).cell 0
              have d1 := (CL.out 0 3).cell 1
              simp at d0 d1
              refine bodyPost_ret (v := .agg #[.int .i64 0, .int .i64 3]) ?_ rfl ⟨?_, BL.out _ _⟩
              · simp [results, Tryd.results49, go_sem, d0, d1]
              · rw [hN.out, HNN.out]
            · have hsm : Lx.numTo 0 (s.data.toList.take (k + 1)) = some (10 * m + (s[k].toNat : Int) - 48) := by
                have h1 := HSN.out
                simp only [Option.bind, show ¬ 1099511627776 < 10 * m + ((s[k].toNat : Int) - 48) from by omega, if_false] at h1
                rw [h1]
                congr 1
                omega
              have HSM := Lib.hid hsm
              clear hsm
              go_wp2_with fail
              go_round
              case rel => exact ⟨k + 1, _, by omega, by go_num, rfl, HSM.out, by omega, by omega⟩
              case measure => simp [intOf]; omega
          · obtain rfl : k = s.size := by omega
            have hsome : Lx.numTo 0 s.data.toList = some m := by
              have := HM.out
              rwa [List.take_of_length_le (by simp)] at this
            have HSO := Lib.hid hsome
            clear hsome
            go_wp2_with fail
            have d0 := (CL.out m 0).cell 0
            have d1 := (CL.out m 0).cell 1
            simp at d0 d1
            refine bodyPost_ret (v := .agg #[.int .i64 m, .int .i64 0]) ?_ rfl ⟨?_, BL.out _ _⟩
            · simp [results, Tryd.results49, go_sem, d0, d1]
            · rw [hN.out, HSO.out]
end Go.Proofs.YtmmemkkljadglaaDoor
