/-
  The reference's Shape and Value, by contract: they are the program's.
-/
import Derived.Test.YtmmemkkljadglaaDoorRefE
namespace Go.Proofs.YtmmemkkljadglaaDoor
open Go.RowKit Go.Shelf

set_option maxRecDepth 100000 in
set_option maxHeartbeats 2000000 in
theorem rShape_any (s : ByteArray) (w : World) (hs : s.size ≤ 1000000) :
    Calls Tryd.prog 10 #[.string s] w fun e w' => e = .returned (.agg #[.int .i64 (Lx.shape s.data.toList).1, .int .i64 (Lx.shape s.data.toList).2]) ∧ Below w.heap.size w w' := by
  rw [← Lx.refShape_eq]
  have CH := fun W v (hv : StrsAt W v (bytesOf Lx.signs)) => rhas_any v (bytesOf Lx.signs) s W hv (by rw [List.length_map]; decide)
  have hkm : decide (s.data.toList ∈ (bytesOf Lx.signs).map fun s => s.data.toList) = decide (s.data.toList ∈ Lx.signs) := decide_eq_decide.2 (bytesOf_mem _ _)
  simp only [hkm] at CH
  clear hkm
  have P0 := Lib.hid (Pair.new w 27)
  have CR := Lib.hid (fun W => rrun_any s 0 W hs (Nat.zero_le _))
  by_cases h0 : s.size = 0
  · obtain rfl : s = ⟨#[]⟩ := of_list (l := []) (List.eq_nil_of_length_eq_zero (by simpa using h0))
    have HS := Lib.hid (show Lx.refShape (⟨#[]⟩ : ByteArray).data.toList = (0, 2) from rfl)
    rw [show decide ((⟨#[]⟩ : ByteArray).data.toList ∈ Lx.signs) = false from by decide] at CH
    generalize Lx.refShape (⟨#[]⟩ : ByteArray).data.toList = fin at *
    have HCH := Lib.hid CH
    clear CH h0 CR
    go_enter Tryd.func10, Tryd.ntmps10
    go_wp2_with fail
    refine (rsigns_any _).mono ?_
    rintro e w1 ⟨v, rfl, hk1, hb1⟩
    have P1 := Lib.hid (P0.out.later hb1)
    have HK1 := Lib.hid hk1
    clear hb1 hk1 P0
    go_wp2_with fail
    refine (HCH.out _ _ HK1.out).mono ?_
    rintro e w2 ⟨rfl, rfl⟩
    have c0 := P1.out.c0
    have c1 := P1.out.c1
    have q0 := P1.out.has.free 0
    have q1 := P1.out.has.free 1
    go_wp2_with fail
    have d0 := (P1.out.set 0 2).cell 0
    have d1 := (P1.out.set 0 2).cell 1
    simp at d0 d1
    refine bodyPost_ret (v := .agg #[.int .i64 0, .int .i64 2]) ?_ rfl ⟨?_, P1.out.kept _ _⟩
    · simp [results, Tryd.results10, go_sem, d0, d1]
    · rw [HS.out]
  · have hp : 0 < s.size := by omega
    have hp1 : (0 : Int) < s.size := by omega
    have hhead : ∃ r, s.data.toList = s[0] :: r := by
      cases hl : s.data.toList with
      | nil =>
        have h2 : s.data.toList.length = s.size := by simp
        rw [hl] at h2
        simp at h2
        omega
      | cons c r =>
        have : s.data.toList[0]'(by rw [hl]; simp) = c := by simp [hl]
        exact ⟨r, by rw [← this]; rfl⟩
    have hsp : Lx.refShape s.data.toList = if decide (s.data.toList ∈ Lx.signs) then ((5 : Int), (0 : Int)) else if (Lx.span Lx.inRun s.data.toList : Int) < s.size then (0, 2) else if (s[0].toNat : Int) = 95 then (0, 2) else if Lx.digit s[0] then (if (Lx.number s.data.toList).2 ≠ 0 then (0, (Lx.number s.data.toList).2) else (4, 0)) else Lx.refWord s.data.toList := by
      obtain ⟨r, hr⟩ := hhead
      have hz : s.size = s.data.toList.length := by simp
      rw [hz]
      generalize s[0] = c at *
      rw [hr]
      unfold Lx.refShape
      simp only [decide_eq_true_eq, Lx.refNumber_eq]
      by_cases h1 : c :: r ∈ Lx.signs
      · rw [if_pos h1, if_pos h1]
      · rw [if_neg h1, if_neg h1]
        by_cases h2 : Lx.span Lx.inRun (c :: r) < (c :: r).length
        · rw [if_pos (.inl h2), if_pos (by omega)]
        · rw [if_neg (c := ((Lx.span Lx.inRun (c :: r) : Nat) : Int) < ((c :: r).length : Nat)) (by omega)]
          by_cases h3 : c = 95
          · subst h3
            rw [if_pos (.inr rfl), if_pos (show ((95 : UInt8).toNat : Int) = 95 from rfl)]
          · rw [if_neg (by rintro (h | h); exact h2 h; exact h3 h), if_neg (c := (c.toNat : Int) = 95) (fun h => h3 (UInt8.toNat_inj.1 (by simp; omega)))]
    have CN := Lib.hid (fun W => rnumber_any s W hs hp)
    have CW := Lib.hid (fun W => rword_any s W hs)
    have CD := Lib.hid (fun W => rdigit_any s[0] W)
    rw [List.drop_zero] at CR
    generalize decide (s.data.toList ∈ Lx.signs) = bs at *
    generalize Lx.refShape s.data.toList = fin at *
    generalize Lx.span Lx.inRun s.data.toList = sp at *
    generalize Lx.number s.data.toList = nu at *
    generalize Lx.refWord s.data.toList = rw' at *
    generalize Lx.digit s[0] = dg at *
    obtain ⟨n1, n2⟩ := nu
    obtain ⟨r1, r2⟩ := rw'
    have HS := Lib.hid hsp
    have HCH := Lib.hid CH
    clear hsp CH hhead
    go_enter Tryd.func10, Tryd.ntmps10
    go_wp2_with fail
    refine (rsigns_any _).mono ?_
    rintro e w1 ⟨v, rfl, hk1, hb1⟩
    have P1 := Lib.hid (P0.out.later hb1)
    have HK1 := Lib.hid hk1
    clear hb1 hk1 P0
    go_wp2_with fail
    refine (HCH.out _ _ HK1.out).mono ?_
    rintro e w2 ⟨rfl, rfl⟩
    have c0 := P1.out.c0
    have c1 := P1.out.c1
    have q0 := P1.out.has.free 0
    have q1 := P1.out.has.free 1
    cases bs
    case true =>
      go_wp2_with fail
      have d0 := (P1.out.set 5 0).cell 0
      have d1 := (P1.out.set 5 0).cell 1
      simp at d0 d1
      refine bodyPost_ret (v := .agg #[.int .i64 5, .int .i64 0]) ?_ rfl ⟨?_, P1.out.kept _ _⟩
      · simp [results, Tryd.results10, go_sem, d0, d1]
      · rw [HS.out]; simp
    case false =>
      have hz0 : ((s.size : Int) == 0) = false := by rw [beq_eq_false_iff_ne]; omega
      by_cases hr : (sp : Int) < s.size
      · have hrN : sp < s.size := by omega
        go_wp2_with (go_at_call 47; refine (CR.out _).mono ?_; rintro e w' ⟨rfl, rfl⟩)
        have d0 := (P1.out.set 0 2).cell 0
        have d1 := (P1.out.set 0 2).cell 1
        simp at d0 d1
        refine bodyPost_ret (v := .agg #[.int .i64 0, .int .i64 2]) ?_ rfl ⟨?_, P1.out.kept _ _⟩
        · simp [results, Tryd.results10, go_sem, d0, d1]
        · rw [HS.out]; simp [hr, hrN]
      · have hrN : ¬ sp < s.size := by omega
        have hrD : decide (sp < s.size) = false := decide_eq_false hrN
        by_cases h95 : (s[0].toNat : Int) = 95
        · have h95b : ((s[0].toNat : Int) == 95) = true := by rw [h95]; rfl
          go_wp2_with (go_at_call 47; refine (CR.out _).mono ?_; rintro e w' ⟨rfl, rfl⟩)
          have d0 := (P1.out.set 0 2).cell 0
          have d1 := (P1.out.set 0 2).cell 1
          simp at d0 d1
          refine bodyPost_ret (v := .agg #[.int .i64 0, .int .i64 2]) ?_ rfl ⟨?_, P1.out.kept _ _⟩
          · simp [results, Tryd.results10, go_sem, d0, d1]
          · rw [HS.out]; simp [hr, hrN, h95]
        · have h95b : ((s[0].toNat : Int) == 95) = false := by rw [beq_eq_false_iff_ne]; exact h95
          cases dg
          case true =>
            by_cases he : n2 = 0
            · subst he
              go_wp2_with (first
                | (go_at_call 47; refine (CR.out _).mono ?_; rintro e w' ⟨rfl, rfl⟩)
                | (go_at_call 48; refine (CD.out _).mono ?_; rintro e w' ⟨rfl, rfl⟩)
                | (go_at_call 49; refine (CN.out _).mono ?_; rintro e w3 ⟨rfl, hb3⟩; have P3 := P1.out.later hb3; have c30 := P3.c0; have c31 := P3.c1; have q30 := P3.has.free 0; have q31 := P3.has.free 1; have lt3 := P3.has.lt))
              have d0 := ((P3.set 4 0).alloc (.cells #[.int .i64 n1, .int .i64 0] 30)).cell 0
              have d1 := ((P3.set 4 0).alloc (.cells #[.int .i64 n1, .int .i64 0] 30)).cell 1
              simp at d0 d1
              refine bodyPost_ret (v := .agg #[.int .i64 4, .int .i64 0]) ?_ rfl ⟨?_, (P3.kept _ _).alloc (by have := P3.below.size; simp; omega) _⟩
              · simp [results, Tryd.results10, go_sem, d0, d1]
              · rw [HS.out]; simp [hr, hrN, h95]
            · go_wp2_with (first
                | (go_at_call 47; refine (CR.out _).mono ?_; rintro e w' ⟨rfl, rfl⟩)
                | (go_at_call 48; refine (CD.out _).mono ?_; rintro e w' ⟨rfl, rfl⟩)
                | (go_at_call 49; refine (CN.out _).mono ?_; rintro e w3 ⟨rfl, hb3⟩; have P3 := P1.out.later hb3; have c30 := P3.c0; have c31 := P3.c1; have q30 := P3.has.free 0; have q31 := P3.has.free 1; have lt3 := P3.has.lt))
              have d0 := ((P3.set 0 n2).alloc (.cells #[.int .i64 n1, .int .i64 n2] 30)).cell 0
              have d1 := ((P3.set 0 n2).alloc (.cells #[.int .i64 n1, .int .i64 n2] 30)).cell 1
              simp at d0 d1
              refine bodyPost_ret (v := .agg #[.int .i64 0, .int .i64 n2]) ?_ rfl ⟨?_, (P3.kept _ _).alloc (by have := P3.below.size; simp; omega) _⟩
              · simp [results, Tryd.results10, go_sem, d0, d1]
              · rw [HS.out]; simp [hr, hrN, h95, he]
          case false =>
            go_wp2_with (first
                | (go_at_call 47; refine (CR.out _).mono ?_; rintro e w' ⟨rfl, rfl⟩)
                | (go_at_call 48; refine (CD.out _).mono ?_; rintro e w' ⟨rfl, rfl⟩)
                | (go_at_call 50; refine (CW.out _).mono ?_; rintro e w3 ⟨rfl, hb3⟩; have P3 := P1.out.later hb3; have c30 := P3.c0; have c31 := P3.c1; have q30 := P3.has.free 0; have q31 := P3.has.free 1))
            have d0 := (P3.set r1 r2).cell 0
            have d1 := (P3.set r1 r2).cell 1
            simp at d0 d1
            refine bodyPost_ret (v := .agg #[.int .i64 r1, .int .i64 r2]) ?_ rfl ⟨?_, P3.kept _ _⟩
            · simp [results, Tryd.results10, go_sem, d0, d1]
            · rw [HS.out]; simp [hr, hrN, h95]

set_option maxRecDepth 100000 in
set_option maxHeartbeats 2000000 in
theorem rValue_any (s : ByteArray) (w : World) (hs : s.size ≤ 1000000) :
    Calls Tryd.prog 12 #[.string s] w fun e w' => e = .returned (.agg #[.int .i64 (Lx.value s.data.toList).1, .int .i64 (Lx.value s.data.toList).2]) ∧ Below w.heap.size w w' := by
  have hsp : Lx.value s.data.toList = if (Lx.shape s.data.toList).2 ≠ 0 then (0, (Lx.shape s.data.toList).2) else if (Lx.shape s.data.toList).1 ≠ 4 then (0, 2) else Lx.number s.data.toList := rfl
  have hpos : (Lx.shape s.data.toList).1 = 4 → 0 < s.size := by
    intro h
    rcases Nat.eq_zero_or_pos s.size with h0 | h0
    · have : s.data.toList = [] := List.eq_nil_of_length_eq_zero (by simpa using h0)
      rw [this] at h; cases h
    · exact h0
  have P0 := Lib.hid (Pair.new w 30)
  have CS := Lib.hid (fun W => rShape_any s W hs)
  have CN := Lib.hid (fun (hp : 0 < s.size) W => rnumber_any s W hs hp)
  generalize Lx.value s.data.toList = fin at *
  generalize Lx.shape s.data.toList = sh at *
  generalize Lx.number s.data.toList = nu at *
  obtain ⟨n1, n2⟩ := nu
  obtain ⟨k, e⟩ := sh
  have HS := Lib.hid hsp
  have HP := Lib.hid hpos
  clear hsp hpos
  go_enter Tryd.func12, Tryd.ntmps12
  go_wp2_with fail
  refine (CS.out _).mono ?_
  rintro e' w1 ⟨rfl, hb1⟩
  have PW := Lib.hid (P0.out.later hb1)
  have P1 := Lib.hid (PW.out.alloc (.cells #[.int .i64 k, .int .i64 e] 27))
  have lt1 := PW.out.has.lt
  clear hb1 P0
  have c0 := PW.out.c0
  have c1 := PW.out.c1
  have q0 := PW.out.has.free 0
  have q1 := PW.out.has.free 1
  by_cases he : e = 0
  · subst he
    by_cases hk : k = 4
    · have hp := HP.out hk
      subst hk
      go_wp2_with (go_at_call 49; refine (CN.out hp _).mono ?_; rintro e'' w3 ⟨rfl, hb3⟩; have P3 := P1.out.later hb3; have c30 := P3.c0; have c31 := P3.c1; have q30 := P3.has.free 0; have q31 := P3.has.free 1)
      have d0 := (P3.set n1 n2).cell 0
      have d1 := (P3.set n1 n2).cell 1
      simp at d0 d1
      refine bodyPost_ret (v := .agg #[.int .i64 n1, .int .i64 n2]) ?_ rfl ⟨?_, P3.kept _ _⟩
      · simp [results, Tryd.results12, go_sem, d0, d1]
      · rw [HS.out]; simp
    · go_wp2_with fail
      have d0 := ((PW.out.set 0 2).alloc (.cells #[.int .i64 k, .int .i64 0] 27)).cell 0
      have d1 := ((PW.out.set 0 2).alloc (.cells #[.int .i64 k, .int .i64 0] 27)).cell 1
      simp at d0 d1
      refine bodyPost_ret (v := .agg #[.int .i64 0, .int .i64 2]) ?_ rfl ⟨?_, (PW.out.kept _ _).alloc (by have := PW.out.below.size; simp; omega) _⟩
      · simp [results, Tryd.results12, go_sem, d0, d1]
      · rw [HS.out]; simp [hk]
  · go_wp2_with fail
    have d0 := ((PW.out.set 0 e).alloc (.cells #[.int .i64 k, .int .i64 e] 27)).cell 0
    have d1 := ((PW.out.set 0 e).alloc (.cells #[.int .i64 k, .int .i64 e] 27)).cell 1
    simp at d0 d1
    refine bodyPost_ret (v := .agg #[.int .i64 0, .int .i64 e]) ?_ rfl ⟨?_, (PW.out.kept _ _).alloc (by have := PW.out.below.size; simp; omega) _⟩
    · simp [results, Tryd.results12, go_sem, d0, d1]
    · rw [HS.out]; simp [he]
end Go.Proofs.YtmmemkkljadglaaDoor
