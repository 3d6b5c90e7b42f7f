/-
  What Patch returns where the change is right and the tokens are placed, in package lex.
-/
import Derived.Test.YtadicempblgmhaaDoorPatchA
import Derived.Deep.RegionHeld3
import Derived.Deep.DeepCutAuto
import Derived.Deep.QuietTactic
import Derived.BigQuiet
namespace Go.Proofs.YtadicempblgmhaaDoor
open Go.RowKit Go.Shelf

set_option maxRecDepth 100000 in
set_option maxHeartbeats 4000000 in
theorem Patch_good (v : Value) (l : List Lx.Tok) (s x : ByteArray) (f t : Nat) (w : World) (hl : ToksAt w v l) (hlen : l.length ≤ 100000) (hs : s.size ≤ 900000) (hx : x.size ≤ 900000) (h : Lx.editErr s.size f t x.size = 0) (hp : Lx.placed l s.data.toList = true) (hE : Env w) :
    Calls Tryd.prog 41 #[v, .string s, chVal f t x] w (PatchEnd w (Lx.pOut l s.data.toList x.data.toList f t)) := by
  obtain ⟨k1, k2, k3, k4⟩ := Lx.editErr_ok h
  have hEr := fun w => editError_any s x f t w hs hx
  rw [h] at hEr
  have hP := fun W (hW : Below w.heap.size w W) => arePlaced_any v l s W (hl.below hW (Nat.le_refl _)) hlen hs
  rw [hp] at hP
  have hTo : ∀ W, Below w.heap.size w W → ToksAt W v l := fun W hW => hl.below hW (Nat.le_refl _)
  have HTO := Lib.hid hTo
  have cF := fun W => Tryd.strings_Count_one (s.extract 0 f) 10 W
  rw [show Lib.countByte (s.extract 0 f).data.toList 10 = (s.data.toList.take f).count 10 from by rw [show (s.extract 0 f).data.toList = s.data.toList.take f from by rw [Lib.extract_data]; simp]; rfl] at cF
  have hcl := List.count_le_length (l := s.data.toList.take f) (a := (10 : UInt8))
  rw [List.length_take, show s.data.toList.length = s.size from by simp] at hcl
  generalize hcfd : (s.data.toList.take f).count 10 = cf at *
  have HCFD := Lib.hid hcfd
  clear hcfd
  have hcf : Lx.pFirst s.data.toList f = cf + 1 := by unfold Lx.pFirst; rw [HCFD.out]
  have HCF := Lib.hid hcf
  clear hcf
  obtain ⟨A, c, rfl, -⟩ := hl
  have HE := Lib.hid hEr
  have HP := Lib.hid hP
  have CF := Lib.hid cF
  have HPL := Lib.hid hp
  clear hEr hP h hp hTo cF
  have hB0 : Below w.heap.size w ((w.alloc (.cells #[.int .i64 f, .int .i64 t, .string x] 60)).alloc (.cells #[.int .i64 0, .int .i64 0] 37)) := ((Below.refl _ _).alloc (Nat.le_refl _) _).alloc (by simp) _
  have hR0 : Has ((w.alloc (.cells #[.int .i64 f, .int .i64 t, .string x] 60)).alloc (.cells #[.int .i64 0, .int .i64 0] 37)) (w.heap.size + 1) 37 #[.int .i64 0, .int .i64 0] := by
    have := Has.new (w.alloc (.cells #[.int .i64 f, .int .i64 t, .string x] 60)) 37 #[.int .i64 0, .int .i64 0]
    rw [World.size_alloc] at this; exact this
  have hC0 : Has ((w.alloc (.cells #[.int .i64 f, .int .i64 t, .string x] 60)).alloc (.cells #[.int .i64 0, .int .i64 0] 37)) w.heap.size 60 #[.int .i64 f, .int .i64 t, .string x] := (Has.new _ _ _).alloc _
  have hS0 : ((w.alloc (.cells #[.int .i64 f, .int .i64 t, .string x] 60)).alloc (.cells #[.int .i64 0, .int .i64 0] 37)).heap.size = w.heap.size + 2 := by simp
  have HR0 := Lib.hid hR0
  have HC0 := Lib.hid hC0
  have HS0 := Lib.hid hS0
  have HB0 := Lib.hid hB0
  clear hR0 hS0 hB0 hC0
  go_enter Tryd.func41, Tryd.ntmps41
  go_wp2_with (first
    | (go_at_call 77; refine (HE.out _).mono ?_; rintro e w' ⟨e1, hb⟩; subst e1)
    | (go_at_call 81; refine (HP.out _ (HB0.out.trans (hb.mono (by rw [HS0.out]; omega)))).mono ?_; rintro e w2 ⟨rfl, hb2⟩; have hbs := hb.size; rw [HS0.out] at hbs; have hPQ : PQ w f t x w2 := ⟨(HB0.out.trans (hb.mono (by rw [HS0.out]; omega))).trans (hb2.mono (by omega)), (HC0.out.below hb (by rw [HS0.out]; omega)).below hb2 (by omega), (HR0.out.below hb (by rw [HS0.out]; omega)).below hb2 (by omega)⟩; have HPQ := Lib.hid hPQ; have a0 := hPQ.chg.cell 0; clear hPQ; simp only [List.getElem?_toArray, List.getElem?_cons_zero] at a0)
    | (go_at_call 74; refine (CF.out _).mono ?_; rintro e w3 ⟨rfl, rfl⟩))
  have hPS : PS w f t x w3.heap.size ((cf : Int) + 1) (w3.alloc (.cells #[.int .i64 ((cf : Int) + 1)] 3)) := ⟨HPQ.out.later ((Below.refl _ _).alloc (Nat.le_refl _) _), Has.new _ _ _⟩
  have hltB : w.heap.size < w3.heap.size := HPQ.out.chg.lt
  have hltA : w3.heap.size < (w3.alloc (.cells #[.int .i64 ((cf : Int) + 1)] 3)).heap.size := by simp
  generalize w3.alloc (.cells #[.int .i64 ((cf : Int) + 1)] 3) = wA at *
  have cG := fun W => Tryd.strings_Count_one (s.extract f t) 10 W
  have hcg := List.count_le_length (l := (s.extract f t).data.toList) (a := (10 : UInt8))
  rw [show Lib.countByte (s.extract f t).data.toList 10 = (s.extract f t).data.toList.count 10 from rfl] at cG
  have hxl : (s.extract f t).data.toList.length ≤ s.size := by simp; omega
  generalize hcgd : (s.extract f t).data.toList.count 10 = cg at *
  have HCGD := Lib.hid hcgd
  have CG := Lib.hid cG
  have H7 := Lib.hid hPS
  clear cG a0 hcgd hPS
  go_cut [12] from 36 (fun v wx => ∃ d : Nat, v = .pointer (some ⟨d, 0, none⟩) ∧ PS w f t x w3.heap.size ((cf : Int) + 1) wx ∧ Has wx d 3 #[.int .i64 ((cf : Int) + 1 + cg)])
  case first =>
    go_region_held3 (fun W => W.cell? ⟨w.heap.size, 0, none⟩ = some (.int .i64 f) ∧ W.cell? ⟨w.heap.size, 1, none⟩ = some (.int .i64 t) ∧ W.cell? ⟨w.heap.size, 2, none⟩ = some (.string x) ∧ W.cell? ⟨w3.heap.size, 0, none⟩ = some (.int .i64 ((cf : Int) + 1)) ∧ PS w f t x w3.heap.size ((cf : Int) + 1) W)
      (first
        | exact H7.out.drew.give
        | exact PS.give (H7.out.drew.alloc _)
        | exact PS.give (PS.set (H7.out.drew.alloc _) H7.out (Nat.le_refl _) _ _))
      (first
        | (go_at_call 74; refine (CG.out _).mono ?_; rintro e w4 ⟨rfl, rfl⟩))
    all_goals
      go_wp2_with fail
      go_meet
      have hwr : IntKind.i64.wrap ((cf : Int) + 1 + cg) = (cf : Int) + 1 + cg := IntWalk.i64_in _ (by omega)
      rw [hwr]
      exact ⟨_, rfl, (H7.out.alloc _).drew, Has.new _ _ _⟩
  case rest =>
    obtain ⟨d, rfl, hps, hd⟩ := hcut
    have hPT : PT w f t x w3.heap.size ((cf : Int) + 1) d ((cf : Int) + 1 + cg) wc := ⟨hps, hd⟩
    have H8 := Lib.hid hPT
    have hd8 : d < wc.heap.size := hd.lt
    clear hps hd hPT
    have hls := Lx.lineStart_le s.data.toList f
    have hle1 := Lx.lineEnd_ge s.data.toList t (by rw [show s.data.toList.length = s.size from by simp]; omega)
    have hle2 := Lx.lineEnd_le s.data.toList t (by rw [show s.data.toList.length = s.size from by simp]; omega)
    rw [show s.data.toList.length = s.size from by simp] at hle2
    have cLS := fun W => lineStart_any s f W hs (by omega)
    have cLE := fun W => lineEnd_any s t W hs (by omega)
    have hpR : Lx.pRead s.data.toList x.data.toList f t = Lx.readLines (s.extract (Lx.lineStart s.data.toList f) f ++ x ++ s.extract t (Lx.lineEnd s.data.toList t)).data.toList ((cf : Int) + 1) := by
      unfold Lx.pRead Lx.pPiece
      rw [HCF.out]
      congr 1
      rw [ba_append, ba_append, Lib.extract_data, Lib.extract_data, List.drop_take, List.drop_take]
    generalize Lx.lineStart s.data.toList f = ls at *
    generalize Lx.lineEnd s.data.toList t = le at *
    have hpz : (s.extract ls f ++ x ++ s.extract t le).size ≤ 100000 := by simp; omega
    have cRL := fun W (hW : Below w.heap.size w W) => readLines_any (s.extract ls f ++ x ++ s.extract t le) ((cf : Int) + 1) W hpz (hE.below hW (Nat.le_refl _)) (by omega) (by omega)
    rw [← hpR] at cRL
    have HPR := Lib.hid hpR
    clear hpR
    generalize hR : Lx.pRead s.data.toList x.data.toList f t = R at *
    have HR := Lib.hid hR
    have CLS := Lib.hid cLS
    have CLE := Lib.hid cLE
    have CRL := Lib.hid cRL
    clear cLS cLE cRL hR
    have i1 : (ls : Int) ≤ f := by omega
    have i2 : (f : Int) ≤ s.size := by omega
    have i3 : (t : Int) ≤ le := by omega
    have i4 : (le : Int) ≤ s.size := by omega
    have i5 : ¬ (9223372036854775807 < min f s.size - ls + x.size) := by omega
    have i6 : ¬ (9223372036854775807 < min f s.size - ls + x.size + (le - t)) := by omega
    go_wp2_with fail
    go_cut [13] from 45 (fun v wx => ∃ (rb : Nat) (vt vn : Value), v = .pointer (some ⟨rb, 0, none⟩) ∧ PT w f t x w3.heap.size ((cf : Int) + 1) d ((cf : Int) + 1 + cg) wx ∧ Has wx rb 98 #[vt, vn, .int .i64 R.line, .int .i64 R.col, .int .i64 R.err] ∧ wx.ownsRow w.heap.size 55 4 vt R.toks.length (toksCells R.toks))
    case first =>
      go_region_held3 (fun W => W.cell? ⟨w.heap.size, 0, none⟩ = some (.int .i64 f) ∧ W.cell? ⟨w.heap.size, 1, none⟩ = some (.int .i64 t) ∧ W.cell? ⟨w.heap.size, 2, none⟩ = some (.string x) ∧ W.cell? ⟨w3.heap.size, 0, none⟩ = some (.int .i64 ((cf : Int) + 1)) ∧ PT w f t x w3.heap.size ((cf : Int) + 1) d ((cf : Int) + 1 + cg) W)
        (with_reducible (refine PT.give ?_; first
          | exact PT.drew H8.out
          | exact PT.alloc (PT.drew H8.out) _
          | exact PT.drew (PT.alloc H8.out _)
          | exact PT.later (PT.drew H8.out) hb6
          | exact PT.later (PT.alloc (PT.drew H8.out) _) hb6
          | exact PT.later (PT.drew (PT.alloc H8.out _)) hb6
          | exact PT.alloc (PT.later (PT.drew H8.out) hb6) _
          | exact PT.set5 (PT.later (PT.alloc (PT.drew H8.out) _) hb6) H8.out (Nat.le_refl _) _ _ _ _ _
          | exact PT.set5 (PT.later (PT.drew (PT.alloc H8.out _)) hb6) H8.out (Nat.le_refl _) _ _ _ _ _))
        (first
          | (go_at_call 83; refine (CLS.out _).mono ?_; rintro e w4 ⟨rfl, rfl⟩)
          | (go_at_call 84; refine (CLE.out _).mono ?_; rintro e w5 ⟨rfl, rfl⟩)
          | (go_at_call 82; refine (CRL.out _ (by with_reducible first | exact PT.below (PT.drew H8.out) | exact PT.below (PT.alloc (PT.drew H8.out) _) | exact PT.below (PT.drew (PT.alloc H8.out _)))).mono ?_; rintro e w6 ⟨vt, vn, rfl, o1, o2, hb6⟩; obtain ⟨At, ct, rfl⟩ := own_len o1; obtain ⟨An, cn, rfl⟩ := own_len o2; (try have hz6 : Has w6 wc.heap.size 98 #[.slice none 0 0, .slice none 0 0, .int .i64 0, .int .i64 0, .int .i64 0] := (Has.new wc.drew 98 #[.slice none 0 0, .slice none 0 0, .int .i64 0, .int .i64 0, .int .i64 0]).below hb6 (by simp); have p0 := hz6.cell 0; have p1 := hz6.cell 1; have p2 := hz6.cell 2; have p3 := hz6.cell 3; have p4 := hz6.cell 4; have q0 := hz6.free 0; have q1 := hz6.free 1; have q2 := hz6.free 2; have q3 := hz6.free 3; have q4 := hz6.free 4; simp only [List.getElem?_toArray, List.getElem?_cons_zero, List.getElem?_cons_succ] at p0 p1 p2 p3 p4)))
      all_goals
        go_wp2_with fail
        go_meet
        first
          | exact ⟨_, _, _, rfl, PT.alloc (PT.later (PT.drew H8.out) hb6) _, Has.new _ _ _, own_base (own_alloc o1 _) H8.out.below.size⟩
          | exact ⟨_, _, _, rfl, PT.set5 (PT.later (PT.alloc (PT.drew H8.out) _) hb6) H8.out (Nat.le_refl _) _ _ _ _ _, hz6.set5 rfl _ _ _ _ _, own_base (own_set5 o1 (by simp) _ _ _ _ _) (by have := H8.out.below.size; simp; omega)⟩
          | exact ⟨_, _, _, rfl, PT.set5 (PT.later (PT.drew (PT.alloc H8.out _)) hb6) H8.out (Nat.le_refl _) _ _ _ _ _, hz6.set5 rfl _ _ _ _ _, own_base (own_set5 o1 (by simp) _ _ _ _ _) (by have := H8.out.below.size; simp; omega)⟩
    case rest =>
      obtain ⟨rb, vt, vn, rfl, hpt, hrd, hot⟩ := hcut
      obtain ⟨At, ct, rfl⟩ := own_len hot
      have HPT := Lib.hid hpt
      have HRD := Lib.hid hrd
      have HOT := Lib.hid hot
      clear hpt hrd hot
      have r0 := HRD.out.cell 0
      have r2 := HRD.out.cell 2
      have r3 := HRD.out.cell 3
      have r4 := HRD.out.cell 4
      have z0 := HPT.out.s.q.res.cell 0
      have z1 := HPT.out.s.q.res.cell 1
      have y0 := HPT.out.s.q.res.free 0
      have y1 := HPT.out.s.q.res.free 1
      have b2 := HPT.out.s.q.chg.cell 2
      have b3 := HPT.out.s.fst.cell 0
      have b4 := HPT.out.lst.cell 0
      simp only [List.getElem?_toArray, List.getElem?_cons_zero, List.getElem?_cons_succ] at r0 r2 r3 r4 z0 z1 b2 b3 b4
      by_cases he : R.err = 0
      · have cX := fun W => Tryd.strings_Count_one x 10 W
        have hcx := List.count_le_length (l := x.data.toList) (a := (10 : UInt8))
        rw [show Lib.countByte x.data.toList 10 = x.data.toList.count 10 from rfl] at cX
        rw [show x.data.toList.length = x.size from by simp] at hcx
        generalize hcxd : x.data.toList.count 10 = cx at *
        have HCXD := Lib.hid hcxd
        have CX := Lib.hid cX
        clear cX hcxd
        have hw1 : IntKind.i64.wrap ((cf : Int) + 1 + cg - ((cf : Int) + 1)) = cg := by rw [IntWalk.i64_in _ (by omega)]; omega
        have hw2 : IntKind.i64.wrap ((cx : Int) - cg) = (cx : Int) - cg := IntWalk.i64_in _ (by omega)
        go_wp2_with fail
        go_quiet ((go_at_call 74; refine Calls.quiet_of_same (CX.out _)))
        have hPTq : PT w f t x w3.heap.size ((cf : Int) + 1) d ((cf : Int) + 1 + cg) (wc.drewN nq) := ⟨⟨⟨below_drewN HPT.out.below nq, HPT.out.s.q.chg, HPT.out.s.q.res⟩, HPT.out.s.fst⟩, HPT.out.lst⟩
        have hRDq : Has (wc.drewN nq) rb 98 #[.slice At R.toks.length ct, vn, .int .i64 R.line, .int .i64 R.col, .int .i64 R.err] := HRD.out
        have hOTq : (wc.drewN nq).ownsRow w.heap.size 55 4 (.slice At R.toks.length ct) R.toks.length (toksCells R.toks) := HOT.out
        clear r0 r2 r3 r4 z0 z1 y0 y1 b2 b3 b4 HPT HRD HOT
        generalize wc.drewN nq = wq at *
        have hln := Lx.placed_line l s.data.toList HPL.out
        have hln' : ∀ t ∈ l, 0 ≤ t.line ∧ t.line ≤ 1000000 := fun t ht => by
          have := hln t ht
          rw [show s.data.toList.length = s.size from by simp] at this
          omega
        have cA := moved_ahead _ l 0 w3.heap.size ((cf : Int) + 1) wq (HTO.out wq hPTq.below) hlen (by decide) (by decide) hln' ((hPTq.s.fst.cell 0).trans rfl)
        have cB := fun W (hW : PT w f t x w3.heap.size ((cf : Int) + 1) d ((cf : Int) + 1 + cg) W) => moved_behind _ l ((cx : Int) - cg) d ((cf : Int) + 1 + cg) W (HTO.out W hW.below) hlen (by omega) (by omega) hln' ((hW.lst.cell 0).trans rfl)
        have hla := Lx.moved_length (fun y => decide (y < (cf : Int) + 1)) 0 l
        have hlb := Lx.moved_length (fun y => decide ((cf : Int) + 1 + cg < y)) ((cx : Int) - cg) l
        have hall : Lx.pAll l s.data.toList x.data.toList f t = [Lx.moved (fun y => decide (y < (cf : Int) + 1)) 0 l, R.toks, Lx.moved (fun y => decide ((cf : Int) + 1 + cg < y)) ((cx : Int) - cg) l].flatten := by
          unfold Lx.pAll Lx.pLast
          rw [HR.out, HCF.out, HCXD.out]
          have : List.count 10 ((s.data.toList.take t).drop f) = cg := by
            rw [← HCGD.out, Lib.extract_data, List.drop_take]
          have e1 : ((cf + 1 : Nat) : Int) = (cf : Int) + 1 := by omega
          have e2 : ((cf + 1 + cg : Nat) : Int) = (cf : Int) + 1 + cg := by omega
          have e3 : (cx : Int) - ((cf : Int) + 1 + cg - ((cf : Int) + 1)) = (cx : Int) - cg := by omega
          rw [this, e1, e2, e3]
        generalize Lx.moved (fun y => decide (y < (cf : Int) + 1)) 0 l = la at *
        generalize Lx.moved (fun y => decide ((cf : Int) + 1 + cg < y)) ((cx : Int) - cg) l = lb at *
        have HALL := Lib.hid hall
        have CA := Lib.hid cA
        have CB := Lib.hid cB
        have HPT := Lib.hid hPTq
        have HRD := Lib.hid hRDq
        have HOT := Lib.hid hOTq
        clear hall cA cB hPTq hRDq hOTq
        have hmf : ∀ (fn : Fn) (first cap : Array Value) (w : World), (Instr.makeFunc fn first cap).run Tryd.prog w = .ok (.func fn first cap) w := fun _ _ _ _ => rfl
        go_wp2_with (first
          | (go_at_call 85; first
              | (refine (CB.out _ hPT7).mono ?_; rintro e w8 ⟨v8, rfl, o8, hb8⟩; obtain ⟨A8, c8, rfl⟩ := own_len o8; have hRD8 := (HRD.out.below hb7 HRD.out.lt).below hb8 (Nat.lt_of_lt_of_le HRD.out.lt hb7.size); have r0 := hRD8.cell 0; simp only [List.getElem?_toArray, List.getElem?_cons_zero] at r0)
              | (refine CA.out.mono ?_; rintro e w7 ⟨v7, rfl, o7, hb7⟩; obtain ⟨A7, c7, rfl⟩ := own_len o7; have hPT7 := HPT.out.later hb7)))
        have hcount : R.toks.length ≤ 100000 := by
          have h1 := Lx.readLines_count (s.extract ls f ++ x ++ s.extract t le).data.toList ((cf : Int) + 1)
          rw [← HPR.out, show (s.extract ls f ++ x ++ s.extract t le).data.toList.length = (s.extract ls f ++ x ++ s.extract t le).size from rfl] at h1
          omega
        have hwq := HPT.out.below.size
        have hres := HPT.out.s.q.res.lt
        have hw7 := hb7.size
        have hw8 := hb8.size
        have hrows : RowsAt (w8.alloc (.cells #[.slice A7 la.length c7, .slice At R.toks.length ct, .slice A8 lb.length c8] 35)) w.heap.size w8.heap.size [.slice A7 la.length c7, .slice At R.toks.length ct, .slice A8 lb.length c8] [la, R.toks, lb] := by
          refine ⟨rfl, ?_, ?_⟩
          · intro i hi
            have := (Has.new w8 35 #[.slice A7 la.length c7, .slice At R.toks.length ct, .slice A8 lb.length c8]).cell i
            rw [this]
            match i, hi with
            | 0, _ => rfl
            | 1, _ => rfl
            | 2, _ => rfl
          · intro i hi hi'
            match i, hi, hi' with
            | 0, _, _ => exact own_alloc (own_base (own_below o7 hb8 (Nat.le_refl _)) hwq) _
            | 1, _, _ => exact own_alloc (own_below (own_below HOT.out hb7 (Nat.le_refl _)) hb8 (Nat.le_refl _)) _
            | 2, _, _ => exact own_alloc (own_base o8 (by omega)) _
        refine (joined_any w8.heap.size w.heap.size 3 _ _ _ hrows (by simp) (by simp only [List.flatten_cons, List.flatten_nil, List.length_append, List.length_nil]; omega)).mono ?_
        rintro e w9 ⟨v9, rfl, o9, hb9⟩
        have hsz := hb9.size
        rw [World.size_alloc] at hsz o9 hb9
        obtain ⟨A9, c9, rfl⟩ := own_len o9
        have hPT9 := ((hPT7.later hb8).alloc (.cells #[.slice A7 la.length c7, .slice At R.toks.length ct, .slice A8 lb.length c8] 35)).later (by rw [World.size_alloc]; exact hb9)
        have hRD9 := (hRD8.alloc (.cells #[.slice A7 la.length c7, .slice At R.toks.length ct, .slice A8 lb.length c8] 35)).below hb9 (by have := hRD8.lt; omega)
        rw [← HALL.out] at o9
        have hpo : Lx.pOut l s.data.toList x.data.toList f t = if 6000 < (Lx.pAll l s.data.toList x.data.toList f t).length then ([], 0, (0, 0), 3) else (Lx.pAll l s.data.toList x.data.toList f t, R.toks.length, (0, 0), 0) := by
          unfold Lx.pOut
          rw [HR.out, if_neg (by rw [he]; decide)]
        rw [← HALL.out]
        generalize Lx.pAll l s.data.toList x.data.toList f t = all at *
        have HPO := Lib.hid hpo
        have HPT9 := Lib.hid hPT9
        have HO9 := Lib.hid o9
        clear r0 hpo o9 hrows HOT
        have r0 := hRD9.cell 0
        have z0 := hPT9.s.q.res.cell 0
        have z1 := hPT9.s.q.res.cell 1
        have y0 := hPT9.s.q.res.free 0
        have y1 := hPT9.s.q.res.free 1
        simp only [List.getElem?_toArray, List.getElem?_cons_zero, List.getElem?_cons_succ] at r0 z0 z1
        have hq := (hPT9.s.q.res.set 0 (.int .i64 0)).set 1 (.int .i64 0)
        have d0 := hq.cell 0
        have d1 := hq.cell 1
        simp at d0 d1
        have hbel := (hPT9.below.setCell (p := ⟨w.heap.size + 1, 0, none⟩) (by show w.heap.size ≤ w.heap.size + 1; omega) (.int .i64 0)).setCell (p := ⟨w.heap.size + 1, 1, none⟩) (by show w.heap.size ≤ w.heap.size + 1; omega) (.int .i64 0)
        have hwl : w.heap.size + 1 < w8.heap.size + 1 := by omega
        clear hPT9 hRD9 hq
        by_cases h6 : (6000 : Int) < all.length
        · go_wp2_with fail
          refine bodyPost_ret (v := .tuple #[.slice none 0 0, .int .i64 0, .agg #[.int .i64 0, .int .i64 0], .int .i64 3]) ?_ rfl ?_
          · simp [results, Tryd.results41, go_sem, d0, d1]
          · rw [HPO.out, if_pos (by omega)]
            exact ⟨_, rfl, ⟨rfl, .inl ⟨rfl, rfl⟩⟩, hbel⟩
        · go_wp2_with fail
          go_region
          all_goals
            go_wp2_with fail
            refine bodyPost_ret (v := .tuple #[.slice A9 all.length c9, .int .i64 R.toks.length, .agg #[.int .i64 0, .int .i64 0], .int .i64 0]) ?_ rfl ?_
            · simp [results, Tryd.results41, go_sem, d0, d1]
            · rw [HPO.out, if_neg (by omega)]
              exact ⟨_, rfl, own_drew (own_base (own_set1 (own_set1 HO9.out hwl 0 _) hwl 1 _) (by omega)), hbel.drew⟩
      · have hpo : Lx.pOut l s.data.toList x.data.toList f t = ([], 0, (R.line, R.col), R.err) := by
          unfold Lx.pOut
          rw [HR.out, if_pos he]
        have HPO := Lib.hid hpo
        clear hpo
        go_wp2_with fail
        go_region
        all_goals
          go_wp2_with fail
          have hq := (HPT.out.s.q.res.set 0 (.int .i64 R.line)).set 1 (.int .i64 R.col)
          have d0 := hq.cell 0
          have d1 := hq.cell 1
          simp at d0 d1
          refine bodyPost_ret (v := .tuple #[.slice none 0 0, .int .i64 0, .agg #[.int .i64 R.line, .int .i64 R.col], .int .i64 R.err]) ?_ rfl ?_
          · simp [results, Tryd.results41, go_sem, d0, d1]
          · rw [HPO.out]
            exact ⟨_, rfl, ⟨rfl, .inl ⟨rfl, rfl⟩⟩, ((HPT.out.below.setCell (by show w.heap.size ≤ w.heap.size + 1; omega) _).setCell (by show w.heap.size ≤ w.heap.size + 1; omega) _).drew⟩
end Go.Proofs.YtadicempblgmhaaDoor
