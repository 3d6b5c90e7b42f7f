/-
  What Ring returns, in package heir, of a system without a ring.
-/
import Derived.Test.YtbiblpgdddgpmaaHKeep
import Derived.WalkMore
namespace Go.Proofs.Ytbiblpgdddgpmaa
open Go.RowKit Go.Shelf

theorem sources_fine {L : List (Hr.Nm × Hr.Nm)} (h : Fine L) : FineN (Hr.sources L) := fun s hs => by
  have h1 := (Hr.isort_perm _).mem_iff.1 hs
  rw [List.mem_eraseDups] at h1
  obtain ⟨x, hx, rfl⟩ := List.mem_map.1 h1
  exact (h x hx).1
theorem sources_le (L : List (Hr.Nm × Hr.Nm)) : (Hr.sources L).length ≤ L.length := by
  unfold Hr.sources
  rw [(Hr.isort_perm _).length_eq]
  refine Nat.le_trans (Hr.eraseDups_le _ _ (Nat.le_refl _)) ?_
  rw [List.length_map]
  exact Nat.le_refl _

theorem links_fine {w : World} {v : Value} {S : List Hr.Cls} (h : SysAt w v S) : Fine (Hr.links S) := by
  obtain ⟨A, c, rfl, h⟩ := h
  have key : ∀ k, k ≤ S.length → Fine (Hr.linksTo S k) := by
    intro k
    induction k with
    | zero => exact fun _ x hx => by cases hx
    | succ k ih =>
      intro hk x hx
      have hlt : k < S.length := by omega
      obtain ⟨b, o, _, hat⟩ := h (by omega)
      obtain ⟨hn, _, _, _, _, _, A3, c3, _, _, _, _, _, _, _, _, _, _, _, _, hups, _⟩ := hat k hlt
      have hx' : x ∈ Hr.linksTo S k ++ (match S[k]? with | some c => Hr.linksAt S k c | none => []) := hx
      rw [List.getElem?_eq_getElem hlt] at hx'
      rcases List.mem_append.1 hx' with h1 | h1
      · exact ih (by omega) x h1
      · dsimp only at h1
        unfold Hr.linksAt at h1
        split at h1
        · obtain ⟨p, hp, rfl⟩ := List.mem_map.1 h1
          refine ⟨hn, ?_⟩
          obtain ⟨i, hi, rfl⟩ := List.getElem_of_mem hp
          obtain ⟨A', c', hv, hh⟩ := hups
          obtain ⟨b', o', _, hh⟩ := hh (by omega)
          exact (hh i hi).1
        · cases h1
  exact key _ (Nat.le_refl _)

set_option maxRecDepth 100000 in
set_option maxHeartbeats 1000000 in
theorem Ring_none (v : Value) (S : List Hr.Cls) (w : World) (h : SysAt w v S) (hS : S.length ≤ 1000000) (hL : (Hr.links S).length ≤ 400000) (hno : (Hr.visited (Hr.links S) (Hr.sources (Hr.links S))).ring = false) :
    Calls Try.prog 17 #[v] w fun e w' => e = .returned (.tuple #[.slice none 0 0, .bool false]) ∧ Below w.heap.size w w' := by
  have hfine := links_fine h
  have HLK := Lib.hid (linksOf_any v S w h hS (by omega))
  have HNO := Lib.hid hno
  have HFI := Lib.hid hfine
  have hsl := sources_le (Hr.links S)
  clear h hno hfine
  generalize Hr.links S = L at *
  go_enter Try.func17, Try.ntmps17
  go_wp2
  go_step3
  go_wp2_with (first
    | (go_at_call 47; refine HLK.out.mono ?_
       rintro e w1 ⟨x1, rfl, ho1, hb1⟩
       have HG := Lib.hid (graphOf_any x1 L w1 (LinksAt.of_own HFI.out ho1) (by omega))
       have HB1 := Lib.hid hb1
       clear ho1 hb1)
    | (go_at_call 46; refine HG.out.mono ?_
       rintro e w2 ⟨x2, rfl, hg2, hb2⟩
       obtain ⟨A, cp, m, k, rfl, hl2, hm2, hmi2⟩ := hg2
       have HB2 := Lib.hid (stepN HB1.out hb2)
       have HL2 := Lib.hid hl2
       have HM2 := Lib.hid hmi2
       clear hl2 hmi2 hb2)
    | (go_at_call 49; refine (keys_any (some m) _).mono ?_
       rintro e w3 ⟨rfl, rfl⟩
       have hb3 : Below w2.heap.size w2 (w2.alloc (.cells #[.slice A L.length cp, .map (some m)] 73)) := (Below.refl _ _).alloc (Nat.le_refl _) _
       have HSO := sources_any m k L _ (HM2.out.below hb3 HM2.out.lt) (by omega)
       rw [World.size_alloc] at HSO
       have HSO := Lib.hid HSO
       clear hb3)
    | (go_at_call 48; refine HSO.out.mono ?_
       rintro e w5 ⟨hv, rfl, ho5, hb5⟩
       have hb4 : Below w2.heap.size w2 w5 := (((Below.refl w2.heap.size w2).alloc (Nat.le_refl _) (.cells #[.slice A L.length cp, .map (some m)] 73)).alloc (by simp) (.cells #[.map (some m)] 58)).trans (hb5.mono (by simp; omega))
       have hg5 : Has w5 w2.heap.size 73 #[.slice A L.length cp, .map (some m)] := ((Has.new w2 _ _).alloc _).below hb5 (by simp; omega)
       have gc0 := hg5.cell 0
       have gc1 := hg5.cell 1
       have glt5 := hg5.lt
       simp only [List.getElem?_toArray, List.getElem?_cons_zero, List.getElem?_cons_succ] at gc0 gc1
       have HVI := Lib.hid (visited_any A cp m k L hv (Hr.sources L) w5 (HL2.out.below hb4 (Nat.le_refl _)) (HM2.out.below hb4 HM2.out.lt) (NmsAt.of_own ho5) (sources_fine HFI.out) (by omega))
       have HB5 := Lib.hid (stepN HB2.out hb4)
       clear ho5 hb5 hb4 hg5)
    | (go_at_call 50; refine HVI.out.mono ?_
       rintro e w6 ⟨wb, mc, B, o, M, rfl, hw6, -, hb6⟩
       have z4 := hw6.hw.cell 4
       have wlt := hw6.hw.lt
       simp only [List.getElem?_toArray, List.getElem?_cons_zero, List.getElem?_cons_succ] at z4
       have HB6 := Lib.hid (stepN HB5.out hb6)
       have hrg : (Hr.visited L (Hr.sources L)).ring = false := HNO.out
       have hrg2 : (List.foldl (Hr.visit L (L.length + 1)) ⟨fun _ => none, [], false⟩ (Hr.sources L)).ring = false := hrg
       rw [hrg] at z4
       clear hw6 hb6))
  rw [Exit.noGoto_ret]
  refine bodyPost_ret (v := .tuple #[.slice none 0 0, .bool false]) ?_ rfl ⟨rfl, HB6.out⟩
  simp [results, Try.results17, go_sem]
end Go.Proofs.Ytbiblpgdddgpmaa
