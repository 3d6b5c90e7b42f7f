/-
  A row of steps that is cut from its head and appended to, in package heir. The search of steps, round by round. Plain functions.
-/
import Derived.Test.YtojfimbanaijdaaHWay
import Derived.ArgAppend
namespace Go.Proofs.Ytojfimbanaijdaa
open Go.RowKit Go.Shelf

abbrev ptr (b : Nat) : Value := .pointer (some ⟨b, 0, none⟩)
/-- A queue of the call's own: it may begin behind its row's head. -/
def QAt (W : World) (B : Nat) (v : Value) (ps : List Nat) : Prop :=
  ∃ g off cap cur, v = .slice (some ⟨g, off, none⟩) ps.length cap ∧ B ≤ g ∧ Has W g 98 cur ∧ off + cap ≤ cur.size ∧ ps.length ≤ cap ∧ ∀ i (h : i < ps.length), cur[off + i]? = some (ptr ps[i])
theorem QAt.kept {W W' : World} {B : Nat} {v : Value} {ps : List Nat} {row : Option Nat} (h : QAt W B v ps) (hg : W.grownBy W' row) (hne : v.ownBlock ≠ row ∨ v.ownBlock = none) : QAt W' B v ps := by
  obtain ⟨g, off, cap, cur, rfl, h1, h2, h3⟩ := h
  refine ⟨g, off, cap, cur, rfl, h1, h2.grown hg ?_, h3⟩
  rcases hne with h | h
  · exact h
  · cases h
theorem QAt.alloc {W : World} {B : Nat} {v : Value} {ps : List Nat} (h : QAt W B v ps) (o : Obj) : QAt (W.alloc o) B v ps := by
  obtain ⟨g, off, cap, cur, rfl, h1, h2, h3⟩ := h
  exact ⟨g, off, cap, cur, rfl, h1, h2.alloc o, h3⟩
theorem QAt.ge {W : World} {B g : Nat} {v : Value} {ps : List Nat} (h : QAt W B v ps) (hg : v.ownBlock = some g) : B ≤ g ∧ g < W.heap.size ∧ ∃ cur, Has W g 98 cur := by
  obtain ⟨g', off, cap, cur, rfl, h1, h2, h3⟩ := h
  have : g' = g := by simpa [Value.ownBlock] using hg
  subst this
  exact ⟨h1, h2.lt, cur, h2⟩
theorem QAt.form {W : World} {B : Nat} {v : Value} {ps : List Nat} (h : QAt W B v ps) : ∃ A c, v = .slice (some A) ps.length c ∧ ps.length ≤ c := by
  obtain ⟨g', off, cap, cur, rfl, h1, h2, h3, h4, _⟩ := h
  exact ⟨_, _, rfl, h4⟩
theorem QAt.head {W : World} {B : Nat} {A : Addr} {n c : Nat} {p : Nat} {ps : List Nat} (h : QAt W B (.slice (some A) n c) (p :: ps)) : W.cell? A = some (ptr p) ∧ A.spot = none ∧ A.block < W.heap.size ∧ n = ps.length + 1 ∧ n ≤ c := by
  obtain ⟨g', off, cap, cur, hv, h1, h2, h3, h4, h5⟩ := h
  cases hv
  refine ⟨?_, rfl, h2.lt, rfl, h4⟩
  have := h5 0 (by simp)
  rw [h2.cell off]
  exact this
/-- Cut from its head. -/
theorem QAt.tail {W : World} {B g off c : Nat} {p : Nat} {ps : List Nat} (h : QAt W B (.slice (some ⟨g, off, none⟩) (ps.length + 1) c) (p :: ps)) : QAt W B (.slice (some ⟨g, if c = 1 then off else off + 1, none⟩) ps.length (c - 1)) ps := by
  obtain ⟨g', off', cap, cur, hv, h1, h2, h3, h4, h5⟩ := h
  cases hv
  rw [List.length_cons] at h4
  by_cases hc : c = 1
  · subst hc
    have hp : ps = [] := List.eq_nil_of_length_eq_zero (by omega)
    subst hp
    exact ⟨g, off, 0, cur, rfl, h1, h2, by omega, by simp, fun i h => absurd h (Nat.not_lt_zero _)⟩
  · rw [if_neg hc]
    refine ⟨g, off + 1, c - 1, cur, rfl, h1, h2, by omega, by omega, fun i hi => ?_⟩
    have := h5 (i + 1) (by rw [List.length_cons]; omega)
    rw [show off + 1 + i = off + (i + 1) from by omega, this]
    rfl

theorem stepInfo : (Try.prog.info? 98).map (fun i => (i.zero, i.size, i.bytes)) = some (some (.pointer none), 1, 8) := by kernel_rfl

theorem run_append_q (w : World) (ty : TypeId) (B : Nat) (v : Value) (ps : List Nat) (b ab c : Nat) (hq : QAt w B v ps) (hx : w.cell? ⟨ab, 0, none⟩ = some (ptr b)) (hn : ps.length ≤ 1000000) (hB : B ≤ w.heap.size) :
    ∃ v' w', (Builtin.append_ #[125, 125] ty #[v, .slice (some ⟨ab, 0, none⟩) 1 c]).run Try.prog w = .ok v' w' ∧ QAt w' B v' (ps ++ [b]) ∧ w.grownBy w' v.ownBlock ∧ (v'.ownBlock = v.ownBlock ∨ ∀ g, v'.ownBlock = some g → w.heap.size ≤ g) := by
  obtain ⟨i0, hi, hz0, hz1, hz2⟩ := info_parts stepInfo
  obtain ⟨g, off, cap, cur, rfl, h1, h2, h3, h4, h5⟩ := hq
  have hnews : ∀ j u, ([ptr b] : List Value)[j]? = some u → w.cell? ((⟨ab, 0, none⟩ : Addr).add j) = some u := fun j u hu => by
    cases j with
    | zero =>
      have : u = ptr b := by simpa using hu.symm
      subst this
      simpa [Addr.add] using hx
    | succ j => simp at hu
  by_cases hroom : ps.length + 1 ≤ cap
  · have hr := run_append_room_cells (P := Try.prog) w 125 ty 98 i0 Try.underlying125 hi g off ps.length cap ⟨ab, 0, none⟩ 1 c [ptr b] (by rw [hz1]; rfl) hnews (by simp [Value.oneCell']) hroom
      (fun j hj => by
        have : j = 0 := by simpa using hj
        subst this
        rw [hz1, h2.cell]
        rw [Array.getElem?_eq_getElem (by omega)]
        rfl) (fun j hj => by rw [hz1]; exact h2.free _)
    rw [hz1, Nat.mul_one] at hr
    refine ⟨_, _, hr, ?_, grown_set w g (off + ps.length) (ptr b), .inl rfl⟩
    refine ⟨g, off, cap, _, by rw [List.length_append]; rfl, h1, h2.set (off + ps.length) (ptr b), by rw [Array.size_setIfInBounds]; exact h3, by rw [List.length_append]; exact hroom, fun i hi => ?_⟩
    rw [List.length_append, List.length_singleton] at hi
    rcases Nat.lt_or_ge i ps.length with hlt | hge
    · rw [Array.getElem?_setIfInBounds_ne (by omega), h5 i hlt, List.getElem_append_left hlt]
    · obtain rfl : i = ps.length := by omega
      rw [Array.getElem?_setIfInBounds_self_of_lt (by omega)]
      simp
  · have holds : ∀ j u, (ps.map ptr)[j]? = some u → w.cell? ((⟨g, off, none⟩ : Addr).add j) = some u := fun j u hu => by
      have hj : j < ps.length := by
        have := (List.getElem?_eq_some_iff.1 hu).1
        simpa using this
      have hu' : u = ptr ps[j] := by simp [hj] at hu; exact hu.symm
      subst hu'
      rw [show ((⟨g, off, none⟩ : Addr).add j) = ⟨g, off + j, none⟩ from by unfold Addr.add; split <;> simp_all, h2.cell]
      exact h5 j hj
    obtain ⟨v', w', hr, ho, hg⟩ := run_append_arg_grows (P := Try.prog) w 125 ty 98 i0 (.pointer none) 1 8 Try.underlying125 hi hz0 hz1 hz2 rfl (by decide) ⟨g, off, none⟩ ps.length cap (ps.map ptr) (by simp) holds ⟨ab, 0, none⟩ 1 c [ptr b] rfl hnews (by omega) (by unfold maxLen; omega) (by omega)
    rcases ho.2 with ⟨rfl, h0⟩ | ⟨g', cap', cur', rfl, hb', hh', r1, r2, r3, r4⟩
    · omega
    · refine ⟨_, _, hr, ⟨g', 0, cap', cur', by rw [List.length_append]; rfl, by omega, hh', by omega, by rw [List.length_append]; exact r1, fun i hi => ?_⟩, ⟨hg.os, hg.tape, hg.output, hg.size, fun k hk _ => hg.block k hk (by simp)⟩, ?_⟩
      · rw [List.length_append, List.length_singleton] at hi
        have h6 : (cur'.toList.take ((ps.length + 1) * 1))[i]? = (ps.map ptr ++ [ptr b])[i]? := by rw [r4]
        rw [List.getElem?_take_of_lt (by omega)] at h6
        rw [Nat.zero_add, ← Array.getElem?_toList, h6]
        rcases Nat.lt_or_ge i ps.length with hlt | hge
        · rw [List.getElem?_append_left (by simpa using hlt), List.getElem_append_left hlt]
          simp [hlt]
        · obtain rfl : i = ps.length := by omega
          simp
      · refine .inr fun j hj => ?_
        have : g' = j := by simpa [Value.ownBlock] using hj
        omega

theorem wpListIn_append_q {F : Fence} {nF : Nat} {w : World} {ops : Array Oper} {rest : List Oper} {o : Oper} {a : Act} {Q : Exit → Act → World → Prop} (hgd : o.guard = none) (s x : Operand)
    (ho : o.op = .call { callee := .builtin .append, args := #[s, x], argTypes := #[125, 125] })
    (B : Nat) (v : Value) (ps : List Nat) (b ab c : Nat) (hs : a.eval s = v) (hq : QAt w B v ps) (hx : a.eval x = .slice (some ⟨ab, 0, none⟩) 1 c) (hc : w.cell? ⟨ab, 0, none⟩ = some (ptr b)) (hn : ps.length ≤ 1000000) (hB : B ≤ w.heap.size)
    (h : ∀ v' w', QAt w' B v' (ps ++ [b]) → w.grownBy w' v.ownBlock → (v'.ownBlock = v.ownBlock ∨ ∀ g, v'.ownBlock = some g → w.heap.size ≤ g) → wpListIn F nF Try.prog ops Q rest (a.put o.dst v') w') :
    wpListIn F nF Try.prog ops Q (o :: rest) a w := by
  refine wpListIn_plain hgd fun K hK => ?_
  obtain ⟨v', w', hr, h2, h3, h4⟩ := run_append_q w o.type B v ps b ab c hq hc hn hB
  unfold Oper.wpIn
  refine ⟨by simp [Oper.about, ho, resolve, Target.leads, Sem.run_pure], ?_⟩
  rw [Oper.semAt_plain F _ _ (by rw [ho]; intro c hc'; cases hc')]
  simp [execOp, ho, resolve, invoke, builtin, hs, hx, hr, Result.andThen]
  exact hK _ _ (h v' w' h2 h3 h4)
end Go.Proofs.Ytojfimbanaijdaa
namespace Go.Proofs.Ytojfimbanaijdaa
namespace Hr
/-- What is left to look at: the queue, and the links of classes that have not been come to. -/
def pot (L : List (Nm × Nm)) (seen : List Nm) (q : Nat) : Nat := q + (L.filter fun x => !seen.contains x.1).length
theorem parents_count (L : List (Nm × Nm)) (c : Nm) : (parents L c).length ≤ (L.filter fun x => x.1 == c).length := by
  have h : ∀ l : List (Nm × Nm), (l.takeWhile fun x => x.1 == c).length ≤ (l.filter fun x => x.1 == c).length := by
    intro l
    induction l with
    | nil => simp
    | cons a r ih =>
      by_cases ha : (a.1 == c) = true
      · simp only [List.takeWhile_cons, List.filter_cons, ha, if_true, List.length_cons]
        omega
      · simp [ha]
  unfold parents
  rw [List.length_map]
  refine Nat.le_trans (h _) ?_
  exact ((List.drop_sublist _ L).filter _).length_le
theorem filter_split (L : List (Nm × Nm)) (seen : List Nm) (c : Nm) (hc : c ∉ seen) : (L.filter fun x => !(c :: seen).contains x.1).length + (L.filter fun x => x.1 == c).length = (L.filter fun x => !seen.contains x.1).length := by
  induction L with
  | nil => rfl
  | cons a r ih =>
    by_cases ha : a.1 = c
    · have h1 : (a.1 == c) = true := by simpa using ha
      have h2 : (!(c :: seen).contains a.1) = false := by simp [ha]
      have h3 : (!seen.contains a.1) = true := by simp [ha, hc]
      simp only [List.filter_cons, h1, h2, h3, if_true, Bool.false_eq_true, if_false, List.length_cons]
      omega
    · have h1 : (a.1 == c) = false := by simpa using ha
      by_cases hs : a.1 ∈ seen
      · have h2 : (!(c :: seen).contains a.1) = false := by simp [hs]
        have h3 : (!seen.contains a.1) = false := by simp [hs]
        simp only [List.filter_cons, h1, h2, h3, Bool.false_eq_true, if_false]
        exact ih
      · have h2 : (!(c :: seen).contains a.1) = true := by simp [hs, ha]
        have h3 : (!seen.contains a.1) = true := by simp [hs]
        simp only [List.filter_cons, h1, h2, h3, if_true, Bool.false_eq_true, if_false, List.length_cons]
        omega
theorem pot_new (L : List (Nm × Nm)) (seen : List Nm) (c : Nm) (q n : Nat) (hc : c ∉ seen) (h : pot L seen (q + 1) < n + 1) : pot L (c :: seen) (q + (isort (parents L c)).length) < n := by
  have h1 := filter_split L seen c hc
  have h2 := parents_count L c
  have h3 := (isort_perm (parents L c)).length_eq
  unfold pot at h ⊢
  omega
theorem pot_old (L : List (Nm × Nm)) (seen : List Nm) (q n : Nat) (h : pot L seen (q + 1) < n + 1) : pot L seen q < n := by
  unfold pot at h ⊢
  omega
theorem pot_le (L : List (Nm × Nm)) : pot L [] 1 < L.length + 2 := by
  unfold pot
  have := List.length_filter_le (fun x : Nm × Nm => !([] : List Nm).contains x.1) L
  omega
theorem search_nil (L : List (Nm × Nm)) (n : Nat) (seen : List Nm) : search L n seen [] = [] := by cases n <;> rfl
theorem search_old (L : List (Nm × Nm)) (n : Nat) (seen : List Nm) (x : Nm × List Nm) (q : List (Nm × List Nm)) (h : x.1 ∈ seen) : search L (n + 1) seen (x :: q) = search L n seen q := by
  conv => lhs; unfold search
  rw [if_pos h]
theorem search_new (L : List (Nm × Nm)) (n : Nat) (seen : List Nm) (x : Nm × List Nm) (q : List (Nm × List Nm)) (h : x.1 ∉ seen) : search L (n + 1) seen (x :: q) = x :: search L n (x.1 :: seen) (q ++ (isort (parents L x.1)).map fun p => (p, x.1 :: x.2)) := by
  conv => lhs; unfold search
  rw [if_neg h]
theorem seenF_cons (seen : List Nm) (x : Nm) : upd (seenF seen) x true = seenF (x :: seen) := by
  funext s
  unfold upd seenF
  by_cases h : s = x
  · simp [h]
  · simp [h]
theorem least_ex {q : Nat → Prop} (h : ∃ n, q n) : ∃ n, q n ∧ ∀ m, q m → n ≤ m := by
  obtain ⟨n, hn⟩ := h
  induction n using Nat.strongRecOn with
  | ind n ih =>
    by_cases h : ∃ m, m < n ∧ q m
    · obtain ⟨m, hm, hq⟩ := h
      exact ih m hm hq
    · exact ⟨n, hn, fun m hm => Nat.le_of_not_lt fun hlt => h ⟨m, hlt, hm⟩⟩
theorem least_pick {p : Nat → Prop} (h : ∃ n, p n) : ∃ n, p n ∧ Classical.epsilon (fun n => p n ∧ ∀ m, p m → n ≤ m) = n :=
  ⟨_, (Classical.epsilon_spec (least_ex h)).1, rfl⟩
theorem least_lt {p : Nat → Prop} {m n : Nat} (hp : p m) (hm : m < n) : Classical.epsilon (fun n => p n ∧ ∀ m, p m → n ≤ m) < n :=
  Nat.lt_of_le_of_lt ((Classical.epsilon_spec (least_ex ⟨m, hp⟩)).2 m hp) hm
end Hr
end Go.Proofs.Ytojfimbanaijdaa
