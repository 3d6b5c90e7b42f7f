/-
  Systems, links and graphs as they lie in memory.
-/
import Derived.Test.YtojfimbanaijdaaHBase
import Derived.Test.YtojfimbanaijdaaHFirstP
import Derived.Test.YtojfimbanaijdaaProg
namespace Go.Proofs.Ytojfimbanaijdaa
open Go.RowKit Go.Shelf

theorem MapI.below {P : Program} {k e : TypeId} {w w' : World} {B b n : Nat} {f : Hr.Nm → Option Int} (h : MapI P k e w b n f) (hb : Below B w w') (hB : b < B) : MapI P k e w' b n f := by
  obtain ⟨D, ⟨es, clock, h1, h2, h3, h4⟩, h5, h6⟩ := h
  exact ⟨D, ⟨es, clock, (hb.block b hB).trans h1, h2, h3, h4⟩, h5, h6⟩
theorem MapB.below {P : Program} {k e : TypeId} {w w' : World} {B b n : Nat} {f : Hr.Nm → Option Bool} (h : MapB P k e w b n f) (hb : Below B w w') (hB : b < B) : MapB P k e w' b n f := by
  obtain ⟨D, ⟨es, clock, h1, h2, h3, h4⟩, h5, h6⟩ := h
  exact ⟨D, ⟨es, clock, (hb.block b hB).trans h1, h2, h3, h4⟩, h5, h6⟩
theorem MapI.alloc {P : Program} {k e : TypeId} {w : World} {b n : Nat} {f : Hr.Nm → Option Int} (h : MapI P k e w b n f) (o : Obj) : MapI P k e (w.alloc o) b n f := h.kept (World.grownBy_alloc w o none) (by simp)
theorem MapB.alloc {P : Program} {k e : TypeId} {w : World} {b n : Nat} {f : Hr.Nm → Option Bool} (h : MapB P k e w b n f) (o : Obj) : MapB P k e (w.alloc o) b n f := h.kept (World.grownBy_alloc w o none) (by simp)
theorem MapI.of_eq {P : Program} {k e : TypeId} {w : World} {b n : Nat} {f g : Hr.Nm → Option Int} (h : MapI P k e w b n f) (hfg : ∀ s, f s = g s) : MapI P k e w b n g := by
  obtain rfl : f = g := funext hfg
  exact h
theorem MapB.of_eq {P : Program} {k e : TypeId} {w : World} {b n : Nat} {f g : Hr.Nm → Option Bool} (h : MapB P k e w b n f) (hfg : ∀ s, f s = g s) : MapB P k e w b n g := by
  obtain rfl : f = g := funext hfg
  exact h

abbrev nm (s : Hr.Nm) : Value := .string ⟨s.toArray⟩

/-- A parent. -/
def ParAt (w : World) (b o : Nat) (s : Hr.Nm) : Prop :=
  s.length ≤ 140737488355328 ∧ w.cell? ⟨b, o, none⟩ = some (nm s) ∧ ∃ A1 n1 c1 A2 n2 c2 A3 n3 c3 A4 n4 c4 A5 n5 c5, w.cell? ⟨b, o + 1, none⟩ = some (.slice A1 n1 c1) ∧ w.cell? ⟨b, o + 2, none⟩ = some (.slice A2 n2 c2) ∧ w.cell? ⟨b, o + 3, none⟩ = some (.slice A3 n3 c3) ∧ w.cell? ⟨b, o + 4, none⟩ = some (.slice A4 n4 c4) ∧ w.cell? ⟨b, o + 5, none⟩ = some (.slice A5 n5 c5)
def UpsAt (w : World) (v : Value) (l : List Hr.Nm) : Prop :=
  ∃ A c, v = .slice A l.length c ∧ (0 < l.length → ∃ b o, A = some ⟨b, o, none⟩ ∧ ∀ i (h : i < l.length), ParAt w b (o + i * 6) l[i])
/-- A class. -/
def ClsAt (w : World) (b o : Nat) (c : Hr.Cls) : Prop :=
  c.name.length ≤ 140737488355328 ∧ w.cell? ⟨b, o, none⟩ = some (nm c.name) ∧ ∃ (d : Bool) (A2 : Option Addr) (n2 c2 : Nat) (A3 : Option Addr) (c3 : Nat) (A4 : Option Addr) (n4 c4 : Nat) (A5 : Option Addr) (n5 c5 : Nat) (A6 : Option Addr) (n6 c6 : Nat),
    w.cell? ⟨b, o + 1, none⟩ = some (.bool d) ∧ w.cell? ⟨b, o + 2, none⟩ = some (.slice A2 n2 c2) ∧ w.cell? ⟨b, o + 3, none⟩ = some (.slice A3 c.ups.length c3) ∧ UpsAt w (.slice A3 c.ups.length c3) c.ups ∧ w.cell? ⟨b, o + 4, none⟩ = some (.slice A4 n4 c4) ∧ w.cell? ⟨b, o + 5, none⟩ = some (.slice A5 n5 c5) ∧ w.cell? ⟨b, o + 6, none⟩ = some (.slice A6 n6 c6)
def SysAt (w : World) (v : Value) (S : List Hr.Cls) : Prop :=
  ∃ A c, v = .slice A S.length c ∧ (0 < S.length → ∃ b o, A = some ⟨b, o, none⟩ ∧ ∀ i (h : i < S.length), ClsAt w b (o + i * 7) S[i])

abbrev Keeps (w w' : World) : Prop := ∀ (p : Addr) (u : Value), w.cell? p = some u → w'.cell? p = some u
theorem ParAt.keep {w w' : World} {b o : Nat} {s : Hr.Nm} (h : ParAt w b o s) (hk : Keeps w w') : ParAt w' b o s := by
  obtain ⟨h0, h1, A1, n1, c1, A2, n2, c2, A3, n3, c3, A4, n4, c4, A5, n5, c5, a1, a2, a3, a4, a5⟩ := h
  exact ⟨h0, hk _ _ h1, A1, n1, c1, A2, n2, c2, A3, n3, c3, A4, n4, c4, A5, n5, c5, hk _ _ a1, hk _ _ a2, hk _ _ a3, hk _ _ a4, hk _ _ a5⟩
theorem UpsAt.keep {w w' : World} {v : Value} {l : List Hr.Nm} (h : UpsAt w v l) (hk : Keeps w w') : UpsAt w' v l := by
  obtain ⟨A, c, hv, h⟩ := h
  refine ⟨A, c, hv, fun h0 => ?_⟩
  obtain ⟨b, o, hA, h⟩ := h h0
  exact ⟨b, o, hA, fun i hi => (h i hi).keep hk⟩
theorem ClsAt.keep {w w' : World} {b o : Nat} {c : Hr.Cls} (h : ClsAt w b o c) (hk : Keeps w w') : ClsAt w' b o c := by
  obtain ⟨h0, h1, d, A2, n2, c2, A3, c3, A4, n4, c4, A5, n5, c5, A6, n6, c6, a1, a2, a3, u, a4, a5, a6⟩ := h
  exact ⟨h0, hk _ _ h1, d, A2, n2, c2, A3, c3, A4, n4, c4, A5, n5, c5, A6, n6, c6, hk _ _ a1, hk _ _ a2, hk _ _ a3, u.keep hk, hk _ _ a4, hk _ _ a5, hk _ _ a6⟩
theorem SysAt.keep {w w' : World} {v : Value} {S : List Hr.Cls} (h : SysAt w v S) (hk : Keeps w w') : SysAt w' v S := by
  obtain ⟨A, c, hv, h⟩ := h
  refine ⟨A, c, hv, fun h0 => ?_⟩
  obtain ⟨b, o, hA, h⟩ := h h0
  exact ⟨b, o, hA, fun i hi => (h i hi).keep hk⟩
theorem SysAt.below {w w' : World} {v : Value} {S : List Hr.Cls} (h : SysAt w v S) {B : Nat} (hb : Below B w w') (hB : w.heap.size ≤ B) : SysAt w' v S := h.keep (kept_below hb hB)

/-- Links. -/
def linkCells : List (Hr.Nm × Hr.Nm) → List Value
  | [] => []
  | x :: r => nm x.1 :: nm x.2 :: linkCells r
theorem linkCells_append (a b : List (Hr.Nm × Hr.Nm)) : linkCells (a ++ b) = linkCells a ++ linkCells b := by
  induction a with
  | nil => rfl
  | cons x r ih => simp [linkCells, ih]
theorem linkCells_length (a : List (Hr.Nm × Hr.Nm)) : (linkCells a).length = a.length * 2 := by
  induction a with
  | nil => rfl
  | cons x r ih => simp [linkCells, ih]; omega
theorem linkCells_get : ∀ (a : List (Hr.Nm × Hr.Nm)) (i : Nat) (h : i < a.length), (linkCells a)[i * 2]? = some (nm a[i].1) ∧ (linkCells a)[i * 2 + 1]? = some (nm a[i].2)
  | x :: r, 0, _ => ⟨rfl, rfl⟩
  | x :: r, i + 1, h => by
    have := linkCells_get r i (by simpa using h)
    rw [show (i + 1) * 2 = i * 2 + 1 + 1 from by omega]
    exact this
/-- Each name of a list of links is one that Go can bear. -/
def Fine (L : List (Hr.Nm × Hr.Nm)) : Prop := ∀ x ∈ L, x.1.length ≤ 140737488355328 ∧ x.2.length ≤ 140737488355328
def LinksAt (w : World) (v : Value) (L : List (Hr.Nm × Hr.Nm)) : Prop :=
  Fine L ∧ ∃ A c, v = .slice A L.length c ∧ L.length ≤ c ∧ (0 < L.length → ∃ b o, A = some ⟨b, o, none⟩ ∧ ∀ i (h : i < L.length), w.cell? ⟨b, o + i * 2, none⟩ = some (nm L[i].1) ∧ w.cell? ⟨b, o + i * 2 + 1, none⟩ = some (nm L[i].2))
theorem LinksAt.keep {w w' : World} {v : Value} {L : List (Hr.Nm × Hr.Nm)} (h : LinksAt w v L) (hk : Keeps w w') : LinksAt w' v L := by
  obtain ⟨hf, A, c, hv, hc, h⟩ := h
  refine ⟨hf, A, c, hv, hc, fun h0 => ?_⟩
  obtain ⟨b, o, hA, h⟩ := h h0
  exact ⟨b, o, hA, fun i hi => ⟨hk _ _ (h i hi).1, hk _ _ (h i hi).2⟩⟩
theorem LinksAt.below {w w' : World} {v : Value} {L : List (Hr.Nm × Hr.Nm)} (h : LinksAt w v L) {B : Nat} (hb : Below B w w') (hB : w.heap.size ≤ B) : LinksAt w' v L := h.keep (kept_below hb hB)
theorem LinksAt.of_own {w : World} {B e : Nat} {v : Value} {L : List (Hr.Nm × Hr.Nm)} (hf : Fine L) (h : w.ownsRow B e 2 v L.length (linkCells L)) : LinksAt w v L := by
  refine ⟨hf, ?_⟩
  rcases h.2 with ⟨rfl, h0⟩ | ⟨g, cap, cur, rfl, hb, hh, hr⟩
  · exact ⟨none, 0, by rw [h0], by rw [h0]; exact Nat.le_refl _, fun h => by omega⟩
  · have hc := h.cells (g := g) rfl
    refine ⟨some ⟨g, 0, none⟩, cap, rfl, ?_, fun _ => ⟨g, 0, rfl, fun i hi => ?_⟩⟩
    · have := hr.1
      omega
    · obtain ⟨g1, g2⟩ := linkCells_get L i hi
      have e : ∀ k, (⟨g, 0, none⟩ : Addr).add k = ⟨g, 0 + k, none⟩ := fun k => by unfold Addr.add; split <;> simp_all
      have h1 := hc (i * 2) _ g1
      have h2 := hc (i * 2 + 1) _ g2
      rw [e] at h1 h2
      exact ⟨h1, h2⟩

/-- A graph. -/
def GraphAt (w : World) (B : Nat) (v : Value) (L : List (Hr.Nm × Hr.Nm)) : Prop :=
  ∃ A c m k, v = .agg #[.slice A L.length c, .map (some m)] ∧ LinksAt w (.slice A L.length c) L ∧ m < B ∧ MapI Try.prog 9 3 w m k (fun s => (Hr.firstLink L s).map Int.ofNat)
theorem GraphAt.below {w w' : World} {B C : Nat} {v : Value} {L : List (Hr.Nm × Hr.Nm)} (h : GraphAt w C v L) (hb : Below B w w') (hB : w.heap.size ≤ B) : GraphAt w' C v L := by
  obtain ⟨A, c, m, k, hv, h1, h2, h3⟩ := h
  exact ⟨A, c, m, k, hv, h1.below hb hB, h2, h3.below hb (Nat.lt_of_lt_of_le h3.lt hB)⟩
end Go.Proofs.Ytojfimbanaijdaa
