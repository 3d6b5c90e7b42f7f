/-
  What package heir's functions return, as plain functions: searches, rings, orders, levels, least ancestors.
-/
import Derived.Test.YtbiblpgdddgpmaaHSpec
namespace Go.Proofs.Ytbiblpgdddgpmaa
namespace Hr

/-- Names in order. -/
def put1 (x : Nm) : List Nm → List Nm
  | [] => [x]
  | y :: r => if x ≤ y then x :: y :: r else y :: put1 x r
def isort : List Nm → List Nm
  | [] => []
  | x :: r => put1 x (isort r)

/-- The search: each class with its way, the class itself ahead; n: rounds enough. -/
def search (L : List (Nm × Nm)) : Nat → List Nm → List (Nm × List Nm) → List (Nm × List Nm)
  | 0, _, _ => []
  | _ + 1, _, [] => []
  | n + 1, seen, x :: q =>
    if x.1 ∈ seen then search L n seen q
    else x :: search L n (x.1 :: seen) (q ++ (isort (parents L x.1)).map fun p => (p, x.1 :: x.2))
def steps (L : List (Nm × Nm)) (c : Nm) : List (Nm × List Nm) := search L (L.length + 2) [] [(c, [])]
/-- The way up to a step. -/
def wayOf (x : Nm × List Nm) : List Nm := (x.1 :: x.2).reverse
def way (L : List (Nm × Nm)) (c a : Nm) : Option (List Nm) := ((steps L c).find? fun x => x.1 == a).map wayOf

def isUp (L : List (Nm × Nm)) (c a : Nm) : Bool := (above L c).contains a
def sources (L : List (Nm × Nm)) : List Nm := isort ((L.map (·.1)).eraseDups)

/-- One search for a ring: the best step so far. -/
def ringFrom (L : List (Nm × Nm)) (c : Nm) (best : Option (Nm × List Nm)) : List (Nm × List Nm) → Option (Nm × List Nm)
  | [] => best
  | x :: r =>
    match best with
    | some b => if b.2.length ≤ x.2.length then best else ringFrom L c (if (parents L x.1).contains c then some x else best) r
    | none => ringFrom L c (if (parents L x.1).contains c then some x else best) r
def ring (L : List (Nm × Nm)) : Option (List Nm) :=
  if (visited L (sources L)).ring then ((sources L).foldl (fun b c => ringFrom L c b (steps L c)) none).map wayOf else none

def free (L : List (Nm × Nm)) (rest : List Nm) (c : Nm) : Bool := (parents L c).all fun p => !rest.contains p
/-- n: rounds enough. -/
def orderFrom (L : List (Nm × Nm)) : Nat → List Nm → List Nm
  | 0, _ => []
  | n + 1, rest => match rest.find? (free L rest) with
    | some c => c :: orderFrom L n (rest.erase c)
    | none => []
def order (S : List Cls) : List Nm := orderFrom (links S) S.length (isort (S.map (·.name)))
def levelsFrom (L : List (Nm × Nm)) : Nat → List Nm → List (List Nm)
  | 0, _ => []
  | n + 1, rest => if rest = [] then [] else rest.filter (free L rest) :: levelsFrom L n (rest.filter fun c => !(rest.filter (free L rest)).contains c)
def levels (S : List Cls) : List (List Nm) := levelsFrom (links S) S.length (isort (S.map (·.name)))
def least (L : List (Nm × Nm)) (a b : Nm) : List Nm :=
  let common := (above L a).filter fun c => isUp L b c
  isort (common.filter fun c => !common.any fun o => o != c && isUp L o c)
def needless (L : List (Nm × Nm)) : List (Nm × Nm) := L.filter fun x => isUp (L.filter fun y => y != x) x.1 x.2
def touched (S : List Cls) (changed : List Nm) : List Nm := (S.map (·.name)).filter fun c => (above (links S) c).any fun a => changed.contains a
def waysFrom (L : List (Nm × Nm)) (a : Nm) : List Nm → (Nm → Option Int) → (Nm → Option Int)
  | [], f => f
  | x :: r, f => waysFrom L a r ((parents L x).foldl (fun f p => upd f x ((f x).getD 0 + (f p).getD 0)) f)
def ways (L : List (Nm × Nm)) (c a : Nm) : Int := ((waysFrom L a (above L c) (upd (fun _ => none) a 1)) c).getD 0

/-- The chapter's example. -/
def five : List Cls := [⟨[65], []⟩, ⟨[66], [[65]]⟩, ⟨[67], [[65]]⟩, ⟨[68], [[66], [67]]⟩, ⟨[69], [[68], [65]]⟩]
def badFive : List Cls := ⟨[65], [[68]]⟩ :: five.tail
theorem five_links : links five = [([66], [65]), ([67], [65]), ([68], [66]), ([68], [67]), ([69], [68]), ([69], [65])] := by decide +kernel
theorem five_above : above (links five) [69] = [[65], [66], [67], [68], [69]] := by decide +kernel
theorem five_ways : ways (links five) [69] [65] = 3 := by decide +kernel
theorem five_way : way (links five) [69] [65] = some [[69], [65]] := by decide +kernel
theorem five_order : order five = [[65], [66], [67], [68], [69]] := by decide +kernel
theorem five_levels : levels five = [[[65]], [[66], [67]], [[68]], [[69]]] := by decide +kernel
theorem five_least : least (links five) [66] [67] = [[65]] := by decide +kernel
theorem five_least2 : least (links five) [68] [66] = [[66]] := by decide +kernel
theorem five_needless : needless (links five) = [([69], [65])] := by decide +kernel
theorem five_touched : touched five [[67]] = [[67], [68], [69]] := by decide +kernel
theorem five_ring : ring (links five) = none := by decide +kernel
theorem bad_ring : ring (links badFive) = some [[65], [68], [66]] := by decide +kernel
end Hr
end Go.Proofs.Ytbiblpgdddgpmaa
