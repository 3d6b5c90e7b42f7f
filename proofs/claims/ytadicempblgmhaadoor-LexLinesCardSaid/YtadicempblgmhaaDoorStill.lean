/-
  A region that draws its order and only reads, within a round of a range over a function: walked once.
-/
import Derived.Test.YtadicempblgmhaaDoorJoined
import Derived.OrdersIn
import Derived.Still
import Derived.StillTactics
namespace Go.Proofs.YtadicempblgmhaaDoor
open Go.RowKit Go.Shelf

theorem opIn_still {l n : Nat} {P : Program} {o : Oper} (hd : ∀ c : Call, o.op ≠ Op.defer c) {a : Act} {w : World} {K : Act → Prop} {K' : Act → World → Prop} {Q' : Exit → Act → World → Prop} (h : ∀ a, K a → K' a w) (hh : o.still P a w K) :
    o.wpIn (Fence.wide.inRound l) n P a w K' Q' := by
  refine ⟨fun _ _ => trivial, ?_⟩
  rw [Fence.inRound_round, Oper.semAt_some l _ _ hd]
  unfold Oper.still at hh
  generalize (execOp a.eval o).run P w = r at *
  cases r with
  | ok x w' =>
    cases x <;> simp only [Oper.stillUpon] at hh <;> simp only [Oper.uponIn]
    case enter f args =>
      obtain ⟨rfl, v, hc, hn⟩ := hh
      refine ⟨fun e => absurd e (by simp [Fence.wide, Fence.inRound]), CallsIn.inRound l ((callsIn_wide.2 hc).mono fun e w'' ⟨he, hw⟩ => ?_)⟩
      subst he; subst hw; exact h _ hn
    all_goals (obtain ⟨rfl, h2⟩ := hh; exact h _ h2)
  | halt x w' => simp only [Oper.stillUpon] at hh

theorem opAtIn_still {l n : Nat} {P : Program} {ops : Array Oper} (hd : ∀ (i : Nat) (o : Oper), ops[i]? = some o → ∀ c : Call, o.op ≠ Op.defer c) {i : Nat} {a : Act} {w : World} {K : Act → Prop} {K' : Act → World → Prop} {Q' : Exit → Act → World → Prop} (h : ∀ a, K a → K' a w) (hh : stOp P ops w i K a) :
    wpOpIn (Fence.wide.inRound l) n P ops Q' i K' a w := by
  unfold stOp at hh
  unfold wpOpIn
  split
  · rename_i ho; simp only [ho] at hh; exact h _ hh
  · rename_i o ho
    simp only [ho] at hh
    split
    · rename_i hw; simp only [hw, if_true] at hh; exact opIn_still (hd i o ho) h hh
    · rename_i hw; simp only [hw] at hh; exact ⟨fun _ _ => trivial, h _ hh⟩

theorem anyIn_still {l n : Nat} {P : Program} {md : Region.Mode} {ops : Array Oper} (hd : ∀ (i : Nat) (o : Oper), ops[i]? = some o → ∀ c : Call, o.op ≠ Op.defer c) {w : World} {Q : Act → Prop} {Q' : Exit → Act → World → Prop} (hQ : ∀ a, Q a → Q' .normal a w) :
    ∀ (fuel : Nat) (listed : Array Bool) (a : Act), wpAnyS P md ops w Q fuel listed a → wpAnyIn (Fence.wide.inRound l) n P md ops Q' fuel listed a w
  | 0, _, _, h => ⟨h.1, hQ _ h.2⟩
  | fuel + 1, _, _, h => ⟨fun h0 => hQ _ (h.1 h0), fun i hi => opAtIn_still hd (fun a' => anyIn_still hd hQ fuel _ a') (h.2 i hi)⟩

theorem regionIn_still {l n id : Nat} {P : Program} {Q : Exit → Act → World → Prop} {a : Act} {w : World} {L : List Oper} (hm : P.follows .mixedOrders = true) (hB : Region.lexB .any L.toArray = true) (hd : L.all (fun o => match o.op with | .defer _ => false | _ => true) = true)
    (h : wpStill P L.toArray w.drew (fun a' => Q .normal a' w.drew) L a) : (Code.region id L.toArray true).wpIn (Fence.wide.inRound l) n P Q a w := by
  simp only [Region.lexB, Bool.and_eq_true] at hB
  refine wpIn_region_any hm (anyIn_still (w := w.drew) (fun i o ho c e => ?_) (Q := fun a' => Q .normal a' w.drew) (fun _ h => h) _ _ _ ?_)
  · rw [List.getElem?_toArray] at ho
    have h1 := List.all_eq_true.1 hd o (List.mem_of_getElem? ho)
    rw [e] at h1
    cases h1
  · have := wpAnyS_lex (md := .any) hB.1 L 0 (Array.replicate L.toArray.size false) a (by simp) (by simpa using hB.2) h
    simpa using this

/-- An operation that its guard lets be. -/
theorem still_skip {P : Program} {ops : Array Oper} {w : World} {Q : Act → Prop} {a : Act} {o : Oper} {rest : List Oper} (h0 : Region.wanted o (yielded ops a.tmps) = false) (h : wpStill P ops w Q rest (a.put o.dst undef)) :
    wpStill P ops w Q (o :: rest) a := by
  unfold wpStill
  rw [if_neg (by rw [h0]; exact Bool.noConfusion)]
  exact h
/-- An operation by its run. -/
theorem still_value {P : Program} {ops : Array Oper} {w : World} {Q : Act → Prop} {a : Act} {o : Oper} {rest : List Oper} (v : Value) (h0 : Region.wanted o (yielded ops a.tmps) = true) (hr : (execOp a.eval o).run P w = .ok (.value v) w) (h : wpStill P ops w Q rest (a.put o.dst v)) :
    wpStill P ops w Q (o :: rest) a := by
  unfold wpStill
  rw [if_pos h0]
  unfold Oper.still
  rw [hr]
  exact ⟨rfl, h⟩
theorem still_run {P : Program} {w : World} {a : Act} {o : Oper} {K : Act → Prop} (v : Value) (hr : (execOp a.eval o).run P w = .ok (.value v) w) (h : K (a.put o.dst v)) : o.still P a w K := by
  unfold Oper.still
  rw [hr]
  exact ⟨rfl, h⟩
end Go.Proofs.YtadicempblgmhaaDoor
