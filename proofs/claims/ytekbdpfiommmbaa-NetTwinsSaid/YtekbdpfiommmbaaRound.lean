/- In a round of a range over a function: a call, a region, as anywhere else. Conditions: no defer statement among the operations. -/
import Derived.Test.YtekbdpfiommmbaaTail
import Derived.RangeFuncNested
import Derived.RangeFuncCalls
import Derived.OrdersIn
import Derived.TacticsIn
namespace Go.Proofs.Ytekbdpfiommmbaa
open Go.RowKit
set_option linter.unusedVariables false

abbrev Rd_ (l : Nat) : Fence := Fence.wide.inRound l

theorem call_round {P : Program} {f : FuncId} {args : Array Value} {w : World} {R : Ending → World → Prop} (l n : Nat) (h : Calls P f args w R) : CallsIn (Rd_ l) n P f args w R := CallsIn.inRound l (callsIn_wide.2 h)

theorem op_round {P : Program} {o : Oper} {a : Act} {w : World} {K : Act → World → Prop} {Q : Exit → Act → World → Prop} (l n : Nat) (hnd : ∀ c, o.op ≠ .defer c) (h : o.wp P a w K Q) : o.wpIn (Rd_ l) n P a w K Q := by
  refine ⟨fun _ _ => trivial, ?_⟩
  have e : o.semAt (Rd_ l).round a.eval = execOp a.eval o := Oper.semAt_some l _ _ hnd
  rw [e]
  unfold Oper.wp at h
  generalize (execOp a.eval o).run P w = r at h ⊢
  cases r with
  | ok x w' =>
    cases x with
    | value v => exact h
    | skip => exact h
    | defer d => exact h
    | enter f args => exact ⟨fun h => (by cases h), call_round l _ h⟩
    | row r args =>
      refine ⟨fun h => (by cases h), fun c cs _ => ?_⟩
      obtain ⟨v, w'', h1, h2⟩ := h c cs
      exact ⟨v, w'', h1, stepsIn_wide.2 h2⟩
    | _ => exact (show False from h).elim
  | halt x w' =>
    cases x with
    | panic v => exact h
    | _ => exact h

theorem any_round {P : Program} {md : Region.Mode} {ops : Array Oper} {Q : Exit → Act → World → Prop} (l n : Nat) (hnd : (ops.toList.all fun o => match o.op with | .defer _ => false | _ => true) = true) (hno : ¬ LetsOut Q) :
    ∀ (fuel : Nat) (listed : Array Bool) (a : Act) (w : World), wpAny P md ops Q fuel listed a w → wpAnyIn (Rd_ l) n P md ops Q fuel listed a w
  | 0, _, _, _, h => h
  | fuel + 1, listed, a, w, h => by
    refine ⟨h.1, fun i hi => ?_⟩
    refine wpOpIn_mono (fun a w => any_round l n hnd hno fuel _ a w) ?_
    have h2 := h.2 i hi
    unfold wpOp at h2
    unfold wpOpIn
    cases ho : ops[i]? with
    | none => simp only [ho] at h2 ⊢; exact h2
    | some o =>
      simp only [ho] at h2 ⊢
      split
      · rename_i hw
        rw [if_pos hw] at h2
        rcases h2 with h2 | ⟨_, h2⟩
        · refine op_round l n (fun c e => ?_) h2
          have hm : o ∈ ops.toList := by
            rw [Array.mem_toList_iff]
            exact Array.mem_of_getElem? ho
          have := List.all_eq_true.1 hnd o hm
          rw [e] at this
          cases this
        · exact absurd h2 hno
      · rename_i hw
        rw [if_neg hw] at h2
        exact ⟨fun _ _ => trivial, h2⟩

/-- a region that draws its order, in a round, by a plan -/
theorem round_region_plan {P : Program} {ops : Array Oper} (R : World → World → Prop) (l : List (Nat × Bool)) (hR : ∀ a b c, R a b → R b c → R a c) (hr : ∀ a, R a a) {id lr n : Nat} {Q : Exit → Act → World → Prop} {a : Act} {w : World}
    (hm : P.follows .mixedOrders = true) (hB : (l.length == ops.size && Region.noSelect ops && planB ops l (Array.replicate ops.size false)) = true) (hnd : (ops.toList.all fun o => match o.op with | .defer _ => false | _ => true) = true)
    (h : ∀ K : Act → World → Prop, Shut (∀ a w, Q .normal a w → K a w) → wpPlan P ops R K l a w.drew) : (Code.region id ops true).wpIn (Rd_ lr) n P Q a w := by
  simp only [Bool.and_eq_true, beq_iff_eq] at hB
  obtain ⟨⟨hl, hs⟩, hb⟩ := hB
  have := plan_any hR hr hs l _ a w.drew hb (h (fun a w => Q .normal a w) (fun _ _ h => h))
  rw [hl] at this
  refine wpIn_mono ?_ ?_ (Q := atEnd fun a w => Q .normal a w)
  · refine wpIn_region_any hm (any_round lr n hnd ?_ _ _ _ _ (wpAny_of_held _ _ _ _ this))
    rintro ⟨_, _, h⟩
    exact h
  · intro e a w hq
    cases e with
    | normal => exact hq
    | _ => exact hq.elim
/-- the same by XTail's rule -/
theorem round_region_tl {P : Program} {ops : Array Oper} (R R0 : World → World → Prop) (l : List Pl) (hR : ∀ a b c, R a b → R b c → R a c) (hr : ∀ a, R a a) (hT : ∀ a b c, R0 a b → R0 b c → R0 a c) (h0 : ∀ a b, R0 a b → R a b) (hr0 : ∀ a, R0 a a) {id lr n : Nat} {Q : Exit → Act → World → Prop} {a : Act} {w : World}
    (hm : P.follows .mixedOrders = true) (hB : (plLen l == ops.size && Region.noSelect ops && plB ops l (Array.replicate ops.size false)) = true) (hnd : (ops.toList.all fun o => match o.op with | .defer _ => false | _ => true) = true)
    (h : ∀ K : Act → World → Prop, Shut (∀ a w, Q .normal a w → K a w) → wpTl P ops R R0 K l a w.drew) : (Code.region id ops true).wpIn (Rd_ lr) n P Q a w := by
  simp only [Bool.and_eq_true, beq_iff_eq] at hB
  obtain ⟨⟨hl, hs⟩, hb⟩ := hB
  have := tl_any hR hr hT h0 hr0 hs l _ a w.drew w.drew (hr _) hb (h (fun a w => Q .normal a w) (fun _ _ h => h))
  rw [hl] at this
  refine wpIn_mono ?_ ?_ (Q := atEnd fun a w => Q .normal a w)
  · refine wpIn_region_any hm (any_round lr n hnd ?_ _ _ _ _ (wpAny_of_held _ _ _ _ this))
    rintro ⟨_, _, h⟩
    exact h
  · intro e a w hq
    cases e with
    | normal => exact hq
    | _ => exact hq.elim
/-- the same by XFlow's plans -/
theorem round_region_pl {P : Program} {ops : Array Oper} (R : World → World → Prop) (l : List Pl) (hR : ∀ a b c, R a b → R b c → R a c) (hr : ∀ a, R a a) {id lr n : Nat} {Q : Exit → Act → World → Prop} {a : Act} {w : World}
    (hm : P.follows .mixedOrders = true) (hB : (plLen l == ops.size && Region.noSelect ops && plB ops l (Array.replicate ops.size false)) = true) (hnd : (ops.toList.all fun o => match o.op with | .defer _ => false | _ => true) = true)
    (h : ∀ K : Act → World → Prop, Shut (∀ a w, Q .normal a w → K a w) → wpPl P ops R K l a w.drew) : (Code.region id ops true).wpIn (Rd_ lr) n P Q a w := by
  simp only [Bool.and_eq_true, beq_iff_eq] at hB
  obtain ⟨⟨hl, hs⟩, hb⟩ := hB
  have := pl_any hR hr hs l _ a w.drew hb (h (fun a w => Q .normal a w) (fun _ _ h => h))
  rw [hl] at this
  refine wpIn_mono ?_ ?_ (Q := atEnd fun a w => Q .normal a w)
  · refine wpIn_region_any hm (any_round lr n hnd ?_ _ _ _ _ (wpAny_of_held _ _ _ _ this))
    rintro ⟨_, _, h⟩
    exact h
  · intro e a w hq
    cases e with
    | normal => exact hq
    | _ => exact hq.elim
end Go.Proofs.Ytekbdpfiommmbaa
