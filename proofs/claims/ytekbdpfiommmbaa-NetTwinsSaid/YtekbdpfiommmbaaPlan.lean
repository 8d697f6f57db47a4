/- A region that draws its order, walked once by a plan: what only reads is taken as soon as it may come up, what writes or makes memory stands in a forced order; R tells how the world may move on. Conditions: the plan's Bool holds, R is transitive. -/
import Derived.Test.YtekbdpfiommmbaaKit
import Derived.Deep.RegionHeld3
namespace Go.Proofs.Ytekbdpfiommmbaa
open Go.RowKit
set_option linter.unusedVariables false

/-- A world that w has moved on to. -/
abbrev Above (R : World → World → Prop) (w : World) := { w' : World // R w w' }

/-- The walk by a plan: (i, true): operation i yields the same in every world that the world may move on to; (i, false): operation i is the only one that may come up. -/
def wpPlan (P : Program) (ops : Array Oper) (R : World → World → Prop) (Q : Act → World → Prop) : List (Nat × Bool) → Act → World → Prop
  | [], a, w => Q a w
  | (i, true) :: l, a, w => ∃ o v, ops[i]? = some o ∧ ((Region.wanted o (yielded ops a.tmps) = true ∧ ∀ x : Above R w, (execOp a.eval o).run P x.1 = .ok (.value v) x.1) ∨ (Region.wanted o (yielded ops a.tmps) = false ∧ v = undef)) ∧ wpPlan P ops R Q l (a.put o.dst v) w
  | (i, false) :: l, a, w => ∃ o, ops[i]? = some o ∧ if Region.wanted o (yielded ops a.tmps) = true then o.wp P a w (fun a' w' => R w w' ∧ wpPlan P ops R Q l a' w') (fun _ _ _ => False) else wpPlan P ops R Q l (a.put o.dst undef) w

/-- Is it a plan for this region? -/
def planB (ops : Array Oper) : List (Nat × Bool) → Array Bool → Bool
  | [], listed => (Region.ready .any ops listed).isEmpty
  | (i, true) :: l, listed => Region.free .any ops listed i && (Region.ready .any ops listed).contains i && planB ops l (listed.setIfInBounds i true)
  | (i, false) :: l, listed => (Region.ready .any ops listed == [i]) && planB ops l (listed.setIfInBounds i true)

section
variable {P : Program} {ops : Array Oper} {R : World → World → Prop}

theorem anyH_mono {Q : Exit → Act → World → Prop} {md : Region.Mode} {S S' : World → Prop} (h : ∀ w, S' w → S w) : ∀ (fuel : Nat) (listed : Array Bool) (a : Act) (w : World), wpAnyH P md ops Q S' fuel listed a w → wpAnyH P md ops Q S fuel listed a w
  | 0, _, _, _, hh => hh
  | fuel + 1, _, _, _, hh => ⟨hh.1, fun i hi => wpOp_mono (fun a' w' h' => ⟨h _ h'.1, anyH_mono h fuel _ a' w' h'.2⟩) (hh.2 i hi)⟩

theorem Oper.wp_imp {o : Oper} {a : Act} {w : World} {K K' : Act → World → Prop} {Q Q' : Exit → Act → World → Prop} (h : ∀ a w, K a w → K' a w) (hq : ∀ e a w, Q e a w → Q' e a w) (hh : o.wp P a w K Q) : o.wp P a w K' Q' := by
  unfold Oper.wp at *
  generalize (execOp a.eval o).run P w = r at *
  cases r with
  | ok n w' =>
    cases n with
    | value v => exact h _ _ hh
    | skip => exact h _ _ hh
    | defer d => exact h _ _ hh
    | enter f args =>
      refine hh.mono fun e w'' he => ?_
      cases e with
      | returned v => exact h _ _ he
      | panicked ch => exact hq _ _ _ he
      | outgrown => exact ⟨he.choose, he.choose_spec.choose, hq _ _ _ he.choose_spec.choose_spec⟩
    | row r args =>
      intro c cs
      obtain ⟨v, w'', hr, hs⟩ := hh c cs
      exact ⟨v, w'', h _ _ hr, hs⟩
    | _ => exact hh
  | halt x w' =>
    cases x with
    | panic v => exact hq _ _ _ hh
    | _ => exact hh

/-- what a plan is for: the post at the normal end alone -/
def atEnd (Q : Act → World → Prop) : Exit → Act → World → Prop
  | .normal, a, w => Q a w
  | _, _, _ => False

theorem plan_any (hR : ∀ a b c, R a b → R b c → R a c) (hr : ∀ a, R a a) (hs : Region.noSelect ops = true) {Q : Act → World → Prop} : ∀ (l : List (Nat × Bool)) (listed : Array Bool) (a : Act) (w : World),
    planB ops l listed = true → wpPlan P ops R Q l a w → wpAnyH P .any ops (atEnd Q) (R w) l.length listed a w
  | [], listed, a, w, hB, h => by
    simp only [planB, List.isEmpty_iff] at hB
    exact wpAnyH_done hB h _
  | (i, true) :: l, listed, a, w, hB, h => by
    simp only [planB, Bool.and_eq_true] at hB
    obtain ⟨o, v, ho, hy, hk⟩ := h
    refine wpAnyH_take ho hs hB.1.1 hB.1.2 (fun _ _ _ hq => hq) (hy.imp (fun ⟨h1, h2⟩ => ⟨h1, fun w' hw' => h2 ⟨w', hw'⟩⟩) id) (hr w) ?_
    exact plan_any hR hr hs l _ _ w hB.2 hk
  | (i, false) :: l, listed, a, w, hB, h => by
    simp only [planB, Bool.and_eq_true, beq_iff_eq] at hB
    obtain ⟨o, ho, hk⟩ := h
    refine wpAnyH_all hB.1 (by simp) fun j hj => ?_
    obtain rfl : j = i := by simpa using hj
    refine wpOp_step ho fun K hK => ?_
    by_cases hw : Region.wanted o (yielded ops a.tmps) = true
    · rw [if_pos hw] at hk ⊢
      refine Oper.wp_imp (fun a' w' ⟨h1, h2⟩ => hK _ _ ⟨h1, ?_⟩) (fun _ _ _ hf => hf.elim) hk
      exact anyH_mono (fun w'' h'' => hR _ _ _ h1 h'') _ _ _ _ (plan_any hR hr hs l _ _ w' hB.2 h2)
    · rw [if_neg hw] at hk ⊢
      exact hK _ _ ⟨hr w, plan_any hR hr hs l _ _ w hB.2 hk⟩

/-- THE RULE. -/
theorem wp_region_plan (R : World → World → Prop) (l : List (Nat × Bool)) (hR : ∀ a b c, R a b → R b c → R a c) (hr : ∀ a, R a a) {id : Nat} {Q : Exit → Act → World → Prop} {a : Act} {w : World}
    (hm : P.follows .mixedOrders = true) (hB : (l.length == ops.size && Region.noSelect ops && planB ops l (Array.replicate ops.size false)) = true)
    (h : ∀ K : Act → World → Prop, Shut (∀ a w, Q .normal a w → K a w) → wpPlan P ops R K l a w.drew) : (Code.region id ops true).wp P Q a w := by
  simp only [Bool.and_eq_true, beq_iff_eq] at hB
  obtain ⟨⟨hl, hs⟩, hb⟩ := hB
  have := plan_any hR hr hs l _ a w.drew hb (h (fun a w => Q .normal a w) (fun _ _ h => h))
  rw [hl] at this
  refine Code.wp_mono ?_ (wp_region_held (S := R w.drew) (Q := atEnd fun a w => Q .normal a w) hm this)
  intro e a w hq
  cases e with
  | normal => exact hq
  | _ => exact hq.elim

/-- One that yields the same in every world that the world may move on to. -/
theorem plan_q {Q : Act → World → Prop} {i : Nat} {l : List (Nat × Bool)} {a : Act} {w : World} {o : Oper} {v : Value} (ho : ops[i]? = some o) (hw : Region.wanted o (yielded ops a.tmps) = true)
    (h : ∀ x : Above R w, (execOp a.eval o).run P x.1 = .ok (.value v) x.1) (hk : wpPlan P ops R Q l (a.put o.dst v) w) : wpPlan P ops R Q ((i, true) :: l) a w :=
  ⟨o, v, ho, .inl ⟨hw, h⟩, hk⟩
/-- One whose guard says no. -/
theorem plan_n {Q : Act → World → Prop} {i : Nat} {b : Bool} {l : List (Nat × Bool)} {a : Act} {w : World} {o : Oper} (ho : ops[i]? = some o) (hw : Region.wanted o (yielded ops a.tmps) = false)
    (hk : wpPlan P ops R Q l (a.put o.dst undef) w) : wpPlan P ops R Q ((i, b) :: l) a w := by
  cases b with
  | true => exact ⟨o, undef, ho, .inr ⟨hw, rfl⟩, hk⟩
  | false =>
    refine ⟨o, ho, ?_⟩
    rw [if_neg (by rw [hw]; exact Bool.false_ne_true)]
    exact hk
/-- One that writes, makes memory, or calls. -/
theorem plan_l {Q : Act → World → Prop} {i : Nat} {l : List (Nat × Bool)} {a : Act} {w : World} {o : Oper} (ho : ops[i]? = some o) (hw : Region.wanted o (yielded ops a.tmps) = true)
    (h : ∀ K : Act → World → Prop, Shut (∀ a' w', R w w' → wpPlan P ops R Q l a' w' → K a' w') → o.wp P a w K (fun _ _ _ => False)) : wpPlan P ops R Q ((i, false) :: l) a w := by
  refine ⟨o, ho, ?_⟩
  rw [if_pos hw]
  exact h _ fun _ _ h1 h2 => ⟨h1, h2⟩
theorem plan_end {Q : Act → World → Prop} {a : Act} {w : World} (h : Q a w) : wpPlan P ops R Q [] a w := h
end

/-- string(b) in every later world -/
theorem later_string {P : Program} {R : World → World → Prop} (hR : ∀ a b, R a b → Ext a b) {w : World} {lo : Nat} {A : Option Addr} {n : Nat} {l : List UInt8} (h : Rd w lo A n l) (c : Nat) {src e dst : TypeId}
    (hs : P.underlying src = some (.slice e)) (he : P.underlying e = some (.int .u8)) (hd : P.underlying dst = some .string) :
    ∀ x : Above R w, (convert src dst (.slice A n c)).run P x.1 = .ok (.string ⟨l.toArray⟩) x.1 :=
  fun x => run_string (h.ext (hR _ _ x.2)) c hs he hd
end Go.Proofs.Ytekbdpfiommmbaa
