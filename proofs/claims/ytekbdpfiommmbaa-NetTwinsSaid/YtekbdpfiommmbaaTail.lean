/- A region that draws its order, walked by a plan as XFlow's, but for one thing: within a segment the world moves on by R0 alone, which says more than R: so what a later write of the region would turn can be read there. Conditions: the plan's Bool holds, R and R0 are reflexive and transitive, R0 is part of R. -/
import Derived.Test.YtekbdpfiommmbaaFlow
namespace Go.Proofs.Ytekbdpfiommmbaa
open Go.RowKit
set_option linter.unusedVariables false

/-- one step of a segment -/
def segStep0 (P : Program) (ops : Array Oper) (R0 : World → World → Prop) (L : List Nat) (A : (Nat → Value) → Act) (φ : Nat → Value → World → Prop) (w0 : World) (i : Nat) : Prop :=
  ∀ o, ops[i]? = some o → ∀ (v : Nat → Value) (u : World), R0 w0 u → (∀ j, L.contains j = true → depB o j = true → φ j (v j) u) →
    ∀ K : Act → World → Prop, Shut (∀ a' x u', R0 u u' → φ i x u' → a' = (A v).put o.dst x → K a' u') →
      if Region.wanted o (yielded ops (A v).tmps) = true then o.wp P (A v) u K (fun _ _ _ => False) else K ((A v).put o.dst undef) u

def wpTl (P : Program) (ops : Array Oper) (R R0 : World → World → Prop) (Q : Act → World → Prop) : List Pl → Act → World → Prop
  | [], a, w => Q a w
  | .q i :: l, a, w => ∃ o v, ops[i]? = some o ∧ ((Region.wanted o (yielded ops a.tmps) = true ∧ ∀ x : Above R w, (execOp a.eval o).run P x.1 = .ok (.value v) x.1) ∨ (Region.wanted o (yielded ops a.tmps) = false ∧ v = undef)) ∧ wpTl P ops R R0 Q l (a.put o.dst v) w
  | .f i :: l, a, w => ∃ o, ops[i]? = some o ∧ if Region.wanted o (yielded ops a.tmps) = true then o.wp P a w (fun a' w' => R w w' ∧ wpTl P ops R R0 Q l a' w') (fun _ _ _ => False) else wpTl P ops R R0 Q l (a.put o.dst undef) w
  | .seg L :: l, a, w => ∃ (A : (Nat → Value) → Act) (φ : Nat → Value → World → Prop) (v0 : Nat → Value), a = A v0 ∧
      everyL (fun i => ∀ o, ops[i]? = some o → ∀ v x, (A v).put o.dst x = A (upd v i x)) L ∧ everyL (fun i => ∀ x u u', R0 u u' → φ i x u → φ i x u') L ∧ everyL (segStep0 P ops R0 L A φ w) L ∧
      ∀ v u, R0 w u → everyL (fun i => φ i (v i) u) L → wpTl P ops R R0 Q l (A v) u

section
variable {P : Program} {ops : Array Oper} {R R0 : World → World → Prop}

theorem seg_go0 (hR : ∀ a b c, R a b → R b c → R a c) (hT : ∀ a b c, R0 a b → R0 b c → R0 a c) (h0 : ∀ a b, R0 a b → R a b) {Q : Exit → Act → World → Prop} {L : List Nat} {tgt : Array Bool} {k : Nat} {w0 w1 : World} {A : (Nat → Value) → Act} {φ : Nat → Value → World → Prop}
    (h1 : R w1 w0) (hmono : everyL (fun i => ∀ x u u', R0 u u' → φ i x u → φ i x u') L)
    (hput : everyL (fun i => ∀ o, ops[i]? = some o → ∀ v x, (A v).put o.dst x = A (upd v i x)) L) (hstep : everyL (segStep0 P ops R0 L A φ w0) L)
    (hend : ∀ v u, R0 w0 u → (∀ i, i ∈ L → tgt.getD i false = true → φ i (v i) u) → wpAnyH P .any ops Q (R w1) k tgt (A v) u) :
    ∀ (m : Nat) (listed : Array Bool) (v : Nat → Value) (u : World), segB ops L tgt m listed = true → R0 w0 u → (∀ i, i ∈ L → listed.getD i false = true → φ i (v i) u) →
      wpAnyH P .any ops Q (R w1) (m + k) listed (A v) u
  | 0, listed, v, u, hB, hu, hF => by
    simp only [segB, beq_iff_eq] at hB
    subst hB
    rw [Nat.zero_add]
    exact hend v u hu hF
  | m + 1, listed, v, u, hB, hu, hF => by
    simp only [segB, Bool.and_eq_true, Bool.not_eq_true', List.isEmpty_eq_false_iff, List.all_eq_true] at hB
    rw [Nat.add_right_comm]
    refine wpAnyH_all rfl hB.1 fun i hi => ?_
    obtain ⟨hiL, hB2⟩ := hB.2 i hi
    have hiL' : i ∈ L := by simpa using hiL
    obtain ⟨hun, o, ho, hall⟩ := mem_ready.1 hi
    refine wpOp_step ho fun K hK => ?_
    have hs := everyL_mem hstep hiL' o ho v u hu (fun j hj hd => by
      simp only [depB, Array.any_eq_true', Bool.and_eq_true, beq_iff_eq] at hd
      obtain ⟨e, he, hb, rfl⟩ := hd
      exact hF _ (by simpa using hj) (by simpa using hall e he hb)) K (fun a' x u' k1 k2 k3 => by
      subst k3
      rw [everyL_mem hput hiL' o ho v x]
      refine hK _ _ ⟨hR _ _ _ h1 (hR _ _ _ (h0 _ _ hu) (h0 _ _ k1)), seg_go0 hR hT h0 h1 hmono hput hstep hend m _ _ u' hB2 (hT _ _ _ hu k1) (fun j hj hl => ?_)⟩
      by_cases hji : j = i
      · subst hji
        simpa [upd] using k2
      · have : upd v i x j = v j := by simp [upd, hji]
        rw [this]
        refine everyL_mem hmono hj _ _ _ k1 (hF j hj ?_)
        rwa [getD_set_ne false (fun e => hji e.symm)] at hl)
    split
    · rename_i hw
      rw [if_pos hw] at hs
      exact Oper.wp_imp (fun _ _ h => h) (fun _ _ _ hf => hf.elim) hs
    · rename_i hw
      rw [if_neg hw] at hs
      exact hs

theorem tl_any (hR : ∀ a b c, R a b → R b c → R a c) (hr : ∀ a, R a a) (hT : ∀ a b c, R0 a b → R0 b c → R0 a c) (h0 : ∀ a b, R0 a b → R a b) (hr0 : ∀ a, R0 a a) (hs : Region.noSelect ops = true) {Q : Act → World → Prop} : ∀ (l : List Pl) (listed : Array Bool) (a : Act) (w1 w : World), R w1 w →
    plB ops l listed = true → wpTl P ops R R0 Q l a w → wpAnyH P .any ops (atEnd Q) (R w1) (plLen l) listed a w
  | [], listed, a, w1, w, h1, hB, h => by
    simp only [plB, List.isEmpty_iff] at hB
    exact wpAnyH_done hB h _
  | .q i :: l, listed, a, w1, w, h1, hB, h => by
    simp only [plB, Bool.and_eq_true] at hB
    obtain ⟨o, v, ho, hy, hk⟩ := h
    refine anyH_mono (S' := R w) (fun w'' h'' => hR _ _ _ h1 h'') _ _ _ _ ?_
    refine wpAnyH_take ho hs hB.1.1 hB.1.2 (fun _ _ _ hq => hq) (hy.imp (fun ⟨h1, h2⟩ => ⟨h1, fun w' hw' => h2 ⟨w', hw'⟩⟩) id) (hr w) ?_
    exact tl_any hR hr hT h0 hr0 hs l _ _ w w (hr w) hB.2 hk
  | .f i :: l, listed, a, w1, w, h1, hB, h => by
    simp only [plB, Bool.and_eq_true, beq_iff_eq] at hB
    obtain ⟨o, ho, hk⟩ := h
    refine wpAnyH_all hB.1 (by simp) fun j hj => ?_
    obtain rfl : j = i := by simpa using hj
    refine wpOp_step ho fun K hK => ?_
    by_cases hw : Region.wanted o (yielded ops a.tmps) = true
    · rw [if_pos hw] at hk ⊢
      refine Oper.wp_imp (fun a' w' ⟨k1, k2⟩ => hK _ _ ⟨hR _ _ _ h1 k1, ?_⟩) (fun _ _ _ hf => hf.elim) hk
      exact tl_any hR hr hT h0 hr0 hs l _ _ w1 w' (hR _ _ _ h1 k1) hB.2 k2
    · rw [if_neg hw] at hk ⊢
      exact hK _ _ ⟨h1, tl_any hR hr hT h0 hr0 hs l _ _ w1 w h1 hB.2 hk⟩
  | .seg L :: l, listed, a, w1, w, h1, hB, h => by
    simp only [plB, Bool.and_eq_true] at hB
    obtain ⟨⟨⟨b1, b2⟩, b3⟩, b4⟩ := hB
    obtain ⟨A, φ, v0, rfl, hput, hmono, hstep, hend⟩ := h
    rw [plLen, Nat.add_comm]
    refine seg_go0 hR hT h0 h1 hmono hput hstep (fun v u hu hF => ?_) L.length listed v0 w b2 (hr0 w) (fun i hi hl => ?_)
    · exact tl_any hR hr hT h0 hr0 hs l _ _ w1 u (hR _ _ _ h1 (h0 _ _ hu)) b4 (hend v u hu (everyL_of fun i hi => hF i hi (List.all_eq_true.1 b3 i hi)))
    · have := List.all_eq_true.1 b1 i hi
      cases hq : listed[i]? with
      | none => simp [hq] at hl
      | some b => simp [hq] at this hl; simp [this] at hl

/-- THE RULE. -/
theorem wp_region_tl (R R0 : World → World → Prop) (l : List Pl) (hR : ∀ a b c, R a b → R b c → R a c) (hr : ∀ a, R a a) (hT : ∀ a b c, R0 a b → R0 b c → R0 a c) (h0 : ∀ a b, R0 a b → R a b) (hr0 : ∀ a, R0 a a) {id : Nat} {Q : Exit → Act → World → Prop} {a : Act} {w : World}
    (hm : P.follows .mixedOrders = true) (hB : (plLen l == ops.size && Region.noSelect ops && plB ops l (Array.replicate ops.size false)) = true)
    (h : ∀ K : Act → World → Prop, Shut (∀ a w, Q .normal a w → K a w) → wpTl P ops R R0 K l a w.drew) : (Code.region id ops true).wp P Q a w := by
  simp only [Bool.and_eq_true, beq_iff_eq] at hB
  obtain ⟨⟨hl, hs⟩, hb⟩ := hB
  have := tl_any hR hr hT h0 hr0 hs l _ a w.drew w.drew (hr _) hb (h (fun a w => Q .normal a w) (fun _ _ h => h))
  rw [hl] at this
  refine Code.wp_mono ?_ (wp_region_held (S := R w.drew) (Q := atEnd fun a w => Q .normal a w) hm this)
  intro e a w hq
  cases e with
  | normal => exact hq
  | _ => exact hq.elim

theorem tl_q {Q : Act → World → Prop} {i : Nat} {l : List Pl} {a : Act} {w : World} {o : Oper} {v : Value} (ho : ops[i]? = some o) (hw : Region.wanted o (yielded ops a.tmps) = true)
    (h : ∀ x : Above R w, (execOp a.eval o).run P x.1 = .ok (.value v) x.1) (hk : wpTl P ops R R0 Q l (a.put o.dst v) w) : wpTl P ops R R0 Q (.q i :: l) a w :=
  ⟨o, v, ho, .inl ⟨hw, h⟩, hk⟩
theorem tl_n {Q : Act → World → Prop} {i : Nat} {l : List Pl} {a : Act} {w : World} {o : Oper} (ho : ops[i]? = some o) (hw : Region.wanted o (yielded ops a.tmps) = false)
    (hk : wpTl P ops R R0 Q l (a.put o.dst undef) w) : wpTl P ops R R0 Q (.q i :: l) a w := ⟨o, undef, ho, .inr ⟨hw, rfl⟩, hk⟩
theorem tl_nf {Q : Act → World → Prop} {i : Nat} {l : List Pl} {a : Act} {w : World} {o : Oper} (ho : ops[i]? = some o) (hw : Region.wanted o (yielded ops a.tmps) = false)
    (hk : wpTl P ops R R0 Q l (a.put o.dst undef) w) : wpTl P ops R R0 Q (.f i :: l) a w := by
  refine ⟨o, ho, ?_⟩
  rw [if_neg (by rw [hw]; exact Bool.false_ne_true)]
  exact hk
theorem tl_l {Q : Act → World → Prop} {i : Nat} {l : List Pl} {a : Act} {w : World} {o : Oper} (ho : ops[i]? = some o) (hw : Region.wanted o (yielded ops a.tmps) = true)
    (h : ∀ K : Act → World → Prop, Shut (∀ a' w', R w w' → wpTl P ops R R0 Q l a' w' → K a' w') → o.wp P a w K (fun _ _ _ => False)) : wpTl P ops R R0 Q (.f i :: l) a w := by
  refine ⟨o, ho, ?_⟩
  rw [if_pos hw]
  exact h _ fun _ _ h1 h2 => ⟨h1, h2⟩
theorem tl_end {Q : Act → World → Prop} {a : Act} {w : World} (h : Q a w) : wpTl P ops R R0 Q [] a w := h
/-- a segment, its steps told one by one -/
theorem tl_seg (φ : Nat → Value → World → Prop) {A : (Nat → Value) → Act} {Q : Act → World → Prop} {L : List Nat} {l : List Pl} {a : Act} {w : World}
    (hA : ∀ v, (⟨fillT ops v L a.tmps, a.defers⟩ : Act) = A v) (h0 : a = A (heldOf ops a))
    (hput : everyL (fun i => ∀ o, ops[i]? = some o → ∀ v x, (A v).put o.dst x = A (upd v i x)) L)
    (hmono : everyL (fun i => ∀ x u u', R0 u u' → φ i x u → φ i x u') L)
    (hstep : everyL (segStep0 P ops R0 L A φ w) L)
    (hend : ∀ v u, R0 w u → everyL (fun i => φ i (v i) u) L → wpTl P ops R R0 Q l (A v) u) : wpTl P ops R R0 Q (.seg L :: l) a w :=
  ⟨A, φ, heldOf ops a, h0, hput, hmono, hstep, hend⟩
end
end Go.Proofs.Ytekbdpfiommmbaa
