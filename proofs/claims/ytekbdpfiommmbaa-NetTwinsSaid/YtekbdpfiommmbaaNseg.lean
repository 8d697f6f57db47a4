/- A region that draws its order, in a round of a range over a function, one of whose operations may be a round of another loop: by a plan of forced operations and segments. Conditions: the plan's Bool holds; R is reflexive and transitive. -/
import Derived.Test.YtekbdpfiommmbaaNallc
namespace Go.Proofs.Ytekbdpfiommmbaa
open Go.RowKit
set_option linter.unusedVariables false

section
variable {P : Program} {ops : Array Oper} {R : World → World → Prop} {lr n : Nat}

theorem seg_goI (hR : ∀ a b c, R a b → R b c → R a c) (hr : ∀ a, R a a) (hnd : (ops.toList.all fun o => match o.op with | .defer _ => false | _ => true) = true) {Q : Exit → Act → World → Prop} (hno : ¬ LetsOut Q) (hp : ∀ c a w, ¬ Q (.panic c) a w) {L : List Nat} {tgt : Array Bool} {k : Nat} {w0 : World} {A : (Nat → Value) → Act} {φ : Nat → Value → World → Prop}
    (hmono : everyL (fun i => ∀ x u u', R u u' → φ i x u → φ i x u') L)
    (hput : everyL (fun i => ∀ o, ops[i]? = some o → ∀ v x, (A v).put o.dst x = A (upd v i x)) L) (hstep : everyL (segStep0 P ops R L A φ w0) L)
    (hend : ∀ v u, R w0 u → (∀ i, i ∈ L → tgt.getD i false = true → φ i (v i) u) → wpAnyIn (Rd_ lr) n P .any ops Q k tgt (A v) u) :
    ∀ (m : Nat) (listed : Array Bool) (v : Nat → Value) (u : World), segB ops L tgt m listed = true → R w0 u → (∀ i, i ∈ L → listed.getD i false = true → φ i (v i) u) →
      wpAnyIn (Rd_ lr) n P .any ops Q (m + k) listed (A v) u
  | 0, listed, v, u, hB, hu, hF => by
    simp only [segB, beq_iff_eq] at hB
    subst hB
    rw [Nat.zero_add]
    exact hend v u hu hF
  | m + 1, listed, v, u, hB, hu, hF => by
    simp only [segB, Bool.and_eq_true, Bool.not_eq_true', List.isEmpty_eq_false_iff, List.all_eq_true] at hB
    rw [Nat.add_right_comm]
    refine wpAnyIn_all rfl hB.1 fun i hi => ?_
    obtain ⟨hiL, hB2⟩ := hB.2 i hi
    have hiL' : i ∈ L := by simpa using hiL
    obtain ⟨hun, o, ho, hall⟩ := mem_ready.1 hi
    refine wpOpIn_step ho fun K hK => ?_
    have hs := everyL_mem hstep hiL' o ho v u hu (fun j hj hd => by
      simp only [depB, Array.any_eq_true', Bool.and_eq_true, beq_iff_eq] at hd
      obtain ⟨e, he, hb, rfl⟩ := hd
      exact hF _ (by simpa using hj) (by simpa using hall e he hb)) K (fun a' x u' k1 k2 k3 => by
      subst k3
      rw [everyL_mem hput hiL' o ho v x]
      refine hK _ _ (seg_goI hR hr hnd hno hp hmono hput hstep hend m _ _ u' hB2 (hR _ _ _ hu k1) (fun j hj hl => ?_))
      by_cases hji : j = i
      · subst hji
        simpa [upd] using k2
      · have : upd v i x j = v j := by simp [upd, hji]
        rw [this]
        refine everyL_mem hmono hj _ _ _ k1 (hF j hj ?_)
        rwa [getD_set_ne false (fun e => hji e.symm)] at hl)
    split
    · rename_i hw
      rw [if_pos hw] at hs
      refine op_round lr n (fun c e => ?_) (Oper.wp_imp (fun _ _ h => h) (fun _ _ _ hf => hf.elim) hs)
      have hm : o ∈ ops.toList := by
        rw [Array.mem_toList_iff]
        exact Array.mem_of_getElem? ho
      have := List.all_eq_true.1 hnd o hm
      rw [e] at this
      cases this
    · rename_i hw
      rw [if_neg hw] at hs
      exact ⟨fun _ _ => trivial, hs⟩

def wpPi (lr n : Nat) (P : Program) (ops : Array Oper) (R : World → World → Prop) (Q : Exit → Act → World → Prop) : List Pl → Act → World → Prop
  | [], a, w => Q .normal a w
  | .q i :: l, a, w => False
  | .f i :: l, a, w => ∃ o, ops[i]? = some o ∧ if Region.wanted o (yielded ops a.tmps) = true then o.wpIn (Rd_ lr) n P a w (wpPi lr n P ops R Q l) Q else wpPi lr n P ops R Q l (a.put o.dst undef) w
  | .seg L :: l, a, w => ∃ (A : (Nat → Value) → Act) (φ : Nat → Value → World → Prop) (v0 : Nat → Value), a = A v0 ∧
      everyL (fun i => ∀ o, ops[i]? = some o → ∀ v x, (A v).put o.dst x = A (upd v i x)) L ∧ everyL (fun i => ∀ x u u', R u u' → φ i x u → φ i x u') L ∧ everyL (segStep0 P ops R L A φ w) L ∧
      ∀ v u, R w u → everyL (fun i => φ i (v i) u) L → wpPi lr n P ops R Q l (A v) u

theorem pi_any (hR : ∀ a b c, R a b → R b c → R a c) (hr : ∀ a, R a a) (hnd : (ops.toList.all fun o => match o.op with | .defer _ => false | _ => true) = true) {Q : Exit → Act → World → Prop} (hno : ¬ LetsOut Q) (hp : ∀ c a w, ¬ Q (.panic c) a w) : ∀ (l : List Pl) (listed : Array Bool) (a : Act) (w : World),
    plB ops l listed = true → wpPi lr n P ops R Q l a w → wpAnyIn (Rd_ lr) n P .any ops Q (plLen l) listed a w
  | [], listed, a, w, hB, h => by
    simp only [plB, List.isEmpty_iff] at hB
    exact wpAnyIn_done hB h _
  | .q i :: l, listed, a, w, hB, h => h.elim
  | .f i :: l, listed, a, w, hB, h => by
    simp only [plB, Bool.and_eq_true, beq_iff_eq] at hB
    obtain ⟨o, ho, hk⟩ := h
    refine wpAnyIn_all hB.1 (by simp) fun j hj => ?_
    obtain rfl : j = i := by simpa using hj
    refine wpOpIn_step ho fun K hK => ?_
    by_cases hw : Region.wanted o (yielded ops a.tmps) = true
    · rw [if_pos hw] at hk ⊢
      exact Oper.wpIn_mono (fun a' w' k2 => hK _ _ (pi_any hR hr hnd hno hp l _ _ w' hB.2 k2)) hk
    · rw [if_neg hw] at hk ⊢
      exact ⟨fun _ _ => trivial, hK _ _ (pi_any hR hr hnd hno hp l _ _ w hB.2 hk)⟩
  | .seg L :: l, listed, a, w, hB, h => by
    simp only [plB, Bool.and_eq_true] at hB
    obtain ⟨⟨⟨b1, b2⟩, b3⟩, b4⟩ := hB
    obtain ⟨A, φ, v0, rfl, hput, hmono, hstep, hend⟩ := h
    rw [plLen, Nat.add_comm]
    refine seg_goI hR hr hnd hno hp hmono hput hstep (fun v u hu hF => ?_) L.length listed v0 w b2 (hr w) (fun i hi hl => ?_)
    · exact pi_any hR hr hnd hno hp l _ _ u b4 (hend v u hu (everyL_of fun i hi => hF i hi (List.all_eq_true.1 b3 i hi)))
    · have := List.all_eq_true.1 b1 i hi
      cases hq : listed[i]? with
      | none => simp [hq] at hl
      | some b => simp [hq] at this hl; simp [this] at hl

/-- THE RULE. -/
theorem round_region_pi (R : World → World → Prop) (l : List Pl) (hR : ∀ a b c, R a b → R b c → R a c) (hr : ∀ a, R a a) {id : Nat} {Q : Exit → Act → World → Prop} {a : Act} {w : World}
    (hm : P.follows .mixedOrders = true) (hB : (plLen l == ops.size && Region.noSelect ops && plB ops l (Array.replicate ops.size false)) = true) (hnd : (ops.toList.all fun o => match o.op with | .defer _ => false | _ => true) = true)
    (h : ∀ K : Act → World → Prop, Shut (∀ a w, Q .normal a w → K a w) → wpPi lr n P ops R (atEnd K) l a w.drew) : (Code.region id ops true).wpIn (Rd_ lr) n P Q a w := by
  simp only [Bool.and_eq_true, beq_iff_eq] at hB
  obtain ⟨⟨hl, hs⟩, hb⟩ := hB
  have h1 := h (fun a w => Q .normal a w) (fun _ _ h => h)
  have h2 := pi_any (lr := lr) (n := n) hR hr hnd (Q := atEnd fun a w => Q .normal a w) (by rintro ⟨_, _, h⟩; exact h) (fun c a w h => h) l _ a w.drew hb h1
  rw [hl] at h2
  refine wpIn_mono ?_ ?_ (Q := atEnd fun a w => Q .normal a w)
  · exact wpIn_region_any hm h2
  · intro e a w hq
    cases e with
    | normal => exact hq
    | _ => exact hq.elim
theorem pi_f {Q : Exit → Act → World → Prop} {i : Nat} {l : List Pl} {a : Act} {w : World} {o : Oper} (ho : ops[i]? = some o) (hw : Region.wanted o (yielded ops a.tmps) = true)
    (h : ∀ K : Act → World → Prop, Shut (∀ a' w', wpPi lr n P ops R Q l a' w' → K a' w') → o.wpIn (Rd_ lr) n P a w K Q) : wpPi lr n P ops R Q (.f i :: l) a w := by
  refine ⟨o, ho, ?_⟩
  rw [if_pos hw]
  exact h _ fun _ _ h1 => h1
theorem pi_end {Q : Exit → Act → World → Prop} {a : Act} {w : World} (h : Q .normal a w) : wpPi lr n P ops R Q [] a w := h
theorem pi_seg (φ : Nat → Value → World → Prop) {A : (Nat → Value) → Act} {Q : Exit → Act → World → Prop} {L : List Nat} {l : List Pl} {a : Act} {w : World}
    (hA : ∀ v, (⟨fillT ops v L a.tmps, a.defers⟩ : Act) = A v) (h0 : a = A (heldOf ops a))
    (hput : everyL (fun i => ∀ o, ops[i]? = some o → ∀ v x, (A v).put o.dst x = A (upd v i x)) L)
    (hmono : everyL (fun i => ∀ x u u', R u u' → φ i x u → φ i x u') L)
    (hstep : everyL (segStep0 P ops R L A φ w) L)
    (hend : ∀ v u, R w u → everyL (fun i => φ i (v i) u) L → wpPi lr n P ops R Q l (A v) u) : wpPi lr n P ops R Q (.seg L :: l) a w :=
  ⟨A, φ, heldOf ops a, h0, hput, hmono, hstep, hend⟩
end
