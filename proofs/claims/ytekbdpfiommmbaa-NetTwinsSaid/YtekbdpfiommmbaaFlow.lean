/- A region that draws its order, walked by a plan of three kinds of steps: .q: one that yields the same in every later world, taken at once; .f: one that alone may come up; .seg: some that come up among each other in any order, each told by what holds of its value, in every later world. Conditions: the plan's Bool holds, R is reflexive and transitive. -/
import Derived.Test.YtekbdpfiommmbaaPlan
namespace Go.Proofs.Ytekbdpfiommmbaa
open Go.RowKit
set_option linter.unusedVariables false

inductive Pl where
  | q (i : Nat)
  | f (i : Nat)
  | seg (L : List Nat)

/-- each of a list -/
def everyL (S : Nat → Prop) : List Nat → Prop
  | [] => True
  | i :: l => S i ∧ everyL S l
theorem everyL_mem {S : Nat → Prop} : ∀ {L : List Nat} {i : Nat}, everyL S L → i ∈ L → S i
  | [], _, _, h => absurd h (by simp)
  | j :: l, i, hh, h => by
    rcases List.mem_cons.1 h with rfl | h
    · exact hh.1
    · exact everyL_mem hh.2 h
theorem everyL_of {S : Nat → Prop} : ∀ {L : List Nat}, (∀ i ∈ L, S i) → everyL S L
  | [], _ => trivial
  | j :: l, h => ⟨h j (by simp), everyL_of fun i hi => h i (by simp [hi])⟩

/-- values, with another one at i -/
def upd (v : Nat → Value) (i : Nat) (x : Value) : Nat → Value := fun j => if j = i then x else v j
/-- must j have come up ahead of o? -/
def depB (o : Oper) (j : Nat) : Bool := o.after.any fun e => Region.binds .any e && e.on == j
/-- the slots of L filled -/
def fillT (ops : Array Oper) (v : Nat → Value) : List Nat → Array Value → Array Value
  | [], t => t
  | i :: l, t => fillT ops v l (match (ops[i]?).bind (·.dst) with | some d => t.setIfInBounds d (v i) | none => t)
def heldOf (ops : Array Oper) (a : Act) : Nat → Value := fun i => match (ops[i]?).bind (·.dst) with | some d => a.tmps.getD d undef | none => undef

/-- one step of a segment -/
def segStep (P : Program) (ops : Array Oper) (R : World → World → Prop) (L : List Nat) (A : (Nat → Value) → Act) (φ : Nat → Value → World → Prop) (Ψ : Nat → Value → Nat → Value → Prop) (w0 : World) (i : Nat) : Prop :=
  ∀ o, ops[i]? = some o → ∀ (v : Nat → Value) (u : World), R w0 u → (∀ j, L.contains j = true → depB o j = true → φ j (v j) u) →
    ∀ K : Act → World → Prop, Shut (∀ a' x u', R u u' → φ i x u' → (∀ j, L.contains j = true → j ≠ i → φ j (v j) u → (∀ k, L.contains k = true → depB o k = true → k ≠ j → Ψ k (v k) j (v j) ∨ Ψ j (v j) k (v k)) → Ψ i x j (v j)) → a' = (A v).put o.dst x → K a' u') →
      if Region.wanted o (yielded ops (A v).tmps) = true then o.wp P (A v) u K (fun _ _ _ => False) else K ((A v).put o.dst undef) u

def wpPl (P : Program) (ops : Array Oper) (R : World → World → Prop) (Q : Act → World → Prop) : List Pl → Act → World → Prop
  | [], a, w => Q a w
  | .q i :: l, a, w => ∃ o v, ops[i]? = some o ∧ ((Region.wanted o (yielded ops a.tmps) = true ∧ ∀ x : Above R w, (execOp a.eval o).run P x.1 = .ok (.value v) x.1) ∨ (Region.wanted o (yielded ops a.tmps) = false ∧ v = undef)) ∧ wpPl P ops R Q l (a.put o.dst v) w
  | .f i :: l, a, w => ∃ o, ops[i]? = some o ∧ if Region.wanted o (yielded ops a.tmps) = true then o.wp P a w (fun a' w' => R w w' ∧ wpPl P ops R Q l a' w') (fun _ _ _ => False) else wpPl P ops R Q l (a.put o.dst undef) w
  | .seg L :: l, a, w => ∃ (A : (Nat → Value) → Act) (φ : Nat → Value → World → Prop) (Ψ : Nat → Value → Nat → Value → Prop) (v0 : Nat → Value), a = A v0 ∧
      everyL (fun i => ∀ o, ops[i]? = some o → ∀ v x, (A v).put o.dst x = A (upd v i x)) L ∧ everyL (fun i => ∀ x u u', R u u' → φ i x u → φ i x u') L ∧ everyL (segStep P ops R L A φ Ψ w) L ∧
      ∀ v u, R w u → everyL (fun i => φ i (v i) u) L → (∀ i j, i ∈ L → j ∈ L → i ≠ j → Ψ i (v i) j (v j) ∨ Ψ j (v j) i (v i)) → wpPl P ops R Q l (A v) u

/-- Do just the steps of L come up, in whatever order, till tgt have? -/
def segB (ops : Array Oper) (L : List Nat) (tgt : Array Bool) : Nat → Array Bool → Bool
  | 0, listed => listed == tgt
  | m + 1, listed => !(Region.ready .any ops listed).isEmpty && (Region.ready .any ops listed).all fun i => L.contains i && segB ops L tgt m (listed.setIfInBounds i true)
def setL : List Nat → Array Bool → Array Bool
  | [], t => t
  | i :: l, t => setL l (t.setIfInBounds i true)
def plB (ops : Array Oper) : List Pl → Array Bool → Bool
  | [], listed => (Region.ready .any ops listed).isEmpty
  | .q i :: l, listed => Region.free .any ops listed i && (Region.ready .any ops listed).contains i && plB ops l (listed.setIfInBounds i true)
  | .f i :: l, listed => (Region.ready .any ops listed == [i]) && plB ops l (listed.setIfInBounds i true)
  | .seg L :: l, listed => (L.all fun j => !listed.getD j true) && segB ops L (setL L listed) L.length listed && (L.all fun j => (setL L listed).getD j false) && plB ops l (setL L listed)
def plLen : List Pl → Nat
  | [] => 0
  | .q _ :: l => plLen l + 1
  | .f _ :: l => plLen l + 1
  | .seg L :: l => plLen l + L.length

section
variable {P : Program} {ops : Array Oper} {R : World → World → Prop}

theorem seg_go (hR : ∀ a b c, R a b → R b c → R a c) (hr : ∀ a, R a a) {Q : Exit → Act → World → Prop} {L : List Nat} {tgt : Array Bool} {k : Nat} {w0 : World} {A : (Nat → Value) → Act} {φ : Nat → Value → World → Prop} {Ψ : Nat → Value → Nat → Value → Prop}
    (hmono : everyL (fun i => ∀ x u u', R u u' → φ i x u → φ i x u') L)
    (hput : everyL (fun i => ∀ o, ops[i]? = some o → ∀ v x, (A v).put o.dst x = A (upd v i x)) L) (hstep : everyL (segStep P ops R L A φ Ψ w0) L)
    (hend : ∀ v u, R w0 u → (∀ i, i ∈ L → tgt.getD i false = true → φ i (v i) u) → (∀ i j, i ∈ L → j ∈ L → tgt.getD i false = true → tgt.getD j false = true → i ≠ j → Ψ i (v i) j (v j) ∨ Ψ j (v j) i (v i)) → wpAnyH P .any ops Q (R w0) k tgt (A v) u) :
    ∀ (m : Nat) (listed : Array Bool) (v : Nat → Value) (u : World), segB ops L tgt m listed = true → R w0 u → (∀ i, i ∈ L → listed.getD i false = true → φ i (v i) u) → (∀ i j, i ∈ L → j ∈ L → listed.getD i false = true → listed.getD j false = true → i ≠ j → Ψ i (v i) j (v j) ∨ Ψ j (v j) i (v i)) →
      wpAnyH P .any ops Q (R w0) (m + k) listed (A v) u
  | 0, listed, v, u, hB, hu, hF, hP => by
    simp only [segB, beq_iff_eq] at hB
    subst hB
    rw [Nat.zero_add]
    exact hend v u hu hF hP
  | m + 1, listed, v, u, hB, hu, hF, hP => by
    simp only [segB, Bool.and_eq_true, Bool.not_eq_true', List.isEmpty_eq_false_iff, List.all_eq_true] at hB
    rw [Nat.add_right_comm]
    refine wpAnyH_all rfl hB.1 fun i hi => ?_
    obtain ⟨hiL, hB2⟩ := hB.2 i hi
    have hiL' : i ∈ L := by simpa using hiL
    obtain ⟨hun, o, ho, hall⟩ := mem_ready.1 hi
    have hdep : ∀ k, k ∈ L → listed.getD k false = true → ∀ k', L.contains k' = true → depB o k' = true → k' ≠ k → Ψ k' (v k') k (v k) ∨ Ψ k (v k) k' (v k') := by
      intro k hk hlk k' hk' hd hne
      simp only [depB, Array.any_eq_true', Bool.and_eq_true, beq_iff_eq] at hd
      obtain ⟨e, he, hb, rfl⟩ := hd
      exact hP _ k (by simpa using hk') hk (by simpa using hall e he hb) hlk hne
    refine wpOp_step ho fun K hK => ?_
    have hs := everyL_mem hstep hiL' o ho v u hu (fun j hj hd => by
      simp only [depB, Array.any_eq_true', Bool.and_eq_true, beq_iff_eq] at hd
      obtain ⟨e, he, hb, rfl⟩ := hd
      exact hF _ (by simpa using hj) (by simpa using hall e he hb)) K (fun a' x u' h1 h2 hΨ h3 => by
      subst h3
      rw [everyL_mem hput hiL' o ho v x]
      refine hK _ _ ⟨hR _ _ _ hu h1, seg_go hR hr hmono hput hstep hend m _ _ u' hB2 (hR _ _ _ hu h1) (fun j hj hl => ?_) (fun j k hj hk hlj hlk hjk => ?_)⟩
      · by_cases hji : j = i
        · subst hji
          simpa [upd] using h2
        · have : upd v i x j = v j := by simp [upd, hji]
          rw [this]
          refine everyL_mem hmono hj _ _ _ h1 (hF j hj ?_)
          rwa [getD_set_ne false (fun e => hji e.symm)] at hl
      · by_cases hji : j = i
        · subst hji
          have hki : k ≠ j := fun e => hjk e.symm
          have e1 : upd v j x j = x := by simp [upd]
          have e2 : upd v j x k = v k := by simp [upd, hki]
          rw [e1, e2]
          rw [getD_set_ne false (fun e => hki e.symm)] at hlk
          exact .inl (hΨ k (by simpa using hk) hki (hF k hk hlk) (hdep k hk hlk))
        · by_cases hki : k = i
          · subst hki
            have e1 : upd v k x k = x := by simp [upd]
            have e2 : upd v k x j = v j := by simp [upd, hji]
            rw [e1, e2]
            rw [getD_set_ne false (fun e => hji e.symm)] at hlj
            exact .inr (hΨ j (by simpa using hj) hji (hF j hj hlj) (hdep j hj hlj))
          · have e1 : upd v i x k = v k := by simp [upd, hki]
            have e2 : upd v i x j = v j := by simp [upd, hji]
            rw [e1, e2]
            rw [getD_set_ne false (fun e => hji e.symm)] at hlj
            rw [getD_set_ne false (fun e => hki e.symm)] at hlk
            exact hP j k hj hk hlj hlk hjk)
    split
    · rename_i hw
      rw [if_pos hw] at hs
      exact Oper.wp_imp (fun _ _ h => h) (fun _ _ _ hf => hf.elim) hs
    · rename_i hw
      rw [if_neg hw] at hs
      exact hs

theorem pl_any (hR : ∀ a b c, R a b → R b c → R a c) (hr : ∀ a, R a a) (hs : Region.noSelect ops = true) {Q : Act → World → Prop} : ∀ (l : List Pl) (listed : Array Bool) (a : Act) (w : World),
    plB ops l listed = true → wpPl P ops R Q l a w → wpAnyH P .any ops (atEnd Q) (R w) (plLen l) listed a w
  | [], listed, a, w, hB, h => by
    simp only [plB, List.isEmpty_iff] at hB
    exact wpAnyH_done hB h _
  | .q i :: l, listed, a, w, hB, h => by
    simp only [plB, Bool.and_eq_true] at hB
    obtain ⟨o, v, ho, hy, hk⟩ := h
    refine wpAnyH_take ho hs hB.1.1 hB.1.2 (fun _ _ _ hq => hq) (hy.imp (fun ⟨h1, h2⟩ => ⟨h1, fun w' hw' => h2 ⟨w', hw'⟩⟩) id) (hr w) ?_
    exact pl_any hR hr hs l _ _ w hB.2 hk
  | .f i :: l, listed, a, w, hB, h => by
    simp only [plB, Bool.and_eq_true, beq_iff_eq] at hB
    obtain ⟨o, ho, hk⟩ := h
    refine wpAnyH_all hB.1 (by simp) fun j hj => ?_
    obtain rfl : j = i := by simpa using hj
    refine wpOp_step ho fun K hK => ?_
    by_cases hw : Region.wanted o (yielded ops a.tmps) = true
    · rw [if_pos hw] at hk ⊢
      refine Oper.wp_imp (fun a' w' ⟨h1, h2⟩ => hK _ _ ⟨h1, ?_⟩) (fun _ _ _ hf => hf.elim) hk
      exact anyH_mono (fun w'' h'' => hR _ _ _ h1 h'') _ _ _ _ (pl_any hR hr hs l _ _ w' hB.2 h2)
    · rw [if_neg hw] at hk ⊢
      exact hK _ _ ⟨hr w, pl_any hR hr hs l _ _ w hB.2 hk⟩
  | .seg L :: l, listed, a, w, hB, h => by
    simp only [plB, Bool.and_eq_true] at hB
    obtain ⟨⟨⟨h1, h2⟩, h3⟩, h4⟩ := hB
    obtain ⟨A, φ, Ψ, v0, rfl, hput, hmono, hstep, hend⟩ := h
    rw [plLen, Nat.add_comm]
    refine seg_go hR hr hmono hput hstep (fun v u hu hF hP => ?_) L.length listed v0 w h2 (hr w) (fun i hi hl => ?_) (fun i j hi hj hl hl2 hij => ?_)
    · refine anyH_mono (fun w'' h'' => hR _ _ _ hu h'') _ _ _ _ (pl_any hR hr hs l _ _ u h4 (hend v u hu (everyL_of fun i hi => hF i hi (List.all_eq_true.1 h3 i hi)) fun i j hi hj hij => hP i j hi hj (List.all_eq_true.1 h3 i hi) (List.all_eq_true.1 h3 j hj) hij))
    all_goals
      have := List.all_eq_true.1 h1 i hi
      cases hq : listed[i]? with
      | none => simp [hq] at hl
      | some b => simp [hq] at this hl; simp [this] at hl

/-- THE RULE. -/
theorem wp_region_pl (R : World → World → Prop) (l : List Pl) (hR : ∀ a b c, R a b → R b c → R a c) (hr : ∀ a, R a a) {id : Nat} {Q : Exit → Act → World → Prop} {a : Act} {w : World}
    (hm : P.follows .mixedOrders = true) (hB : (plLen l == ops.size && Region.noSelect ops && plB ops l (Array.replicate ops.size false)) = true)
    (h : ∀ K : Act → World → Prop, Shut (∀ a w, Q .normal a w → K a w) → wpPl P ops R K l a w.drew) : (Code.region id ops true).wp P Q a w := by
  simp only [Bool.and_eq_true, beq_iff_eq] at hB
  obtain ⟨⟨hl, hs⟩, hb⟩ := hB
  have := pl_any hR hr hs l _ a w.drew hb (h (fun a w => Q .normal a w) (fun _ _ h => h))
  rw [hl] at this
  refine Code.wp_mono ?_ (wp_region_held (S := R w.drew) (Q := atEnd fun a w => Q .normal a w) hm this)
  intro e a w hq
  cases e with
  | normal => exact hq
  | _ => exact hq.elim

theorem pl_q {Q : Act → World → Prop} {i : Nat} {l : List Pl} {a : Act} {w : World} {o : Oper} {v : Value} (ho : ops[i]? = some o) (hw : Region.wanted o (yielded ops a.tmps) = true)
    (h : ∀ x : Above R w, (execOp a.eval o).run P x.1 = .ok (.value v) x.1) (hk : wpPl P ops R Q l (a.put o.dst v) w) : wpPl P ops R Q (.q i :: l) a w :=
  ⟨o, v, ho, .inl ⟨hw, h⟩, hk⟩
theorem pl_n {Q : Act → World → Prop} {i : Nat} {l : List Pl} {a : Act} {w : World} {o : Oper} (ho : ops[i]? = some o) (hw : Region.wanted o (yielded ops a.tmps) = false)
    (hk : wpPl P ops R Q l (a.put o.dst undef) w) : wpPl P ops R Q (.q i :: l) a w := ⟨o, undef, ho, .inr ⟨hw, rfl⟩, hk⟩
theorem pl_nf {Q : Act → World → Prop} {i : Nat} {l : List Pl} {a : Act} {w : World} {o : Oper} (ho : ops[i]? = some o) (hw : Region.wanted o (yielded ops a.tmps) = false)
    (hk : wpPl P ops R Q l (a.put o.dst undef) w) : wpPl P ops R Q (.f i :: l) a w := by
  refine ⟨o, ho, ?_⟩
  rw [if_neg (by rw [hw]; exact Bool.false_ne_true)]
  exact hk
theorem pl_l {Q : Act → World → Prop} {i : Nat} {l : List Pl} {a : Act} {w : World} {o : Oper} (ho : ops[i]? = some o) (hw : Region.wanted o (yielded ops a.tmps) = true)
    (h : ∀ K : Act → World → Prop, Shut (∀ a' w', R w w' → wpPl P ops R Q l a' w' → K a' w') → o.wp P a w K (fun _ _ _ => False)) : wpPl P ops R Q (.f i :: l) a w := by
  refine ⟨o, ho, ?_⟩
  rw [if_pos hw]
  exact h _ fun _ _ h1 h2 => ⟨h1, h2⟩
theorem pl_end {Q : Act → World → Prop} {a : Act} {w : World} (h : Q a w) : wpPl P ops R Q [] a w := h
/-- a segment, its steps told one by one -/
theorem pl_seg (φ : Nat → Value → World → Prop) (Ψ : Nat → Value → Nat → Value → Prop) {A : (Nat → Value) → Act} {Q : Act → World → Prop} {L : List Nat} {l : List Pl} {a : Act} {w : World}
    (hA : ∀ v, (⟨fillT ops v L a.tmps, a.defers⟩ : Act) = A v) (h0 : a = A (heldOf ops a))
    (hput : everyL (fun i => ∀ o, ops[i]? = some o → ∀ v x, (A v).put o.dst x = A (upd v i x)) L)
    (hmono : everyL (fun i => ∀ x u u', R u u' → φ i x u → φ i x u') L)
    (hstep : everyL (segStep P ops R L A φ Ψ w) L)
    (hend : ∀ v u, R w u → everyL (fun i => φ i (v i) u) L → (∀ i j, i ∈ L → j ∈ L → i ≠ j → Ψ i (v i) j (v j) ∨ Ψ j (v j) i (v i)) → wpPl P ops R Q l (A v) u) : wpPl P ops R Q (.seg L :: l) a w :=
  ⟨A, φ, Ψ, heldOf ops a, h0, hput, hmono, hstep, hend⟩
end

theorem wp_imp_panic {P : Program} {o : Oper} {a : Act} {w : World} {K K' : Act → World → Prop} {Q Q' : Exit → Act → World → Prop} (h : ∀ a w, K a w → K' a w) (hq : ∀ c a w, Q (.panic c) a w → Q' (.panic c) a w) (hg : ∀ a w, Q .outgrown a w → Q' .outgrown a w) (hh : o.wp P a w K Q) : o.wp P a w K' Q' := by
  unfold Oper.wp at *
  generalize (execOp a.eval o).run P w = r at *
  cases r with
  | ok n w' =>
    cases n with
    | value v => exact h _ _ hh
    | skip => exact h _ _ hh
    | defer d => exact h _ _ hh
    | enter f args =>
      refine hh.mono fun e w'' he => ?_
      cases e with
      | returned v => exact h _ _ he
      | panicked ch => exact hq _ _ _ he
      | outgrown => exact ⟨he.choose, he.choose_spec.choose, hg _ _ he.choose_spec.choose_spec⟩
    | row r args =>
      intro c cs
      obtain ⟨v, w'', hr, hs⟩ := hh c cs
      exact ⟨v, w'', h _ _ hr, hs⟩
    | _ => exact hh
  | halt x w' =>
    cases x with
    | panic v => exact hq _ _ _ hh
    | _ => exact hh
/-- make([]byte, n), the operation alone -/
theorem wp_make_b {P : Program} {t e : TypeId} (hT : ByteTy P t e) {w : World} {o : Oper} {a : Act} {K : Act → World → Prop} (hgd : o.guard = none) (l c : Operand) (hop : o.op = Op.makeSlice t l c)
    (W : World) (hE : Ext W w) (kl kc : IntKind) (L C : Int) (n : Nat) (hl : a.eval l = .int kl L) (hc : a.eval c = .int kc C) (hL : L = (n : Int)) (hC : C = (n : Int)) (hn : n ≤ 140737488355328)
    (h : ∀ w', Own w' W.heap.size e (some ⟨w.heap.size, 0, none⟩) n n (List.replicate n 0) → w.grownBy w' none → Ext W w' → K (a.put o.dst (.slice (some ⟨w.heap.size, 0, none⟩) n n)) w') : o.wp P a w K (fun _ _ _ => False) := by
  have := wpList_make_b hT (ops := #[]) (rest := []) (Q := fun x a w => match x with | .normal => K a w | _ => False) hgd l c hop W hE kl kc L C n hl hc hL hC hn h
  unfold wpList at this
  have hw : Region.wanted o (yielded #[] a.tmps) = true := by simp [Region.wanted, hgd]
  rw [if_pos hw] at this
  rcases this with this | ⟨_, hl⟩
  · exact wp_imp_panic (fun a w h => h) (fun c a w hq => hq.elim) (fun a w hq => hq.elim) this
  · obtain ⟨_, _, hl⟩ := hl
    exact hl.elim
/-- Behind a change of one block a slice of bytes in another one reads as it did. -/
theorem Rd.far {w w' : World} {g lo : Nat} {A : Option Addr} {n : Nat} {l : List UInt8} (h : Rd w lo A n l) (hb : w.grownBy w' (some g)) (hn : ∀ a, A = some a → a.block ≠ g) : Rd w' lo A n l := by
  refine ⟨h.1, ?_⟩
  rcases Nat.eq_zero_or_pos n with h0 | h0
  · exact .inl h0
  · obtain ⟨b, off, rfl, h1, h2, h3⟩ := h.pos h0
    have hne : b ≠ g := hn _ rfl
    have := hb.size
    refine .inr ⟨b, off, rfl, h1, by omega, fun i hi => ?_⟩
    rw [World.cell?_of_block (w := w) (hb.block b h2 (by simpa using hne))]
    exact h3 i hi
end Go.Proofs.Ytekbdpfiommmbaa
