/- A region's walk by a plan over a frame that stays as it was: what the region has written stands in a list (slot, value). Conditions: told at each. -/
import Derived.Test.YtekbdpfiommmbaaLazy
namespace Go.Proofs.Ytekbdpfiommmbaa
open Go.RowKit
set_option linter.unusedVariables false

/-- a frame with writes, the last one first -/
def ov (A : Act) : List (Nat × Value) → Act
  | [] => A
  | (d, v) :: l => (ov A l).put (some d) v
/-- what a slot below n holds, if it was written -/
def ovLk (n s : Nat) : List (Nat × Value) → Option Value
  | [] => none
  | (d, v) :: l => match Nat.beq d s && Nat.blt d n with
    | true => some v
    | false => ovLk n s l
/-- the frame's slots, from k on -/
def ovUpd (n : Nat) (l : List (Nat × Value)) : Nat → List Value → List Value
  | _, [] => []
  | k, v :: t => ((ovLk n k l).getD v) :: ovUpd n l (k + 1) t

theorem ov_size (A : Act) : ∀ l, (ov A l).tmps.size = A.tmps.size
  | [] => rfl
  | (d, v) :: l => by simp only [ov, Act.put, Array.size_setIfInBounds]; exact ov_size A l
theorem ov_defers (A : Act) : ∀ l, (ov A l).defers = A.defers
  | [] => rfl
  | (d, v) :: l => ov_defers A l
theorem ov_get {A : Act} {n : Nat} (hn : A.tmps.size = n) (s : Nat) : ∀ l, (ov A l).tmps[s]? = (match ovLk n s l with | some v => some v | none => A.tmps[s]?)
  | [] => rfl
  | (d, v) :: l => by
    have ih := ov_get hn s l
    simp only [ov, Act.put, ovLk]
    rw [Array.getElem?_setIfInBounds, ov_size, hn]
    by_cases h1 : d = s
    · subst h1
      rw [if_pos rfl]
      by_cases h2 : d < n
      · have e2 : Nat.blt d n = true := by rw [Nat.blt_eq]; exact h2
        rw [if_pos h2, e2, Nat.beq_refl]
        rfl
      · have e2 : Nat.blt d n = false := by rw [Bool.eq_false_iff]; intro e; exact h2 (by simpa using e)
        rw [if_neg h2, e2, Bool.and_false]
        simp only []
        rw [← ih, Array.getElem?_eq_none (by rw [ov_size, hn]; omega)]
    · have e1 : Nat.beq d s = false := by rw [Bool.eq_false_iff]; intro e; exact h1 (Nat.eq_of_beq_eq_true e)
      rw [if_neg h1, e1, Bool.false_and]
      exact ih
section
variable {A : Act} {n : Nat} {l : List (Nat × Value)} {s : Nat} {v : Value}
theorem ov_in (hn : A.tmps.size = n) (h : ovLk n s l = some v) : (ov A l).eval (.tmp s) = v := by
  have := ov_get hn s l
  rw [h] at this
  simp only [Act.eval, Array.getD_eq_getD_getElem?, this]
  rfl
theorem ov_out (hn : A.tmps.size = n) (h : ovLk n s l = none) (h0 : A.eval (.tmp s) = v) : (ov A l).eval (.tmp s) = v := by
  have := ov_get hn s l
  rw [h] at this
  simp only [Act.eval, Array.getD_eq_getD_getElem?] at h0 ⊢
  rw [this]
  exact h0
theorem ovUpd_get (l : List (Nat × Value)) (s : Nat) : ∀ (t : List Value) (k : Nat), (ovUpd n l k t)[s]? = (t[s]?).map fun v => (ovLk n (k + s) l).getD v := by
  induction s with
  | zero => intro t k; cases t <;> simp [ovUpd]
  | succ s ih =>
    intro t k
    cases t with
    | nil => simp [ovUpd]
    | cons a t =>
      simp only [ovUpd, List.getElem?_cons_succ]
      rw [ih, show k + 1 + s = k + (s + 1) by omega]
theorem ovLk_lt (h : ovLk n s l = some v) : s < n := by
  induction l with
  | nil => cases h
  | cons p l ih =>
    obtain ⟨d, x⟩ := p
    simp only [ovLk] at h
    split at h
    · rename_i e
      rw [Bool.and_eq_true] at e
      have e1 := Nat.eq_of_beq_eq_true e.1
      have e2 : d < n := by simpa using e.2
      omega
    · exact ih h
theorem ov_eq (hn : A.tmps.size = n) (l : List (Nat × Value)) : ov A l = { tmps := (ovUpd n l 0 A.tmps.toList).toArray, defers := A.defers } := by
  have h1 : (ov A l).tmps = (ovUpd n l 0 A.tmps.toList).toArray := by
    apply Array.ext_getElem?
    intro s
    have e2 : (ovUpd n l 0 A.tmps.toList).toArray[s]? = (ovUpd n l 0 A.tmps.toList)[s]? := by simp
    rw [e2, ov_get hn, ovUpd_get, Nat.zero_add, Array.getElem?_toList]
    cases h : ovLk n s l with
    | none => simp
    | some v =>
      have := ovLk_lt h
      rw [Array.getElem?_eq_getElem (by omega)]
      simp
  have h2 := ov_defers A l
  cases h : ov A l with
  | mk t d =>
    rw [h] at h1 h2
    simp only at h1 h2
    rw [h1, h2]
end
section
variable {P : Program} {ops : Array Oper} {R : World → World → Prop} {Q : Act → World → Prop} {A a : Act} {n i d : Nat} {pl : List (Nat × Bool)} {L : List (Nat × Value)} {w : World} {o : Oper} {v : Value}
theorem ov_open (n : Nat) (hn : a.tmps.size = n) (h : ∀ A, A.tmps.size = n → (∀ s, A.eval (.tmp s) = a.eval (.tmp s)) → A = a → wpPlan P ops R Q pl (ov A []) w) : wpPlan P ops R Q pl a w := h a hn (fun _ => rfl) rfl
/-- what a guard has come to -/
def ovGd (v : Value) : Option Bool := match v with | .bool b => some b | _ => none
theorem ov_yield (hn : A.tmps.size = n) {j dj : Nat} (hj : (ops[j]?).bind (·.dst) = some dj) (hl : ovLk n dj L = some v) : yielded ops (ov A L).tmps j = ovGd v := by
  unfold yielded
  rw [hj, Option.bind_some, ov_get hn, hl]
  cases v <;> rfl
theorem ov_q (ho : ops[i]? = some o) (hd : o.dst = some d) (hg : o.guard = none) (h : ∀ x : Above R w, (execOp (ov A L).eval o).run P x.1 = .ok (.value v) x.1) (hk : wpPlan P ops R Q pl (ov A ((d, v) :: L)) w) : wpPlan P ops R Q ((i, true) :: pl) (ov A L) w := by
  refine plan_q ho (by unfold Region.wanted; rw [hg]) h ?_
  rw [hd]
  exact hk
theorem ov_qg (hn : A.tmps.size = n) (ho : ops[i]? = some o) (hd : o.dst = some d) {j dj : Nat} {b : Bool} (hg : o.guard = some (j, b)) (hj : (ops[j]?).bind (·.dst) = some dj) (hl : ovLk n dj L = some (.bool b)) (h : ∀ x : Above R w, (execOp (ov A L).eval o).run P x.1 = .ok (.value v) x.1) (hk : wpPlan P ops R Q pl (ov A ((d, v) :: L)) w) : wpPlan P ops R Q ((i, true) :: pl) (ov A L) w := by
  refine plan_q ho (by unfold Region.wanted; rw [hg]; simp only []; rw [ov_yield hn hj hl]; simp [ovGd]) h ?_
  rw [hd]
  exact hk
theorem ov_n (hn : A.tmps.size = n) {q : Bool} (ho : ops[i]? = some o) (hd : o.dst = some d) {j dj : Nat} {b : Bool} {vj : Value} (hg : o.guard = some (j, b)) (hj : (ops[j]?).bind (·.dst) = some dj) (hl : ovLk n dj L = some vj) (hb : (ovGd vj == some b) = false) (hk : wpPlan P ops R Q pl (ov A ((d, undef) :: L)) w) : wpPlan P ops R Q ((i, q) :: pl) (ov A L) w := by
  refine plan_n ho (by unfold Region.wanted; rw [hg]; simp only []; rw [ov_yield hn hj hl]; exact hb) ?_
  rw [hd]
  exact hk
theorem ov_l (ho : ops[i]? = some o) (hg : o.guard = none) (h : ∀ K : Act → World → Prop, Shut (∀ a' w', R w w' → wpPlan P ops R Q pl a' w' → K a' w') → o.wp P (ov A L) w K (fun _ _ _ => False)) : wpPlan P ops R Q ((i, false) :: pl) (ov A L) w :=
  plan_l ho (by unfold Region.wanted; rw [hg]) h
theorem ov_lg (hn : A.tmps.size = n) (ho : ops[i]? = some o) {j dj : Nat} {b : Bool} (hg : o.guard = some (j, b)) (hj : (ops[j]?).bind (·.dst) = some dj) (hl : ovLk n dj L = some (.bool b)) (h : ∀ K : Act → World → Prop, Shut (∀ a' w', R w w' → wpPlan P ops R Q pl a' w' → K a' w') → o.wp P (ov A L) w K (fun _ _ _ => False)) : wpPlan P ops R Q ((i, false) :: pl) (ov A L) w :=
  plan_l ho (by unfold Region.wanted; rw [hg]; simp only []; rw [ov_yield hn hj hl]; simp [ovGd]) h
theorem map0 {f : Operand → Value} : (#[] : Array Operand).map f = #[] := by simp
theorem map1 {f : Operand → Value} {x : Operand} {v : Value} (h : f x = v) : (#[x] : Array Operand).map f = #[v] := by simp [h]
theorem map2 {f : Operand → Value} {x y : Operand} {v u : Value} (h : f x = v) (h2 : f y = u) : (#[x, y] : Array Operand).map f = #[v, u] := by simp [h, h2]
theorem map3 {f : Operand → Value} {x y z : Operand} {v u t : Value} (h : f x = v) (h2 : f y = u) (h3 : f z = t) : (#[x, y, z] : Array Operand).map f = #[v, u, t] := by simp [h, h2, h3]
theorem map4 {f : Operand → Value} {x y z k : Operand} {v u t s : Value} (h : f x = v) (h2 : f y = u) (h3 : f z = t) (h4 : f k = s) : (#[x, y, z, k] : Array Operand).map f = #[v, u, t, s] := by simp [h, h2, h3, h4]
/-- a call that yields: f by its number -/
theorem ov_call {K : Act → World → Prop} {Qx : Exit → Act → World → Prop} (f : FuncId) (xs : Array Operand) (ts : Array TypeId) (ho : o.op = .call { callee := .value (.func f), args := xs, argTypes := ts }) (hd : o.dst = some d) (vs : Array Value) (hx : xs.map (ov A L).eval = vs)
    (he : (callFunc f vs).run P w = .ok (.enter f vs) w) (h : Calls P f vs w fun e w' => ∃ r, e = .returned r ∧ K (ov A ((d, r) :: L)) w') : o.wp P (ov A L) w K Qx := by
  refine op_call f xs ts ho vs hx he (h.mono ?_)
  rintro e w' ⟨r, e1, hk⟩
  refine ⟨r, e1, ?_⟩
  rw [hd]
  exact hk
end
end Go.Proofs.Ytekbdpfiommmbaa
