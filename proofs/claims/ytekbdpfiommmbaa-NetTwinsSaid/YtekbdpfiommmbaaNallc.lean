/- Going over All of a net. Conditions: the net's copy is in memory as told. -/
import Derived.Test.YtekbdpfiommmbaaNtold
namespace Go.Proofs.Ytekbdpfiommmbaa
open Go.RowKit Go.Maps
set_option linter.unusedVariables false
set_option linter.unusedSimpArgs false
attribute [local go_sem] Oper.semAt_some

theorem Rd.kc {lo lo' : Nat} {A B : World} {a : Option Addr} {n : Nat} {l : List UInt8} (h : Rd A lo' a n l) (k : Kc lo A B) : Rd B lo' a n l := by
  refine ⟨h.1, ?_⟩
  rcases Nat.eq_zero_or_pos n with h0 | h0
  · exact .inl h0
  · obtain ⟨b, off, rfl, h1, h2, h3⟩ := h.pos h0
    refine .inr ⟨b, off, rfl, h1, Nat.lt_of_lt_of_le h2 k.size, fun i hi => ?_⟩
    have hc := h3 i hi
    cases e : A.heap[b]? with
    | none => simp [World.cell?, e] at hc
    | some o =>
      have ho : o.isCells = true := by
        cases o <;> simp [World.cell?, e, Obj.isCells] at hc ⊢
      have hb := k.blk b o e (.inr ho)
      rw [World.cell?_of_block (w := A) (hb.trans e.symm)]
      exact hc
/-- a range over a net's flights, told by what cells keep -/
theorem range_allK (S : Nat → Prop) {p1 p2 : Tmp} {assign body : Code} {Q : Exit → Act → World → Prop} {a : Act} {w w0 : World} {og : Operand} {O : Ow} {q n fm e : Nat} {F : DataW Value} {g : NC} {vs : List Value}
    (h : NetX w0 O n fm F g) (hq : Blk w0 q 25 #[fptr n]) (he : g.ends = (e : Int)) (hS : ∀ b, S b → b ≠ q ∧ O b = none ∧ b < w0.heap.size) (hvs : flV w0 F g e (e * e) = vs) (hb0 : Ext w0 w) (hg : a.eval og = .func (.func 55) #[] #[fptr q])
    (I : List (Ix vs.length) → World → Prop) (Ix' : Code → List (Ix vs.length) → World → Prop)
    (hI : ∀ pre A B, I pre A → Kc w.heap.size A B → I pre B) (hIx : ∀ c pre A B, Ix' c pre A → Kc w.heap.size A B → Ix' c pre B)
    (h0 : I [] w) (Ax : Ix vs.length → Act → World → Prop) (hAx : ∀ x a' A B, Ax x a' A → Kc w.heap.size A B → Ax x a' B)
    (hassign : ∀ (l : Nat) (pre : List (Ix vs.length)) (x : Ix vs.length) (W : World) (K : Act → World → Prop), I pre W → (∀ a' W', Ext W W' → Ax x a' W' → K a' W') →
      assign.wpIn (Rd_ l) (1 - 1 - 1) Try.prog (Exit.then K (fun _ _ _ => False)) { tmps := (a.tmps.setIfInBounds p1 (.int .i64 (x.1 : Int))).setIfInBounds p2 vs[x.1], defers := [] } W)
    (hbody : ∀ (l : Nat) (pre : List (Ix vs.length)) (x : Ix vs.length) (a' : Act) (W : World), w.heap.size ≤ W.heap.size → I pre W → Ax x a' W → pre.length < vs.length → body.wpIn (Rd_ l) (1 - 1 - 1) Try.prog (bodyG w.heap.size (KpN (Mo O) S) I Ix' (pre ++ [x]) W) a' W)
    (hdone : ∀ (D : Nat) (xs : List (Ix vs.length)) (W : World), w.heap.size ≤ D → Upto xs vs.length → I xs W → W.heap[D]? = some (.deferred (some [])) → Q .normal { a with defers := { target := .collected D, args := #[] } :: a.defers } W)
    (hstop : ∀ (D : Nat) (c : Code) (pre : List (Ix vs.length)) (W : World), w.heap.size ≤ D → (∃ k, k ≤ vs.length ∧ Upto pre k) → Ix' c pre W → W.heap[D]? = some (.deferred (some [])) → c.wp Try.prog Q { a with defers := { target := .collected D, args := #[] } :: a.defers } W) :
    (Code.rangeFunc og #[p1, p2] assign body).wp Try.prog Q a w := by
  have hz := hb0.size
  have hKb : ∀ (W : World) (l : Nat) (o o' : Obj), w.heap.size ≤ l → W.heap[l]? = some o → o.isCells = false → KpN (Mo O) S W (W.putObj l o') := by
    intro W l o o' hl' ho hc
    have g' := grownBy_putObj' W l o'
    refine ⟨g'.size, fun b x hb hn hx => ?_⟩
    have hne : b ≠ l := by
      rintro rfl
      rw [ho] at hb
      cases hb
      rcases hx with hx | hx
      · have := h.inn b hx; omega
      · rw [hc] at hx; cases hx.1
    exact (g'.block b (Array.getElem?_eq_some_iff.1 hb).1 (by simp; exact hne)).trans hb
  refine wpIn_wide.1 (wpIn_rangeFunc_ownH (n := 1) rfl (Nat.le_refl _) (gf := 55) (lb := #[fptr q]) (by rw [hg]) trivial (enters_of Try.func55 (by kernel_rfl) rfl)
    (allIt (1 - 1) w0 O q n fm F g h hq e he S hS vs hvs) KpN.trans (fun W l o o' hl ho hc _ => hKb W l o o' hl ho hc) hb0 (fun _ => rfl) (fun pre W => I pre W ∧ w.heap.size ≤ W.heap.size) Ix' ?_ ?_ ⟨h0, Nat.le_refl _⟩ Ax ?_ ?_ ?_ (fun D xs W hD hS hi hk => hdone D xs W hD hS hi.1 hk) ?_)
  · intro s A B row hs hgr hr
    exact ⟨hI s A B hs.1 (Kc.of_grown hgr hr), Nat.le_trans hs.2 hgr.size⟩
  · intro c s A B row hs hgr hr
    exact hIx c s A B hs (Kc.of_grown hgr hr)
  · intro x a' s A B row hs hgr hr
    exact hAx x a' A B hs (Kc.of_grown hgr hr)
  · intro l pre x W K hi hK
    have e : (#[p1, p2].zip (encA vs x)).foldl (fun t (p, v) => t.setIfInBounds p v) a.tmps = (a.tmps.setIfInBounds p1 (.int .i64 (x.1 : Int))).setIfInBounds p2 vs[x.1] := by
      simp [encA]
    rw [e]
    refine hassign l pre x W K hi.1 (fun a' W' hx ha => ?_)
    exact hK a' W' (Kc.to_keeps hx) ⟨hx.size, fun b o hb _ _ => (hx.blk (Array.getElem?_eq_some_iff.1 hb).1).trans hb⟩ ⟨hI _ _ _ hi.1 (Kc.of_ext hx), Nat.le_trans hi.2 hx.size⟩ ha
  · intro l pre x a' W _ _ hi ha hlt
    refine wpIn_mono (hbody l pre x a' W hi.2 hi.1 ha hlt) ?_
    intro e a' W' h
    cases e with
    | normal => exact ⟨h.1, h.2.1, h.2.2, Nat.le_trans hi.2 h.1.size⟩
    | ret => exact ⟨h.1, h.2.2⟩
    | exit id => exact ⟨h.1, h.2.2⟩
    | goto t => exact ⟨h.1, h.2.2⟩
    | panic v => exact h
    | outgrown => exact h
  · intro D c pre W hD hs hx hk
    exact wpIn_wide.2 (hstop D c pre W hD hs hx hk)
