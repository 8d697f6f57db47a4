/- A range over a net's flights whose assignment takes a block of its own. Conditions: told at each. -/
import Derived.Test.YtekbdpfiommmbaaNrange
import Derived.RangeFuncNested
namespace Go.Proofs.Ytekbdpfiommmbaa
open Go.RowKit Go.Maps
set_option linter.unusedVariables false
set_option linter.unusedSimpArgs false

/-- a block of cells stays where a record turns -/
theorem Blk.own {W W' : World} {row : Option Nat} {r : Nat} {t : TypeId} {vs : Array Value} (b : Blk W r t vs) (hg : W.grownBy W' row) (hr : ∀ k, row = some k → ∃ o : Obj, W.heap[k]? = some o ∧ o.isCells = false) : Blk W' r t vs := by
  refine b.tu (Tu.of_grown (S := fun k => row = some k) hg fun k e => e) (fun e => ?_)
  obtain ⟨o, ho, hc⟩ := hr r e
  have hb : W.heap[r]? = some (.cells vs t) := b
  rw [hb] at ho
  cases ho
  cases hc

theorem range_allH (S : Nat → Prop) {p1 p2 : Tmp} {assign body : Code} {Q : Exit → Act → World → Prop} {a : Act} {w w0 : World} {og : Operand} {O : Ow} {q n fm e : Nat} {F : DataW Value} {g : NC} {vs : List Value}
    (h : NetX w0 O n fm F g) (hq : Blk w0 q 25 #[fptr n]) (he : g.ends = (e : Int)) (hS : ∀ b, S b → b ≠ q ∧ O b = none ∧ b < w0.heap.size) (hvs : flV w0 F g e (e * e) = vs) (hb0 : Ext w0 w) (hg : a.eval og = .func (.func 55) #[] #[fptr q])
    (I : List (Ix vs.length) → World → Prop) (Ix' : Code → List (Ix vs.length) → World → Prop) (hw : ∀ pre W, I pre W → w.heap.size ≤ W.heap.size)
    (hI : ∀ pre W W', I pre W → Tu (fun b => w.heap.size ≤ b) W W' → I pre W') (hIx : ∀ c pre W W', Ix' c pre W → Tu (fun b => w.heap.size ≤ b) W W' → Ix' c pre W')
    (h0 : I [] w) (Ax : Ix vs.length → Act → World → Prop)
    (hAx : ∀ x a' W W' row, Ax x a' W → W.grownBy W' row → (∀ k, row = some k → ∃ o : Obj, W.heap[k]? = some o ∧ o.isCells = false) → Ax x a' W')
    (hassign : ∀ (l : Nat) (pre : List (Ix vs.length)) (x : Ix vs.length) (W : World) (K : Act → World → Prop), I pre W → (∀ a' W', Ext W W' → I pre W' → Ax x a' W' → K a' W') →
      assign.wpIn (Rd_ l) (1 - 1 - 1) Try.prog (Exit.then K (fun _ _ _ => False)) { tmps := (a.tmps.setIfInBounds p1 (.int .i64 (x.1 : Int))).setIfInBounds p2 vs[x.1], defers := [] } W)
    (hbody : ∀ (l : Nat) (pre : List (Ix vs.length)) (x : Ix vs.length) (a' : Act) (W : World), I pre W → Ax x a' W → pre.length < vs.length → body.wpIn (Rd_ l) (1 - 1 - 1) Try.prog (bodyB S I Ix' (pre ++ [x]) W) a' W)
    (hdone : ∀ (D : Nat) (xs : List (Ix vs.length)) (W : World), w.heap.size ≤ D → Upto xs vs.length → I xs W → W.heap[D]? = some (.deferred (some [])) → Q .normal { a with defers := { target := .collected D, args := #[] } :: a.defers } W)
    (hstop : ∀ (D : Nat) (c : Code) (pre : List (Ix vs.length)) (W : World), w.heap.size ≤ D → (∃ k, k ≤ vs.length ∧ Upto pre k) → Ix' c pre W → W.heap[D]? = some (.deferred (some [])) → c.wp Try.prog Q { a with defers := { target := .collected D, args := #[] } :: a.defers } W) :
    (Code.rangeFunc og #[p1, p2] assign body).wp Try.prog Q a w := by
  have hz := hb0.size
  refine wpIn_wide.1 (wpIn_rangeFunc_ownH (n := 1) rfl (Nat.le_refl _) (gf := 55) (lb := #[fptr q]) (by rw [hg]) trivial (enters_of Try.func55 (by kernel_rfl) rfl)
    (allIt (1 - 1) w0 O q n fm F g h hq e he S hS vs hvs) KpN.trans ?_ hb0 (fun _ => rfl) I Ix' ?_ ?_ h0 Ax ?_ ?_ ?_ hdone ?_)
  · intro W l o o' hl' ho hc _
    have g' := grownBy_putObj' W l o'
    refine ⟨g'.size, fun b x hb hn hx => ?_⟩
    have hne : b ≠ l := by
      rintro rfl
      rw [ho] at hb
      cases hb
      rcases hx with hx | hx
      · have := h.inn b hx; omega
      · rw [hc] at hx; cases hx.1
    exact (g'.block b (Array.getElem?_eq_some_iff.1 hb).1 (by simp; exact hne)).trans hb
  · intro s A B row hs hgr hr
    exact hI s A B hs (Tu.of_from hgr hr)
  · intro c s A B row hs hgr hr
    exact hIx c s A B hs (Tu.of_from hgr hr)
  · intro x a' s A B row hs hgr hr
    exact hAx x a' A B row hs hgr (fun k e => (hr k e).2)
  · intro l pre x W K hi hK
    have e : (#[p1, p2].zip (encA vs x)).foldl (fun t (p, v) => t.setIfInBounds p v) a.tmps = (a.tmps.setIfInBounds p1 (.int .i64 (x.1 : Int))).setIfInBounds p2 vs[x.1] := by
      simp [encA]
    rw [e]
    refine hassign l pre x W K hi (fun a' W' hx hi' ha => ?_)
    refine hK a' W' ⟨hx.size, fun k o _ hk _ => (hx.blk (Array.getElem?_eq_some_iff.1 hk).1).trans hk⟩ ⟨hx.size, fun b o hb _ _ => (hx.blk (Array.getElem?_eq_some_iff.1 hb).1).trans hb⟩ hi' ha
  · intro l pre x a' W _ _ hi ha hlt
    have hWs := hw pre W hi
    refine wpIn_mono (hbody l pre x a' W hi ha hlt) ?_
    intro e a' W' h
    cases e with
    | normal => exact ⟨KeepsFrom.of_tuB h.1 (fun b hb => by have := (hS b hb).2.2; omega), KpN.of_tu h.1, h.2⟩
    | ret => exact ⟨KeepsFrom.of_tuB h.1 (fun b hb => by have := (hS b hb).2.2; omega), h.2⟩
    | exit id => exact ⟨KeepsFrom.of_tuB h.1 (fun b hb => by have := (hS b hb).2.2; omega), h.2⟩
    | goto t => exact ⟨KeepsFrom.of_tuB h.1 (fun b hb => by have := (hS b hb).2.2; omega), h.2⟩
    | panic v => exact h
    | outgrown => exact h
  · intro D c pre W hD hs hx hk
    exact wpIn_wide.2 (hstop D c pre W hD hs hx hk)
end Go.Proofs.Ytekbdpfiommmbaa
