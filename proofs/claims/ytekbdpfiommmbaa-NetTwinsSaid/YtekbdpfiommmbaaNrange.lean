/- A range over a net's flights; leaving with marks. Conditions: told at each. -/
import Derived.Test.YtekbdpfiommmbaaNit
import Derived.RangeFuncWrites
namespace Go.Proofs.Ytekbdpfiommmbaa
open Go.RowKit Go.Maps
set_option linter.unusedVariables false
set_option linter.unusedSimpArgs false

theorem Upto.back {n k : Nat} {pre : List (Ix n)} {x : Ix n} (h : Upto (pre ++ [x]) k) : Upto pre pre.length ∧ x.1 = pre.length ∧ k = pre.length + 1 := by
  have hk := h.len
  simp only [List.length_append, List.length_cons, List.length_nil] at hk
  rw [Upto, List.map_append, ← hk, List.range_succ] at h
  have := List.append_inj h (by simp)
  exact ⟨this.1, by simpa using this.2, hk.symm⟩
theorem Upto.nil (n : Nat) : Upto ([] : List (Ix n)) 0 := rfl

theorem calls_of_marks {P : Program} {f : FuncId} {fn : Func} {c : Code} {args : Array Value} {w : World} {R : Ending → World → Prop} (hf : P.funcs[f]? = some fn) (hb : fn.body = some c)
    (h : c.wp P (bodyPostM Fence.wide 1 P fn R) { tmps := args ++ Array.replicate (fn.ntmps - args.size) undef, defers := [] } w) : Calls P f args w R :=
  callsIn_wide.1 (callsIn_of_wp_marks (n := 1) hf hb trivial (wpIn_wide.2 h))
theorem Tu.of_from {W W' : World} {row : Option Nat} {B : Nat} (hg : W.grownBy W' row) (hr : ∀ r, row = some r → B ≤ r ∧ ∃ o : Obj, W.heap[r]? = some o ∧ o.isCells = false) : Tu (fun b => B ≤ b) W W' := Tu.of_grown hg fun k e => (hr k e).1

def bodyB {n : Nat} (S : Nat → Prop) (I : List (Ix n) → World → Prop) (Ix' : Code → List (Ix n) → World → Prop) (xs : List (Ix n)) (W : World) : Exit → Act → World → Prop
  | .normal, _, W' => Tu S W W' ∧ I xs W'
  | .ret, _, W' => Tu S W W' ∧ Ix' .ret xs W'
  | .exit id, _, W' => Tu S W W' ∧ Ix' (.exit id) xs W'
  | .goto t, _, W' => Tu S W W' ∧ Ix' (.goto t) xs W'
  | .panic _, _, _ => False
  | .outgrown, _, _ => False
theorem KeepsFrom.of_tuB {S : Nat → Prop} {B : Nat} {W W' : World} (t : Tu S W W') (h : ∀ b, S b → b < B) : KeepsFrom B W W' :=
  ⟨t.size, fun k o hB hk _ => (t.blk k (Array.getElem?_eq_some_iff.1 hk).1 (fun hb => by have := h k hb; omega)).trans hk⟩

/-- the marks that ranges leave -/
def marks (Ds : List Nat) : List Deferred := Ds.map fun D => { target := .collected D, args := #[] }
theorem leaves_marks {F : Fence} {n : Nat} {fn : Func} {tmps : Array Value} {R : Ending → World → Prop} : ∀ (Ds : List Nat) (W : World), Ds.Nodup → (∀ D ∈ Ds, W.heap[D]? = some (.deferred (some []))) →
    (∀ W', Tu (fun b => b ∈ Ds) W W' → LeavesIn F n Try.prog fn tmps R [] .returning W') → LeavesInM F n Try.prog fn tmps R (marks Ds) .returning W
  | [], W, _, _, h => h W (Tu.refl _ _)
  | D :: Ds, W, hd, hm, h => by
    obtain ⟨h1, h2⟩ := List.nodup_cons.1 hd
    have t8 : Tu (fun b => b = D) W (W.putObj D (.deferred none)) := Tu.of_grown (grownBy_putObj' W D (.deferred none)) (by rintro k e; cases e; rfl)
    refine ⟨by simp, .inl ⟨D, _, rfl, run_takeDeferred (hm D (by simp)), leaves_marks Ds _ h2 (fun E hE => ?_) (fun W' t => h W' ?_)⟩⟩
    · have hk := hm E (by simp [hE])
      exact (t8.blk E (Array.getElem?_eq_some_iff.1 hk).1 (fun e => h1 (e ▸ hE))).trans hk
    · exact (t8.mono (fun b e => by simp [e])).trans (t.mono (fun b hb => by simp [hb]))

theorem KpN.of_tu {lo S : Nat → Prop} {W W' : World} (t : Tu S W W') : KpN lo S W W' := ⟨t.size, fun b o h hn _ => (t.blk b (Array.getElem?_eq_some_iff.1 h).1 hn).trans h⟩
theorem range_all (S : Nat → Prop) {p1 p2 : Tmp} {assign body : Code} {Q : Exit → Act → World → Prop} {a : Act} {w w0 : World} {og : Operand} {O : Ow} {q n fm e : Nat} {F : DataW Value} {g : NC} {vs : List Value}
    (h : NetX w0 O n fm F g) (hq : Blk w0 q 25 #[fptr n]) (he : g.ends = (e : Int)) (hS : ∀ b, S b → b ≠ q ∧ O b = none ∧ b < w0.heap.size) (hvs : flV w0 F g e (e * e) = vs) (hb0 : Ext w0 w) (hg : a.eval og = .func (.func 55) #[] #[fptr q])
    (I : List (Ix vs.length) → World → Prop) (Ix' : Code → List (Ix vs.length) → World → Prop) (hw : ∀ pre W, I pre W → w.heap.size ≤ W.heap.size)
    (hI : ∀ pre W W', I pre W → Tu (fun b => w.heap.size ≤ b) W W' → I pre W') (hIx : ∀ c pre W W', Ix' c pre W → Tu (fun b => w.heap.size ≤ b) W W' → Ix' c pre W')
    (h0 : I [] w) (a₁ : Ix vs.length → Act)
    (hassign : ∀ (l : Nat) (x : Ix vs.length) (W : World) (K : Act → World → Prop), K (a₁ x) W →
      assign.wpIn (Rd_ l) (1 - 1 - 1) Try.prog (Exit.then K (fun _ _ _ => False)) { tmps := (a.tmps.setIfInBounds p1 (.int .i64 (x.1 : Int))).setIfInBounds p2 vs[x.1], defers := [] } W)
    (hbody : ∀ (l : Nat) (pre : List (Ix vs.length)) (x : Ix vs.length) (W : World), I pre W → pre.length < vs.length → body.wpIn (Rd_ l) (1 - 1 - 1) Try.prog (bodyB S I Ix' (pre ++ [x]) W) (a₁ x) W)
    (hdone : ∀ (D : Nat) (xs : List (Ix vs.length)) (W : World), w.heap.size ≤ D → Upto xs vs.length → I xs W → W.heap[D]? = some (.deferred (some [])) → Q .normal { a with defers := { target := .collected D, args := #[] } :: a.defers } W)
    (hstop : ∀ (D : Nat) (c : Code) (pre : List (Ix vs.length)) (W : World), w.heap.size ≤ D → (∃ k, k ≤ vs.length ∧ Upto pre k) → Ix' c pre W → W.heap[D]? = some (.deferred (some [])) → c.wp Try.prog Q { a with defers := { target := .collected D, args := #[] } :: a.defers } W) :
    (Code.rangeFunc og #[p1, p2] assign body).wp Try.prog Q a w := by
  have hz := hb0.size
  refine wpIn_wide.1 (wpIn_rangeFunc_ownG (n := 1) rfl (Nat.le_refl _) (gf := 55) (lb := #[fptr q]) (by rw [hg]) trivial (enters_of Try.func55 (by kernel_rfl) rfl)
    (allIt (1 - 1) w0 O q n fm F g h hq e he S hS vs hvs) KpN.trans ?_ hb0 (fun _ => rfl) I Ix' ?_ ?_ h0 a₁ ?_ ?_ hdone ?_)
  · intro W l o o' hl' ho hc _
    have g' := grownBy_putObj' W l o'
    refine ⟨g'.size, fun b x hb hn hx => ?_⟩
    have hne : b ≠ l := by
      rintro rfl
      rw [ho] at hb
      cases hb
      rcases hx with hx | hx
      · have := h.inn b hx; omega
      · rw [hc] at hx; cases hx.1
    exact (g'.block b (Array.getElem?_eq_some_iff.1 hb).1 (by simp; exact hne)).trans hb
  · intro s A B row hs hgr hr
    exact hI s A B hs (Tu.of_from hgr hr)
  · intro c s A B row hs hgr hr
    exact hIx c s A B hs (Tu.of_from hgr hr)
  · intro l x W K hK
    have e : (#[p1, p2].zip (encA vs x)).foldl (fun t (p, v) => t.setIfInBounds p v) a.tmps = (a.tmps.setIfInBounds p1 (.int .i64 (x.1 : Int))).setIfInBounds p2 vs[x.1] := by
      simp [encA]
    rw [e]
    exact hassign l x W K hK
  · intro l pre x W hi hlt
    have hWs := hw pre W hi
    refine wpIn_mono (hbody l pre x W hi hlt) ?_
    intro e a' W' h
    cases e with
    | normal => exact ⟨KeepsFrom.of_tuB h.1 (fun b hb => by have := (hS b hb).2.2; omega), KpN.of_tu h.1, h.2⟩
    | ret => exact ⟨KeepsFrom.of_tuB h.1 (fun b hb => by have := (hS b hb).2.2; omega), h.2⟩
    | exit id => exact ⟨KeepsFrom.of_tuB h.1 (fun b hb => by have := (hS b hb).2.2; omega), h.2⟩
    | goto t => exact ⟨KeepsFrom.of_tuB h.1 (fun b hb => by have := (hS b hb).2.2; omega), h.2⟩
    | panic v => exact h
    | outgrown => exact h
  · intro D c pre W hD hs hx hk
    exact wpIn_wide.2 (hstop D c pre W hD hs hx hk)
end Go.Proofs.Ytekbdpfiommmbaa
