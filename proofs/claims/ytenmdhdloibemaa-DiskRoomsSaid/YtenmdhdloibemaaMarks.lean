/- A range over a disk's files whose body writes what S tells; leaving with marks. Conditions: told at each. -/
import Derived.Test.YtenmdhdloibemaaRange
namespace Go.Proofs.Ytenmdhdloibemaa
open Go.RowKit Go.Maps Go.Sort Go.Shelf
set_option linter.unusedVariables false
set_option linter.unusedSimpArgs false

def bodyB {n : Nat} (S : Nat → Prop) (I : List (Ix n) → World → Prop) (Ix' : Code → List (Ix n) → World → Prop) (xs : List (Ix n)) (W : World) : Exit → Act → World → Prop
  | .normal, _, W' => Tu S W W' ∧ I xs W'
  | .ret, _, W' => Tu S W W' ∧ Ix' .ret xs W'
  | .exit id, _, W' => Tu S W W' ∧ Ix' (.exit id) xs W'
  | .goto t, _, W' => Tu S W W' ∧ Ix' (.goto t) xs W'
  | .panic _, _, _ => False
  | .outgrown, _, _ => False
theorem KpF.of_tuB {S : Nat → Prop} {lo hi : Nat} {W W' : World} (t : Tu S W W') (h : hi ≤ W.heap.size) (hS : ∀ b, S b → b < lo ∨ hi ≤ b) : KpF lo hi W W' := ⟨t.size, fun b h1 h2 => t.blk b (by omega) (fun hb => by have := hS b hb; omega)⟩
theorem KeepsFrom.of_tuB {S : Nat → Prop} {B : Nat} {W W' : World} (t : Tu S W W') (h : ∀ b, S b → b < B) : KeepsFrom B W W' :=
  ⟨t.size, fun k o hB hk _ => (t.blk k (Array.getElem?_eq_some_iff.1 hk).1 (fun hb => by have := h k hb; omega)).trans hk⟩

/-- the marks that ranges leave -/
def marks (Ds : List Nat) : List Deferred := Ds.map fun D => { target := .collected D, args := #[] }
theorem leaves_marks {F : Fence} {n : Nat} {fn : Func} {tmps : Array Value} {R : Ending → World → Prop} : ∀ (Ds : List Nat) (W : World), Ds.Nodup → (∀ D ∈ Ds, W.heap[D]? = some (.deferred (some []))) →
    (∀ W', Tu (fun b => b ∈ Ds) W W' → LeavesIn F n Try.prog fn tmps R [] .returning W') → LeavesInM F n Try.prog fn tmps R (marks Ds) .returning W
  | [], W, _, _, h => h W (Tu.refl _ _)
  | D :: Ds, W, hd, hm, h => by
    obtain ⟨h1, h2⟩ := List.nodup_cons.1 hd
    have t8 : Tu (fun b => b = D) W (W.putObj D (.deferred none)) := Tu.of_grown (grownBy_putObj' W D (.deferred none)) (by rintro k e; cases e; rfl)
    refine ⟨by simp, .inl ⟨D, _, rfl, run_takeDeferred (hm D (by simp)), leaves_marks Ds _ h2 (fun E hE => ?_) (fun W' t => h W' ?_)⟩⟩
    · have hk := hm E (by simp [hE])
      exact (t8.blk E (Array.getElem?_eq_some_iff.1 hk).1 (fun e => h1 (e ▸ hE))).trans hk
    · exact (t8.mono (fun b e => by simp [e])).trans (t.mono (fun b hb => by simp [hb]))

theorem range_filesB (S : Nat → Prop) {p1 p2 : Tmp} {assign body : Code} {Q : Exit → Act → World → Prop} {a : Act} {w w0 : World} {g : Operand} {bn bc lo : Nat} {ns : List Nm} {cs : List Nat}
    (hF : FilesFn w0 bn bc ns cs lo) (hcs : cs.length = ns.length) (hl : ns.length ≤ 32) (hb0 : Ext w0 w) (hlo : lo ≤ w0.heap.size) (hS : ∀ b, S b → b < w.heap.size ∧ (b < lo ∨ w0.heap.size ≤ b)) (hg : a.eval g = filesV bn bc)
    (I : List (Ix ns.length) → World → Prop) (Ix' : Code → List (Ix ns.length) → World → Prop) (hw : ∀ pre W, I pre W → w.heap.size ≤ W.heap.size)
    (hI : ∀ pre W W', I pre W → Tu (fun b => w.heap.size ≤ b) W W' → I pre W') (hIx : ∀ c pre W W', Ix' c pre W → Tu (fun b => w.heap.size ≤ b) W W' → Ix' c pre W')
    (h0 : I [] w) (a₁ : Ix ns.length → Act)
    (hassign : ∀ (l : Nat) (x : Ix ns.length) (W : World) (K : Act → World → Prop), K (a₁ x) W →
      assign.wpIn (Rd_ l) (1 - 1 - 1) Try.prog (Exit.then K (fun _ _ _ => False)) { tmps := (a.tmps.setIfInBounds p1 (nv ns[x.1])).setIfInBounds p2 (.int .i64 ((cs.getD x.1 0 : Nat) : Int)), defers := [] } W)
    (hbody : ∀ (l : Nat) (pre : List (Ix ns.length)) (x : Ix ns.length) (W : World), I pre W → pre.length < ns.length → body.wpIn (Rd_ l) (1 - 1 - 1) Try.prog (bodyB S I Ix' (pre ++ [x]) W) (a₁ x) W)
    (hdone : ∀ (D : Nat) (xs : List (Ix ns.length)) (W : World), w.heap.size ≤ D → Upto xs ns.length → I xs W → W.heap[D]? = some (.deferred (some [])) → Q .normal { a with defers := { target := .collected D, args := #[] } :: a.defers } W)
    (hstop : ∀ (D : Nat) (c : Code) (pre : List (Ix ns.length)) (W : World), w.heap.size ≤ D → (∃ k, k ≤ ns.length ∧ Upto pre k) → Ix' c pre W → W.heap[D]? = some (.deferred (some [])) → c.wp Try.prog Q { a with defers := { target := .collected D, args := #[] } :: a.defers } W) :
    (Code.rangeFunc g #[p1, p2] assign body).wp Try.prog Q a w := by
  have hz := hb0.size
  refine wpIn_wide.1 (wpIn_rangeFunc_ownG (n := 1) rfl (Nat.le_refl _) (gf := 48) (lb := #[fptr bn, fptr bc]) (by rw [hg]) trivial (enters_of Try.func48 (by kernel_rfl) rfl)
    (filesIt (1 - 1) w0 bn bc ns cs lo hF hcs hl) KpF.trans ?_ hb0 (fun _ => rfl) I Ix' ?_ ?_ h0 a₁ ?_ ?_ hdone ?_)
  · intro W l o o' hl' _ _ _
    have g' := grownBy_putObj' W l o'
    exact ⟨g'.size, fun b h1 h2 => by
      by_cases hb : b < W.heap.size
      · exact g'.block b hb (by simp; omega)
      · have : (W.putObj l o').heap.size = W.heap.size := by simp
        rw [Array.getElem?_eq_none (by omega), Array.getElem?_eq_none (by omega)]⟩
  · intro s A B row hs hgr hr
    exact hI s A B hs (Tu.of_from hgr hr)
  · intro c s A B row hs hgr hr
    exact hIx c s A B hs (Tu.of_from hgr hr)
  · intro l x W K hK
    have e : (#[p1, p2].zip (encF ns cs x)).foldl (fun t (p, v) => t.setIfInBounds p v) a.tmps = (a.tmps.setIfInBounds p1 (nv ns[x.1])).setIfInBounds p2 (.int .i64 ((cs.getD x.1 0 : Nat) : Int)) := by
      simp [encF]
    rw [e]
    exact hassign l x W K hK
  · intro l pre x W hi hlt
    have hWs := hw pre W hi
    refine wpIn_mono (hbody l pre x W hi hlt) ?_
    intro e a' W' h
    cases e with
    | normal => exact ⟨KeepsFrom.of_tuB h.1 (fun b hb => by have := (hS b hb).1; omega), KpF.of_tuB h.1 (by omega) (fun b hb => by have := (hS b hb).2; omega), h.2⟩
    | ret => exact ⟨KeepsFrom.of_tuB h.1 (fun b hb => by have := (hS b hb).1; omega), h.2⟩
    | exit id => exact ⟨KeepsFrom.of_tuB h.1 (fun b hb => by have := (hS b hb).1; omega), h.2⟩
    | goto t => exact ⟨KeepsFrom.of_tuB h.1 (fun b hb => by have := (hS b hb).1; omega), h.2⟩
    | panic v => exact h
    | outgrown => exact h
  · intro D c pre W hD hs hx hk
    exact wpIn_wide.2 (hstop D c pre W hD hs hx hk)
end Go.Proofs.Ytenmdhdloibemaa
