/- A range over a disk's files. Conditions: the function is one that Files has made; the body writes below lo only, and what is new. -/
import Derived.Test.YtenmdhdloibemaaIter
import Derived.Test.YtenmdhdloibemaaRound
import Derived.RangeFuncWrites
namespace Go.Proofs.Ytenmdhdloibemaa
open Go.RowKit Go.Maps Go.Sort Go.Shelf
set_option linter.unusedVariables false
set_option linter.unusedSimpArgs false

theorem Upto.back {n k : Nat} {pre : List (Ix n)} {x : Ix n} (h : Upto (pre ++ [x]) k) : Upto pre pre.length ∧ x.1 = pre.length ∧ k = pre.length + 1 := by
  have hk := h.len
  simp only [List.length_append, List.length_cons, List.length_nil] at hk
  rw [Upto, List.map_append, ← hk, List.range_succ] at h
  have := List.append_inj h (by simp)
  exact ⟨this.1, by simpa using this.2, hk.symm⟩
theorem Upto.nil (n : Nat) : Upto ([] : List (Ix n)) 0 := rfl

theorem calls_of_marks {P : Program} {f : FuncId} {fn : Func} {c : Code} {args : Array Value} {w : World} {R : Ending → World → Prop} (hf : P.funcs[f]? = some fn) (hb : fn.body = some c)
    (h : c.wp P (bodyPostM Fence.wide 1 P fn R) { tmps := args ++ Array.replicate (fn.ntmps - args.size) undef, defers := [] } w) : Calls P f args w R :=
  callsIn_wide.1 (callsIn_of_wp_marks (n := 1) hf hb trivial (wpIn_wide.2 h))
/-- how a body may be left -/
def bodyP {n : Nat} (lo : Nat) (I : List (Ix n) → World → Prop) (Ix' : Code → List (Ix n) → World → Prop) (xs : List (Ix n)) (W : World) : Exit → Act → World → Prop
  | .normal, _, W' => Tu (fun b => b < lo) W W' ∧ I xs W'
  | .ret, _, W' => Tu (fun b => b < lo) W W' ∧ Ix' .ret xs W'
  | .exit id, _, W' => Tu (fun b => b < lo) W W' ∧ Ix' (.exit id) xs W'
  | .goto t, _, W' => Tu (fun b => b < lo) W W' ∧ Ix' (.goto t) xs W'
  | .panic _, _, _ => False
  | .outgrown, _, _ => False

theorem KpF.of_tu {lo hi : Nat} {W W' : World} (t : Tu (fun b => b < lo) W W') (h : hi ≤ W.heap.size) : KpF lo hi W W' := ⟨t.size, fun b h1 h2 => t.blk b (by omega) (by omega)⟩
theorem KeepsFrom.of_tu {lo B : Nat} {W W' : World} (t : Tu (fun b => b < lo) W W') (h : lo ≤ B) : KeepsFrom B W W' :=
  ⟨t.size, fun k o hB hk _ => (t.blk k (Array.getElem?_eq_some_iff.1 hk).1 (by omega)).trans hk⟩
theorem Tu.of_from {W W' : World} {row : Option Nat} {B : Nat} (hg : W.grownBy W' row) (hr : ∀ r, row = some r → B ≤ r ∧ ∃ o : Obj, W.heap[r]? = some o ∧ o.isCells = false) : Tu (fun b => B ≤ b) W W' := Tu.of_grown hg fun k e => (hr k e).1

theorem range_files {p1 p2 : Tmp} {assign body : Code} {Q : Exit → Act → World → Prop} {a : Act} {w w0 : World} {g : Operand} {bn bc lo : Nat} {ns : List Nm} {cs : List Nat}
    (hF : FilesFn w0 bn bc ns cs lo) (hcs : cs.length = ns.length) (hl : ns.length ≤ 32) (hb0 : Ext w0 w) (hlo : lo ≤ w0.heap.size) (hg : a.eval g = filesV bn bc)
    (I : List (Ix ns.length) → World → Prop) (Ix' : Code → List (Ix ns.length) → World → Prop) (hw : ∀ pre W, I pre W → w.heap.size ≤ W.heap.size)
    (hI : ∀ pre W W', I pre W → Tu (fun b => w.heap.size ≤ b) W W' → I pre W') (hIx : ∀ c pre W W', Ix' c pre W → Tu (fun b => w.heap.size ≤ b) W W' → Ix' c pre W')
    (h0 : I [] w) (a₁ : Ix ns.length → Act)
    (hassign : ∀ (l : Nat) (x : Ix ns.length) (W : World) (K : Act → World → Prop), K (a₁ x) W →
      assign.wpIn (Rd_ l) (1 - 1 - 1) Try.prog (Exit.then K (fun _ _ _ => False)) { tmps := (a.tmps.setIfInBounds p1 (nv ns[x.1])).setIfInBounds p2 (.int .i64 ((cs.getD x.1 0 : Nat) : Int)), defers := [] } W)
    (hbody : ∀ (l : Nat) (pre : List (Ix ns.length)) (x : Ix ns.length) (W : World), I pre W → pre.length < ns.length → body.wpIn (Rd_ l) (1 - 1 - 1) Try.prog (bodyP lo I Ix' (pre ++ [x]) W) (a₁ x) W)
    (hdone : ∀ (D : Nat) (xs : List (Ix ns.length)) (W : World), w.heap.size ≤ D → Upto xs ns.length → I xs W → W.heap[D]? = some (.deferred (some [])) → Q .normal { a with defers := { target := .collected D, args := #[] } :: a.defers } W)
    (hstop : ∀ (D : Nat) (c : Code) (pre : List (Ix ns.length)) (W : World), w.heap.size ≤ D → (∃ k, k ≤ ns.length ∧ Upto pre k) → Ix' c pre W → W.heap[D]? = some (.deferred (some [])) → c.wp Try.prog Q { a with defers := { target := .collected D, args := #[] } :: a.defers } W) :
    (Code.rangeFunc g #[p1, p2] assign body).wp Try.prog Q a w := by
  have hz := hb0.size
  refine wpIn_wide.1 (wpIn_rangeFunc_ownG (n := 1) rfl (Nat.le_refl _) (gf := 48) (lb := #[fptr bn, fptr bc]) (by rw [hg]) trivial (enters_of Try.func48 (by kernel_rfl) rfl)
    (filesIt (1 - 1) w0 bn bc ns cs lo hF hcs hl) KpF.trans ?_ hb0 (fun _ => rfl) I Ix' ?_ ?_ h0 a₁ ?_ ?_ hdone ?_)
  · intro W l o o' hl' _ _ _
    have g' := grownBy_putObj' W l o'
    exact ⟨g'.size, fun b h1 h2 => by
      by_cases hb : b < W.heap.size
      · exact g'.block b hb (by simp; omega)
      · have : (W.putObj l o').heap.size = W.heap.size := by simp
        rw [Array.getElem?_eq_none (by omega), Array.getElem?_eq_none (by omega)]⟩
  · intro s A B row hs hgr hr
    exact hI s A B hs (Tu.of_from hgr hr)
  · intro c s A B row hs hgr hr
    exact hIx c s A B hs (Tu.of_from hgr hr)
  · intro l x W K hK
    have e : (#[p1, p2].zip (encF ns cs x)).foldl (fun t (p, v) => t.setIfInBounds p v) a.tmps = (a.tmps.setIfInBounds p1 (nv ns[x.1])).setIfInBounds p2 (.int .i64 ((cs.getD x.1 0 : Nat) : Int)) := by
      simp [encF]
    rw [e]
    exact hassign l x W K hK
  · intro l pre x W hi hlt
    have hWs := hw pre W hi
    refine wpIn_mono (hbody l pre x W hi hlt) ?_
    intro e a' W' h
    cases e with
    | normal => exact ⟨KeepsFrom.of_tu h.1 (by omega), KpF.of_tu h.1 (by omega), h.2⟩
    | ret => exact ⟨KeepsFrom.of_tu h.1 (by omega), h.2⟩
    | exit id => exact ⟨KeepsFrom.of_tu h.1 (by omega), h.2⟩
    | goto t => exact ⟨KeepsFrom.of_tu h.1 (by omega), h.2⟩
    | panic v => exact h
    | outgrown => exact h
  · intro D c pre W hD hs hx hk
    exact wpIn_wide.2 (hstop D c pre W hD hs hx hk)
end Go.Proofs.Ytenmdhdloibemaa
