/- A range over a function that tells values made as it goes: what is told holds as it is told. Conditions: told at it. -/
import Derived.Test.YtekbdpfiommmbaaNcopy
import Derived.RangeFuncNested
import Derived.RangeFuncRecord
namespace Go.Proofs.Ytekbdpfiommmbaa
open Go.RowKit Go.Maps
set_option linter.unusedVariables false
set_option linter.unusedSimpArgs false

/-- only blocks from lo on that are no cells turned -/
structure Kc (lo : Nat) (A B : World) : Prop where
  os : B.os = A.os
  tape : B.tape = A.tape
  output : B.output = A.output
  size : A.heap.size ≤ B.heap.size
  blk : ∀ (b : Nat) (o : Obj), A.heap[b]? = some o → (b < lo ∨ o.isCells = true) → B.heap[b]? = some o
theorem Kc.refl (lo : Nat) (A : World) : Kc lo A A := ⟨rfl, rfl, rfl, Nat.le_refl _, fun _ _ h _ => h⟩
theorem Kc.trans {lo : Nat} {A B C : World} (h : Kc lo A B) (k : Kc lo B C) : Kc lo A C := ⟨k.os.trans h.os, k.tape.trans h.tape, k.output.trans h.output, Nat.le_trans h.size k.size, fun b o h1 h2 => k.blk b o (h.blk b o h1 h2) h2⟩
theorem Kc.of_ext {lo : Nat} {A B : World} (x : Ext A B) : Kc lo A B := ⟨x.os, x.tape, x.output, x.size, fun b o h _ => (x.blk (Array.getElem?_eq_some_iff.1 h).1).trans h⟩
theorem Kc.of_grown {lo : Nat} {A B : World} {row : Option Nat} (x : A.grownBy B row) (h : ∀ r, row = some r → lo ≤ r ∧ ∃ o : Obj, A.heap[r]? = some o ∧ o.isCells = false) : Kc lo A B := by
  refine ⟨x.os, x.tape, x.output, x.size, fun b o hb hc => ?_⟩
  refine (x.block b (Array.getElem?_eq_some_iff.1 hb).1 (fun e => ?_)).trans hb
  obtain ⟨h1, o', h2, h3⟩ := h b e.symm
  rw [hb] at h2
  cases h2
  rcases hc with hc | hc
  · omega
  · rw [h3] at hc; cases hc
theorem Kc.low {lo lo' : Nat} {A B : World} (h : Kc lo A B) (hl : lo' ≤ lo) : Kc lo' A B := ⟨h.os, h.tape, h.output, h.size, fun b o h1 h2 => h.blk b o h1 (h2.imp (fun e => by omega) id)⟩
theorem Kc.of_put {lo : Nat} {A : World} {l : Nat} {o o' : Obj} (h : A.heap[l]? = some o) (hc : o.isCells = false) (hl : lo ≤ l) : Kc lo A (A.putObj l o') :=
  Kc.of_grown (grownBy_putObj' A l o') (by rintro r e; cases e; exact ⟨hl, o, h, hc⟩)
theorem Blk.kc {lo : Nat} {A B : World} {b : Nat} {t : TypeId} {cs : Array Value} (h : Blk A b t cs) (k : Kc lo A B) : Blk B b t cs := k.blk b _ h (.inr rfl)

/-- the contract of such a function: x is told where it is so: G x W1; what a round keeps may speak of where the call began -/
def SeqStopsG {α : Type} (n : Nat) (P : Program) (g : Nat) (lb : Array Value) (encs : α → Array Value) (Kp : Nat → World → World → Prop) (G : α → World → Prop) (S Sp : List α → Prop) (N : Nat) (w : World) : Prop :=
  ∀ (l : Nat) (J Jx : List α → World → Prop) (W : World), Ext w W → l < W.heap.size → (∀ pre A B, J pre A → Kc W.heap.size A B → J pre B) → (∀ pre A B, Jx pre A → Kc W.heap.size A B → Jx pre B) →
    (∀ pre x W1, W.heap.size ≤ W1.heap.size → J pre W1 → G x W1 → pre.length < N → YieldAt Fence.wide (n - 1) P l (encs x) W1 fun e W' =>
      (e = .returned (.bool true) ∧ J (pre ++ [x]) W' ∧ Kp W.heap.size W1 W') ∨ (e = .returned (.bool false) ∧ Jx (pre ++ [x]) W' ∧ Kp W.heap.size W1 W')) →
    J [] W →
    CallsIn Fence.wide n P g (#[.func (.yield l) #[] #[]] ++ lb) W fun e W' => (∃ v, e = .returned v) ∧ ((∃ xs, S xs ∧ J xs W') ∨ (∃ pre, Sp pre ∧ Jx pre W'))
/-- how a round may end -/
def bodyG {α : Type} (lo : Nat) (Kp : World → World → Prop) (I : List α → World → Prop) (Ix' : Code → List α → World → Prop) (xs : List α) (W : World) : Exit → Act → World → Prop
  | .normal, _, W' => KeepsFrom lo W W' ∧ Kp W W' ∧ I xs W'
  | .ret, _, W' => KeepsFrom lo W W' ∧ Kp W W' ∧ Ix' .ret xs W'
  | .exit id, _, W' => KeepsFrom lo W W' ∧ Kp W W' ∧ Ix' (.exit id) xs W'
  | .goto t, _, W' => KeepsFrom lo W W' ∧ Kp W W' ∧ Ix' (.goto t) xs W'
  | .panic _, _, _ => False
  | .outgrown, _, _ => False
theorem Kc.to_keeps {lo : Nat} {A B : World} (x : Ext A B) : KeepsFrom lo A B := ⟨x.size, fun k o _ h _ => (x.blk (Array.getElem?_eq_some_iff.1 h).1).trans h⟩

theorem range_told {α : Type} {P : Program} {n : Nat} {g : Operand} {ps : Array Tmp} {assign body : Code} {Q : Exit → Act → World → Prop} {a : Act} {w w0 : World} (h1 : 1 ≤ n)
    {gf : Nat} {lb : Array Value} (hg : a.eval g = .func (.func gf) #[] lb) (eg : ∀ args w, (callFunc gf args).run P w = .ok (.enter gf args) w)
    {encs : α → Array Value} {Kp : Nat → World → World → Prop} {G : α → World → Prop} {S Sp : List α → Prop} {N : Nat} (hseq : SeqStopsG (n - 1) P gf lb encs Kp G S Sp N w0) (hx0 : Ext w0 w) (hps : ∀ x, (encs x).size = ps.size)
    (hKt : ∀ {B : Nat} {A A' A'' : World}, Kp B A A' → Kp B A' A'' → Kp B A A'') (hKb : ∀ (B : Nat) (A : World) (l : Nat) (o o' : Obj), A.heap[l]? = some o → o.isCells = false → w.heap.size ≤ l → l < B → Kp B A (A.putObj l o')) (hKx : ∀ (B : Nat) (A A' : World), Ext A A' → Kp B A A')
    (I : List α → World → Prop) (Ix' : Code → List α → World → Prop) (hI : ∀ pre A B, I pre A → Kc w.heap.size A B → I pre B) (hIx : ∀ c pre A B, Ix' c pre A → Kc w.heap.size A B → Ix' c pre B) (hG : ∀ x A B, G x A → Kc w.heap.size A B → G x B)
    (h0 : I [] w) (Ax : α → Act → World → Prop) (hAx : ∀ x a' A B, Ax x a' A → Kc w.heap.size A B → Ax x a' B)
    (hassign : ∀ (l : Nat) (pre : List α) (x : α) (W : World) (K : Act → World → Prop), I pre W → G x W → (∀ a' W', Ext W W' → Ax x a' W' → K a' W') →
      assign.wpIn (Rd_ l) (n - 1 - 1) P (Exit.then K (fun _ _ _ => False)) { tmps := (ps.zip (encs x)).foldl (fun t (p, v) => t.setIfInBounds p v) a.tmps, defers := [] } W)
    (hbody : ∀ (B l : Nat) (pre : List α) (x : α) (a' : Act) (W : World), w.heap.size + 1 < B → B ≤ W.heap.size → I pre W → G x W → Ax x a' W → pre.length < N → body.wpIn (Rd_ l) (n - 1 - 1) P (bodyG w.heap.size (Kp B) I Ix' (pre ++ [x]) W) a' W)
    (hdone : ∀ (D : Nat) (xs : List α) (W : World), w.heap.size ≤ D → S xs → I xs W → W.heap[D]? = some (.deferred (some [])) → Q .normal { a with defers := { target := .collected D, args := #[] } :: a.defers } W)
    (hstop : ∀ (D : Nat) (c : Code) (pre : List α) (W : World), w.heap.size ≤ D → Sp pre → Ix' c pre W → W.heap[D]? = some (.deferred (some [])) → c.wp P Q { a with defers := { target := .collected D, args := #[] } :: a.defers } W) :
    (Code.rangeFunc g ps assign body).wp P Q a w := by
  refine wpIn_wide.1 (wpIn_rangeFunc (F := Fence.wide) (n := n) ?_)
  intro fn hfn
  obtain ⟨D, hD⟩ : ∃ D, w.heap.size = D := ⟨_, rfl⟩
  obtain ⟨rec, hrec⟩ : ∃ rec : LoopState → Option Code → Loop, rec = fun st pe => { state := st, pending := pe, fn, tmps := a.tmps, params := ps, assign, body, defers := w.heap.size } := ⟨_, rfl⟩
  obtain ⟨W1, hW1⟩ : ∃ W1, (w.alloc (.deferred (some []))).alloc (.loop (rec .ready none)) = W1 := ⟨_, rfl⟩
  have hx1 : Ext w W1 := by rw [← hW1]; exact ((Ext.refl w).alloc _).alloc _
  have hs1 : W1.heap.size = w.heap.size + 1 + 1 := by rw [← hW1]; simp only [World.size_alloc]
  have hL1 : W1.heap[w.heap.size + 1]? = some (.loop (rec .ready none)) := by
    rw [← hW1]
    have := World.alloc_heap_new (w.alloc (.deferred (some []))) (.loop (rec .ready none))
    rwa [World.size_alloc] at this
  have hK1 : W1.heap[w.heap.size]? = some (.deferred (some [])) := by
    have hx2 : Ext (w.alloc (.deferred (some []))) W1 := by rw [← hW1]; exact (Ext.refl _).alloc _
    exact (hx2.blk (by simp only [World.size_alloc]; omega)).trans (World.alloc_heap_new w _)
  refine ⟨w.heap.size + 1, [{ target := .collected w.heap.size, args := #[] }], W1, { target := .fn (.func gf) lb, args := #[.func (.yield (w.heap.size + 1)) #[] #[]] }, W1, gf, #[.func (.yield (w.heap.size + 1)) #[] #[]] ++ lb, W1, ?_, ?_, fun _ _ => trivial, ?_, fun _ => h1, ?_⟩
  · rw [← hW1, hrec]
    exact run_enterLoop_outer _ _ _ _ _
  · simp only [resolve, hg]
    simp [go_sem]
  · simp [invoke, go_sem, eg]
  · refine (hseq (w.heap.size + 1)
      (fun pre W => I pre W ∧ W.heap[w.heap.size + 1]? = some (.loop (rec .ready none)) ∧ W.heap[w.heap.size]? = some (.deferred (some [])))
      (fun pre W => ∃ c, Ix' c pre W ∧ W.heap[w.heap.size + 1]? = some (.loop (rec .done (some c))) ∧ W.heap[w.heap.size]? = some (.deferred (some [])))
      W1 (hx0.trans hx1) (by omega)
      (fun pre A B ⟨q1, q2, q3⟩ k => ⟨hI pre A B q1 (k.low hx1.size), k.blk _ _ q2 (.inl (by omega)), k.blk _ _ q3 (.inl (by omega))⟩)
      (fun pre A B ⟨c, q1, q2, q3⟩ k => ⟨c, hIx c pre A B q1 (k.low hx1.size), k.blk _ _ q2 (.inl (by omega)), k.blk _ _ q3 (.inl (by omega))⟩)
      ?_ ⟨hI _ _ _ h0 (Kc.of_ext hx1), hL1, hK1⟩).mono ?_
    · rintro pre x W hWs ⟨hi, hl, hk⟩ hGx hlen
      have hy := run_yield (P := P) (args := encs x) hl (by rw [hrec]; exact hps x)
      rw [hrec] at hy
      refine ⟨fn, _, assign, body, hy, roundIn_of_wpIn trivial (hassign _ pre x W _ hi hGx ?_)⟩
      clear hy
      intro a' Wa hxa hax
      have hla := (hxa.blk (Array.getElem?_eq_some_iff.1 hl).1).trans hl
      have hka := (hxa.blk (Array.getElem?_eq_some_iff.1 hk).1).trans hk
      refine ⟨_, run_beginRound hla (by rw [hrec]), ?_⟩
      obtain ⟨Wb, hWb⟩ : ∃ Wb, Wa.putObj (w.heap.size + 1) (.loop { rec .ready none with state := .busy }) = Wb := ⟨_, rfl⟩
      rw [hWb]
      have kb : Kc w.heap.size Wa Wb := by rw [← hWb]; exact Kc.of_put hla rfl (by omega)
      have kab := (Kc.of_ext (lo := w.heap.size) hxa).trans kb
      have hlb : Wb.heap[w.heap.size + 1]? = some (.loop { rec .ready none with state := .busy }) := by rw [← hWb]; exact World.putObj_heap_same (Array.getElem?_eq_some_iff.1 hla).1
      have hkb : Wb.heap[w.heap.size]? = some (.deferred (some [])) := by rw [← hWb]; exact (World.putObj_heap_other (by omega)).trans hka
      have pb : Kp W1.heap.size W Wb := hKt (hKx _ _ _ hxa) (by rw [← hWb]; exact hKb _ _ _ _ _ hla rfl (by omega) (by omega))
      have hsb : W.heap.size ≤ Wb.heap.size := kab.size
      refine wpIn_mono (hbody W1.heap.size _ pre x a' Wb (by omega) (by omega) (hI _ _ _ hi kab) (hG _ _ _ hGx kab) (hAx _ _ _ _ hax kb) hlen) ?_
      have fin : ∀ (jump : Option Code) (W3 : World), KeepsFrom w.heap.size Wb W3 → ∃ W4, (Instr.endRound (w.heap.size + 1) jump).run P W3 = .ok (.bool jump.isNone) W4 ∧ Kc w.heap.size W3 W4 ∧ Kp W1.heap.size W3 W4 ∧
          W4.heap[w.heap.size + 1]? = some (.loop (rec (if jump.isNone then .ready else .done) jump)) ∧ W4.heap[w.heap.size]? = some (.deferred (some [])) := fun jump W3 hk3 => by
        have hl3 := hk3.same _ _ (by omega) hlb rfl
        have hd3 := hk3.same _ _ (Nat.le_refl _) hkb rfl
        refine ⟨_, run_endRound jump hl3, Kc.of_put hl3 rfl (by omega), hKb _ _ _ _ _ hl3 rfl (by omega) (by omega), ?_, (World.putObj_heap_other (by omega)).trans hd3⟩
        rw [World.putObj_heap_same (Array.getElem?_eq_some_iff.1 hl3).1, hrec]
      rintro e a3 W3 hp
      cases e with
      | normal =>
        obtain ⟨hk3, hp3, hi3⟩ := hp
        obtain ⟨W4, hr, k4, p4, hl4, hd4⟩ := fin none W3 hk3
        exact ⟨_, _, hr, .inl ⟨rfl, ⟨hI _ _ _ hi3 k4, hl4, hd4⟩, hKt pb (hKt hp3 p4)⟩⟩
      | ret =>
        obtain ⟨hk3, hp3, hi3⟩ := hp
        obtain ⟨W4, hr, k4, p4, hl4, hd4⟩ := fin (some .ret) W3 hk3
        exact ⟨_, _, hr, .inr ⟨rfl, ⟨.ret, hIx _ _ _ _ hi3 k4, hl4, hd4⟩, hKt pb (hKt hp3 p4)⟩⟩
      | exit id =>
        obtain ⟨hk3, hp3, hi3⟩ := hp
        obtain ⟨W4, hr, k4, p4, hl4, hd4⟩ := fin (some (.exit id)) W3 hk3
        exact ⟨_, _, hr, .inr ⟨rfl, ⟨.exit id, hIx _ _ _ _ hi3 k4, hl4, hd4⟩, hKt pb (hKt hp3 p4)⟩⟩
      | goto t =>
        obtain ⟨hk3, hp3, hi3⟩ := hp
        obtain ⟨W4, hr, k4, p4, hl4, hd4⟩ := fin (some (.goto t)) W3 hk3
        exact ⟨_, _, hr, .inr ⟨rfl, ⟨.goto t, hIx _ _ _ _ hi3 k4, hl4, hd4⟩, hKt pb (hKt hp3 p4)⟩⟩
      | panic ch => exact hp.elim
      | outgrown => exact hp.elim
    · rintro e W2 ⟨⟨v, rfl⟩, ⟨xs, hS, hi, hl, hk⟩ | ⟨pre, hSp, c, hi, hl, hk⟩⟩
      · have he := run_endLoop (P := P) hl (by rw [hrec]; simp)
        rw [show (rec .ready none).pending = none by rw [hrec]] at he
        exact ⟨none, _, he, hdone _ xs _ (Nat.le_refl _) hS (hI _ _ _ hi (Kc.of_put hl rfl (by omega))) ((World.putObj_heap_other (by omega)).trans hk)⟩
      · have he := run_endLoop (P := P) hl (by rw [hrec]; simp)
        rw [show (rec .done (some c)).pending = some c by rw [hrec]] at he
        exact ⟨some c, _, he, wpIn_wide.2 (hstop _ c pre _ (Nat.le_refl _) hSp (hIx _ _ _ _ hi (Kc.of_put hl rfl (by omega))) ((World.putObj_heap_other (by omega)).trans hk))⟩
