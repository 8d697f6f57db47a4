/- A net, and two rows of flights beside it (what came in, what came out), that grow. Conditions: told at each. -/
import Derived.Test.YtekbdpfiommmbaaNapp
import Derived.Test.YtekbdpfiommmbaaNst
namespace Go.Proofs.Ytekbdpfiommmbaa
open Go.RowKit Go.Maps
set_option linter.unusedVariables false
set_option linter.unusedSimpArgs false

abbrev Fl := Int × Int × Row
/-- a flight's bytes: nobody's, and in neither row -/
def TBo (w : World) (O : Ow) (vi vo : Value) (t : Fl) (p : Option Addr × Nat) : Prop := Rd w 0 p.1 t.2.2.length t.2.2 ∧ t.2.2.length ≤ 1048576 ∧ ∀ x, p.1 = some x → 0 < t.2.2.length → O x.block = none ∧ vi.ownBlock ≠ some x.block ∧ vo.ownBlock ≠ some x.block
theorem TBo.keep {w w' : World} {O O' : Ow} {vi vo vi' vo' : Value} {t : Fl} {p : Option Addr × Nat} (h : TBo w O vi vo t p)
    (hs : w.heap.size ≤ w'.heap.size) (hk : ∀ k, k < w.heap.size → O k = none → vi.ownBlock ≠ some k → vo.ownBlock ≠ some k → w'.heap[k]? = w.heap[k]? ∧ O' k = none ∧ vi'.ownBlock ≠ some k ∧ vo'.ownBlock ≠ some k) : TBo w' O' vi' vo' t p := by
  obtain ⟨h1, h2, h3⟩ := h
  rcases Nat.eq_zero_or_pos t.2.2.length with h0 | h0
  · exact ⟨⟨h1.1, .inl h0⟩, h2, fun x e hp => by omega⟩
  · obtain ⟨b, off, q1, q2, q3, q4⟩ := h1.pos h0
    obtain ⟨a1, a2, a3⟩ := h3 _ q1 h0
    obtain ⟨k1, k2, k3, k4⟩ := hk b q3 a1 a2 a3
    refine ⟨⟨h1.1, .inr ⟨b, off, q1, q2, by omega, fun i hi => ?_⟩⟩, h2, fun x e hp => ?_⟩
    · rw [World.cell?_of_block (w := w) k1]
      exact q4 i hi
    · rw [q1] at e
      cases e
      exact ⟨k2, k3, k4⟩
theorem TBo.swap {w : World} {O : Ow} {vi vo : Value} {t : Fl} {p : Option Addr × Nat} (h : TBo w O vi vo t p) : TBo w O vo vi t p := ⟨h.1, h.2.1, fun x e hp => ⟨(h.2.2 x e hp).1, (h.2.2 x e hp).2.2, (h.2.2 x e hp).2.1⟩⟩
/-- what is held beside the rows: a flight's bytes, a block -/
inductive Hd where
  | fl (t : Fl) (p : Option Addr × Nat)
  | blk (b : Nat) (ty : TypeId) (cs : Array Value)
def Hd.ok (w : World) (O : Ow) (vi vo : Value) : Hd → Prop
  | .fl t p => TBo w O vi vo t p
  | .blk b ty cs => Blk w b ty cs ∧ O b = none ∧ vi.ownBlock ≠ some b ∧ vo.ownBlock ≠ some b
theorem Hd.keep {w w' : World} {O O' : Ow} {vi vo vi' vo' : Value}
    (hs : w.heap.size ≤ w'.heap.size) (hk : ∀ k, k < w.heap.size → O k = none → vi.ownBlock ≠ some k → vo.ownBlock ≠ some k → w'.heap[k]? = w.heap[k]? ∧ O' k = none ∧ vi'.ownBlock ≠ some k ∧ vo'.ownBlock ≠ some k) : ∀ {x : Hd}, x.ok w O vi vo → x.ok w' O' vi' vo'
  | .fl t p, h => TBo.keep h hs hk
  | .blk b ty cs, ⟨h1, h2, h3, h4⟩ => by
    obtain ⟨k1, k2, k3, k4⟩ := hk b h1.lt h2 h3 h4
    exact ⟨k1.trans h1, k2, k3, k4⟩
theorem Hd.swap {w : World} {O : Ow} {vi vo : Value} : ∀ {x : Hd}, x.ok w O vi vo → x.ok w O vo vi
  | .fl t p, h => TBo.swap h
  | .blk b ty cs, ⟨h1, h2, h3, h4⟩ => ⟨h1, h2, h4, h3⟩
abbrev hds (l : List (Fl × (Option Addr × Nat))) : List Hd := l.map fun x => .fl x.1 x.2
/-- one of the two rows -/
def Hf (w0 w : World) (O : Ow) (vi vo v : Value) (ts : List Fl) (ps : List (Option Addr × Nat)) : Prop :=
  ps.length = ts.length ∧ w.ownsRow w0.heap.size 51 3 v ts.length (flC ts ps) ∧ (∀ b, v.ownBlock = some b → O b = none) ∧ ∀ (i : Nat) (t : Fl) (p : Option Addr × Nat), ts[i]? = some t → ps[i]? = some p → TBo w O vi vo t p
def Bk (w0 w : World) (n : Nat) (g : NC) (vi : Value) (is : List Fl) (vo : Value) (os : List Fl) (hd : List Hd) : Prop :=
  ∃ O fm F pi po, NetX w O n fm F g ∧ (∀ b, Owned O b → w0.heap.size ≤ b) ∧ Ext w0 w ∧ Hf w0 w O vi vo vi is pi ∧ Hf w0 w O vi vo vo os po ∧ (∀ b, vi.ownBlock = some b → vo.ownBlock ≠ some b) ∧ ∀ x ∈ hd, x.ok w O vi vo
section
variable {w0 w w' : World} {n : Nat} {g : NC} {vi vo : Value} {is os : List Fl} {hd : List Hd}
theorem Hf.swap {O : Ow} {v : Value} {ts : List Fl} {ps : List (Option Addr × Nat)} (h : Hf w0 w O vi vo v ts ps) : Hf w0 w O vo vi v ts ps := ⟨h.1, h.2.1, h.2.2.1, fun i t p e1 e2 => (h.2.2.2 i t p e1 e2).swap⟩
theorem Bk.swap (h : Bk w0 w n g vi is vo os hd) : Bk w0 w n g vo os vi is hd := by
  obtain ⟨O, fm, F, pi, po, h1, h2, h3, h4, h5, h6, h7⟩ := h
  exact ⟨O, fm, F, po, pi, h1, h2, h3, h5.swap, h4.swap, fun b e1 e2 => h6 b e2 e1, fun x hx => Hd.swap (h7 x hx)⟩
theorem Hf.keep {O O' : Ow} {v : Value} {ts : List Fl} {ps : List (Option Addr × Nat)} (h : Hf w0 w O vi vo v ts ps) (hs : w.heap.size ≤ w'.heap.size) (hk : ∀ k, k < w.heap.size → O k = none → w'.heap[k]? = w.heap[k]? ∧ O' k = none) : Hf w0 w' O' vi vo v ts ps := by
  obtain ⟨h1, h2, h3, h4⟩ := h
  exact ⟨h1, ownsRow_blk h2 (fun k e => (hk k (h2.lt k e).2 (h3 k e)).1), fun b e => (hk b (h2.lt b e).2 (h3 b e)).2, fun i t p e1 e2 => (h4 i t p e1 e2).keep hs (fun k a1 a2 a3 a4 => ⟨(hk k a1 a2).1, (hk k a1 a2).2, a3, a4⟩)⟩
theorem Bk.ext (h : Bk w0 w n g vi is vo os hd) (hx : Ext w w') : Bk w0 w' n g vi is vo os hd := by
  obtain ⟨O, fm, F, pi, po, h1, h2, h3, h4, h5, h6, h7⟩ := h
  have hk : ∀ k, k < w.heap.size → O k = none → w'.heap[k]? = w.heap[k]? ∧ O k = none := fun k a b => ⟨hx.blk a, b⟩
  exact ⟨O, fm, F, pi, po, h1.ext hx, h2, h3.trans hx, h4.keep hx.size hk, h5.keep hx.size hk, h6, fun x hx' => Hd.keep hx.size (fun k a1 a2 a3 a4 => ⟨(hk k a1 a2).1, a2, a3, a4⟩) (h7 x hx')⟩
theorem Bk.x (h : Bk w0 w n g vi is vo os hd) : Ext w0 w := by
  obtain ⟨O, fm, F, pi, po, h1, h2, h3, h4, h5, h6, h7⟩ := h
  exact h3
/-- the net turns -/
theorem Bk.after {O : Ow} {fm : Nat} {F : DataW Value} {pi po : List (Option Addr × Nat)} {g' : NC} (h1 : NetX w O n fm F g) (h2 : ∀ b, Owned O b → w0.heap.size ≤ b) (h3 : Ext w0 w) (h4 : Hf w0 w O vi vo vi is pi) (h5 : Hf w0 w O vi vo vo os po) (h6 : ∀ b, vi.ownBlock = some b → vo.ownBlock ≠ some b) (h7 : ∀ x ∈ hd, x.ok w O vi vo) (hA : After w w' O n g') : Bk w0 w' n g' vi is vo os hd := by
  obtain ⟨O', ⟨fm', F', a1⟩, a2, a3⟩ := hA
  have hk : ∀ k, k < w.heap.size → O k = none → w'.heap[k]? = w.heap[k]? ∧ O' k = none := fun k a b => ⟨a3.blk k a (by rw [Owned, b]; simp), (a2 k a).trans b⟩
  refine ⟨O', fm', F', pi, po, a1, fun b hb => ?_, a3.ext_of h3 (fun k hk => h2 k hk), h4.keep a3.size hk, h5.keep a3.size hk, h6, fun x hx' => Hd.keep a3.size (fun k a1 a2 a3 a4 => ⟨(hk k a1 a2).1, (hk k a1 a2).2, a3, a4⟩) (h7 x hx')⟩
  by_cases e : b < w.heap.size
  · refine h2 b ?_
    rw [Owned, ← a2 b e]
    exact hb
  · have := h3.size
    omega
/-- one more in the first row -/
theorem Bk.more {O : Ow} {fm : Nat} {F : DataW Value} {pi po : List (Option Addr × Nat)} (h1 : NetX w O n fm F g) (h2 : ∀ b, Owned O b → w0.heap.size ≤ b) (h3 : Ext w0 w) (h4 : Hf w0 w O vi vo vi is pi) (h5 : Hf w0 w O vi vo vo os po) (h6 : ∀ b, vi.ownBlock = some b → vo.ownBlock ≠ some b) (h7 : ∀ x ∈ hd, x.ok w O vi vo)
    {t : Fl} {p : Option Addr × Nat} (ht : TBo w O vi vo t p) {v' : Value} (row : w'.ownsRow w0.heap.size 51 3 v' (is.length + 1) (flC is pi ++ [.int .i64 t.1, .int .i64 t.2.1, .slice p.1 t.2.2.length p.2])) (hg : w.grownBy w' vi.ownBlock) (hloc : v'.ownBlock = vi.ownBlock ∨ v'.ownBlock = some w.heap.size) : Bk w0 w' n g v' (is ++ [t]) vo os hd := by
  have hlt : ∀ k, vi.ownBlock = some k → w0.heap.size ≤ k ∧ k < w.heap.size := fun k e => h4.2.1.lt k e
  have hlo : ∀ k, vo.ownBlock = some k → w0.heap.size ≤ k ∧ k < w.heap.size := fun k e => h5.2.1.lt k e
  have T : Tu (fun k => vi.ownBlock = some k) w w' := Tu.of_grown hg (fun k e => e)
  have hty : ∀ k, vi.ownBlock = some k → ∀ cu z, w.heap[k]? ≠ some (.cells cu 5 z) := by
    intro k e cu z hc
    rcases h4.2.1.2 with ⟨q1, _⟩ | ⟨gb, cap, cur, q1, _, q3, _⟩
    · rw [q1] at e; cases e
    · rw [q1] at e
      cases e
      have q3' : w.heap[gb]? = some (.cells cur 51 (0, 0)) := q3
      rw [q3'] at hc
      cases hc
  have hv' : ∀ k, k < w.heap.size → vi.ownBlock ≠ some k → v'.ownBlock ≠ some k := fun k a b e => by
    rcases hloc with q | q
    · exact b (q ▸ e)
    · rw [q] at e
      cases e
      omega
  have kt : ∀ {t : Fl} {p : Option Addr × Nat}, TBo w O vi vo t p → TBo w' O v' vo t p := fun h => h.keep T.size (fun k a1 a2 a3 a4 => ⟨T.blk k a1 a3, a2, hv' k a1 a3, a4⟩)
  refine ⟨O, fm, F, pi ++ [p], po, h1.off T h4.2.2.1 hty, h2, T.ext_of h3 (fun k e => (hlt k e).1), ⟨by simp [h4.1], ?_, fun b e => ?_, fun i tt pp e1 e2 => ?_⟩, ⟨h5.1, ownsRow_blk h5.2.1 (fun k e => T.blk k (hlo k e).2 (fun e' => h6 k e' e)), h5.2.2.1, fun i tt pp e1 e2 => kt (h5.2.2.2 i tt pp e1 e2)⟩, fun b e1 e2 => ?_, fun x hx => Hd.keep T.size (fun k a1 a2 a3 a4 => ⟨T.blk k a1 a3, a2, hv' k a1 a3, a4⟩) (h7 x hx)⟩
  · rw [flC_snoc _ _ _ _ h4.1, List.length_append]
    exact row
  · rcases hloc with q | q
    · exact h4.2.2.1 b (q ▸ e)
    · rw [q] at e
      cases e
      exact h1.inn.none (Nat.le_refl _)
  · rcases Nat.lt_trichotomy i is.length with hi | hi | hi
    · rw [List.getElem?_append_left hi] at e1
      rw [List.getElem?_append_left (by rw [h4.1]; exact hi)] at e2
      exact kt (h4.2.2.2 i tt pp e1 e2)
    · subst hi
      rw [List.getElem?_append_right (Nat.le_refl _)] at e1
      rw [List.getElem?_append_right (by rw [h4.1]; exact Nat.le_refl _), h4.1] at e2
      simp at e1 e2
      subst e1 e2
      exact kt ht
    · have := (List.getElem?_eq_some_iff.1 e1).1
      simp at this
      omega
  · have := hlo b e2
    exact hv' b this.2 (fun e => h6 b e e2) e1
theorem Bk.hold {hd' : List Hd} (h : Bk w0 w n g vi is vo os hd) (hs : ∀ x ∈ hd', x ∈ hd) : Bk w0 w n g vi is vo os hd' := by
  obtain ⟨O, fm, F, pi, po, h1, h2, h3, h4, h5, h6, h7⟩ := h
  exact ⟨O, fm, F, pi, po, h1, h2, h3, h4, h5, h6, fun x hx => h7 x (hs x hx)⟩
/-- bytes that are told since then, anew -/
theorem Bk.fresh (h : Bk w0 w n g vi is vo os hd) (hx : Ext w w') {ts : List (Fl × (Option Addr × Nat))} (ht : ∀ x ∈ ts, Rd w' w.heap.size x.2.1 x.1.2.2.length x.1.2.2 ∧ x.1.2.2.length ≤ 1048576) : Bk w0 w' n g vi is vo os (hds ts ++ hd) := by
  obtain ⟨O, fm, F, pi, po, h1, h2, h3, h4, h5, h6, h7⟩ := h
  have hk : ∀ k, k < w.heap.size → O k = none → w'.heap[k]? = w.heap[k]? ∧ O k = none := fun k a b => ⟨hx.blk a, b⟩
  refine ⟨O, fm, F, pi, po, h1.ext hx, h2, h3.trans hx, h4.keep hx.size hk, h5.keep hx.size hk, h6, fun x hx' => ?_⟩
  rcases List.mem_append.1 hx' with hx' | hx'
  · obtain ⟨x0, hx0, rfl⟩ := List.mem_map.1 hx'
    obtain ⟨r1, r2⟩ := ht x0 hx0
    refine ⟨r1.low (Nat.zero_le _), r2, fun y e hp => ?_⟩
    obtain ⟨b, off, q1, q2, q3, q4⟩ := r1.pos hp
    rw [q1] at e
    cases e
    refine ⟨h1.inn.none q2, fun e => ?_, fun e => ?_⟩
    · have := (h4.2.1.lt b e).2; omega
    · have := (h5.2.1.lt b e).2; omega
  · exact Hd.keep hx.size (fun k a1 a2 a3 a4 => ⟨(hk k a1 a2).1, a2, a3, a4⟩) (h7 x hx')
/-- a block that was made since -/
theorem Bk.made (h : Bk w0 w n g vi is vo os hd) (hx : Ext w w') {b : Nat} {ty : TypeId} {cs : Array Value} (hb : Blk w' b ty cs) (hlo : w.heap.size ≤ b) : Bk w0 w' n g vi is vo os (.blk b ty cs :: hd) := by
  obtain ⟨O, fm, F, pi, po, h1, h2, h3, h4, h5, h6, h7⟩ := h
  have hk : ∀ k, k < w.heap.size → O k = none → w'.heap[k]? = w.heap[k]? ∧ O k = none := fun k a b => ⟨hx.blk a, b⟩
  refine ⟨O, fm, F, pi, po, h1.ext hx, h2, h3.trans hx, h4.keep hx.size hk, h5.keep hx.size hk, h6, fun x hx' => ?_⟩
  rcases List.mem_cons.1 hx' with rfl | hx'
  · exact ⟨hb, h1.inn.none hlo, fun e => by have := (h4.2.1.lt b e).2; omega, fun e => by have := (h5.2.1.lt b e).2; omega⟩
  · exact Hd.keep hx.size (fun k a1 a2 a3 a4 => ⟨(hk k a1 a2).1, a2, a3, a4⟩) (h7 x hx')
theorem Bk.at_blk (h : Bk w0 w n g vi is vo os hd) {b : Nat} {ty : TypeId} {cs : Array Value} (hm : .blk b ty cs ∈ hd) : Blk w b ty cs := by
  obtain ⟨O, fm, F, pi, po, h1, h2, h3, h4, h5, h6, h7⟩ := h
  exact (h7 _ hm).1
theorem Bk.rd (h : Bk w0 w n g vi is vo os hd) {t : Fl} {p : Option Addr × Nat} (hm : .fl t p ∈ hd) : Rd w 0 p.1 t.2.2.length t.2.2 := by
  obtain ⟨O, fm, F, pi, po, h1, h2, h3, h4, h5, h6, h7⟩ := h
  exact (h7 _ hm).1
/-- bytes that lay there before -/
theorem Bk.old (h : Bk w0 w n g vi is vo os hd) {t : Fl} {p : Option Addr × Nat} (ht : Rd w0 0 p.1 t.2.2.length t.2.2) (hl : t.2.2.length ≤ 1048576) : Bk w0 w n g vi is vo os (.fl t p :: hd) := by
  obtain ⟨O, fm, F, pi, po, h1, h2, h3, h4, h5, h6, h7⟩ := h
  refine ⟨O, fm, F, pi, po, h1, h2, h3, h4, h5, h6, fun x hx' => ?_⟩
  rcases List.mem_cons.1 hx' with rfl | hx'
  · refine ⟨ht.ext h3, hl, fun y e hp => ?_⟩
    obtain ⟨b, off, q1, q2, q3, q4⟩ := ht.pos hp
    have e' : p.1 = some y := e
    rw [q1] at e'
    cases e'
    refine ⟨?_, fun e => ?_, fun e => ?_⟩
    · cases e0 : O b with
      | none => rfl
      | some z =>
        have := h2 b (by rw [Owned, e0]; rfl)
        omega
    · have := (h4.2.1.lt b e).1; omega
    · have := (h5.2.1.lt b e).1; omega
  · exact h7 x hx'
end
end Go.Proofs.Ytekbdpfiommmbaa
