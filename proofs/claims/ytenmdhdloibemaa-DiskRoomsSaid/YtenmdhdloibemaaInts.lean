/- Slices of ints, and of names, that read as lists. Conditions: none. -/
import Derived.Test.YtenmdhdloibemaaDk
import Derived.Test.YtenmdhdloibemaaShelf
namespace Go.Proofs.Ytenmdhdloibemaa
open Go.RowKit Go.Maps Go.Sort
set_option linter.unusedVariables false

/-- The slice at A of n elements reads as the values vs. -/
def RdV (w : World) (A : Option Addr) (n : Nat) (vs : List Value) : Prop :=
  vs.length = n ∧ (n = 0 ∨ ∃ b off, A = some ⟨b, off, none⟩ ∧ b < w.heap.size ∧ ∀ i (h : i < vs.length), w.cell? ⟨b, off + i, none⟩ = some vs[i])
def iv (ps : List Int) : List Value := ps.map fun p => .int .i64 p
def RdI (w : World) (A : Option Addr) (n : Nat) (ps : List Int) : Prop := RdV w A n (iv ps) ∧ ∀ p ∈ ps, (Lit.int .i64 p).wf = true
section
variable {w w' : World} {A : Option Addr} {n : Nat} {vs : List Value} {ps : List Int}
theorem RdV.pos (h : RdV w A n vs) (hn : 0 < n) : ∃ b off, A = some ⟨b, off, none⟩ ∧ b < w.heap.size ∧ ∀ i (h : i < vs.length), w.cell? ⟨b, off + i, none⟩ = some vs[i] := by
  rcases h.2 with h0 | h0
  · omega
  · exact h0
theorem RdV.keep (h : RdV w A n vs) (hs : w.heap.size ≤ w'.heap.size) (hk : ∀ a, A = some a → a.block < w.heap.size → w'.heap[a.block]? = w.heap[a.block]?) : RdV w' A n vs := by
  refine ⟨h.1, ?_⟩
  rcases h.2 with h0 | ⟨b, off, rfl, h2, h3⟩
  · exact .inl h0
  · exact .inr ⟨b, off, rfl, by omega, fun i hi => (World.cell?_of_block (w := w) (w' := w') (a := ⟨b, off + i, none⟩) (hk ⟨b, off, none⟩ rfl h2)).trans (h3 i hi)⟩
theorem RdV.keepP (h : RdV w A n vs) (hs : w.heap.size ≤ w'.heap.size) (hk : 0 < n → ∀ a, A = some a → a.block < w.heap.size → w'.heap[a.block]? = w.heap[a.block]?) : RdV w' A n vs := by
  rcases Nat.eq_zero_or_pos n with h0 | h0
  · exact ⟨h.1, .inl h0⟩
  · exact h.keep hs (hk h0)
theorem RdV.ext (h : RdV w A n vs) (hx : Ext w w') : RdV w' A n vs := h.keep hx.size fun _ _ hb => hx.blk hb
theorem RdV.tu {S : Nat → Prop} (h : RdV w A n vs) (x : Tu S w w') (hn : ∀ a, A = some a → ¬ S a.block) : RdV w' A n vs := h.keep x.size fun a e hb => x.blk _ hb (hn a e)
theorem RdV.drop (h : RdV w A n vs) {k cap : Nat} (hk : k ≤ n) (hc : n ≤ cap) : RdV w (if cap = k then A else A.map (·.add k)) (n - k) (vs.drop k) := by
  have hl := h.1
  refine ⟨by simp; omega, ?_⟩
  by_cases hkn : k = n
  · exact .inl (by omega)
  · obtain ⟨b, off, rfl, h2, h3⟩ := h.pos (by omega)
    rw [if_neg (by omega)]
    have hadd : (⟨b, off, none⟩ : Addr).add k = ⟨b, off + k, none⟩ := by unfold Addr.add; split <;> simp_all
    refine .inr ⟨b, off + k, by simp [hadd], h2, fun i hi => ?_⟩
    have hi' : k + i < vs.length := by simp at hi; omega
    have := h3 (k + i) hi'
    rw [← Nat.add_assoc] at this
    rw [this]
    simp
theorem RdV.of_own {base : Nat} {c : Nat} {t : TypeId} (h : w.ownsRow base t 1 (.slice A n c) n vs) : RdV w A n vs ∧ n ≤ c ∧ c ≤ maxLen ∧ ∀ a, A = some a → 0 < n → base ≤ a.block := by
  have hl : vs.length = n := by simpa using h.1
  rcases h.2 with ⟨he, rfl⟩ | ⟨g, cap, cur, he, hb, hg, hnc, hcm, hcs, htake⟩
  · injection he with h1 h2 h3
    subst h3
    exact ⟨⟨hl, .inl rfl⟩, Nat.le_refl _, by unfold maxLen; omega, fun a e hn => absurd hn (by omega)⟩
  · injection he with hA _ hc
    subst hA hc
    refine ⟨⟨hl, .inr ⟨g, 0, rfl, (Array.getElem?_eq_some_iff.1 hg).1, fun i hi => ?_⟩⟩, hnc, hcm, fun a e _ => by cases e; exact hb⟩
    have := h.cells (g := g) rfl i _ (List.getElem?_eq_getElem hi)
    have hadd : (⟨g, 0, none⟩ : Addr).add i = ⟨g, 0 + i, none⟩ := by unfold Addr.add; split <;> simp_all
    rw [hadd] at this
    exact this
theorem RdI.len (h : RdI w A n ps) : ps.length = n := by simpa [iv] using h.1.1
theorem RdI.pos (h : RdI w A n ps) (hn : 0 < n) : ∃ b off, A = some ⟨b, off, none⟩ ∧ b < w.heap.size ∧ ∀ i (h : i < ps.length), w.cell? ⟨b, off + i, none⟩ = some (.int .i64 ps[i]) := by
  obtain ⟨b, off, h1, h2, h3⟩ := h.1.pos hn
  exact ⟨b, off, h1, h2, fun i hi => by simpa [iv] using h3 i (by simpa [iv] using hi)⟩
theorem RdI.ext (h : RdI w A n ps) (hx : Ext w w') : RdI w' A n ps := ⟨h.1.ext hx, h.2⟩
theorem RdI.tu {S : Nat → Prop} (h : RdI w A n ps) (x : Tu S w w') (hn : ∀ a, A = some a → ¬ S a.block) : RdI w' A n ps := ⟨h.1.tu x hn, h.2⟩
theorem RdI.drop (h : RdI w A n ps) {k cap : Nat} (hk : k ≤ n) (hc : n ≤ cap) : RdI w (if cap = k then A else A.map (·.add k)) (n - k) (ps.drop k) := by
  refine ⟨?_, fun p hp => h.2 p (List.mem_of_mem_drop hp)⟩
  have := h.1.drop hk hc
  simpa [iv, List.map_drop] using this
end
end Go.Proofs.Ytenmdhdloibemaa
