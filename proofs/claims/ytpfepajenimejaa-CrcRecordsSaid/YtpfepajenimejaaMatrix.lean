/- A slice of slices of bytes that comes in, opened. Conditions: as each theorem says. -/
import Derived.Test.YtpfepajenimejaaOpen
namespace Go.Proofs.Ytpfepajenimejaa
open Go.ChangeShapes Go.WideShapes Go.ChangeAt Go.RowKit
set_option linter.unusedVariables false

/-- a slice of slices of bytes, with their capacities -/
def RdM (w : World) (A : Option Addr) (n : Nat) (ls : List (List UInt8)) : Prop :=
  ls.length = n ∧ (n = 0 ∨ ∃ b off, A = some ⟨b, off, none⟩ ∧ b < w.heap.size ∧ ∀ i (h : i < ls.length), ∃ Ai ci, w.cell? ⟨b, off + i, none⟩ = some (.slice Ai ls[i].length ci) ∧ Rd w 0 Ai ls[i].length ls[i] ∧ ls[i].length ≤ ci)
theorem RdM.rdl {w : World} {A : Option Addr} {n : Nat} {ls : List (List UInt8)} (h : RdM w A n ls) : RdL w A n ls := by
  refine ⟨h.1, h.2.imp id ?_⟩
  rintro ⟨b, off, h1, h2, h3⟩
  exact ⟨b, off, h1, h2, fun i hi => by obtain ⟨Ai, ci, a1, a2, _⟩ := h3 i hi; exact ⟨Ai, ci, a1, a2⟩⟩
theorem RdM.ext {w w' : World} {A : Option Addr} {n : Nat} {ls : List (List UInt8)} (h : RdM w A n ls) (hx : Ext w w') : RdM w' A n ls := by
  refine ⟨h.1, h.2.imp id ?_⟩
  rintro ⟨b, off, h1, h2, h3⟩
  refine ⟨b, off, h1, Nat.lt_of_lt_of_le h2 hx.size, fun i hi => ?_⟩
  obtain ⟨Ai, ci, a1, a2, a3⟩ := h3 i hi
  exact ⟨Ai, ci, hx.cellSome a1, a2.ext hx, a3⟩
theorem RdM.pos {w : World} {A : Option Addr} {n : Nat} {ls : List (List UInt8)} (h : RdM w A n ls) (hn : 0 < n) : ∃ b off, A = some ⟨b, off, none⟩ ∧ b < w.heap.size ∧ ∀ i (h : i < ls.length), ∃ Ai ci, w.cell? ⟨b, off + i, none⟩ = some (.slice Ai ls[i].length ci) ∧ Rd w 0 Ai ls[i].length ls[i] ∧ ls[i].length ≤ ci := by
  rcases h.2 with h0 | h0
  · omega
  · exact h0

theorem rows_of {w : World} {b off n : Nat} (h : ∀ i, i < n → ∃ (A : Option Addr) (c : Nat) (l : List UInt8), w.cell? ⟨b, off + i, none⟩ = some (.slice A l.length c) ∧ Rd w 0 A l.length l ∧ l.length ≤ c) :
    ∃ ls : List (List UInt8), ls.length = n ∧ ∀ i (h : i < ls.length), ∃ Ai ci, w.cell? ⟨b, off + i, none⟩ = some (.slice Ai ls[i].length ci) ∧ Rd w 0 Ai ls[i].length ls[i] ∧ ls[i].length ≤ ci := by
  induction n with
  | zero => exact ⟨[], rfl, fun i h => absurd h (by simp)⟩
  | succ n ih =>
    obtain ⟨ls, h1, h2⟩ := ih fun i hi => h i (by omega)
    obtain ⟨A, c, l, a1, a2, a3⟩ := h n (by omega)
    refine ⟨ls ++ [l], by simp [h1], fun i hi => ?_⟩
    by_cases he : i < ls.length
    · obtain ⟨Ai, ci, b1, b2, b3⟩ := h2 i he
      refine ⟨Ai, ci, ?_⟩
      rw [List.getElem_append_left he]
      exact ⟨b1, b2, b3⟩
    · obtain rfl : i = ls.length := by simp at hi; omega
      refine ⟨A, c, ?_⟩
      simp only [List.getElem_concat_length, h1]
      exact ⟨a1, a2, a3⟩

theorem open_rows {H : Type} {enc : TypeId × Value → H} {P : Program} {W : World} {t e u : TypeId} {a : Option Addr} {len cap : Nat} {d : DataW H} {p : List MemPlace}
    (ht : P.underlying t = some (.slice e)) (he : P.underlying e = some (.slice u)) (hu : P.underlying u = some (.int .u8)) (hc : P.cellsOf u = 1) (hc1 : P.cellsOf e = 1) (h : DataW.Trod enc P W 0 (fun _ => true) true t (.slice a len cap) d p) :
    ∃ ls, RdM W a len ls ∧ len ≤ 9223372036854775807 := by
  obtain ⟨fuel, hf⟩ := h
  rcases Go.Deep.open_slice ht hf with ⟨hcs, _⟩ | ⟨x, l, c, m, n, D, Pl, hcs, _, hl, hm, hmm, _, hx⟩
  · simp [Value.cells] at hcs
    obtain ⟨rfl, rfl, rfl⟩ := hcs
    exact ⟨[], ⟨rfl, .inl rfl⟩, by decide⟩
  · simp [Value.cells] at hcs
    obtain ⟨rfl, rfl, rfl⟩ := hcs
    simp only [if_true] at hmm
    have hmm' := hmm.symm
    subst hmm'
    rcases Nat.eq_zero_or_pos len with h0 | h0
    · subst h0
      exact ⟨[], ⟨rfl, .inl rfl⟩, by omega⟩
    · obtain ⟨b, off, spot⟩ := x
      have hspot : spot = none := by
        obtain ⟨cs', h1, _⟩ := hx 0 (by omega)
        obtain ⟨_, hlen, hcell⟩ := World.cells?_some h1
        have h00 := hcell 0 (by omega)
        rw [List.getElem?_eq_getElem (by omega)] at h00
        simpa [Addr.add] using World.cell?_spot h00
      subst hspot
      have hone : ∀ i, i < len → ∃ (A : Option Addr) (c : Nat) (l : List UInt8), W.cell? ⟨b, off + i, none⟩ = some (.slice A l.length c) ∧ Rd W 0 A l.length l ∧ l.length ≤ c := by
        intro i hi
        obtain ⟨cs', h1, h2⟩ := hx i (by omega)
        obtain ⟨_, hlen, hcell⟩ := World.cells?_some h1
        rw [hc1] at hlen
        obtain ⟨v, rfl⟩ := List.length_eq_one_iff.1 hlen
        obtain ⟨A, n2, c2, l2, rfl, r2, rc⟩ := open_rd_cells he hu hc h2
        have := hcell 0 (by omega)
        have hadd : ∀ (u v : Nat), (⟨b, u, none⟩ : Addr).add v = ⟨b, u + v, none⟩ := by intro u v; unfold Addr.add; split <;> simp_all
        rw [hadd, hadd, hc1, Nat.mul_one, Nat.add_zero] at this
        have hl2 := r2.len
        subst hl2
        exact ⟨A, c2, l2, this, r2, rc⟩
      obtain ⟨ls, hls, hrow⟩ := rows_of hone
      have hm : cap ≤ 9223372036854775807 := hm
      refine ⟨ls, ⟨hls, .inr ⟨b, off, rfl, ?_, hrow⟩⟩, by omega⟩
      obtain ⟨A, c, l, a1, _⟩ := hone 0 h0
      exact World.block_lt_of_cell? W _ a1
end Go.Proofs.Ytpfepajenimejaa
