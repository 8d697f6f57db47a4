/- Acts that come in, opened; have they more than is gone through? Conditions: as each theorem says. -/
import Derived.Test.YtekbdpfiommmbaaOpen
import Derived.Test.YtekbdpfiommmbaaNst
import Derived.Test.YtekbdpfiommmbaaFlow
import Derived.Deep.CutRange
import Derived.Deep.CutBlock
namespace Go.Proofs.Ytekbdpfiommmbaa
open Go.ChangeShapes Go.WideShapes Go.ChangeAt Go.RowKit Go.Maps
set_option linter.unusedVariables false
set_option linter.unusedSimpArgs false
attribute [local go_sem] Oper.semAt_some

/-- an act in memory -/
structure Ac where
  kind : Int
  a : Int
  b : Int
  A : Option Addr
  c : Nat
  l : Row
instance : Inhabited Ac := ⟨⟨0, 0, 0, none, 0, []⟩⟩
def Ac.vals (s : Ac) : List Value := [.int .i64 s.kind, .int .i64 s.a, .int .i64 s.b, .slice s.A s.l.length s.c]
def Ac.ok (w : World) (s : Ac) : Prop := (Lit.int .i64 s.kind).wf = true ∧ (Lit.int .i64 s.a).wf = true ∧ (Lit.int .i64 s.b).wf = true ∧ Rd w 0 s.A s.l.length s.l ∧ s.l.length ≤ s.c
theorem Ac.ok.ext {w w' : World} {s : Ac} (h : s.ok w) (hx : Ext w w') : s.ok w' := ⟨h.1, h.2.1, h.2.2.1, h.2.2.2.1.ext hx, h.2.2.2.2⟩
/-- a slice of acts -/
def ActsAt (w : World) (A : Option Addr) (len : Nat) (l : List Ac) : Prop :=
  l.length = len ∧ (len = 0 ∨ ∃ b off, A = some ⟨b, off, none⟩ ∧ b < w.heap.size ∧ ∀ i (h : i < l.length), l[i].ok w ∧ ∀ j (hj : j < l[i].vals.length), w.cell? ⟨b, off + i * 4 + j, none⟩ = some l[i].vals[j])
theorem ActsAt.ext {w w' : World} {A : Option Addr} {len : Nat} {l : List Ac} (h : ActsAt w A len l) (hx : Ext w w') : ActsAt w' A len l := by
  refine ⟨h.1, h.2.imp id ?_⟩
  rintro ⟨b, off, h1, h2, h3⟩
  exact ⟨b, off, h1, Nat.lt_of_lt_of_le h2 hx.size, fun i hi => ⟨(h3 i hi).1.ext hx, fun j hj => hx.cellSome ((h3 i hi).2 j hj)⟩⟩
theorem ActsAt.pos {w : World} {A : Option Addr} {len : Nat} {l : List Ac} (h : ActsAt w A len l) (hn : 0 < len) : ∃ b off, A = some ⟨b, off, none⟩ ∧ b < w.heap.size ∧ ∀ i (h : i < l.length), l[i].ok w ∧ ∀ j (hj : j < l[i].vals.length), w.cell? ⟨b, off + i * 4 + j, none⟩ = some l[i].vals[j] := by
  rcases h.2 with h0 | h0
  · omega
  · exact h0
set_option maxRecDepth 100000 in
theorem open_acts {H : Type} {enc : TypeId × Value → H} {W : World} {a : Option Addr} {len cap : Nat} {d : DataW H} {p : List MemPlace} (h : DataW.Trod enc Try.prog W 0 (fun _ => true) true 22 (.slice a len cap) d p) :
    ∃ l, ActsAt W a len l ∧ len ≤ cap := by
  obtain ⟨hl, h0 | ⟨b, off, rfl, hx⟩⟩ := open_structs Try.underlying22 Try.underlying40 (by decide +kernel) h
  · exact ⟨[], ⟨h0.symm, .inl h0⟩, hl⟩
  · rcases Nat.eq_zero_or_pos len with h0 | h0
    · exact ⟨[], ⟨h0.symm, .inl h0⟩, hl⟩
    have hc : Try.prog.cellsOf 40 = 4 := by kernel_rfl
    rw [hc] at hx
    have each : ∀ i, i < len → ∃ s : Ac, s.ok W ∧ ∀ j (hj : j < s.vals.length), W.cell? ⟨b, off + i * 4 + j, none⟩ = some s.vals[j] := by
      intro i hi
      obtain ⟨cs, n, hlen, hcell, hf⟩ := hx i hi
      match cs, hlen with
      | [v0, v1, v2, v3], _ =>
        obtain ⟨y0, g0⟩ := hf 0 _ rfl
        obtain ⟨y1, g1⟩ := hf 1 _ rfl
        obtain ⟨y2, g2⟩ := hf 2 _ rfl
        obtain ⟨y3, g3⟩ := hf 3 _ rfl
        have k0 : Try.prog.cellsOf 3 = 1 := by kernel_rfl
        have k2 : Try.prog.cellsOf 5 = 1 := by kernel_rfl
        have k3 : Try.prog.cellsOf 38 = 1 := by kernel_rfl
        simp [k0, k3] at g0 g1 g2 g3
        obtain ⟨z0, e0, -, w0⟩ := DataW.trod_int Try.underlying3 g0
        obtain ⟨z1, e1, -, w1⟩ := DataW.trod_int Try.underlying3 g1
        obtain ⟨z2, e2, -, w2⟩ := DataW.trod_int Try.underlying3 g2
        obtain ⟨A3, n3, c3, l3, rfl, r3, rc⟩ := open_rd_cells Try.underlying38 Try.underlying5 k2 g3
        simp at e0 e1 e2
        subst e0 e1 e2
        have hn3 := r3.len
        subst hn3
        refine ⟨⟨z0, z1, z2, A3, c3, l3⟩, ⟨w0, w1, w2, r3, rc⟩, ?_⟩
        simp only [Ac.vals]
        intro j hj
        have := hcell j (by simpa using hj)
        rw [this]
        simp only [List.length_cons, List.length_nil] at hj
        match j, hj with
        | 0, _ => rfl
        | 1, _ => rfl
        | 2, _ => rfl
        | 3, _ => rfl
    obtain ⟨F, hF⟩ := Go.Deep.choose_lt each
    refine ⟨(List.range len).map F, ⟨by simp, .inr ⟨b, off, rfl, ?_, fun i hi => ?_⟩⟩, hl⟩
    · exact World.block_lt_of_cell? W _ ((hF 0 (by omega)).2 0 (by simp [Ac.vals]))
    · simp only [List.getElem_map, List.getElem_range]
      exact hF i (by simpa using hi)
end Go.Proofs.Ytekbdpfiommmbaa
