/- Steps that come in, opened. Conditions: as each theorem says. -/
import Derived.Test.YtenmdhdloibemaaOpen
import Derived.Test.YtenmdhdloibemaaSt
namespace Go.Proofs.Ytenmdhdloibemaa
open Go.ChangeShapes Go.WideShapes Go.ChangeAt Go.RowKit
set_option linter.unusedVariables false
set_option linter.unusedSimpArgs false

/-- a slice of ints, within a memory -/
def RdJ (w : World) (A : Option Addr) (n c : Nat) (ps : List Int) : Prop := RdI w A n ps ∧ n ≤ c ∧ (0 < n → ∀ a, A = some a → a.block < w.heap.size)
theorem RdJ.ext {w w' : World} {A : Option Addr} {n c : Nat} {ps : List Int} (h : RdJ w A n c ps) (hx : Ext w w') : RdJ w' A n c ps :=
  ⟨⟨h.1.1.ext hx, h.1.2⟩, h.2.1, fun hn a e => Nat.lt_of_lt_of_le (h.2.2 hn a e) hx.size⟩

structure Sp where
  kind : Int
  n : Int
  name : Nm
  name2 : Nm
  byt : UInt8
  A : Option Addr
  pn : Nat
  pc : Nat
  picks : List Int
instance : Inhabited Sp := ⟨⟨0, 0, [], [], 0, none, 0, 0, []⟩⟩
def Sp.vals (s : Sp) : List Value := [.int .i64 s.kind, .int .i64 s.n, nv s.name, nv s.name2, .int .u8 (s.byt.toNat : Int), .slice s.A s.pn s.pc]
def Sp.ok (w : World) (s : Sp) : Prop := (Lit.int .i64 s.kind).wf = true ∧ (Lit.int .i64 s.n).wf = true ∧ s.name.length ≤ maxLen ∧ s.name2.length ≤ maxLen ∧ RdJ w s.A s.pn s.pc s.picks
theorem Sp.ok.ext {w w' : World} {s : Sp} (h : s.ok w) (hx : Ext w w') : s.ok w' := ⟨h.1, h.2.1, h.2.2.1, h.2.2.2.1, h.2.2.2.2.ext hx⟩
/-- a slice of steps -/
def StepsAt (w : World) (A : Option Addr) (len : Nat) (l : List Sp) : Prop :=
  l.length = len ∧ (len = 0 ∨ ∃ b off, A = some ⟨b, off, none⟩ ∧ b < w.heap.size ∧ ∀ i (h : i < l.length), l[i].ok w ∧ ∀ j (hj : j < l[i].vals.length), w.cell? ⟨b, off + i * 6 + j, none⟩ = some l[i].vals[j])

theorem open_intsJ {H : Type} {enc : TypeId × Value → H} {W : World} {a : Option Addr} {len cap n : Nat} {y : DataW H × List MemPlace}
    (h : DataW.trod enc Try.prog W 0 (fun _ => true) true n 23 [.slice a len cap] = some y) : ∃ ps, RdJ W a len cap ps := by
  rcases open_ints Try.underlying23 Try.underlying3 (by kernel_rfl) h with ⟨hcs, _⟩ | ⟨x, l, c, zs, hcs, _, hl, _, hz, _, hcell, hwf⟩
  · simp at hcs
    obtain ⟨rfl, rfl, rfl⟩ := hcs
    exact ⟨[], ⟨⟨rfl, .inl rfl⟩, fun p hp => by cases hp⟩, by omega, fun h => by omega⟩
  · simp only [List.cons.injEq, Value.slice.injEq, and_true] at hcs
    obtain ⟨rfl, rfl, rfl⟩ := hcs
    simp only [if_true] at hz
    rcases Nat.eq_zero_or_pos len with h0 | h0
    · subst h0
      exact ⟨[], ⟨⟨rfl, .inl rfl⟩, fun p hp => by cases hp⟩, hl, fun h => by omega⟩
    · obtain ⟨b, off, spot⟩ := x
      have hspot : spot = none := by
        have c0 := hcell 0 (by omega)
        simpa [Addr.add] using World.cell?_spot c0
      subst hspot
      have hadd : ∀ (v : Nat), (⟨b, off, none⟩ : Addr).add v = ⟨b, off + v, none⟩ := by intro v; unfold Addr.add; split <;> simp_all
      have c0 := hcell 0 (by omega)
      rw [hadd] at c0
      have hb := World.block_lt_of_cell? W _ c0
      refine ⟨zs.take len, ⟨⟨by simp [iv]; omega, .inr ⟨b, off, rfl, hb, fun i hi => ?_⟩⟩, fun p hp => hwf p (List.mem_of_mem_take hp)⟩, hl, fun _ a e => by cases e; exact hb⟩
      have hi' : i < len := by simp [iv] at hi; omega
      have := hcell i (by omega)
      rw [hadd] at this
      rw [this]
      simp [iv, List.getD_eq_getElem?_getD, List.getElem?_eq_getElem (show i < zs.length by omega)]
theorem open_picks {H : Type} {enc : TypeId × Value → H} {W : World} {a : Option Addr} {len cap : Nat} {d : DataW H} {p : List MemPlace} (h : DataW.Trod enc Try.prog W 0 (fun _ => true) true 23 (.slice a len cap) d p) :
    ∃ ps, RdJ W a len cap ps ∧ True := by
  obtain ⟨n, hn⟩ := h
  obtain ⟨ps, hps⟩ := open_intsJ (y := (d, p)) hn
  exact ⟨ps, hps, trivial⟩

set_option maxRecDepth 100000 in
theorem open_steps {H : Type} {enc : TypeId × Value → H} {W : World} {a : Option Addr} {len cap : Nat} {d : DataW H} {p : List MemPlace} (h : DataW.Trod enc Try.prog W 0 (fun _ => true) true 22 (.slice a len cap) d p) :
    ∃ l, StepsAt W a len l ∧ len ≤ cap := by
  obtain ⟨hl, h0 | ⟨b, off, rfl, hx⟩⟩ := open_structs Try.underlying22 Try.underlying34 (by decide +kernel) h
  · exact ⟨[], ⟨h0.symm, .inl h0⟩, hl⟩
  · rcases Nat.eq_zero_or_pos len with h0 | h0
    · exact ⟨[], ⟨h0.symm, .inl h0⟩, hl⟩
    have hc : Try.prog.cellsOf 34 = 6 := by kernel_rfl
    rw [hc] at hx
    have each : ∀ i, i < len → ∃ s : Sp, s.ok W ∧ ∀ j (hj : j < s.vals.length), W.cell? ⟨b, off + i * 6 + j, none⟩ = some s.vals[j] := by
      intro i hi
      obtain ⟨cs, n, hlen, hcell, hf⟩ := hx i hi
      match cs, hlen with
      | [v0, v1, v2, v3, v4, v5], _ =>
        obtain ⟨y0, g0⟩ := hf 0 _ rfl
        obtain ⟨y1, g1⟩ := hf 1 _ rfl
        obtain ⟨y2, g2⟩ := hf 2 _ rfl
        obtain ⟨y3, g3⟩ := hf 3 _ rfl
        obtain ⟨y4, g4⟩ := hf 4 _ rfl
        obtain ⟨y5, g5⟩ := hf 5 _ rfl
        have k0 : Try.prog.cellsOf 3 = 1 := by kernel_rfl
        have k1 : Try.prog.cellsOf 9 = 1 := by kernel_rfl
        have k2 : Try.prog.cellsOf 5 = 1 := by kernel_rfl
        have k3 : Try.prog.cellsOf 23 = 1 := by kernel_rfl
        simp [k0, k1, k2, k3] at g0 g1 g2 g3 g4 g5
        obtain ⟨z0, e0, -, w0⟩ := DataW.trod_int Try.underlying3 g0
        obtain ⟨z1, e1, -, w1⟩ := DataW.trod_int Try.underlying3 g1
        obtain ⟨s2, e2, -, w2⟩ := DataW.trod_string Try.underlying9 g2
        obtain ⟨s3, e3, -, w3⟩ := DataW.trod_string Try.underlying9 g3
        obtain ⟨z4, e4, -, w4⟩ := DataW.trod_int Try.underlying5 g4
        have hv : ∃ a len cap, v5 = .slice a len cap := by
          rcases Go.Deep.open_slice Try.underlying23 g5 with ⟨hcs, _⟩ | ⟨x, l, c, m, k, D, Pl, hcs, _⟩
          · exact ⟨_, _, _, by simpa using hcs⟩
          · exact ⟨_, _, _, by simpa using hcs⟩
        obtain ⟨A5, n5, c5, rfl⟩ := hv
        obtain ⟨ps, hps⟩ := open_intsJ g5
        simp at e0 e1 e2 e3 e4
        subst e0 e1 e2 e3 e4
        have hz4 : 0 ≤ z4 ∧ z4 < 256 := by
          obtain ⟨q1, q2⟩ := (show IntKind.min .u8 ≤ z4 ∧ z4 ≤ IntKind.max .u8 by simpa [Lit.wf] using w4)
          have e1 : IntKind.min .u8 = 0 := by kernel_rfl
          have e2 : IntKind.max .u8 = 255 := by kernel_rfl
          rw [e1] at q1
          rw [e2] at q2
          omega
        have e4 : ((UInt8.ofNat z4.toNat).toNat : Int) = z4 := by
          rw [UInt8.toNat_ofNat']
          omega
        refine ⟨⟨z0, z1, s2.data.toList, s3.data.toList, UInt8.ofNat z4.toNat, A5, n5, c5, ps⟩, ⟨w0, w1, by rw [Array.length_toList]; exact w2, by rw [Array.length_toList]; exact w3, hps⟩, ?_⟩
        simp only [Sp.vals, e4]
        intro j hj
        have := hcell j (by simpa using hj)
        rw [this]
        simp only [List.length_cons, List.length_nil] at hj
        match j, hj with
        | 0, _ => rfl
        | 1, _ => rfl
        | 2, _ => rfl
        | 3, _ => rfl
        | 4, _ => rfl
        | 5, _ => rfl
    obtain ⟨F, hF⟩ := Go.Deep.choose_lt each
    refine ⟨(List.range len).map F, ⟨by simp, .inr ⟨b, off, rfl, ?_, fun i hi => ?_⟩⟩, hl⟩
    · exact World.block_lt_of_cell? W _ ((hF 0 (by omega)).2 0 (by simp [Sp.vals]))
    · simp only [List.getElem_map, List.getElem_range]
      exact hF i (by simpa using hi)
end Go.Proofs.Ytenmdhdloibemaa
