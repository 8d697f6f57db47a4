/- Worlds that differ in the blocks of a set alone. Conditions: told at each. -/
import Derived.Test.YtekbdpfiommmbaaMaps
import Derived.Test.YtekbdpfiommmbaaOv
namespace Go.Proofs.Ytekbdpfiommmbaa
open Go.RowKit Go.Maps
set_option linter.unusedVariables false

/-- Blocks of which S does not hold are as they were. -/
structure Tu (S : Nat → Prop) (w w' : World) : Prop where
  os : w'.os = w.os
  tape : w'.tape = w.tape
  output : w'.output = w.output
  size : w.heap.size ≤ w'.heap.size
  blk : ∀ k, k < w.heap.size → ¬ S k → w'.heap[k]? = w.heap[k]?
section
variable {S S' : Nat → Prop} {w w' w0 : World}
theorem Tu.refl (S : Nat → Prop) (w : World) : Tu S w w := ⟨rfl, rfl, rfl, Nat.le_refl _, fun _ _ _ => rfl⟩
theorem Tu.trans {a b c : World} (x : Tu S a b) (y : Tu S b c) : Tu S a c :=
  ⟨y.os.trans x.os, y.tape.trans x.tape, y.output.trans x.output, Nat.le_trans x.size y.size, fun k h1 h2 => (y.blk k (Nat.lt_of_lt_of_le h1 x.size) h2).trans (x.blk k h1 h2)⟩
/-- what turns in the second step may be more, if it is new -/
theorem Tu.then_ {a b c : World} (x : Tu S a b) (y : Tu S' b c) (h : ∀ k, k < a.heap.size → S' k → S k) : Tu S a c :=
  ⟨y.os.trans x.os, y.tape.trans x.tape, y.output.trans x.output, Nat.le_trans x.size y.size, fun k h1 h2 => (y.blk k (Nat.lt_of_lt_of_le h1 x.size) (fun h3 => h2 (h k h1 h3))).trans (x.blk k h1 h2)⟩
theorem Tu.mono (x : Tu S w w') (h : ∀ k, S k → S' k) : Tu S' w w' := ⟨x.os, x.tape, x.output, x.size, fun k h1 h2 => x.blk k h1 fun h3 => h2 (h k h3)⟩
theorem Tu.of_ext (x : Ext w w') : Tu S w w' := ⟨x.os, x.tape, x.output, x.size, fun k h1 _ => x.blk h1⟩
theorem Tu.of_grown {r : Option Nat} (x : w.grownBy w' r) (h : ∀ k, r = some k → S k) : Tu S w w' := ⟨x.os, x.tape, x.output, x.size, fun k h1 h2 => x.block k h1 fun e => h2 (h k e.symm)⟩
theorem Tu.ext_of (x : Tu S w w') (hx : Ext w0 w) (h : ∀ k, S k → w0.heap.size ≤ k) : Ext w0 w' :=
  ⟨x.os.trans hx.os, x.tape.trans hx.tape, x.output.trans hx.output, Nat.le_trans hx.size x.size, fun k h1 => (x.blk k (Nat.lt_of_lt_of_le h1 hx.size) fun h2 => by have := h k h2; omega).trans (hx.blk h1)⟩
theorem Tu.ext_new (x : Tu S w w') (h : ∀ k, S k → w.heap.size ≤ k) : Ext w w' := x.ext_of (Ext.refl w) h
theorem Blk.tu {g : Nat} {t : TypeId} {cs : Array Value} (h : Blk w g t cs) (x : Tu S w w') (hn : ¬ S g) : Blk w' g t cs := (x.blk g h.lt hn).trans h
theorem MapOf.tu {P : Program} {k b : Nat} {D : DataW Value} (h : MapOf P w k b D) (x : Tu S w w') (hn : ¬ S b) : MapOf P w' k b D := h.keep (x.blk b h.lt hn)
theorem Rd.tu {lo : Nat} {A : Option Addr} {n : Nat} {l : List UInt8} (h : Rd w lo A n l) (x : Tu S w w') (hn : ∀ a, A = some a → ¬ S a.block) : Rd w' lo A n l := by
  refine ⟨h.1, ?_⟩
  rcases Nat.eq_zero_or_pos n with h0 | h0
  · exact .inl h0
  · obtain ⟨b, off, rfl, h1, h2, h3⟩ := h.pos h0
    have := x.size
    refine .inr ⟨b, off, rfl, h1, by omega, fun i hi => ?_⟩
    rw [World.cell?_of_block (w := w) (x.blk b h2 (hn _ rfl))]
    exact h3 i hi
end

end Go.Proofs.Ytekbdpfiommmbaa
