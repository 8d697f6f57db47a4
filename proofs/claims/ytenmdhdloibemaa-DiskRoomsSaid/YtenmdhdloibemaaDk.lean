/- A disk in memory: what its files have, and which blocks are its own. Conditions: none. -/
import Derived.Test.YtenmdhdloibemaaSec
namespace Go.Proofs.Ytenmdhdloibemaa
open Go.RowKit Go.Maps
set_option linter.unusedVariables false

/-- Blocks of which S does not hold are as they were. -/
structure Tu (S : Nat → Prop) (w w' : World) : Prop where
  os : w'.os = w.os
  tape : w'.tape = w.tape
  output : w'.output = w.output
  size : w.heap.size ≤ w'.heap.size
  blk : ∀ k, k < w.heap.size → ¬ S k → w'.heap[k]? = w.heap[k]?
section
variable {S S' : Nat → Prop} {w w' w0 : World}
theorem Tu.refl (S : Nat → Prop) (w : World) : Tu S w w := ⟨rfl, rfl, rfl, Nat.le_refl _, fun _ _ _ => rfl⟩
theorem Tu.trans {a b c : World} (x : Tu S a b) (y : Tu S b c) : Tu S a c :=
  ⟨y.os.trans x.os, y.tape.trans x.tape, y.output.trans x.output, Nat.le_trans x.size y.size, fun k h1 h2 => (y.blk k (Nat.lt_of_lt_of_le h1 x.size) h2).trans (x.blk k h1 h2)⟩
/-- what turns in the second step may be more, if it is new -/
theorem Tu.then_ {a b c : World} (x : Tu S a b) (y : Tu S' b c) (h : ∀ k, k < a.heap.size → S' k → S k) : Tu S a c :=
  ⟨y.os.trans x.os, y.tape.trans x.tape, y.output.trans x.output, Nat.le_trans x.size y.size, fun k h1 h2 => (y.blk k (Nat.lt_of_lt_of_le h1 x.size) (fun h3 => h2 (h k h1 h3))).trans (x.blk k h1 h2)⟩
theorem Tu.mono (x : Tu S w w') (h : ∀ k, S k → S' k) : Tu S' w w' := ⟨x.os, x.tape, x.output, x.size, fun k h1 h2 => x.blk k h1 fun h3 => h2 (h k h3)⟩
theorem Tu.of_ext (x : Ext w w') : Tu S w w' := ⟨x.os, x.tape, x.output, x.size, fun k h1 _ => x.blk h1⟩
theorem Tu.of_grown {r : Option Nat} (x : w.grownBy w' r) (h : ∀ k, r = some k → S k) : Tu S w w' := ⟨x.os, x.tape, x.output, x.size, fun k h1 h2 => x.block k h1 fun e => h2 (h k e.symm)⟩
theorem Tu.ext_of (x : Tu S w w') (hx : Ext w0 w) (h : ∀ k, S k → w0.heap.size ≤ k) : Ext w0 w' :=
  ⟨x.os.trans hx.os, x.tape.trans hx.tape, x.output.trans hx.output, Nat.le_trans hx.size x.size, fun k h1 => (x.blk k (Nat.lt_of_lt_of_le h1 hx.size) fun h2 => by have := h k h2; omega).trans (hx.blk h1)⟩
theorem Tu.ext_new (x : Tu S w w') (h : ∀ k, S k → w.heap.size ≤ k) : Ext w w' := x.ext_of (Ext.refl w) h
theorem Blk.tu {g : Nat} {t : TypeId} {cs : Array Value} (h : Blk w g t cs) (x : Tu S w w') (hn : ¬ S g) : Blk w' g t cs := (x.blk g h.lt hn).trans h
theorem MapOf.tu {P : Program} {k b : Nat} {D : DataW Value} (h : MapOf P w k b D) (x : Tu S w w') (hn : ¬ S b) : MapOf P w' k b D := h.keep (x.blk b h.lt hn)
theorem Rd.tu {lo : Nat} {A : Option Addr} {n : Nat} {l : List UInt8} (h : Rd w lo A n l) (x : Tu S w w') (hn : ∀ a, A = some a → ¬ S a.block) : Rd w' lo A n l := by
  refine ⟨h.1, ?_⟩
  rcases Nat.eq_zero_or_pos n with h0 | h0
  · exact .inl h0
  · obtain ⟨b, off, rfl, h1, h2, h3⟩ := h.pos h0
    have := x.size
    refine .inr ⟨b, off, rfl, h1, by omega, fun i hi => ?_⟩
    rw [World.cell?_of_block (w := w) (x.blk b h2 (hn _ rfl))]
    exact h3 i hi
end

/-! ### what a file has -/
abbrev Sc := List UInt8
abbrev Nm := List UInt8
structure FC where
  lasts : Int → Option Sc
  cnt : Nat
  S : Int → List Sc
  fin : Int
def FC.has (c : FC) (n : Int) : Sc := (c.S n).getLast?.getD ((c.lasts n).getD zsec)
def FC.none_ : FC := ⟨fun _ => none, 0, fun _ => [], 0⟩
def FC.keep (c : FC) (n : Int) (l : Sc) : FC := { c with lasts := fun m => if m = n then some l else c.lasts m, cnt := if (c.lasts n).isSome then c.cnt else c.cnt + 1, fin := max c.fin (n + 1) }
def FC.add (c : FC) (n : Int) (l : Sc) : FC := { c with S := fun m => if m = n then c.S n ++ [l] else c.S m }
def FC.write (c : FC) (n : Int) (l : Sc) : FC := (if (c.lasts n).isSome then c else c.keep n zsec).add n l
def FC.sync (c : FC) : FC := { c with lasts := fun n => if c.S n = [] then c.lasts n else some (c.has n), S := fun _ => [] }
def FC.spoil (c : FC) (n : Int) (l : Sc) : FC := { c.keep n l with S := fun m => if m = n then [] else c.S m }
/-- what a pick takes -/
def FC.pick (c : FC) (n p : Int) : Option Sc := if (max p 0).toNat % ((c.S n).length + 1) = 0 then c.lasts n else (c.S n)[(max p 0).toNat % ((c.S n).length + 1) - 1]?
def FC.settl (c : FC) : List Int → List Int → (Int → Option Sc) → (Int → Option Sc) × List Int
  | [], picks, f => (f, picks)
  | n :: ks, picks, f => c.settl ks picks.tail fun m => if m = n then c.pick n (picks.headD 0) else f m
/-- the sectors that were written since the last Sync, rising -/
def FC.Open (c : FC) (ks : List Int) : Prop := ks.Pairwise (· < ·) ∧ ∀ n, n ∈ ks ↔ c.S n ≠ []
def FC.Settles (c : FC) (picks : List Int) (c' : FC) (rest : List Int) : Prop := ∃ ks, c.Open ks ∧ c' = ⟨(c.settl ks picks c.lasts).1, c.cnt, fun _ => [], c.fin⟩ ∧ rest = (c.settl ks picks c.lasts).2

/-! ### a file in memory -/
/-- who owns a block: a file (or the disk), and as what: -5 the disk, -4 its map, -3 a file, -2 what lasts, -1 the writes, n a sector's -/
abbrev Ow := Nat → Option (Nat × Int)
def Of (O : Ow) (f b : Nat) : Prop := ∃ t, O b = some (f, t)
def Owned (O : Ow) (b : Nat) : Prop := (O b).isSome = true
def Og (O O' : Ow) (w : World) : Prop := ∀ b, b < w.heap.size → O' b = O b
theorem Og.refl (O : Ow) (w : World) : Og O O w := fun _ _ => rfl
theorem Og.trans {O O' O'' : Ow} {w w' : World} (h : Og O O' w) (k : Og O' O'' w') (hs : w.heap.size ≤ w'.heap.size) : Og O O'' w := fun b hb => (k b (by omega)).trans (h b hb)
theorem Of.owned {O : Ow} {f b : Nat} (h : Of O f b) : Owned O b := by obtain ⟨t, e⟩ := h; simp [Owned, e]

def cellsOf (ls : List Sc) : List Value := (ls.map bvs).flatten
theorem cellsOf_len (ls : List Sc) (h : ∀ l ∈ ls, l.length = 256) : (cellsOf ls).length = ls.length * 256 := by
  induction ls with
  | nil => rfl
  | cons a r ih =>
    have h1 := h a (by simp)
    have := ih fun l hl => h l (by simp [hl])
    simp only [cellsOf, List.map_cons, List.flatten_cons, List.length_append, List.length_cons, bvs_length] at this ⊢
    rw [this, h1]
    omega
theorem cellsOf_one (ls : List Sc) : ∀ u ∈ cellsOf ls, u.oneCell' = true := by
  intro u hu
  simp only [cellsOf, List.mem_flatten, List.mem_map] at hu
  obtain ⟨_, ⟨l, _, rfl⟩, h⟩ := hu
  exact bvs_one l u h

/-- a sector's writes: a row of one's own -/
def RowAt (w : World) (O : Ow) (fb : Nat) (n : Int) (v : Value) (ls : List Sc) : Prop :=
  ∃ rb cap, v = .slice (some ⟨rb, 0, none⟩) ls.length cap ∧ O rb = some (fb, n) ∧ w.ownsRow 0 39 256 v ls.length (cellsOf ls) ∧ ∀ l ∈ ls, l.length = 256
def LastsAt (DL : DataW Value) (c : FC) : Prop :=
  Maps.size DL = c.cnt ∧ (∀ n, val DL (ik n) = (c.lasts n).map sec) ∧ (∀ n l, c.lasts n = some l → 0 ≤ n ∧ n < 65536 ∧ n < c.fin ∧ l.length = 256) ∧ ∀ kl, Maps.has DL kl = true → ∃ n, kl = ik n
def SinceAt (w : World) (O : Ow) (fb : Nat) (DS : DataW Value) (c : FC) : Prop :=
  (∀ n, c.S n = [] → val DS (ik n) = none) ∧ (∀ n, c.S n ≠ [] → (c.lasts n).isSome = true ∧ ∃ v, val DS (ik n) = some v ∧ RowAt w O fb n v (c.S n)) ∧ ∀ kl, Maps.has DS kl = true → ∃ n, kl = ik n

def FileAt (w : World) (O : Ow) (fb : Nat) (c : FC) : Prop :=
  ∃ lb sb DL DS, O fb = some (fb, -3) ∧ O lb = some (fb, -2) ∧ O sb = some (fb, -1) ∧ Blk w fb 72 #[.map (some lb), .map (some sb), .int .i64 c.fin] ∧
    MapOf Try.prog w 3 lb DL ∧ MapOf Try.prog w 3 sb DS ∧ LastsAt DL c ∧ SinceAt w O fb DS c ∧ 0 ≤ c.fin ∧ c.fin ≤ 65536

section
variable {w w' : World} {O O' : Ow} {fb : Nat} {c : FC} {n : Int} {v : Value} {ls : List Sc}
theorem RowAt.keep (h : RowAt w O fb n v ls) (hk : ∀ b, O b = some (fb, n) → b < w.heap.size → w'.heap[b]? = w.heap[b]? ∧ O' b = O b) : RowAt w' O' fb n v ls := by
  obtain ⟨rb, cap, rfl, h1, h2, h3⟩ := h
  obtain ⟨e, hor⟩ := h2
  rcases hor with ⟨e1, _⟩ | ⟨g, cap', cur, e1, hb, hg, r⟩
  · cases e1
  · injection e1 with e1
    injection e1 with e1
    injection e1 with e1
    subst e1
    obtain ⟨k1, k2⟩ := hk rb h1 (Array.getElem?_eq_some_iff.1 hg).1
    exact ⟨rb, cap, rfl, k2.trans h1, ⟨e, .inr ⟨rb, cap', cur, by simp_all, hb, k1.trans hg, r⟩⟩, h3⟩
theorem SinceAt.keepR {DS : DataW Value} (h : SinceAt w O fb DS c) (hk : ∀ b n, c.S n ≠ [] → O b = some (fb, n) → b < w.heap.size → w'.heap[b]? = w.heap[b]? ∧ O' b = O b) : SinceAt w' O' fb DS c := by
  refine ⟨h.1, fun n hn => ?_, h.2.2⟩
  obtain ⟨h1, v, h2, h3⟩ := h.2.1 n hn
  exact ⟨h1, v, h2, h3.keep fun b e => hk b n hn e⟩
theorem SinceAt.keep {DS : DataW Value} (h : SinceAt w O fb DS c) (hk : ∀ b, Of O fb b → b < w.heap.size → w'.heap[b]? = w.heap[b]? ∧ O' b = O b) : SinceAt w' O' fb DS c := by
  refine ⟨h.1, fun n hn => ?_, h.2.2⟩
  obtain ⟨h1, v, h2, h3⟩ := h.2.1 n hn
  exact ⟨h1, v, h2, h3.keep fun b e => hk b ⟨_, e⟩⟩
theorem FileAt.keep (h : FileAt w O fb c) (hk : ∀ b, Of O fb b → b < w.heap.size → w'.heap[b]? = w.heap[b]? ∧ O' b = O b) : FileAt w' O' fb c := by
  obtain ⟨lb, sb, DL, DS, o1, o2, o3, b1, m1, m2, hL, hS, hf⟩ := h
  have k1 := hk fb ⟨_, o1⟩ b1.lt
  have k2 := hk lb ⟨_, o2⟩ m1.lt
  have k3 := hk sb ⟨_, o3⟩ m2.lt
  exact ⟨lb, sb, DL, DS, k1.2.trans o1, k2.2.trans o2, k3.2.trans o3, k1.1.trans b1, m1.keep k2.1, m2.keep k3.1, hL, hS.keep hk, hf⟩
theorem FileAt.ext (h : FileAt w O fb c) (hx : Ext w w') : FileAt w' O fb c := h.keep fun b _ hb => ⟨hx.blk hb, rfl⟩
theorem FileAt.far {S : Nat → Prop} (h : FileAt w O fb c) (x : Tu S w w') (hg : Og O O' w) (hn : ∀ b, Of O fb b → ¬ S b) : FileAt w' O' fb c := h.keep fun b ho hb => ⟨x.blk b hb (hn b ho), hg b hb⟩
theorem FileAt.lt (h : FileAt w O fb c) : fb < w.heap.size := by
  obtain ⟨lb, sb, DL, DS, o1, o2, o3, b1, _⟩ := h
  exact b1.lt
theorem FileAt.own (h : FileAt w O fb c) : O fb = some (fb, -3) := by
  obtain ⟨lb, sb, DL, DS, o1, _⟩ := h
  exact o1
end
end Go.Proofs.Ytenmdhdloibemaa
