/- Words for memory that all proofs of this seat use: byte slices that read as lists, worlds that only grow. Conditions: none. -/
import Derived.WalkKit
import Derived.WalkSpells
import Derived.Lib.Hide
import Derived.Maps.AppendAt
import Derived.Deep.AppendLies
import Derived.Deep.Draws
import Derived.Lib.SlBytesConst
namespace Go.Proofs.Ytekbdpfiommmbaa
open Go.RowKit
set_option linter.unusedVariables false

theorem ret_int {k : IntKind} {a b : Int} (h : a = b) : Ending.returned (.int k a) = .returned (.int k b) := by rw [h]

theorem ret_tup1 {k : IntKind} {a b : Int} {v : Value} (h : a = b) : Ending.returned (.tuple #[.int k a, v]) = .returned (.tuple #[.int k b, v]) := by rw [h]

/-- a contract that leaves the world alone, turned round -/
theorem qs {P : Program} {f : FuncId} {args : Array Value} {w : World} {v : Value} (h : Calls P f args w fun e w' => e = .returned v ∧ w = w') : Calls P f args w fun e w' => e = .returned v ∧ w' = w :=
  h.mono fun _ _ ⟨a, b⟩ => ⟨a, b.symm⟩

/-- w' is w with more memory; of what was there nothing has changed. -/
def Ext (w w' : World) : Prop := Below w.heap.size w w'

theorem Ext.refl (w : World) : Ext w w := Below.refl _ _
theorem Ext.trans {a b c : World} (h : Ext a b) (k : Ext b c) : Ext a c := Below.trans h (Below.mono k h.size)
theorem Ext.drew {a w : World} (h : Ext a w) : Ext a w.drew := Below.drew h
theorem Ext.drewN {a w : World} (h : Ext a w) (n : Nat) : Ext a (w.drewN n) := ⟨h.os, h.tape, h.output, h.size, h.block⟩
theorem Ext.alloc {a w : World} (h : Ext a w) (o : Obj) : Ext a (w.alloc o) := Below.alloc h h.size o
theorem Ext.setCell {a w : World} (h : Ext a w) {p : Addr} (hp : a.heap.size ≤ p.block) (u : Value) : Ext a (w.setCell p u) := Below.setCell h hp u
theorem Ext.grown {a w w' : World} {row : Option Nat} (h : Ext a w) (hg : w.grownBy w' row) (hr : ∀ k, row = some k → a.heap.size ≤ k) : Ext a w' := Below.grown h hg h.size hr
theorem Ext.cell {w w' : World} (h : Ext w w') {p : Addr} (hp : p.block < w.heap.size) : w'.cell? p = w.cell? p := Below.cell h hp
theorem Ext.blk {w w' : World} (h : Ext w w') {k : Nat} (hk : k < w.heap.size) : w'.heap[k]? = w.heap[k]? := h.block k hk
theorem Ext.cellSome {w w' : World} (h : Ext w w') {p : Addr} {v : Value} (hp : w.cell? p = some v) : w'.cell? p = some v :=
  (h.cell (World.block_lt_of_cell? w p hp)).trans hp

/-- w' is w behind some draws. -/
def Drawn (w w' : World) : Prop := ∃ k, w' = w.drewN k
theorem Drawn.refl (w : World) : Drawn w w := ⟨0, rfl⟩
theorem Drawn.more {w w' : World} (h : Drawn w w') (n : Nat) : Drawn w (w'.drewN n) := by
  obtain ⟨k, rfl⟩ := h
  exact ⟨k + n, by rw [World.drewN_drewN]⟩
theorem Drawn.trans {a b c : World} (h : Drawn a b) (k : Drawn b c) : Drawn a c := by
  obtain ⟨n, rfl⟩ := k
  exact h.more n
theorem Drawn.ext {w w' : World} (h : Drawn w w') : Ext w w' := by
  obtain ⟨k, rfl⟩ := h
  exact (Ext.refl w).drewN k
theorem Drawn.size {w w' : World} (h : Drawn w w') : w'.heap.size = w.heap.size := by
  obtain ⟨k, rfl⟩ := h
  rfl
/-- for go_quiet: a callee that only draws -/
theorem qd {P : Program} {f : FuncId} {args : Array Value} {w : World} {v : Value} (h : Calls P f args w fun e w' => e = .returned v ∧ Drawn w w') : Calls P f args w fun e w' => e = .returned v ∧ ∃ m, w' = w.drewN m := h

/-- bytes as cells -/
def bvs (l : List UInt8) : List Value := l.map fun u => .int .u8 (u.toNat : Int)
theorem bvs_length (l : List UInt8) : (bvs l).length = l.length := by simp [bvs]
theorem bvs_append (l m : List UInt8) : bvs (l ++ m) = bvs l ++ bvs m := by simp [bvs]
theorem bvs_one (l : List UInt8) : ∀ u ∈ bvs l, u.oneCell' = true := by
  intro u hu
  obtain ⟨_, _, rfl⟩ := List.mem_map.1 hu
  rfl
theorem bvs_get (l : List UInt8) (i : Nat) (h : i < l.length) : (bvs l)[i]? = some (.int .u8 (l[i].toNat : Int)) := by
  simp [bvs, h]

/-- The slice at A of n elements reads as the bytes l, and lies in a block from lo on. -/
def Rd (w : World) (lo : Nat) (A : Option Addr) (n : Nat) (l : List UInt8) : Prop :=
  l.length = n ∧ (n = 0 ∨ ∃ b off, A = some ⟨b, off, none⟩ ∧ lo ≤ b ∧ b < w.heap.size ∧ ∀ i (h : i < l.length), w.cell? ⟨b, off + i, none⟩ = some (.int .u8 (l[i].toNat : Int)))

section
variable {w w' : World} {lo lo' : Nat} {A : Option Addr} {n : Nat} {l : List UInt8}
theorem Rd.len (h : Rd w lo A n l) : l.length = n := h.1
theorem Rd.nil (w : World) (lo : Nat) (A : Option Addr) : Rd w lo A 0 [] := ⟨rfl, .inl rfl⟩
theorem Rd.keep (h : Rd w lo A n l) (hs : w.heap.size ≤ w'.heap.size) (hk : ∀ b, lo ≤ b → b < w.heap.size → w'.heap[b]? = w.heap[b]?) : Rd w' lo A n l := by
  refine ⟨h.1, h.2.imp id ?_⟩
  rintro ⟨b, off, rfl, h1, h2, h3⟩
  exact ⟨b, off, rfl, h1, by omega, fun i hi => (World.cell?_of_block (w := w) (hk b h1 h2)).trans (h3 i hi)⟩
theorem Rd.ext (h : Rd w lo A n l) (hx : Ext w w') : Rd w' lo A n l := h.keep hx.size fun _ _ hb => hx.blk hb
theorem Rd.drewN (h : Rd w lo A n l) (k : Nat) : Rd (w.drewN k) lo A n l := h.ext ((Ext.refl _).drewN k)
theorem Rd.low (h : Rd w lo A n l) (hlo : lo' ≤ lo) : Rd w lo' A n l := by
  refine ⟨h.1, h.2.imp id ?_⟩
  rintro ⟨b, off, rfl, h1, h2, h3⟩
  exact ⟨b, off, rfl, by omega, h2, h3⟩
/-- a store elsewhere -/
theorem Rd.set_far (h : Rd w lo A n l) {p : Addr} (hp : ∀ a, A = some a → a.block ≠ p.block) (u : Value) : Rd (w.setCell p u) lo A n l := by
  refine ⟨h.1, h.2.imp id ?_⟩
  rintro ⟨b, off, rfl, h1, h2, h3⟩
  refine ⟨b, off, rfl, h1, by simpa [World.setCell] using h2, fun i hi => ?_⟩
  rw [World.cell?_of_block (w := w) (Below.heap_setCell w p u b (hp _ rfl))]
  exact h3 i hi
theorem Rd.pos (h : Rd w lo A n l) (hn : 0 < n) : ∃ b off, A = some ⟨b, off, none⟩ ∧ lo ≤ b ∧ b < w.heap.size ∧ ∀ i (h : i < l.length), w.cell? ⟨b, off + i, none⟩ = some (.int .u8 (l[i].toNat : Int)) := by
  rcases h.2 with h0 | h0
  · omega
  · exact h0
theorem Rd.of_own {base : Nat} {c : Nat} {t : TypeId} (h : w.ownsRow base t 1 (.slice A n c) n (bvs l)) : Rd w base A n l := by
  have hl : l.length = n := by simpa [bvs_length] using h.1
  refine ⟨hl, ?_⟩
  rcases h.2 with ⟨he, rfl⟩ | ⟨g, cap, cur, he, hb, hg, hnc, hcm, hcs, htake⟩
  · exact .inl rfl
  · injection he with hA _ _
    subst hA
    refine .inr ⟨g, 0, rfl, hb, (Array.getElem?_eq_some_iff.1 hg).1, fun i hi => ?_⟩
    have := h.cells (g := g) rfl i _ (bvs_get l i hi)
    have hadd : (⟨g, 0, none⟩ : Addr).add i = ⟨g, 0 + i, none⟩ := by unfold Addr.add; split <;> simp_all
    rw [hadd] at this
    exact this
/-- the slice's front -/
theorem Rd.take (h : Rd w lo A n l) {k : Nat} (hk : k ≤ n) : Rd w lo A k (l.take k) := by
  have hl := h.1
  refine ⟨by simp; omega, ?_⟩
  rcases h.2 with h0 | ⟨b, off, rfl, h1, h2, h3⟩
  · exact .inl (by omega)
  · refine .inr ⟨b, off, rfl, h1, h2, fun i hi => ?_⟩
    have hi' : i < l.length := by simp at hi; omega
    rw [h3 i hi']
    simp
/-- the slice's rear -/
theorem Rd.drop (h : Rd w lo A n l) {k cap : Nat} (hk : k ≤ n) (hc : n ≤ cap) : Rd w lo (if cap = k then A else A.map (·.add k)) (n - k) (l.drop k) := by
  have hl := h.1
  refine ⟨by simp; omega, ?_⟩
  by_cases hkn : k = n
  · exact .inl (by omega)
  · obtain ⟨b, off, rfl, h1, h2, h3⟩ := h.pos (by omega)
    rw [if_neg (by omega)]
    have hadd : (⟨b, off, none⟩ : Addr).add k = ⟨b, off + k, none⟩ := by unfold Addr.add; split <;> simp_all
    refine .inr ⟨b, off + k, by simp [hadd], h1, h2, fun i hi => ?_⟩
    have hi' : k + i < l.length := by simp at hi; omega
    have := h3 (k + i) hi'
    rw [← Nat.add_assoc] at this
    rw [this]
    simp
theorem Rd.cells (h : Rd w lo A n l) {a : Addr} (ha : A = some a) : ∀ j u, (bvs l)[j]? = some u → w.cell? (a.add j) = some u := by
  intro j u hu
  have hj : j < l.length := by
    have := (List.getElem?_eq_some_iff.1 hu).1
    simpa [bvs_length] using this
  rw [bvs_get l j hj] at hu
  cases hu
  obtain ⟨b, off, e, h1, h2, h3⟩ := h.pos (by have := h.1; omega)
  rw [ha] at e
  cases e
  have hadd : (⟨b, off, none⟩ : Addr).add j = ⟨b, off + j, none⟩ := by unfold Addr.add; split <;> simp_all
  rw [hadd]
  exact h3 j hj
end

/-- The slice at A of n elements reads as l, in a row of the call's own from block base on. -/
def Own (w : World) (base : Nat) (e : TypeId) (A : Option Addr) (n c : Nat) (l : List UInt8) : Prop := w.ownsRow base e 1 (.slice A n c) n (bvs l)

theorem Own.rd {w : World} {base : Nat} {e : TypeId} {A : Option Addr} {n c : Nat} {l : List UInt8} (h : Own w base e A n c l) : Rd w base A n l := Rd.of_own h
theorem Own.cap {w : World} {base : Nat} {e : TypeId} {A : Option Addr} {n c : Nat} {l : List UInt8} (h : Own w base e A n c l) : n ≤ c := by
  rcases h.2 with ⟨he, h0⟩ | ⟨g', cap, cur, he, _, _, h2, _⟩
  · omega
  · cases he; exact h2
theorem Own.nil (w : World) (base : Nat) (e : TypeId) : Own w base e none 0 0 [] := World.ownsRow_nil w base e 1
theorem own_form {w : World} {base : Nat} {e : TypeId} {v : Value} {n : Nat} {l : List UInt8} (h : w.ownsRow base e 1 v n (bvs l)) : ∃ A c, v = .slice A n c ∧ Own w base e A n c l := by
  have h' := h
  rcases h.2 with ⟨rfl, rfl⟩ | ⟨g, cap, cur, rfl, _⟩
  · exact ⟨none, 0, rfl, h'⟩
  · exact ⟨_, cap, rfl, h'⟩
theorem Own.drew {w : World} {base : Nat} {e : TypeId} {A : Option Addr} {n c : Nat} {l : List UInt8} (h : Own w base e A n c l) : Own w.drew base e A n c l := h
theorem Own.drewN {w : World} {base : Nat} {e : TypeId} {A : Option Addr} {n c : Nat} {l : List UInt8} (h : Own w base e A n c l) (k : Nat) : Own (w.drewN k) base e A n c l := h
theorem Own.alloc {w : World} {base : Nat} {e : TypeId} {A : Option Addr} {n c : Nat} {l : List UInt8} (h : Own w base e A n c l) (o : Obj) : Own (w.alloc o) base e A n c l := World.ownsRow.alloc h o
theorem Own.kept {w w' : World} {base : Nat} {e : TypeId} {A : Option Addr} {n c : Nat} {l : List UInt8} (h : Own w base e A n c l) (hx : Ext w w') : Own w' base e A n c l :=
  World.ownsRow.kept (row := none) h ⟨hx.os, hx.tape, hx.output, hx.size, fun _ hk _ => hx.blk hk⟩ (by
    cases hv : Value.ownBlock (.slice A n c)
    · exact .inl rfl
    · exact .inr (by simp))
/-- A nil row, or a row in a block from base on. -/
theorem Own.block {w : World} {base : Nat} {e : TypeId} {A : Option Addr} {n c : Nat} {l : List UInt8} (h : Own w base e A n c l) : ∀ k, Value.ownBlock (.slice A n c) = some k → base ≤ k ∧ k < w.heap.size :=
  World.ownsRow.lt h
/-- Cells that were just laid, as a slice. -/
theorem Rd.newM (w : World) (e : TypeId) (l : List UInt8) (m : Nat × Nat) : Rd (w.alloc (.cells (bvs l).toArray e m)) w.heap.size (some ⟨w.heap.size, 0, none⟩) l.length l := by
  refine ⟨rfl, .inr ⟨w.heap.size, 0, rfl, Nat.le_refl _, by simp, fun i hi => ?_⟩⟩
  rw [cell_of_row _ _ _ _ _ _ (heap_alloc_new w _)]
  simp [bvs, hi]

theorem Rd.new (w : World) (e : TypeId) (l : List UInt8) : Rd (w.alloc (.cells (bvs l).toArray e)) w.heap.size (some ⟨w.heap.size, 0, none⟩) l.length l := Rd.newM w e l (0, 0)
theorem Rd.newU1 (w : World) (e : TypeId) (u : UInt8) : Rd (w.alloc (.cells #[.int .u8 (u.toNat : Int)] e)) w.heap.size (some ⟨w.heap.size, 0, none⟩) 1 [u] := Rd.new w e [u]
theorem Rd.newU2 (w : World) (e : TypeId) (u v : UInt8) : Rd (w.alloc (.cells #[.int .u8 (u.toNat : Int), .int .u8 (v.toNat : Int)] e)) w.heap.size (some ⟨w.heap.size, 0, none⟩) 2 [u, v] := Rd.new w e [u, v]
theorem byte_of (x : Int) (h0 : 0 ≤ x) (h : x < 256) : ((UInt8.ofNat x.toNat).toNat : Int) = x := by
  rw [UInt8.toNat_ofNat', Nat.mod_eq_of_lt (by omega)]
  omega
theorem Rd.new1 (w : World) (e : TypeId) (x : Int) (h0 : 0 ≤ x) (h : x < 256) : Rd (w.alloc (.cells #[.int .u8 x] e)) w.heap.size (some ⟨w.heap.size, 0, none⟩) 1 [UInt8.ofNat x.toNat] := by
  have := Rd.new w e [UInt8.ofNat x.toNat]
  simp only [bvs, List.map_cons, List.map_nil, byte_of x h0 h] at this
  exact this
theorem Rd.new2 (w : World) (e : TypeId) (x y : Int) (h0 : 0 ≤ x) (h : x < 256) (k0 : 0 ≤ y) (k : y < 256) : Rd (w.alloc (.cells #[.int .u8 x, .int .u8 y] e)) w.heap.size (some ⟨w.heap.size, 0, none⟩) 2 [UInt8.ofNat x.toNat, UInt8.ofNat y.toNat] := by
  have := Rd.new w e [UInt8.ofNat x.toNat, UInt8.ofNat y.toNat]
  simp only [bvs, List.map_cons, List.map_nil, byte_of x h0 h, byte_of y k0 k] at this
  exact this

/-- The slice at A of n byte slices reads as the lists ls. -/
def RdL (w : World) (A : Option Addr) (n : Nat) (ls : List (List UInt8)) : Prop :=
  ls.length = n ∧ (n = 0 ∨ ∃ b off, A = some ⟨b, off, none⟩ ∧ b < w.heap.size ∧ ∀ i (h : i < ls.length), ∃ Ai ci, w.cell? ⟨b, off + i, none⟩ = some (.slice Ai ls[i].length ci) ∧ Rd w 0 Ai ls[i].length ls[i])
theorem RdL.len {w : World} {A : Option Addr} {n : Nat} {ls : List (List UInt8)} (h : RdL w A n ls) : ls.length = n := h.1
theorem RdL.ext {w w' : World} {A : Option Addr} {n : Nat} {ls : List (List UInt8)} (h : RdL w A n ls) (hx : Ext w w') : RdL w' A n ls := by
  refine ⟨h.1, h.2.imp id ?_⟩
  rintro ⟨b, off, rfl, h2, h3⟩
  have := hx.size
  refine ⟨b, off, rfl, by omega, fun i hi => ?_⟩
  obtain ⟨Ai, ci, h4, h5⟩ := h3 i hi
  exact ⟨Ai, ci, hx.cellSome h4, h5.ext hx⟩
theorem RdL.pos {w : World} {A : Option Addr} {n : Nat} {ls : List (List UInt8)} (h : RdL w A n ls) (hn : 0 < n) : ∃ b off, A = some ⟨b, off, none⟩ ∧ b < w.heap.size ∧ ∀ i (h : i < ls.length), ∃ Ai ci, w.cell? ⟨b, off + i, none⟩ = some (.slice Ai ls[i].length ci) ∧ Rd w 0 Ai ls[i].length ls[i] := by
  rcases h.2 with h0 | h0
  · omega
  · exact h0
/-- Slices that were just laid side by side. -/
theorem RdL.new {w : World} (e : TypeId) (As : List (Option Addr × Nat)) (ls : List (List UInt8)) (hl : As.length = ls.length) (h : ∀ i (h1 : i < As.length) (h2 : i < ls.length), Rd w 0 As[i].1 ls[i].length ls[i]) :
    RdL (w.alloc (.cells (List.zipWith (fun a l => Value.slice a.1 l.length a.2) As ls).toArray e)) (some ⟨w.heap.size, 0, none⟩) ls.length ls := by
  refine ⟨rfl, .inr ⟨w.heap.size, 0, rfl, by simp, fun i hi => ?_⟩⟩
  have hi' : i < As.length := by omega
  refine ⟨As[i].1, As[i].2, ?_, (h i hi' hi).ext ((Ext.refl w).alloc _)⟩
  rw [cell_of_row _ _ _ _ _ _ (heap_alloc_new w _), Nat.zero_add, List.getElem?_toArray, List.getElem?_eq_getElem (by rw [List.length_zipWith]; omega), List.getElem_zipWith]
theorem RdL.new2 {w : World} (e : TypeId) (A B : Option Addr) (n m c d : Nat) (l k : List UInt8) (h1 : Rd w 0 A n l) (h2 : Rd w 0 B m k) :
    RdL (w.alloc (.cells #[.slice A n c, .slice B m d] e)) (some ⟨w.heap.size, 0, none⟩) 2 [l, k] := by
  have e1 := h1.len
  have e2 := h2.len
  subst e1 e2
  have := RdL.new (w := w) e [(A, c), (B, d)] [l, k] rfl (by
    intro i h3 h4
    match i, h3 with
    | 0, _ => exact h1
    | 1, _ => exact h2)
  simpa using this
theorem RdL.new3 {w : World} (e : TypeId) (A B C : Option Addr) (n m o c d f : Nat) (l k j : List UInt8) (h1 : Rd w 0 A n l) (h2 : Rd w 0 B m k) (h3 : Rd w 0 C o j) :
    RdL (w.alloc (.cells #[.slice A n c, .slice B m d, .slice C o f] e)) (some ⟨w.heap.size, 0, none⟩) 3 [l, k, j] := by
  have e1 := h1.len
  have e2 := h2.len
  have e3 := h3.len
  subst e1 e2 e3
  have := RdL.new (w := w) e [(A, c), (B, d), (C, f)] [l, k, j] rfl (by
    intro i h5 h4
    match i, h5 with
    | 0, _ => exact h1
    | 1, _ => exact h2
    | 2, _ => exact h3)
  simpa using this

/-- the lists' bytes, in a row -/
def jn (ls : List (List UInt8)) : List UInt8 := ls.flatten
theorem jn_snoc (ls : List (List UInt8)) (k : Nat) (h : k < ls.length) : jn (ls.take (k + 1)) = jn (ls.take k) ++ ls[k] := by
  unfold jn
  rw [List.take_succ_eq_append_getElem h, List.flatten_append, List.flatten_cons, List.flatten_nil, List.append_nil]
theorem jn_le (ls : List (List UInt8)) (k : Nat) : (jn (ls.take k)).length ≤ (jn ls).length := by
  have : jn ls = jn (ls.take k) ++ jn (ls.drop k) := by unfold jn; rw [← List.flatten_append, List.take_append_drop]
  rw [this, List.length_append]
  omega
theorem jn_zero (ls : List (List UInt8)) : jn (ls.take 0) = [] := rfl
theorem jn_full (ls : List (List UInt8)) : jn (ls.take ls.length) = jn ls := by rw [List.take_length]

/-- What is asked of the types []byte (t) and byte (e). -/
structure ByteTy (P : Program) (t e : TypeId) : Prop where
  ht : P.underlying t = some (.slice e)
  he : P.underlying e = some (.int .u8)
  hi : ∃ i, P.info? e = some i ∧ i.zero = some (.int .u8 0) ∧ i.size = 1 ∧ i.bytes = 1

section
variable {P : Program} {t e : TypeId}
theorem wp_append_b (hT : ByteTy P t e) {w : World} {o : Oper} {a : Act} {K : Act → World → Prop} {Q : Exit → Act → World → Prop} (s x : Operand)
    (ho : o.op = .call { callee := .builtin .append, args := #[s, x], argTypes := #[t, t] })
    (W : World) (hE : Ext W w) (A : Option Addr) (n c : Nat) (l : List UInt8) (hs : a.eval s = .slice A n c) (hown : Own w W.heap.size e A n c l)
    (B : Option Addr) (m d lo : Nat) (k : List UInt8) (hx : a.eval x = .slice B m d) (hr : Rd w lo B m k) (hlen : n + m ≤ 140737488355328)
    (h : ∀ A' c' w', Own w' W.heap.size e A' (n + m) c' (l ++ k) → w.grownBy w' (Value.ownBlock (.slice A n c)) → Ext W w' → K (a.put o.dst (.slice A' (n + m) c')) w') : o.wp P a w K Q := by
  obtain ⟨i, hi, hz, hsz, hby⟩ := hT.hi
  have hm : n + m ≤ maxLen := by simp only [maxLen]; omega
  have key : ∃ v' w', (Builtin.append_ #[t, t] o.type #[.slice A n c, .slice B m d]).run P w = .ok v' w' ∧ w'.ownsRow W.heap.size e 1 v' (n + m) (bvs l ++ bvs k) ∧ w.grownBy w' (Value.ownBlock (.slice A n c)) := by
    rcases B with _ | ad
    · have hm0 : m = 0 := by
        rcases hr.2 with h0 | ⟨_, _, h0, _⟩
        · exact h0
        · cases h0
      subst hm0
      have hk : k = [] := List.eq_nil_of_length_eq_zero hr.1
      subst hk
      refine ⟨.slice A n c, w, ?_, by rw [show bvs ([] : List UInt8) = [] from rfl, List.append_nil]; exact hown, World.grownBy.refl w _⟩
      rcases hown.2 with ⟨he, rfl⟩ | ⟨g, cap, cur, he, _, _, hnc, _⟩
      · injection he with h1 _ h3
        subst h1; subst h3
        simp [Builtin.append_, run_underlying hT.ht, sizeOf, typeInfo, hi, Builtin.lenOf, Builtin.firstCells]
      · injection he with h1 _ h3
        subst h1; subst h3
        simp [Builtin.append_, run_underlying hT.ht, sizeOf, typeInfo, hi, Builtin.lenOf, Builtin.firstCells, hnc, storeCells]
    · obtain ⟨v', w', h1, h2, h3, _⟩ := run_append_own (P := P) w W.heap.size t o.type e i (.int .u8 0) 1 1 hT.ht hi hz hsz hby rfl (by omega) (.slice A n c) n (bvs l) hown ad m d (bvs k)
        (by rw [bvs_length, hr.1, Nat.mul_one]) (hr.cells rfl) (bvs_one k) hm (by omega) hE.size
      exact ⟨v', w', h1, h2, h3⟩
  obtain ⟨v', w', h1, h2, h3⟩ := key
  rw [← bvs_append] at h2
  obtain ⟨A', c', rfl, h2'⟩ := own_form h2
  unfold Oper.wp execOp
  simp only [ho, resolve, invoke, builtin, Sem.run_bind, Sem.run_pure, Result.andThen_ok, List.map_toArray, List.map_cons, List.map_nil, hs, hx, h1]
  exact h A' c' w' h2' h3 (hE.grown h3 fun q hq => (hown.block q hq).1)

theorem wpList_append_b (hT : ByteTy P t e) {w : World} {ops : Array Oper} {rest : List Oper} {o : Oper} {a : Act} {Q : Exit → Act → World → Prop} (hgd : o.guard = none) (s x : Operand)
    (ho : o.op = .call { callee := .builtin .append, args := #[s, x], argTypes := #[t, t] })
    (W : World) (hE : Ext W w) (A : Option Addr) (n c : Nat) (l : List UInt8) (hs : a.eval s = .slice A n c) (hown : Own w W.heap.size e A n c l)
    (B : Option Addr) (m d lo : Nat) (k : List UInt8) (hx : a.eval x = .slice B m d) (hr : Rd w lo B m k) (hlen : n + m ≤ 140737488355328)
    (h : ∀ A' c' w', Own w' W.heap.size e A' (n + m) c' (l ++ k) → w.grownBy w' (Value.ownBlock (.slice A n c)) → Ext W w' → wpList P ops Q rest (a.put o.dst (.slice A' (n + m) c')) w') : wpList P ops Q (o :: rest) a w :=
  wpList_plain hgd fun _ hK => wp_append_b hT s x ho W hE A n c l hs hown B m d lo k hx hr hlen fun A' c' w' h1 h2 h3 => hK _ _ (h A' c' w' h1 h2 h3)

theorem step_append_b (hT : ByteTy P t e) {w : World} {ops : Array Oper} {o : Oper} {a : Act} {K : Act → World → Prop} {Q : Exit → Act → World → Prop} {E : Prop} (hgd : o.guard = none) (s x : Operand)
    (ho : o.op = .call { callee := .builtin .append, args := #[s, x], argTypes := #[t, t] })
    (W : World) (hE : Ext W w) (A : Option Addr) (n c : Nat) (l : List UInt8) (hs : a.eval s = .slice A n c) (hown : Own w W.heap.size e A n c l)
    (B : Option Addr) (m d lo : Nat) (k : List UInt8) (hx : a.eval x = .slice B m d) (hr : Rd w lo B m k) (hlen : n + m ≤ 140737488355328)
    (h : ∀ A' c' w', Own w' W.heap.size e A' (n + m) c' (l ++ k) → w.grownBy w' (Value.ownBlock (.slice A n c)) → Ext W w' → K (a.put o.dst (.slice A' (n + m) c')) w') :
    if Region.wanted o (yielded ops a.tmps) = true then Oper.wp P o a w K Q else E := by
  have hw : Region.wanted o (yielded ops a.tmps) = true := by simp [Region.wanted, hgd]
  rw [if_pos hw]
  exact wp_append_b hT s x ho W hE A n c l hs hown B m d lo k hx hr hlen h

/-- make([]byte, n), n zeros -/
theorem wpList_make_b (hT : ByteTy P t e) {w : World} {ops : Array Oper} {rest : List Oper} {o : Oper} {a : Act} {Q : Exit → Act → World → Prop} (hgd : o.guard = none) (l c : Operand) (hop : o.op = Op.makeSlice t l c)
    (W : World) (hE : Ext W w) (kl kc : IntKind) (L C : Int) (n : Nat) (hl : a.eval l = .int kl L) (hc : a.eval c = .int kc C) (hL : L = (n : Int)) (hC : C = (n : Int)) (hn : n ≤ 140737488355328)
    (h : ∀ w', Own w' W.heap.size e (some ⟨w.heap.size, 0, none⟩) n n (List.replicate n 0) → w.grownBy w' none → Ext W w' → wpList P ops Q rest (a.put o.dst (.slice (some ⟨w.heap.size, 0, none⟩) n n)) w') : wpList P ops Q (o :: rest) a w := by
  obtain ⟨i, hi, hz, hsz, hby⟩ := hT.hi
  refine wpList_make_full w hgd l c t hop W.heap.size e i _ 1 hT.ht hi hz hsz kl kc L C n hl hc hL hC (by rw [hby]; omega) (by simp only [maxLen]; omega) hE.size fun w' h1 h2 => h w' ?_ h2 (hE.grown h2 (by simp))
  have e0 : (madeCells (Value.int .u8 0).cells (n * 1)).toList = bvs (List.replicate n 0) := by
    have := toList_madeCells_one (.int .u8 0) n
    rw [Nat.mul_one]
    simpa [bvs, Value.cells] using this
  rw [e0] at h1
  exact h1

/-- make([]byte, 0, n), nothing yet -/
theorem wpList_room_b (hT : ByteTy P t e) {w : World} {ops : Array Oper} {rest : List Oper} {o : Oper} {a : Act} {Q : Exit → Act → World → Prop} (hgd : o.guard = none) (l c : Operand) (hop : o.op = Op.makeSlice t l c)
    (W : World) (hE : Ext W w) (kl kc : IntKind) (C : Int) (n : Nat) (hl : a.eval l = .int kl 0) (hc : a.eval c = .int kc C) (hC : C = (n : Int)) (hn : n ≤ 140737488355328)
    (h : ∀ w', Own w' W.heap.size e (some ⟨w.heap.size, 0, none⟩) 0 n [] → w.grownBy w' none → Ext W w' → wpList P ops Q rest (a.put o.dst (.slice (some ⟨w.heap.size, 0, none⟩) 0 n)) w') : wpList P ops Q (o :: rest) a w := by
  obtain ⟨i, hi, hz, hsz, hby⟩ := hT.hi
  exact wpList_make_own w hgd l c t hop W.heap.size e i _ 1 hT.ht hi hz hsz kl kc C n hl hc hC (by rw [hby]; omega) (by simp only [maxLen]; omega) hE.size fun w' h1 h2 => h w' h1 h2 (hE.grown h2 (by simp))

/-- l, with k over it from off on -/
def over (l : List UInt8) (off : Nat) (k : List UInt8) : List UInt8 := l.take off ++ (k ++ l.drop (off + k.length))

/-- copy's run into a row of the call's own -/
theorem copy_key (hT : ByteTy P t e) {w : World} (ty : TypeId) (W : World) (g n c : Nat) (l : List UInt8) (hown : Own w W.heap.size e (some ⟨g, 0, none⟩) n c l)
    (dp : Option Addr) (dLen dCap off : Nat) (B : Option Addr) (m mc lo : Nat) (k : List UInt8) (hr : Rd w lo B m k)
    (hdp : 0 < m → dp = some ⟨g, off, none⟩) (hm : m ≤ dLen) (hfit : off + m ≤ n) :
    ∃ w', (Builtin.copy_ #[t, t] ty #[.slice dp dLen dCap, .slice B m mc]).run P w = .ok (goInt m) w' ∧ Own w' W.heap.size e (some ⟨g, 0, none⟩) n c (over l off k) ∧ w.grownBy w' (some g) := by
  obtain ⟨i, hi, hz, hsz, hby⟩ := hT.hi
  have hmin : Nat.min m dLen = m := Nat.min_eq_left hm
  have hkl := hr.len
  rcases Nat.eq_zero_or_pos m with h0 | h0
  · subst h0
    have hk : k = [] := List.eq_nil_of_length_eq_zero hkl
    subst hk
    exact ⟨w, run_copy_none w t t ty e dp B dLen dCap 0 mc hT.ht (by simp [hi, hsz]) (by simp), by simpa [over] using hown, World.grownBy.refl w _⟩
  · obtain rfl := hdp h0
    obtain ⟨b, off', rfl, -, -, -⟩ := hr.pos h0
    have hown' := hown
    rcases hown.2 with ⟨he, _⟩ | ⟨g', cap, cur, he, hb, hg, hnc, hcm, hcs, htake⟩
    · cases he
    · cases he
      rw [Nat.mul_one] at hcs htake
      have hln : l.length = n := hown'.rd.len
      refine ⟨w.setRow g (cur.toList.take off ++ bvs k ++ cur.toList.drop (off + m)).toArray, ?_, ⟨?_, .inr ⟨g, c, _, rfl, hb, setRow_heap w g cur _ e _ hg, hnc, hcm, ?_, ?_⟩⟩, ⟨rfl, rfl, rfl, by simp [World.setRow], fun q _ hq => setRow_other w g q _ (fun ee => hq (by rw [ee]))⟩⟩
      · have := run_copy_row (P := P) w t t ty e g off dLen dCap ⟨b, off', none⟩ m mc cur e (bvs k) hT.ht (by simp [hi, hsz]) hg (by rw [bvs_length, hkl, hmin]) (hr.cells rfl) (by rw [bvs_length, hkl, hcs]; omega) (bvs_one k)
        rw [bvs_length, hkl] at this
        exact this
      · rw [bvs_length]
        simp only [over, List.length_append, List.length_take, List.length_drop]
        omega
      · simp only [List.size_toArray, List.length_append, List.length_take, List.length_drop, Array.length_toList, bvs_length]
        omega
      · have e1 : cur.toList = bvs l ++ cur.toList.drop n := by rw [← htake, List.take_append_drop]
        have e2 : bvs l = (bvs l).take off ++ ((bvs l).drop off) := (List.take_append_drop _ _).symm
        have hbl : (bvs l).length = n := by rw [bvs_length, hln]
        have e3 : bvs (over l off k) = (bvs l).take off ++ (bvs k ++ (bvs l).drop (off + k.length)) := by
          simp [over, bvs, List.map_take, List.map_drop]
        rw [e3, Nat.mul_one, hkl]
        show List.take n (cur.toList.take off ++ bvs k ++ cur.toList.drop (off + m)) = _
        have t1 : cur.toList.take off = (bvs l).take off := by rw [e1, List.take_append_of_le_length (by omega)]
        have t2 : cur.toList.drop (off + m) = (bvs l).drop (off + m) ++ cur.toList.drop n := by
          conv => lhs; rw [e1]
          rw [List.drop_append_of_le_length (by omega)]
        rw [t1, t2, ← List.append_assoc, List.take_append_of_le_length (by simp only [List.length_append, List.length_take, List.length_drop, bvs_length]; omega), ← List.append_assoc]
        exact List.take_of_length_le (by simp only [List.length_append, List.length_take, List.length_drop, bvs_length]; omega)

/-- copy into a row of the call's own -/
theorem wp_copy_b (hT : ByteTy P t e) {w : World} {o : Oper} {a : Act} {K : Act → World → Prop} {Q : Exit → Act → World → Prop} (d s : Operand)
    (ho : o.op = .call { callee := .builtin .copy, args := #[d, s], argTypes := #[t, t] })
    (W : World) (hE : Ext W w) (g n c : Nat) (l : List UInt8) (hown : Own w W.heap.size e (some ⟨g, 0, none⟩) n c l)
    (dp : Option Addr) (dLen dCap off : Nat) (hd : a.eval d = .slice dp dLen dCap) (B : Option Addr) (m mc lo : Nat) (k : List UInt8) (hs : a.eval s = .slice B m mc) (hr : Rd w lo B m k)
    (hdp : 0 < m → dp = some ⟨g, off, none⟩) (hm : m ≤ dLen) (hfit : off + m ≤ n)
    (h : ∀ w', Own w' W.heap.size e (some ⟨g, 0, none⟩) n c (over l off k) → w.grownBy w' (some g) → Ext W w' → K (a.put o.dst (goInt m)) w') : o.wp P a w K Q := by
  obtain ⟨w', h1, h2, h3⟩ := copy_key hT o.type W g n c l hown dp dLen dCap off B m mc lo k hr hdp hm hfit
  unfold Oper.wp execOp
  simp only [ho, resolve, invoke, builtin, Sem.run_bind, Sem.run_pure, Result.andThen_ok, List.map_toArray, List.map_cons, List.map_nil, hd, hs, h1]
  exact h w' h2 h3 (hE.grown h3 fun q hq => (hown.block q (by rw [← hq]; rfl)).1)

/-- a source that is longer than the row is cut -/
theorem copy_cut (ts : Array TypeId) (ty : TypeId) (dp B : Option Addr) (dLen dCap m mc : Nat) (w : World) (h : dLen ≤ m) :
    (Builtin.copy_ ts ty #[.slice dp dLen dCap, .slice B m mc]).run P w = (Builtin.copy_ ts ty #[.slice dp dLen dCap, .slice B dLen mc]).run P w := by
  have e1 : Nat.min m dLen = dLen := Nat.min_eq_right h
  have e2 : Nat.min dLen dLen = dLen := Nat.min_self _
  cases hts : ts[0]? <;> cases B <;> simp [Builtin.copy_, Builtin.lenOf, Builtin.firstCells, hts, e1, e2]
theorem wp_copy_long (hT : ByteTy P t e) {w : World} {o : Oper} {a : Act} {K : Act → World → Prop} {Q : Exit → Act → World → Prop} (d s : Operand)
    (ho : o.op = .call { callee := .builtin .copy, args := #[d, s], argTypes := #[t, t] })
    (W : World) (hE : Ext W w) (g n c : Nat) (l : List UInt8) (hown : Own w W.heap.size e (some ⟨g, 0, none⟩) n c l)
    (dp : Option Addr) (dLen dCap off : Nat) (hd : a.eval d = .slice dp dLen dCap) (B : Option Addr) (m mc lo : Nat) (k : List UInt8) (hs : a.eval s = .slice B m mc) (hr : Rd w lo B m k)
    (hdp : 0 < dLen → dp = some ⟨g, off, none⟩) (hm : dLen ≤ m) (hfit : off + dLen ≤ n)
    (h : ∀ w', Own w' W.heap.size e (some ⟨g, 0, none⟩) n c (over l off (k.take dLen)) → w.grownBy w' (some g) → Ext W w' → K (a.put o.dst (goInt dLen)) w') : o.wp P a w K Q := by
  obtain ⟨w', h1, h2, h3⟩ := copy_key hT o.type W g n c l hown dp dLen dCap off B dLen mc lo (k.take dLen) (hr.take hm) hdp (Nat.le_refl _) hfit
  rw [← copy_cut _ _ _ _ _ _ _ _ _ hm] at h1
  unfold Oper.wp execOp
  simp only [ho, resolve, invoke, builtin, Sem.run_bind, Sem.run_pure, Result.andThen_ok, List.map_toArray, List.map_cons, List.map_nil, hd, hs, h1]
  exact h w' h2 h3 (hE.grown h3 fun q hq => (hown.block q (by rw [← hq]; rfl)).1)
theorem wpList_copy_long (hT : ByteTy P t e) {w : World} {ops : Array Oper} {rest : List Oper} {o : Oper} {a : Act} {Q : Exit → Act → World → Prop} (hgd : o.guard = none) (d s : Operand)
    (ho : o.op = .call { callee := .builtin .copy, args := #[d, s], argTypes := #[t, t] })
    (W : World) (hE : Ext W w) (g n c : Nat) (l : List UInt8) (hown : Own w W.heap.size e (some ⟨g, 0, none⟩) n c l)
    (dp : Option Addr) (dLen dCap off : Nat) (hd : a.eval d = .slice dp dLen dCap) (B : Option Addr) (m mc lo : Nat) (k : List UInt8) (hs : a.eval s = .slice B m mc) (hr : Rd w lo B m k)
    (hdp : 0 < dLen → dp = some ⟨g, off, none⟩) (hm : dLen ≤ m) (hfit : off + dLen ≤ n)
    (h : ∀ w', Own w' W.heap.size e (some ⟨g, 0, none⟩) n c (over l off (k.take dLen)) → w.grownBy w' (some g) → Ext W w' → wpList P ops Q rest (a.put o.dst (goInt dLen)) w') : wpList P ops Q (o :: rest) a w :=
  wpList_plain hgd fun _ hK => wp_copy_long hT d s ho W hE g n c l hown dp dLen dCap off hd B m mc lo k hs hr hdp hm hfit fun w' h1 h2 h3 => hK _ _ (h w' h1 h2 h3)

theorem wpList_copy_b (hT : ByteTy P t e) {w : World} {ops : Array Oper} {rest : List Oper} {o : Oper} {a : Act} {Q : Exit → Act → World → Prop} (hgd : o.guard = none) (d s : Operand)
    (ho : o.op = .call { callee := .builtin .copy, args := #[d, s], argTypes := #[t, t] })
    (W : World) (hE : Ext W w) (g n c : Nat) (l : List UInt8) (hown : Own w W.heap.size e (some ⟨g, 0, none⟩) n c l)
    (dp : Option Addr) (dLen dCap off : Nat) (hd : a.eval d = .slice dp dLen dCap) (B : Option Addr) (m mc lo : Nat) (k : List UInt8) (hs : a.eval s = .slice B m mc) (hr : Rd w lo B m k)
    (hdp : 0 < m → dp = some ⟨g, off, none⟩) (hm : m ≤ dLen) (hfit : off + m ≤ n)
    (h : ∀ w', Own w' W.heap.size e (some ⟨g, 0, none⟩) n c (over l off k) → w.grownBy w' (some g) → Ext W w' → wpList P ops Q rest (a.put o.dst (goInt m)) w') : wpList P ops Q (o :: rest) a w :=
  wpList_plain hgd fun _ hK => wp_copy_b hT d s ho W hE g n c l hown dp dLen dCap off hd B m mc lo k hs hr hdp hm hfit fun w' h1 h2 h3 => hK _ _ (h w' h1 h2 h3)

theorem step_copy_b (hT : ByteTy P t e) {w : World} {ops : Array Oper} {o : Oper} {a : Act} {K : Act → World → Prop} {Q : Exit → Act → World → Prop} {E : Prop} (hgd : o.guard = none) (d s : Operand)
    (ho : o.op = .call { callee := .builtin .copy, args := #[d, s], argTypes := #[t, t] })
    (W : World) (hE : Ext W w) (g n c : Nat) (l : List UInt8) (hown : Own w W.heap.size e (some ⟨g, 0, none⟩) n c l)
    (dp : Option Addr) (dLen dCap off : Nat) (hd : a.eval d = .slice dp dLen dCap) (B : Option Addr) (m mc lo : Nat) (k : List UInt8) (hs : a.eval s = .slice B m mc) (hr : Rd w lo B m k)
    (hdp : 0 < m → dp = some ⟨g, off, none⟩) (hm : m ≤ dLen) (hfit : off + m ≤ n)
    (h : ∀ w', Own w' W.heap.size e (some ⟨g, 0, none⟩) n c (over l off k) → w.grownBy w' (some g) → Ext W w' → K (a.put o.dst (goInt m)) w') :
    if Region.wanted o (yielded ops a.tmps) = true then Oper.wp P o a w K Q else E := by
  have hw : Region.wanted o (yielded ops a.tmps) = true := by simp [Region.wanted, hgd]
  rw [if_pos hw]
  exact wp_copy_b hT d s ho W hE g n c l hown dp dLen dCap off hd B m mc lo k hs hr hdp hm hfit h

/-- one byte of an owned row -/
theorem Own.at_ {w : World} {base n c g : Nat} {l : List UInt8} (h : Own w base e (some ⟨g, 0, none⟩) n c l) {k : Nat} (hk : k < n) : w.cell? ⟨g, k, none⟩ = some (.int .u8 ((l[k]'(by have := h.rd.len; omega)).toNat : Int)) := by
  rw [World.ownsRow.cellAt h k (by omega), bvs_get]
theorem Own.free {w : World} {base n c g : Nat} {l : List UInt8} (h : Own w base e (some ⟨g, 0, none⟩) n c l) (k : Nat) : w.frozen? ⟨g, k, none⟩ = false := World.ownsRow.frozenAt h k
theorem bvs_set (l : List UInt8) (k : Nat) (u : UInt8) : (bvs l).set k (.int .u8 (u.toNat : Int)) = bvs (l.set k u) := by simp [bvs, List.map_set]
theorem Own.store {w : World} {base n c g : Nat} {l : List UInt8} (h : Own w base e (some ⟨g, 0, none⟩) n c l) (k : Nat) (u : UInt8) :
    Own (w.setCell ⟨g, k, none⟩ (.int .u8 (u.toNat : Int))) base e (some ⟨g, 0, none⟩) n c (l.set k u) ∧ w.grownBy (w.setCell ⟨g, k, none⟩ (.int .u8 (u.toNat : Int))) (some g) := by
  have := World.ownsRow.stored h k (.int .u8 (u.toNat : Int))
  rw [bvs_set] at this
  exact this
end

/-- Block g is just the cells cs of element type t. -/
def Blk (w : World) (g : Nat) (t : TypeId) (cs : Array Value) : Prop := w.heap[g]? = some (.cells cs t (0, 0))
section
variable {w w' : World} {g : Nat} {t : TypeId} {cs : Array Value}
theorem Blk.lt (h : Blk w g t cs) : g < w.heap.size := (Array.getElem?_eq_some_iff.1 h).1
theorem Blk.cell (h : Blk w g t cs) (i : Nat) : w.cell? ⟨g, i, none⟩ = cs[i]? := cell_of_row w g i cs t (0, 0) h
theorem Blk.free (h : Blk w g t cs) (i : Nat) : w.frozen? ⟨g, i, none⟩ = false := by
  unfold Blk at h
  simp [World.frozen?, h]
theorem Blk.new (w : World) (t : TypeId) (cs : Array Value) : Blk (w.alloc (.cells cs t)) w.heap.size t cs := heap_alloc_new w _
theorem Blk.ext (h : Blk w g t cs) (hx : Ext w w') : Blk w' g t cs := (hx.blk h.lt).trans h
theorem Blk.set_ (h : Blk w g t cs) (i : Nat) (u : Value) : Blk (w.setCell ⟨g, i, none⟩ u) g t (cs.setIfInBounds i u) := by
  unfold Blk at h ⊢
  simp [World.setCell, Array.getElem?_modify, h]
theorem Blk.other (h : Blk w g t cs) {r : Option Nat} (hb : w.grownBy w' r) (hg : some g ≠ r) : Blk w' g t cs := (hb.block g h.lt hg).trans h
theorem setCell_grownBy (w : World) (p : Addr) (u : Value) : w.grownBy (w.setCell p u) (some p.block) :=
  ⟨rfl, rfl, rfl, by simp [World.setCell], fun k _ hk => Below.heap_setCell w p u k (fun e => hk (by rw [e]))⟩
theorem grownBy_trans {a b c : World} {r : Option Nat} (h : a.grownBy b r) (k : b.grownBy c r) : a.grownBy c r :=
  ⟨k.os.trans h.os, k.tape.trans h.tape, k.output.trans h.output, Nat.le_trans h.size k.size, fun i hi hr => (k.block i (Nat.lt_of_lt_of_le hi h.size) hr).trans (h.block i hi hr)⟩
theorem Ext.grownBy {a b : World} (h : Ext a b) (r : Option Nat) : a.grownBy b r := ⟨h.os, h.tape, h.output, h.size, fun _ hi _ => h.blk hi⟩
theorem drew_grownBy (w : World) (n : Nat) (r : Option Nat) : w.grownBy (w.drewN n) r := ((Ext.refl w).drewN n).grownBy r
/-- Behind a change of one block that holds no bytes a slice of bytes reads as it did. -/
theorem Rd.other {lo : Nat} {A : Option Addr} {n : Nat} {l : List UInt8} (h : Rd w lo A n l) (hb : w.grownBy w' (some g)) (hg : Blk w g t cs) (hn : ∀ (i : Nat) (x : Int), cs[i]? ≠ some (Value.int .u8 x)) : Rd w' lo A n l := by
  refine ⟨h.1, ?_⟩
  rcases Nat.eq_zero_or_pos n with h0 | h0
  · exact .inl h0
  · obtain ⟨b, off, rfl, h1, h2, h3⟩ := h.pos h0
    have hne : b ≠ g := by
      rintro rfl
      have hl := h.1
      have := h3 0 (by omega)
      rw [hg.cell] at this
      exact hn _ _ this
    have := hb.size
    refine .inr ⟨b, off, rfl, h1, by omega, fun i hi => ?_⟩
    rw [World.cell?_of_block (w := w) (hb.block b h2 (by simpa using hne))]
    exact h3 i hi
end

theorem foldl_push_bvs (l : List UInt8) : ∀ (s : ByteArray), (l.map fun u => ((u.toNat : Nat) : Int)).foldl (fun r n => r.push (UInt8.ofNat n.toNat)) s = ⟨s.data ++ l.toArray⟩ := by
  induction l with
  | nil => intro s; simp
  | cons u l ih =>
    intro s
    rw [List.map_cons, List.foldl_cons, ih]
    simp [ByteArray.push]

/-- string(b) -/
theorem run_string {P : Program} {w : World} {lo : Nat} {A : Option Addr} {n : Nat} {l : List UInt8} (h : Rd w lo A n l) (c : Nat) {src e dst : TypeId}
    (hs : P.underlying src = some (.slice e)) (he : P.underlying e = some (.int .u8)) (hd : P.underlying dst = some .string) :
    (convert src dst (.slice A n c)).run P w = .ok (.string ⟨l.toArray⟩) w := by
  have hl := h.1
  rcases A with _ | a
  · have h0 : n = 0 := by
      rcases h.2 with h0 | ⟨_, _, h0, _⟩
      · exact h0
      · cases h0
    subst h0
    have : l = [] := List.eq_nil_of_length_eq_zero hl
    subst this
    exact run_convert_bytes_nil w src e hs he 0 c dst hd
  · have hload : (loadCells a n).run P w = .ok ((l.map fun u => ((u.toNat : Nat) : Int)).map (Value.int .u8)).toArray w := by
      have := run_loadCells_list (P := P) w a (bvs l) (h.cells rfl)
      rw [bvs_length, hl] at this
      rw [this]
      simp [bvs]
    rw [run_convert_bytes_string w src dst e _ n c hs he hd, run_bytesToString w a n c _ hload, foldl_push_bvs]
    simp [ByteArray.empty, ByteArray.emptyWithCapacity]
    rfl

end Go.Proofs.Ytekbdpfiommmbaa
