/- A net and the document's one, side by side, and what is held beside them. Conditions: told at each. send: the same sends to both nets. Conditions: the nets are in memory as told, and the same. A net's Take, Drop, Double, Clear, At, beside the document's one: what they answer is told by its row of flights. Conditions: told at each. do: the same act, done to both nets. Conditions: the nets are in memory as told, and the same. pair: both nets behind the same acts. Conditions: the acts are in memory as told. -/
import Derived.Test.YtekbdpfiommmbaaRA
import Derived.Test.YtekbdpfiommmbaaNact
namespace Go.Proofs.Ytekbdpfiommmbaa
section partRboth
open Go.RowKit Go.Maps
set_option linter.unusedVariables false
set_option linter.unusedSimpArgs false
attribute [local go_sem] Oper.semAt_some

/-- what is held: a flight's bytes, a block, whatever lies in a block -/
inductive Hk where
  | fb (t : Int × Int × Row) (p : Option Addr × Nat)
  | blk (b : Nat) (ty : TypeId) (cs : Array Value)
  | obj (b : Nat) (o : Obj)
def Hk.ok (w : World) (O : Ow) (q : Nat) : Hk → Prop
  | .fb t p => FB w O t p
  | .blk b ty cs => Blk w b ty cs ∧ O b = none ∧ b ≠ q
  | .obj b o => w.heap[b]? = some o ∧ O b = none ∧ b ≠ q
theorem Hk.keep {w w' : World} {O O' : Ow} {q : Nat} (hs : w.heap.size ≤ w'.heap.size) (hk : ∀ k, k < w.heap.size → O k = none → w'.heap[k]? = w.heap[k]? ∧ O' k = none) : ∀ {x : Hk}, x.ok w O q → x.ok w' O' q
  | .fb _ _, h => FB.keep h hs hk
  | .blk b ty cs, ⟨h1, h2, h3⟩ => ⟨(hk b h1.lt h2).1.trans h1, (hk b h1.lt h2).2, h3⟩
  | .obj b o, ⟨h1, h2, h3⟩ => ⟨(hk b (Array.getElem?_eq_some_iff.1 h1).1 h2).1.trans h1, (hk b (Array.getElem?_eq_some_iff.1 h1).1 h2).2, h3⟩
theorem Hk.off {w w' : World} {O : Ow} {q : Nat} (T : Tu (fun k => k = q) w w') (hS : ∀ k, k = q → ∀ cu z, w.heap[k]? ≠ some (.cells cu 5 z)) : ∀ {x : Hk}, x.ok w O q → x.ok w' O q
  | .fb _ _, h => FB.off h T hS
  | .blk b ty cs, ⟨h1, h2, h3⟩ => ⟨h1.tu T h3, h2, h3⟩
  | .obj b o, ⟨h1, h2, h3⟩ => ⟨(T.blk b (Array.getElem?_eq_some_iff.1 h1).1 h3).trans h1, h2, h3⟩
def Pr (w0 w : World) (n q : Nat) (g g' : NC) (L : List Hk) : Prop :=
  ∃ O fm F, NetX w O n fm F g ∧ (∀ b, Owned O b → w0.heap.size ≤ b) ∧ Ext w0 w ∧ RefX w O q g' ∧ w0.heap.size ≤ q ∧ ∀ x ∈ L, x.ok w O q
theorem RefX.hasB {w : World} {O : Ow} {q : Nat} {g : NC} (h : RefX w O q g) : ∃ cs, Blk w q 35 cs := by
  obtain ⟨_, ⟨vs, _, h3, _⟩, _⟩ := h
  exact ⟨_, h3⟩
section
variable {w0 w w' : World} {n q : Nat} {g g' : NC} {L : List Hk}
theorem Pr.ext (h : Pr w0 w n q g g' L) (hx : Ext w w') : Pr w0 w' n q g g' L := by
  obtain ⟨O, fm, F, h1, h2, h3, h4, h5, h6⟩ := h
  exact ⟨O, fm, F, h1.ext hx, h2, h3.trans hx, h4.ext hx, h5, fun x hx' => Hk.keep hx.size (fun k hk e => ⟨hx.blk hk, e⟩) (h6 x hx')⟩
theorem Pr.x (h : Pr w0 w n q g g' L) : Ext w0 w := by
  obtain ⟨O, fm, F, h1, h2, h3, h4, h5, h6⟩ := h
  exact h3
theorem Pr.hold {L' : List Hk} (h : Pr w0 w n q g g' L) (hs : ∀ x ∈ L', x ∈ L) : Pr w0 w n q g g' L' := by
  obtain ⟨O, fm, F, h1, h2, h3, h4, h5, h6⟩ := h
  exact ⟨O, fm, F, h1, h2, h3, h4, h5, fun x hx => h6 x (hs x hx)⟩
theorem Pr.blk (h : Pr w0 w n q g g' L) {b : Nat} {ty : TypeId} {cs : Array Value} (hm : .blk b ty cs ∈ L) : Blk w b ty cs := by
  obtain ⟨O, fm, F, h1, h2, h3, h4, h5, h6⟩ := h
  exact (h6 _ hm).1
theorem Pr.rd (h : Pr w0 w n q g g' L) {t : Int × Int × Row} {p : Option Addr × Nat} (hm : .fb t p ∈ L) : Rd w 0 p.1 t.2.2.length t.2.2 ∧ t.2.2.length ≤ 1048576 := by
  obtain ⟨O, fm, F, h1, h2, h3, h4, h5, h6⟩ := h
  exact ⟨(h6 _ hm).1, (h6 _ hm).2.1⟩
theorem Pr.made (h : Pr w0 w n q g g' L) (hx : Ext w w') {b : Nat} {ty : TypeId} {cs : Array Value} (hb : Blk w' b ty cs) (hlo : w.heap.size ≤ b) : Pr w0 w' n q g g' (.blk b ty cs :: L) := by
  obtain ⟨O, fm, F, h1, h2, h3, h4, h5, h6⟩ := h.ext hx
  obtain ⟨O1, fm1, F1, a1, a2, a3, a4, a5, a6⟩ := h
  refine ⟨O1, fm1, F1, a1.ext hx, a2, a3.trans hx, a4.ext hx, a5, fun x hx' => ?_⟩
  rcases List.mem_cons.1 hx' with rfl | hx'
  · obtain ⟨cq, hq⟩ := a4.hasB
    have := hq.lt
    exact ⟨hb, a1.inn.none hlo, by omega⟩
  · exact Hk.keep hx.size (fun k hk e => ⟨hx.blk hk, e⟩) (a6 x hx')
theorem Pr.obj (h : Pr w0 w n q g g' L) {b : Nat} {o : Obj} (hm : .obj b o ∈ L) : w.heap[b]? = some o := by
  obtain ⟨O, fm, F, h1, h2, h3, h4, h5, h6⟩ := h
  exact (h6 _ hm).1
/-- all blocks between two places -/
def objs (w : World) (lo hi : Nat) : List Hk := (List.range (hi - lo)).filterMap fun i => (w.heap[lo + i]?).map fun o => .obj (lo + i) o
theorem objs_mem {lo hi b : Nat} {o : Obj} (h1 : lo ≤ b) (h2 : b < hi) (ho : w.heap[b]? = some o) : Hk.obj b o ∈ objs w lo hi := by
  refine List.mem_filterMap.2 ⟨b - lo, List.mem_range.2 (by omega), ?_⟩
  rw [show lo + (b - lo) = b by omega, ho]
  rfl
/-- all that was made since is held -/
theorem Pr.since (h : Pr w0 w n q g g' L) (hx : Ext w w') : Pr w0 w' n q g g' (objs w' w.heap.size w'.heap.size ++ L) := by
  obtain ⟨O, fm, F, h1, h2, h3, h4, h5, h6⟩ := h
  refine ⟨O, fm, F, h1.ext hx, h2, h3.trans hx, h4.ext hx, h5, fun x hx' => ?_⟩
  rcases List.mem_append.1 hx' with hx' | hx'
  · obtain ⟨i, hi, e⟩ := List.mem_filterMap.1 hx'
    obtain ⟨o, ho, e2⟩ := Option.map_eq_some_iff.1 e
    subst e2
    obtain ⟨cq, hq⟩ := h4.hasB
    have := hq.lt
    exact ⟨ho, h1.inn.none (by omega), by omega⟩
  · exact Hk.keep hx.size (fun k hk e => ⟨hx.blk hk, e⟩) (h6 x hx')
/-- what was made between, and is held, stays -/
theorem Pr.kept {wa wb : World} {lo hi : Nat} (h : Pr w0 w n q g g' L) (hL : ∀ x ∈ objs wa lo hi, x ∈ L) {k : Nat} (h1 : lo ≤ k) (h2 : k < hi) (hw : k < wa.heap.size) : w.heap[k]? = wa.heap[k]? := by
  have e : wa.heap[k]? = some wa.heap[k] := Array.getElem?_eq_getElem hw
  rw [e]
  exact h.obj (hL _ (objs_mem h1 h2 e))
/-- the net turns -/
theorem Pr.after {O : Ow} {fm : Nat} {F : DataW Value} {g2 : NC} (h1 : NetX w O n fm F g) (h2 : ∀ b, Owned O b → w0.heap.size ≤ b) (h3 : Ext w0 w) (h4 : RefX w O q g') (h5 : w0.heap.size ≤ q) (h6 : ∀ x ∈ L, x.ok w O q) (hA : After w w' O n g2) : Pr w0 w' n q g2 g' L := by
  obtain ⟨O', ⟨fm', F', a1⟩, a2, a3⟩ := hA
  have hk : ∀ k, k < w.heap.size → O k = none → w'.heap[k]? = w.heap[k]? ∧ O' k = none := fun k a b => ⟨a3.blk k a (by rw [Owned, b]; simp), (a2 k a).trans b⟩
  refine ⟨O', fm', F', a1, fun b hb => ?_, a3.ext_of h3 (fun k hk => h2 k hk), h4.keep a3.size hk, h5, fun x hx' => Hk.keep a3.size hk (h6 x hx')⟩
  by_cases e : b < w.heap.size
  · refine h2 b ?_
    rw [Owned, ← a2 b e]
    exact hb
  · have := h3.size
    omega
/-- the document's net turns -/
theorem Pr.ref {O : Ow} {fm : Nat} {F : DataW Value} {g2 : NC} (h1 : NetX w O n fm F g) (h2 : ∀ b, Owned O b → w0.heap.size ≤ b) (h3 : Ext w0 w) (h4 : RefX w O q g') (h5 : w0.heap.size ≤ q) (h6 : ∀ x ∈ L, x.ok w O q) (hR : RefX w' O q g2) (T : Tu (fun k => k = q) w w') : Pr w0 w' n q g g2 L := by
  obtain ⟨cq, hq⟩ := h4.hasB
  have hS : ∀ k, k = q → ∀ cu z, w.heap[k]? ≠ some (.cells cu 5 z) := hq.not_ty (by decide)
  exact ⟨O, fm, F, h1.off T (fun k e => by rw [e]; exact h4.1) hS, h2, T.ext_of h3 (fun k e => by omega), hR, h5, fun x hx => Hk.off T hS (h6 x hx)⟩
/-- the same, while some blocks are kept from the net -/
def PrM (w0 w : World) (n q : Nat) (g g' : NC) (L : List Hk) (s e : Nat) : Prop :=
  ∃ O fm F, NetX w O n fm F g ∧ (∀ b, Fine O b → w0.heap.size ≤ b) ∧ Ext w0 w ∧ RefX w O q g' ∧ w0.heap.size ≤ q ∧ (∀ x ∈ L, x.ok w O q) ∧ (∀ k, s ≤ k → k < e → O k = some (-9, -9)) ∧ w0.heap.size ≤ s
theorem Pr.mark (h : Pr w0 w n q g g' L) (hx : Ext w w') : PrM w0 w' n q g g' L w.heap.size w'.heap.size := by
  obtain ⟨O, fm, F, h1, h2, h3, h4, h5, h6⟩ := h
  obtain ⟨O9, hO9⟩ : ∃ O9 : Ow, (fun k => if w.heap.size ≤ k ∧ k < w'.heap.size then some (-9, -9) else O k) = O9 := ⟨_, rfl⟩
  have e9 : ∀ k, O9 k = if w.heap.size ≤ k ∧ k < w'.heap.size then some (-9, -9) else O k := fun k => by rw [← hO9]
  have hold : ∀ k, k < w.heap.size → O9 k = O k := fun k hk => by rw [e9, if_neg (by omega)]
  have hk : ∀ k, k < w.heap.size → O k = none → w'.heap[k]? = w.heap[k]? ∧ O9 k = none := fun k a b => ⟨hx.blk a, (hold k a).trans b⟩
  refine ⟨O9, fm, F, h1.keep hx.size (fun k hk => ⟨hx.blk hk, hold k hk⟩) (fun k hk => ?_), fun b hb => ?_, h3.trans hx, h4.keep hx.size hk, h5, fun x hx' => Hk.keep hx.size hk (h6 x hx'), fun k k1 k2 => by rw [e9, if_pos ⟨k1, k2⟩], h3.size⟩
  · rw [e9] at hk
    split at hk
    · omega
    · have := h1.inn k hk
      have := hx.size
      omega
  · obtain ⟨p, e1, e2⟩ := hb
    rw [e9] at e1
    split at e1
    · cases e1
      exact absurd rfl e2
    · exact h2 b (by rw [Owned, e1]; rfl)
theorem NetX.marked {O : Ow} {fm : Nat} {F : DataW Value} {S : Nat → Prop} (h : NetX w O n fm F g) (T : Tu S w w') (hS : ∀ k, S k → O k = some (-9, -9)) {O' : Ow} (hO : ∀ k, O' k = if O k = some (-9, -9) then none else O k) : NetX w' O' n fm F g := by
  obtain ⟨o1, o2, b1, m1, hc, hf, hn, hli, h0, h32, hI⟩ := h
  have ne : ∀ k, O k ≠ some (-9, -9) → ¬ S k := fun k hk e => hk (hS k e)
  have kn : O n ≠ some (-9, -9) := by rw [o1]; simp
  have kf : O fm ≠ some (-9, -9) := by rw [o2]; simp
  refine ⟨by rw [hO, if_neg kn]; exact o1, by rw [hO, if_neg kf]; exact o2, b1.tu T (ne n kn), m1.keep (T.blk fm m1.lt (ne fm kf)), hc, hf, hn, fun a b hab => (hli a b hab).keep T.size (fun k hk e => ?_) (fun k hk e => ⟨T.blk k hk (ne k (by rw [e]; simp)), by rw [hO, e]; rfl⟩), h0, h32, fun k hk => ?_⟩
  · have : O k ≠ some (-9, -9) := by
      rw [e]
      have := hab.1
      simp
      omega
    exact ⟨T.blk k hk (ne k this), by rw [hO, if_neg this]⟩
  · rw [hO] at hk
    have := T.size
    split at hk
    · cases hk
    · have := hI k hk
      omega
theorem PrM.free {s e : Nat} (h : PrM w0 w n q g g' L s e) : Pr w0 w n q g g' L := by
  obtain ⟨O, fm, F, h1, h2, h3, h4, h5, h6, h7, h8⟩ := h
  obtain ⟨O', hO'⟩ : ∃ O' : Ow, (fun k => if O k = some (-9, -9) then none else O k) = O' := ⟨_, rfl⟩
  have eO : ∀ k, O' k = if O k = some (-9, -9) then none else O k := fun k => by rw [← hO']
  have hk : ∀ k, k < w.heap.size → O k = none → w.heap[k]? = w.heap[k]? ∧ O' k = none := fun k _ b => ⟨rfl, by rw [eO, b]; rfl⟩
  refine ⟨O', fm, F, h1.marked (Tu.refl (fun _ => False) w) (fun k e => e.elim) eO, fun b hb => ?_, h3, h4.keep (Nat.le_refl _) hk, h5, fun x hx => Hk.keep (Nat.le_refl _) hk (h6 x hx)⟩
  rw [Owned, eO] at hb
  split at hb
  · cases hb
  · rename_i hne
    obtain ⟨p, hp⟩ := Option.isSome_iff_exists.1 hb
    exact h2 b ⟨p, hp, fun e' => hne (by rw [hp, e'])⟩
theorem PrM.ext {s e : Nat} (h : PrM w0 w n q g g' L s e) (hx : Ext w w') : PrM w0 w' n q g g' L s e := by
  obtain ⟨O, fm, F, h1, h2, h3, h4, h5, h6, h7, h8⟩ := h
  exact ⟨O, fm, F, h1.ext hx, h2, h3.trans hx, h4.ext hx, h5, fun x hx' => Hk.keep hx.size (fun k hk e => ⟨hx.blk hk, e⟩) (h6 x hx'), h7, h8⟩
/-- a block that is kept is written -/
theorem PrM.write {s e : Nat} (h : PrM w0 w n q g g' L s e) (T : Tu (fun k => s ≤ k ∧ k < e) w w') : PrM w0 w' n q g g' L s e := by
  obtain ⟨O, fm, F, h1, h2, h3, h4, h5, h6, h7, h8⟩ := h
  have hk : ∀ k, k < w.heap.size → O k = none → w'.heap[k]? = w.heap[k]? ∧ O k = none := fun k a b => ⟨T.blk k a (fun e' => by rw [h7 k e'.1 e'.2] at b; cases b), b⟩
  obtain ⟨o1, o2, b1, m1, hc, hf, hn, hli, h0, h32, hI⟩ := h1
  have ne : ∀ k, O k ≠ some (-9, -9) → ¬ (s ≤ k ∧ k < e) := fun k hk e => hk (h7 k e.1 e.2)
  have kn : O n ≠ some (-9, -9) := by rw [o1]; simp
  have kf : O fm ≠ some (-9, -9) := by rw [o2]; simp
  refine ⟨O, fm, F, ⟨o1, o2, b1.tu T (ne n kn), m1.keep (T.blk fm m1.lt (ne fm kf)), hc, hf, hn, fun a b hab => (hli a b hab).keep T.size (fun k hk' e => ⟨T.blk k hk' (ne k ?_), rfl⟩) hk, h0, h32, hI.ext T.size⟩, h2, T.ext_of h3 (fun k e => by omega), h4.keep T.size hk, h5, fun x hx => Hk.keep T.size hk (h6 x hx), h7, h8⟩
  rw [e]
  have := hab.1
  simp
  omega
theorem prm_send {s e : Nat} (h : PrM w0 w n q g g' L s e) (a b : Int) (ha : (Lit.int .i64 a).wf = true) (hb : (Lit.int .i64 b).wf = true) (B : Option Addr) (d : Nat) (row : Row) (hB : Rd w 0 B row.length row) (hd : row.length ≤ maxLen) :
    Calls Try.prog 18 #[fptr n, .int .i64 a, .int .i64 b, .slice B row.length d] w fun x w' => x = .returned (.int .i64 (sendOut g a b row).1) ∧ PrM w0 w' n q (sendOut g a b row).2 g' L s e ∧ ∀ k, s ≤ k → k < e → k < w.heap.size → w'.heap[k]? = w.heap[k]? := by
  obtain ⟨O, fm, F, h1, h2, h3, h4, h5, h6, h7, h8⟩ := h
  refine (send_anyS w O n fm F g h1 a b ha hb B d row hB hd).mono ?_
  rintro x w' ⟨rfl, O', ⟨fm', F', a1⟩, a2, a3⟩
  have hk : ∀ k, k < w.heap.size → O k = none → w'.heap[k]? = w.heap[k]? ∧ O' k = none := fun k a b => ⟨a3.blk k a (fun e => by obtain ⟨p, e1, _⟩ := e; rw [b] at e1; cases e1), (a2 k a).trans b⟩
  refine ⟨rfl, ⟨O', fm', F', a1, fun b hb => ?_, a3.ext_of h3 (fun k hk => h2 k hk), h4.keep a3.size hk, h5, fun x hx' => Hk.keep a3.size hk (h6 x hx'), fun k k1 k2 => ?_, h8⟩, fun k k1 k2 k3 => a3.blk k k3 (fun e => by obtain ⟨p, e1, e2⟩ := e; rw [h7 k k1 k2] at e1; cases e1; exact e2 rfl)⟩
  · by_cases e : b < w.heap.size
    · refine h2 b ?_
      obtain ⟨p, e1, e2⟩ := hb
      exact ⟨p, by rw [← a2 b e]; exact e1, e2⟩
    · have := h3.size
      omega
  · by_cases e' : k < w.heap.size
    · rw [a2 k e']
      exact h7 k k1 k2
    · exact absurd (h1.inn k (by rw [h7 k k1 k2]; rfl)) e'
end
end partRboth
section partRsnd
open Go.RowKit Go.Maps
set_option linter.unusedVariables false
set_option linter.unusedSimpArgs false
attribute [local go_sem] Oper.semAt_some

abbrev acV (s : Ac) : Value := .agg #[.int .i64 s.kind, .int .i64 s.a, .int .i64 s.b, .slice s.A s.l.length s.c]
theorem sendOut_ends (g : NC) (a b : Int) (row : Row) : (sendOut g a b row).2.ends = g.ends := by
  unfold sendOut
  split
  · rfl
  · split
    · rfl
    · rfl
set_option maxRecDepth 100000 in
set_option maxHeartbeats 6400000 in
theorem lsend_any {w0 w : World} {n q : Nat} {g : NC} {L : List Hk} (h : Pr w0 w n q g g L) (s : Ac) (hs : s.ok w0) (hsl : s.l.length ≤ 1000000000) (times : Nat) (ht : times ≤ 100) :
    Calls Try.prog 27 #[fptr n, fptr q, acV s, .int .i64 (times : Int)] w fun x w' => ∃ g2, x = .returned (.bool true) ∧ Pr w0 w' n q g2 g2 L ∧ g2.ends = g.ends := by
  obtain ⟨ok1, ok2, ok3, ok4, ok5⟩ := hs
  have hxa := (Ext.refl w).alloc (.cells #[.int .i64 s.kind, .int .i64 s.a, .int .i64 s.b, .slice s.A s.l.length s.c] 40)
  have ba := Blk.new w 40 #[.int .i64 s.kind, .int .i64 s.a, .int .i64 s.b, .slice s.A s.l.length s.c]
  have hP := h.made hxa ba (Nat.le_refl _)
  go_enter Try.func27, Try.ntmps27
  go_upto_region 1 with fail
  generalize w.alloc (.cells #[.int .i64 s.kind, .int .i64 s.a, .int .i64 s.b, .slice s.A s.l.length s.c] 40) = w1 at *
  generalize w.heap.size = zb at *
  clear hxa ba h
  go_wp2_with fail
  go_loopw [9] (fun iv wr => ∃ (k : Nat) (g2 : NC), k ≤ times ∧ iv = .int .i64 (k : Int) ∧ g2.ends = g.ends ∧ Pr w0 wr n q g2 g2 (.blk zb 40 #[.int .i64 s.kind, .int .i64 s.a, .int .i64 s.b, .slice s.A s.l.length s.c] :: L)) (fun iv _ => times - (nOf iv).toNat)
  case atStart => exact ⟨0, g, Nat.zero_le _, rfl, rfl, hP⟩
  case round =>
    clear hP
    obtain ⟨k, g2, hk, rfl, he2, hP⟩ := hrel
    by_cases hlt : k < times
    · have hltI : (k : Int) < (times : Int) := by omega
      have ba := hP.blk List.mem_cons_self
      have m3 := ba.cell 3
      simp at m3
      have hr := ok4.ext hP.x
      go_wp2_with (at_builtin; go_loud (refine wpList_append_b bytes_ty rfl _ _ rfl wr (Ext.refl _) none 0 0 [] rfl (Own.nil _ _ _) s.A s.l.length s.c 0 s.l rfl hr (by omega) ?_); intro A1 c1 w2 o2 g2' x2; rw [Nat.zero_add, List.nil_append] at o2; rw [Nat.zero_add]; have hM := hP.mark x2; have m1 := (ba.ext x2).cell 1; have m2 := (ba.ext x2).cell 2; simp at m1 m2)
      have hr2 := o2.rd.low (Nat.zero_le _)
      have hok2 := hr.ext x2
      have hlt2 : ∀ g0, A1 = some ⟨g0, 0, none⟩ → wr.heap.size ≤ g0 ∧ g0 < w2.heap.size := fun g0 e => World.ownsRow.lt o2 g0 (by rw [e]; rfl)
      have HL2 := Lib.hid hlt2
      clear hlt2 ba
      refine (prm_send hM s.a s.b ok2 ok3 A1 c1 s.l hr2 (by unfold maxLen; omega)).mono ?_
      rintro x w3 ⟨rfl, hM3, hsame⟩
      have o3 : Own w3 wr.heap.size 5 A1 s.l.length c1 s.l := ownsRow_blk o2 (fun k hk => by
        have := World.ownsRow.lt o2 k hk
        exact hsame k this.1 this.2 this.2)
      have hge := sendOut_ends g2 s.a s.b s.l
      obtain ⟨er, g3, hso⟩ : ∃ er g3, sendOut g2 s.a s.b s.l = (er, g3) := ⟨_, _, rfl⟩
      rw [hso] at hM3 hge
      rw [hso]
      have HSO := Lib.hid hso
      clear hso hr2 hok2 o2 hM m1 m2 m3 hsame
      generalize wr.heap.size = lo at *
      go_wp2_with fail
      go_loopw [12] (fun kv wk => ∃ (j : Nat) (l' : List UInt8), j ≤ s.l.length ∧ kv = .int .i64 (j : Int) ∧ l'.length = s.l.length ∧ Own wk lo 5 A1 s.l.length c1 l' ∧ PrM w0 wk n q g3 g2 (.blk zb 40 #[.int .i64 s.kind, .int .i64 s.a, .int .i64 s.b, .slice s.A s.l.length s.c] :: L) lo w2.heap.size) (fun kv _ => s.l.length - (nOf kv).toNat)
      case atStart => exact ⟨0, s.l, Nat.zero_le _, rfl, rfl, o3, hM3⟩
      case round =>
        clear o3 hM3
        obtain ⟨j, l', hj, rfl, hll, o3, hM3⟩ := hrel
        by_cases hjl : j < s.l.length
        · have hjI : (j : Int) < (s.l.length : Int) := by omega
          obtain ⟨g0, rfl⟩ : ∃ g0, A1 = some ⟨g0, 0, none⟩ := by
            have o3' : World.ownsRow _ lo 5 1 (.slice A1 s.l.length c1) s.l.length (bvs l') := o3
            rcases o3'.2 with ⟨q1, q2⟩ | ⟨gb, cap, cur, q1, _⟩
            · omega
            · injection q1 with q1 _ _
              exact ⟨gb, q1⟩
          have hc := o3.at_ hjl
          have hf := o3.free j
          obtain ⟨y, hy⟩ : ∃ y, l'[j]'(by omega) = y := ⟨_, rfl⟩
          rw [hy] at hc
          obtain ⟨u, hu⟩ : ∃ u : UInt8, IntKind.u8.wrap ((y.toNat : Int) + 1) = (u.toNat : Int) := ⟨UInt8.ofNat ((y.toNat + 1) % 256), by rw [IntKind.wrap_u8]; simp⟩
          obtain ⟨hst, hgr⟩ := o3.store j u
          obtain ⟨hb1, hb2⟩ := HL2.out g0 rfl
          have hM4 := hM3.write (Tu.of_grown hgr (fun k e => by cases e; exact ⟨hb1, hb2⟩))
          clear hy
          go_wp2_with fail
          exact ⟨⟨j + 1, _, by omega, by simp, by rw [List.length_set]; exact hll, hst, hM4⟩, by simp [nOf]; omega⟩
        · obtain rfl : j = s.l.length := by omega
          have hP4 := hM3.free
          go_wp2_with fail
          have hxd := (Ext.refl wr).drew
          have hPd := hP4.ext hxd
          have hrd := ok4.ext hPd.x
          have hbd := hPd.blk List.mem_cons_self
          obtain ⟨O, fm, F, n1, n2, n3, n4, n5, n6⟩ := hPd
          obtain ⟨_, _, hzq⟩ := n6 _ List.mem_cons_self
          clear hP4 hM3 o3 hP
          refine wp_region_plan (Tu (fun k => k = q)) [(0, true), (2, true), (3, true), (4, true), (5, true), (6, true), (7, true), (8, true), (1, false), (9, false), (10, true)] (fun _ _ _ x y => (fun x y => Tu.trans x y) x y) (Tu.refl (fun k => k = q)) (by kernel_rfl) (by kernel_rfl) ?_
          intro K hK
          have t1 : ∀ y : Above (Tu (fun k => k = q)) wr.drew, y.1.cell? ⟨zb, 1, none⟩ = some (.int .i64 s.a) := fun y => (hbd.tu y.2 hzq).cell 1
          have t2 : ∀ y : Above (Tu (fun k => k = q)) wr.drew, y.1.cell? ⟨zb, 2, none⟩ = some (.int .i64 s.b) := fun y => (hbd.tu y.2 hzq).cell 2
          have t3 : ∀ y : Above (Tu (fun k => k = q)) wr.drew, y.1.cell? ⟨zb, 3, none⟩ = some (.slice s.A s.l.length s.c) := fun y => (hbd.tu y.2 hzq).cell 3
          iterate 8 (
            refine plan_q (v := ?_) rfl rfl ?_ ?_
            rotate_left
            · intro x
              go_simp
              first | done | rfl
            simp only [Act.put, List.getElem_toArray, List.getElem_cons_zero, List.getElem_cons_succ, List.setIfInBounds_toArray, List.set_cons_zero, List.set_cons_succ])
          clear t1 t2 t3
          refine plan_l rfl (by kernel_rfl) ?_
          intro K2 hK2
          go_simp
          refine (num_any _ _).mono ?_
          rintro x w4 ⟨rfl, rfl⟩
          go_simp
          refine hK2.out _ _ (Tu.refl _ _) ?_
          clear hK2 K2
          try simp only [Act.put, List.getElem_toArray, List.getElem_cons_zero, List.getElem_cons_succ, List.setIfInBounds_toArray, List.set_cons_zero, List.set_cons_succ]
          refine plan_l rfl (by kernel_rfl) ?_
          intro K2 hK2
          go_simp
          refine (rsend_any _ O q g2 n4 n1.inn s.a s.b s.A s.c s.l hrd (by unfold maxLen; omega)).mono ?_
          rintro x w4 ⟨rfl, hR, T⟩
          rw [HSO.out] at hR ⊢
          have hPf := Pr.ref n1 n2 n3 n4 n5 n6 hR T
          go_simp
          refine hK2.out _ _ T ?_
          clear hK2 K2
          try simp only [Act.put, List.getElem_toArray, List.getElem_cons_zero, List.getElem_cons_succ, List.setIfInBounds_toArray, List.set_cons_zero, List.set_cons_succ]
          iterate 1 (
            refine plan_q (v := ?_) rfl rfl ?_ ?_
            rotate_left
            · intro x
              go_simp
              first | done | rfl
            simp only [Act.put, List.getElem_toArray, List.getElem_cons_zero, List.getElem_cons_succ, List.setIfInBounds_toArray, List.set_cons_zero, List.set_cons_succ])
          refine plan_end (hK.out _ _ ?_)
          clear hK K
          go_wp2_with fail
          exact ⟨⟨k + 1, g3, by omega, by simp, hge.trans he2, hPf⟩, by simp [nOf]; omega⟩
    · obtain rfl : k = times := by omega
      go_wp2_with fail
      go_ret
      exact ⟨g2, rfl, hP.hold (fun x hx => List.mem_cons_of_mem _ hx), he2⟩
end partRsnd
section partRnt
open Go.RowKit Go.Maps
set_option linter.unusedVariables false
set_option linter.unusedSimpArgs false
attribute [local go_sem] Oper.semAt_some

theorem flL_pre (g : NC) (e : Nat) : ∀ m m', m ≤ m' → ∃ r, flL g e m' = flL g e m ++ r
  | m, 0, h => by
    obtain rfl : m = 0 := by omega
    exact ⟨[], by simp⟩
  | m, m' + 1, h => by
    rcases Nat.lt_or_ge m (m' + 1) with h1 | h1
    · obtain ⟨r, hr⟩ := flL_pre g e m m' (by omega)
      exact ⟨r ++ _, by rw [flL_succ, hr, List.append_assoc]⟩
    · obtain rfl : m = m' + 1 := by omega
      exact ⟨[], by simp⟩
theorem spot_atL {g : NC} {e : Nat} {p : Int} {k i : Nat} (he0 : 0 < e) (h : Spot g e p k i) (row : Row) (hr : (g.L (ordAt e k).1 (ordAt e k).2)[i]? = some row) : atL (flL g e (e * e)) p = (0, ((ordAt e k).1, (ordAt e k).2, row)) ∧ cntB (flL g e (e * e)) p.toNat ((ordAt e k).1, (ordAt e k).2, row) = i := by
  obtain ⟨h1, h2, h3⟩ := h
  obtain ⟨r, hpre⟩ := flL_pre g e (k + 1) (e * e) (by omega)
  rw [flL_succ] at hpre
  have hlen := flL_len g e k
  have hp : p.toNat = (flL g e k).length + i := by rw [hlen]; omega
  constructor
  · have : (flL g e (e * e))[p.toNat]? = some ((ordAt e k).1, (ordAt e k).2, row) := by
      rw [hpre, hp, List.append_assoc, List.getElem?_append_right (by omega), Nat.add_sub_cancel_left, List.getElem?_append_left (by rw [List.length_map]; exact h2), List.getElem?_map, hr]
      rfl
    rw [atL, if_neg (by omega), this]
  · have hz : (flL g e k).countP (ofL ((ordAt e k).1, (ordAt e k).2, row)) = 0 := by
      rw [List.countP_eq_zero]
      intro x hx
      obtain ⟨q, hq, hx⟩ := List.mem_flatMap.1 hx
      obtain ⟨m, hm, rfl⟩ := List.mem_map.1 hq
      obtain ⟨r', _, rfl⟩ := List.mem_map.1 hx
      have hm' := List.mem_range.1 hm
      simp only [ofL, decide_eq_true_eq]
      rintro ⟨e1, e2⟩
      have := ordAt_inj he0 (Prod.ext e1 e2)
      omega
    rw [cntB, hpre, hp, List.append_assoc, List.take_length_add_append, List.countP_append, hz, Nat.zero_add, List.take_append_of_le_length (by rw [List.length_map]; omega), List.countP_eq_length.2]
    · rw [List.length_take, List.length_map]
      omega
    · intro x hx
      obtain ⟨r', _, rfl⟩ := List.mem_map.1 (List.mem_of_mem_take hx)
      simp [ofL]
theorem atL_none {g : NC} {e : Nat} {p : Int} (h0 : 0 ≤ p) (h1 : (cntG g e (e * e) : Int) ≤ p) : atL (flL g e (e * e)) p = (6, (0, 0, [])) := by
  rw [atL, if_neg (by omega), List.getElem?_eq_none (by rw [flL_len]; omega)]
theorem atL_neg {l : List (Int × Int × Row)} {p : Int} (h0 : p < 0) : atL l p = (2, (0, 0, [])) := by rw [atL, if_pos h0]
section
variable {w0 w w' : World} {n q : Nat} {g g' : NC} {L : List Hk}
theorem pr_take (h : Pr w0 w n q g g' L) (e : Nat) (he : g.ends = (e : Int)) (p : Int) (hp : (Lit.int .i64 p).wf = true) (er : Int) (t : Int × Int × Row) (hat : atL (flL g e (e * e)) p = (er, t)) :
    Calls Try.prog 23 #[fptr n, .int .i64 p] w fun x w' => ∃ A c, x = .returned (.tuple #[fl t.1 t.2.1 A t.2.2.length c, .int .i64 er]) ∧ Rd w' 0 A t.2.2.length t.2.2 ∧ t.2.2.length ≤ 1048576 ∧ Pr w0 w' n q (takeG g e p) g' L := by
  obtain ⟨O, fm, F, h1, h2, h3, h4, h5, h6⟩ := id h
  have heb := h1.endsb
  refine (take_any w O n fm F g h1 e he p hp).mono ?_
  rintro x w' (⟨q1, rfl, hx⟩ | ⟨q0, q1, rfl, hx⟩ | ⟨k, i, hi, A, c, hs, rfl, ⟨r1, r2, r3, r4⟩, hA⟩)
  · have e1 := atL_neg (l := flL g e (e * e)) q1
    have e2 : takeG g e p = g := by rw [takeG, e1]; rfl
    rw [e1] at hat
    cases hat
    rw [e2]
    exact ⟨none, 0, rfl, Rd.nil _ _ _, by simp, h.ext hx⟩
  · have e1 := atL_none q0 q1
    have e2 : takeG g e p = g := by rw [takeG, e1]; rfl
    rw [e1] at hat
    cases hat
    rw [e2]
    exact ⟨none, 0, rfl, Rd.nil _ _ _, by simp, h.ext hx⟩
  · obtain ⟨e1, e3⟩ := spot_atL (by omega) hs _ (List.getElem?_eq_getElem hi)
    have e2 : takeG g e p = g.del (ordAt e k).1 (ordAt e k).2 i := by rw [takeG, e1, if_pos rfl, e3]
    rw [e1] at hat
    cases hat
    rw [e2]
    exact ⟨A, c, rfl, r1.low (Nat.zero_le _), r2, Pr.after h1 h2 h3 h4 h5 h6 hA.to⟩
theorem pr_drop (h : Pr w0 w n q g g' L) (e : Nat) (he : g.ends = (e : Int)) (p : Int) (hp : (Lit.int .i64 p).wf = true) :
    Calls Try.prog 24 #[fptr n, .int .i64 p] w fun x w' => x = .returned (.int .i64 (atL (flL g e (e * e)) p).1) ∧ Pr w0 w' n q (takeG g e p) g' L := by
  obtain ⟨O, fm, F, h1, h2, h3, h4, h5, h6⟩ := id h
  have heb := h1.endsb
  refine (drop_any w O n fm F g h1 e he p hp).mono ?_
  rintro x w' (⟨q1, rfl, hx⟩ | ⟨q0, q1, rfl, hx⟩ | ⟨k, i, hs, rfl, hA⟩)
  · have e1 := atL_neg (l := flL g e (e * e)) q1
    have e2 : takeG g e p = g := by rw [takeG, e1]; rfl
    rw [e1, e2]
    exact ⟨rfl, h.ext hx⟩
  · have e1 := atL_none q0 q1
    have e2 : takeG g e p = g := by rw [takeG, e1]; rfl
    rw [e1, e2]
    exact ⟨rfl, h.ext hx⟩
  · obtain ⟨e1, e3⟩ := spot_atL (by omega) hs _ (List.getElem?_eq_getElem hs.2.1)
    have e2 : takeG g e p = g.del (ordAt e k).1 (ordAt e k).2 i := by rw [takeG, e1, if_pos rfl, e3]
    rw [e1, e2]
    exact ⟨rfl, Pr.after h1 h2 h3 h4 h5 h6 hA.to⟩
theorem pr_double (h : Pr w0 w n q g g' L) (e : Nat) (he : g.ends = (e : Int)) (p : Int) (hp : (Lit.int .i64 p).wf = true) :
    Calls Try.prog 22 #[fptr n, .int .i64 p] w fun x w' => x = .returned (.int .i64 (dblOut g e p).1) ∧ Pr w0 w' n q (dblOut g e p).2 g' L := by
  obtain ⟨O, fm, F, h1, h2, h3, h4, h5, h6⟩ := id h
  have heb := h1.endsb
  refine (double_any w O n fm F g h1 e he p hp).mono ?_
  rintro x w' (⟨q1, rfl, hx⟩ | ⟨q0, q1, rfl, hx⟩ | ⟨k, i, hi, hs, ⟨q1, rfl, hx⟩ | ⟨q1, rfl, hA⟩⟩)
  · have e1 := atL_neg (l := flL g e (e * e)) q1
    have e2 : dblOut g e p = (2, g) := by rw [dblOut, e1]; rfl
    rw [e2]
    exact ⟨rfl, h.ext hx⟩
  · have e1 := atL_none q0 q1
    have e2 : dblOut g e p = (6, g) := by rw [dblOut, e1]; rfl
    rw [e2]
    exact ⟨rfl, h.ext hx⟩
  · obtain ⟨e1, e3⟩ := spot_atL (by omega) hs _ (List.getElem?_eq_getElem hi)
    have e2 : dblOut g e p = (5, g) := by rw [dblOut, e1, if_neg (by simp), if_pos (show 32 ≤ (g.L (ordAt e k).1 (ordAt e k).2).length by omega)]
    rw [e2]
    exact ⟨rfl, h.ext hx⟩
  · obtain ⟨e1, e3⟩ := spot_atL (by omega) hs _ (List.getElem?_eq_getElem hi)
    have e2 : dblOut g e p = (0, g.put (ordAt e k).1 (ordAt e k).2 (g.L (ordAt e k).1 (ordAt e k).2 ++ [(g.L (ordAt e k).1 (ordAt e k).2)[i]])) := by rw [dblOut, e1, if_neg (by simp), if_neg (show ¬ 32 ≤ (g.L (ordAt e k).1 (ordAt e k).2).length by omega)]
    rw [e2]
    exact ⟨rfl, Pr.after h1 h2 h3 h4 h5 h6 hA⟩
theorem pr_clear (h : Pr w0 w n q g g' L) (e : Nat) (he : g.ends = (e : Int)) (k : Int) (hk : (Lit.int .i64 k).wf = true) :
    Calls Try.prog 25 #[fptr n, .int .i64 k] w fun x w' => x = .returned (.int .i64 (clN g e k : Nat)) ∧ Pr w0 w' n q (g.clr k) g' L := by
  obtain ⟨O, fm, F, h1, h2, h3, h4, h5, h6⟩ := id h
  refine (clear_any w O n fm F g h1 e he k hk).mono ?_
  rintro x w' ⟨rfl, hA⟩
  exact ⟨rfl, Pr.after h1 h2 h3 h4 h5 h6 hA.to⟩
theorem pr_at (h : Pr w0 w n q g g' L) (e : Nat) (he : g.ends = (e : Int)) (p : Int) (hp : (Lit.int .i64 p).wf = true) (er : Int) (t : Int × Int × Row) (hat : atL (flL g e (e * e)) p = (er, t)) :
    Calls Try.prog 21 #[fptr n, .int .i64 p] w fun x w' => ∃ A c, x = .returned (.tuple #[fl t.1 t.2.1 A t.2.2.length c, .int .i64 er]) ∧ Rd w' w.heap.size A t.2.2.length t.2.2 ∧ t.2.2.length ≤ 1048576 ∧ Ext w w' := by
  obtain ⟨O, fm, F, h1, h2, h3, h4, h5, h6⟩ := id h
  have heb := h1.endsb
  refine (at_any w O n fm F g h1 e he p hp).mono ?_
  rintro x w' ⟨⟨q1, rfl⟩ | ⟨q0, q1, rfl⟩ | ⟨k, i, hk, hi, A, c, q1, rfl, r1, r2, r3, r4⟩, hx⟩
  · have e1 := atL_neg (l := flL g e (e * e)) q1
    rw [e1] at hat
    cases hat
    exact ⟨none, 0, rfl, Rd.nil _ _ _, by simp, hx⟩
  · have e1 := atL_none q0 q1
    rw [e1] at hat
    cases hat
    exact ⟨none, 0, rfl, Rd.nil _ _ _, by simp, hx⟩
  · obtain ⟨e1, e3⟩ := spot_atL (by omega) ⟨hk, hi, q1⟩ _ (List.getElem?_eq_getElem hi)
    rw [e1] at hat
    cases hat
    exact ⟨A, c, rfl, r1, r2, hx⟩
end
end partRnt
section partRdo
open Go.RowKit Go.Maps
set_option linter.unusedVariables false
set_option linter.unusedSimpArgs false
attribute [local go_sem] Oper.semAt_some

section
variable {w0 w w' : World} {n q : Nat} {g g' : NC} {L : List Hk}
theorem pr_rtake (h : Pr w0 w n q g g' L) (e : Nat) (he : g'.ends = (e : Int)) (p : Int) (er : Int) (t : Int × Int × Row) (hat : atL (flL g' e (e * e)) p = (er, t)) :
    Calls Try.prog 39 #[fptr q, .int .i64 p] w fun x w' => ∃ A c, x = .returned (.tuple #[fl t.1 t.2.1 A t.2.2.length c, .int .i64 er]) ∧ Pr w0 w' n q g (takeG g' e p) (.fb t (A, c) :: L) := by
  obtain ⟨O, fm, F, h1, h2, h3, h4, h5, h6⟩ := h
  refine (rtake_any w O q g' h4 h1.inn e he p er t hat).mono ?_
  rintro x w' ⟨A, c, rfl, hB, hR, T⟩
  obtain ⟨cq, hq⟩ := h4.hasB
  have hS : ∀ k, k = q → ∀ cu z, w.heap[k]? ≠ some (.cells cu 5 z) := hq.not_ty (by decide)
  refine ⟨A, c, rfl, O, fm, F, h1.off T (fun k e => by rw [e]; exact h4.1) hS, h2, T.ext_of h3 (fun k e => by omega), hR, h5, fun x hx => ?_⟩
  rcases List.mem_cons.1 hx with rfl | hx
  · exact hB
  · exact Hk.off T hS (h6 x hx)
theorem pr_rdouble (h : Pr w0 w n q g g' L) (e : Nat) (he : g'.ends = (e : Int)) (p : Int) :
    Calls Try.prog 40 #[fptr q, .int .i64 p] w fun x w' => x = .returned (.int .i64 (dblOut g' e p).1) ∧ Pr w0 w' n q g (dblOut g' e p).2 L := by
  obtain ⟨O, fm, F, h1, h2, h3, h4, h5, h6⟩ := h
  refine (rdouble_any w O q g' h4 h1.inn e he p).mono ?_
  rintro x w' ⟨rfl, hR, T⟩
  exact ⟨rfl, Pr.ref h1 h2 h3 h4 h5 h6 hR T⟩
theorem pr_rclear (h : Pr w0 w n q g g' L) (e : Nat) (he : g'.ends = (e : Int)) (k : Int) :
    Calls Try.prog 41 #[fptr q, .int .i64 k] w fun x w' => x = .returned (.int .i64 (clN g' e k : Nat)) ∧ Pr w0 w' n q g (g'.clr k) L := by
  obtain ⟨O, fm, F, h1, h2, h3, h4, h5, h6⟩ := h
  refine (rclear_any w O q g' h4 e he k).mono ?_
  rintro x w' ⟨rfl, hR, T⟩
  exact ⟨rfl, Pr.ref h1 h2 h3 h4 h5 h6 hR T⟩
theorem takeG_ends (g : NC) (e : Nat) (p : Int) : (takeG g e p).ends = g.ends := by
  unfold takeG
  split
  · rfl
  · rfl
theorem dbl_ends (g : NC) (e : Nat) (p : Int) : (dblOut g e p).2.ends = g.ends := by
  unfold dblOut
  split
  · rfl
  · split
    · rfl
    · rfl
end
set_option maxRecDepth 100000 in
set_option maxHeartbeats 6400000 in
theorem ldo_any {w0 w : World} {n q : Nat} {g : NC} {L : List Hk} (h : Pr w0 w n q g g L) (e : Nat) (he : g.ends = (e : Int)) (s : Ac) (hs : s.ok w0) (hsl : s.l.length ≤ 1000000000) :
    Calls Try.prog 15 #[fptr n, fptr q, acV s] w fun x w' => ∃ g2, x = .returned (.bool true) ∧ Pr w0 w' n q g2 g2 L ∧ g2.ends = g.ends := by
  obtain ⟨ok1, ok2, ok3, ok4, ok5⟩ := id hs
  have hxa := (Ext.refl w).alloc (.cells #[.int .i64 s.kind, .int .i64 s.a, .int .i64 s.b, .slice s.A s.l.length s.c] 40)
  have ba := Blk.new w 40 #[.int .i64 s.kind, .int .i64 s.a, .int .i64 s.b, .slice s.A s.l.length s.c]
  have hP := h.made hxa ba (Nat.le_refl _)
  go_enter Try.func15, Try.ntmps15
  go_upto_region 1 with fail
  generalize w.alloc (.cells #[.int .i64 s.kind, .int .i64 s.a, .int .i64 s.b, .slice s.A s.l.length s.c] 40) = w1 at *
  generalize w.heap.size = zb at *
  clear hxa h
  have m0 := ba.cell 0
  have m1 := ba.cell 1
  have m2 := ba.cell 2
  have m3 := ba.cell 3
  simp at m0 m1 m2 m3
  obtain ⟨kd, hkd0⟩ : ∃ kd, s.kind = kd := ⟨_, rfl⟩
  have hkd := Lib.hid hkd0
  rw [hkd0] at m0
  clear hkd0
  have hmem : ∀ x ∈ L, x ∈ (Hk.blk zb 40 #[.int .i64 s.kind, .int .i64 s.a, .int .i64 s.b, .slice s.A s.l.length s.c] :: L) := fun x hx => List.mem_cons_of_mem _ hx
  by_cases h1 : kd = 1
  · subst h1
    go_wp2_with fail
    have hac : (Value.agg #[.int .i64 1, .int .i64 s.a, .int .i64 s.b, .slice s.A s.l.length s.c]) = acV s := by rw [acV, hkd.out]
    rw [hac]
    refine (lsend_any hP s hs hsl 1 (by omega)).mono ?_
    rintro x w2 ⟨g2, rfl, hP2, he2⟩
    go_wp2_with fail
    go_ret
    exact ⟨g2, rfl, hP2.hold hmem, he2⟩
  by_cases h6 : kd = 6
  · subst h6
    go_wp2_with fail
    have hac : (Value.agg #[.int .i64 6, .int .i64 s.a, .int .i64 s.b, .slice s.A s.l.length s.c]) = acV s := by rw [acV, hkd.out]
    rw [hac]
    refine (lsend_any hP s hs hsl 70 (by omega)).mono ?_
    rintro x w2 ⟨g2, rfl, hP2, he2⟩
    go_wp2_with fail
    go_ret
    exact ⟨g2, rfl, hP2.hold hmem, he2⟩
  have e1 : (kd == 1) = false := by simpa using h1
  have e6 : (kd == 6) = false := by simpa using h6
  clear h1 h6
  obtain ⟨er, t, hat⟩ : ∃ er t, atL (flL g e (e * e)) s.a = (er, t) := ⟨_, _, rfl⟩
  by_cases h2 : kd = 2
  · subst h2
    go_wp2_with fail
    refine (pr_rtake hP e he s.a er t hat).mono ?_
    rintro x w2 ⟨A, c, rfl, hP2⟩
    have bz := hP2.blk (List.mem_cons_of_mem _ List.mem_cons_self)
    clear m0 m1 m2 m3 ba
    have hxt := (Ext.refl w2).alloc (.cells #[.int .i64 t.1, .int .i64 t.2.1, .slice A t.2.2.length c] 51)
    have bt := Blk.new w2 51 #[.int .i64 t.1, .int .i64 t.2.1, .slice A t.2.2.length c]
    have hP3 := hP2.made hxt bt (Nat.le_refl _)
    have bz3 := bz.ext hxt
    have m0 := bz3.cell 0
    have m1 := bz3.cell 1
    simp at m0 m1
    rw [hkd.out] at m0
    go_upto_region 7 with fail
    generalize w2.alloc (.cells #[.int .i64 t.1, .int .i64 t.2.1, .slice A t.2.2.length c] 51) = w3 at *
    generalize w2.heap.size = zt at *
    go_wp2_with fail
    refine (pr_take hP3 e he s.a ok2 er t hat).mono ?_
    rintro x w4 ⟨A4, c4, rfl, r4, l4, hP4⟩
    have bt4 := hP4.blk List.mem_cons_self
    have hxf := (Ext.refl w4).alloc (.cells #[.int .i64 t.1, .int .i64 t.2.1, .slice A4 t.2.2.length c4] 51)
    have bf := Blk.new w4 51 #[.int .i64 t.1, .int .i64 t.2.1, .slice A4 t.2.2.length c4]
    have hP5 := hP4.ext hxf
    have r5 := r4.ext hxf
    have bt5 := bt4.ext hxf
    clear m0 m1 bz bz3 bt
    go_upto_region 10 with fail
    generalize w4.alloc (.cells #[.int .i64 t.1, .int .i64 t.2.1, .slice A4 t.2.2.length c4] 51) = w5 at *
    generalize w4.heap.size = zf at *
    have s0 := bf.cell 0
    have s1 := bf.cell 1
    have s2 := bf.cell 2
    have t0 := bt5.cell 0
    have t1 := bt5.cell 1
    have t2 := bt5.cell 2
    simp at s0 s1 s2 t0 t1 t2
    obtain ⟨rx, lx⟩ := hP5.rd (t := t) (p := (A, c)) (List.mem_cons_of_mem _ List.mem_cons_self)
    go_wp2_with fail
    refine (same_any w5 t.1 t.2.1 t.1 t.2.1 A4 A c4 c t.2.2 t.2.2 r5 rx (by omega) (by omega)).mono ?_
    rintro x w6 ⟨rfl, hx6⟩
    rw [decide_eq_true (by simp)]
    go_wp2_with fail
    refine (num_any _ _).mono ?_
    rintro x w7 ⟨rfl, rfl⟩
    go_wp2_with fail
    go_ret
    refine ⟨takeG g e s.a, by simp, (hP5.ext hx6).hold (fun x hx => List.mem_cons_of_mem _ (List.mem_cons_of_mem _ (hmem x hx))), takeG_ends _ _ _⟩
  by_cases h3 : kd = 3
  · subst h3
    go_wp2_with fail
    refine (pr_rtake hP e he s.a er t hat).mono ?_
    rintro x w2 ⟨A, c, rfl, hP2⟩
    have bz := hP2.blk (List.mem_cons_of_mem _ List.mem_cons_self)
    clear m0 m1 m2 m3 ba
    have hxt := (Ext.refl w2).alloc (.cells #[.int .i64 t.1, .int .i64 t.2.1, .slice A t.2.2.length c] 51)
    have bt := Blk.new w2 51 #[.int .i64 t.1, .int .i64 t.2.1, .slice A t.2.2.length c]
    have hP3 := hP2.made hxt bt (Nat.le_refl _)
    have bz3 := bz.ext hxt
    have m0 := bz3.cell 0
    have m1 := bz3.cell 1
    simp at m0 m1
    rw [hkd.out] at m0
    go_upto_region 7 with fail
    generalize w2.alloc (.cells #[.int .i64 t.1, .int .i64 t.2.1, .slice A t.2.2.length c] 51) = w3 at *
    generalize w2.heap.size = zt at *
    go_wp2_with fail
    refine (pr_drop hP3 e he s.a ok2).mono ?_
    rintro x w4 ⟨rfl, hP4⟩
    rw [hat]
    go_wp2_with fail
    refine (num_any _ _).mono ?_
    rintro x w7 ⟨rfl, rfl⟩
    go_wp2_with fail
    go_ret
    refine ⟨takeG g e s.a, by simp, hP4.hold (fun x hx => List.mem_cons_of_mem _ (List.mem_cons_of_mem _ (hmem x hx))), takeG_ends _ _ _⟩
  clear hat
  by_cases h4 : kd = 4
  · subst h4
    have e2 : ((4 : Int) == 2) = false := by decide
    go_wp2_with fail
    have hxd := (Ext.refl w1).drew
    have hPd := hP.ext hxd
    have bz := hPd.blk List.mem_cons_self
    clear m0 m1 m2 m3 ba
    refine wp_region_plan (fun u u' => u'.heap[zb]? = u.heap[zb]?) [(0, true), (1, true), (2, true), (5, true), (6, true), (7, true), (3, false), (4, false), (8, false), (9, true), (10, true)] (fun _ _ _ x y => (fun x y => Eq.trans y x) x y) (fun u => rfl) (by kernel_rfl) (by kernel_rfl) ?_
    intro K hK
    have t1 : ∀ y : Above (fun u u' : World => u'.heap[zb]? = u.heap[zb]?) w1.drew, y.1.cell? ⟨zb, 1, none⟩ = some (.int .i64 s.a) := fun y => by
      have b' : Blk y.1 zb 40 #[.int .i64 s.kind, .int .i64 s.a, .int .i64 s.b, .slice s.A s.l.length s.c] := y.2.trans bz
      exact b'.cell 1
    iterate 6 (
      refine plan_q (v := ?_) rfl rfl ?_ ?_
      rotate_left
      · intro x
        go_simp
        first | done | rfl
      simp only [Act.put, List.getElem_toArray, List.getElem_cons_zero, List.getElem_cons_succ, List.setIfInBounds_toArray, List.set_cons_zero, List.set_cons_succ])
    clear t1
    refine plan_l rfl (by kernel_rfl) ?_
    intro K2 hK2
    go_simp
    refine (pr_double hPd e he s.a ok2).mono ?_
    rintro x w4 ⟨rfl, hP4⟩
    go_simp
    refine hK2.out _ _ ((hP4.blk List.mem_cons_self).trans bz.symm) ?_
    clear hK2 K2
    try simp only [Act.put, List.getElem_toArray, List.getElem_cons_zero, List.getElem_cons_succ, List.setIfInBounds_toArray, List.set_cons_zero, List.set_cons_succ]
    refine plan_l rfl (by kernel_rfl) ?_
    intro K2 hK2
    go_simp
    refine (num_any _ _).mono ?_
    rintro x w7 ⟨rfl, rfl⟩
    go_simp
    refine hK2.out _ _ rfl ?_
    clear hK2 K2
    try simp only [Act.put, List.getElem_toArray, List.getElem_cons_zero, List.getElem_cons_succ, List.setIfInBounds_toArray, List.set_cons_zero, List.set_cons_succ]
    refine plan_l rfl (by kernel_rfl) ?_
    intro K2 hK2
    go_simp
    refine (pr_rdouble hP4 e he s.a).mono ?_
    rintro x w5 ⟨rfl, hP5⟩
    go_simp
    refine hK2.out _ _ ((hP5.blk List.mem_cons_self).trans (hP4.blk List.mem_cons_self).symm) ?_
    clear hK2 K2
    try simp only [Act.put, List.getElem_toArray, List.getElem_cons_zero, List.getElem_cons_succ, List.setIfInBounds_toArray, List.set_cons_zero, List.set_cons_succ]
    iterate 2 (
      refine plan_q (v := ?_) rfl rfl ?_ ?_
      rotate_left
      · intro x
        go_simp
        first | done | rfl
      simp only [Act.put, List.getElem_toArray, List.getElem_cons_zero, List.getElem_cons_succ, List.setIfInBounds_toArray, List.set_cons_zero, List.set_cons_succ])
    refine plan_end (hK.out _ _ ?_)
    clear hK K
    go_wp2_with fail
    go_ret
    exact ⟨(dblOut g e s.a).2, by simp, hP5.hold hmem, dbl_ends _ _ _⟩
  by_cases h5 : kd = 5
  · subst h5
    go_wp2_with fail
    have hxd := (Ext.refl w1).drew
    have hPd := hP.ext hxd
    have bz := hPd.blk List.mem_cons_self
    clear m0 m1 m2 m3 ba
    refine wp_region_plan (fun u u' => u'.heap[zb]? = u.heap[zb]?) [(0, true), (1, true), (2, true), (4, true), (5, true), (6, true), (3, false), (7, false), (8, true), (9, true)] (fun _ _ _ x y => (fun x y => Eq.trans y x) x y) (fun u => rfl) (by kernel_rfl) (by kernel_rfl) ?_
    intro K hK
    have t1 : ∀ y : Above (fun u u' : World => u'.heap[zb]? = u.heap[zb]?) w1.drew, y.1.cell? ⟨zb, 1, none⟩ = some (.int .i64 s.a) := fun y => by
      have b' : Blk y.1 zb 40 #[.int .i64 s.kind, .int .i64 s.a, .int .i64 s.b, .slice s.A s.l.length s.c] := y.2.trans bz
      exact b'.cell 1
    iterate 6 (
      refine plan_q (v := ?_) rfl rfl ?_ ?_
      rotate_left
      · intro x
        go_simp
        first | done | rfl
      simp only [Act.put, List.getElem_toArray, List.getElem_cons_zero, List.getElem_cons_succ, List.setIfInBounds_toArray, List.set_cons_zero, List.set_cons_succ])
    clear t1
    refine plan_l rfl (by kernel_rfl) ?_
    intro K2 hK2
    go_simp
    refine (pr_clear hPd e he s.a ok2).mono ?_
    rintro x w4 ⟨rfl, hP4⟩
    go_simp
    refine hK2.out _ _ ((hP4.blk List.mem_cons_self).trans bz.symm) ?_
    clear hK2 K2
    try simp only [Act.put, List.getElem_toArray, List.getElem_cons_zero, List.getElem_cons_succ, List.setIfInBounds_toArray, List.set_cons_zero, List.set_cons_succ]
    refine plan_l rfl (by kernel_rfl) ?_
    intro K2 hK2
    go_simp
    refine (pr_rclear hP4 e he s.a).mono ?_
    rintro x w5 ⟨rfl, hP5⟩
    go_simp
    refine hK2.out _ _ ((hP5.blk List.mem_cons_self).trans (hP4.blk List.mem_cons_self).symm) ?_
    clear hK2 K2
    try simp only [Act.put, List.getElem_toArray, List.getElem_cons_zero, List.getElem_cons_succ, List.setIfInBounds_toArray, List.set_cons_zero, List.set_cons_succ]
    iterate 2 (
      refine plan_q (v := ?_) rfl rfl ?_ ?_
      rotate_left
      · intro x
        go_simp
        first | done | rfl
      simp only [Act.put, List.getElem_toArray, List.getElem_cons_zero, List.getElem_cons_succ, List.setIfInBounds_toArray, List.set_cons_zero, List.set_cons_succ])
    refine plan_end (hK.out _ _ ?_)
    clear hK K
    go_wp2_with fail
    go_ret
    exact ⟨g.clr s.a, by simp, hP5.hold hmem, rfl⟩
  have e2 : (kd == 2) = false := by simpa using h2
  have e3 : (kd == 3) = false := by simpa using h3
  have e4 : (kd == 4) = false := by simpa using h4
  have e5 : (kd == 5) = false := by simpa using h5
  clear h2 h3 h4 h5
  go_wp2_with fail
  go_ret
  exact ⟨g, rfl, hP.hold hmem, rfl⟩
end partRdo
section partRpair
open Go.RowKit Go.Maps
set_option linter.unusedVariables false
set_option linter.unusedSimpArgs false
attribute [local go_sem] Oper.semAt_some

theorem pr_new {w0 w w' : World} {n : Nat} {k : Int} (h : NSt w0 w n ⟨k, 0, fun _ _ => []⟩ []) (hx : Ext w w') (hk : 1 ≤ k ∧ k ≤ 5) (hb : Blk w' w.heap.size 35 (List.replicate 36 (Value.slice none 0 0) ++ [Value.int .i64 k, Value.int .i64 0]).toArray) : Pr w0 w' n w.heap.size ⟨k, 0, fun _ _ => []⟩ ⟨k, 0, fun _ _ => []⟩ [] := by
  obtain ⟨O, fm, F, h1, h2, h3, h4⟩ := h
  refine ⟨O, fm, F, h1.ext hx, h2, h3.trans hx, ⟨h1.inn.none (Nat.le_refl _), ⟨List.replicate 36 (Value.slice none 0 0), rfl, hb, fun a b ha hb' => ⟨.slice none 0 0, ?_, LineR.nil _ _ _⟩⟩, hk, rfl, fun _ _ _ => rfl, fun _ _ => Nat.zero_le _⟩, h3.size, fun x hx' => by cases hx'⟩
  rw [List.getElem?_replicate, if_pos (by omega)]
set_option maxRecDepth 100000 in
set_option maxHeartbeats 6400000 in
theorem lpair_any (w : World) (A : Option Addr) (len c : Nat) (l : List Ac) (hl : ActsAt w A len l) (h60 : len ≤ 60) (hsl : ∀ (k : Nat) (s : Ac), l[k]? = some s → s.l.length ≤ 1000000000) :
    Calls Try.prog 16 #[.slice A len c] w fun x w' => ∃ n q g, x = .returned (.tuple #[fptr n, fptr q]) ∧ Pr w w' n q g g [] ∧ g.ends = ((4 : Nat) : Int) := by
  go_enter Try.func16, Try.ntmps16
  go_wp2_with fail
  refine (nst_new w 4 (by decide)).mono ?_
  rintro x w1 ⟨n, rfl, hS⟩
  have hll := hl.1
  have hxq := (Ext.refl w1).alloc (.cells #[.slice none 0 0, .slice none 0 0, .slice none 0 0, .slice none 0 0, .slice none 0 0, .slice none 0 0, .slice none 0 0, .slice none 0 0, .slice none 0 0, .slice none 0 0, .slice none 0 0, .slice none 0 0, .slice none 0 0, .slice none 0 0, .slice none 0 0, .slice none 0 0, .slice none 0 0, .slice none 0 0, .slice none 0 0, .slice none 0 0, .slice none 0 0, .slice none 0 0, .slice none 0 0, .slice none 0 0, .slice none 0 0, .slice none 0 0, .slice none 0 0, .slice none 0 0, .slice none 0 0, .slice none 0 0, .slice none 0 0, .slice none 0 0, .slice none 0 0, .slice none 0 0, .slice none 0 0, .slice none 0 0, .int .i64 4, .int .i64 0] 35)
  have bq := Blk.new w1 35 #[.slice none 0 0, .slice none 0 0, .slice none 0 0, .slice none 0 0, .slice none 0 0, .slice none 0 0, .slice none 0 0, .slice none 0 0, .slice none 0 0, .slice none 0 0, .slice none 0 0, .slice none 0 0, .slice none 0 0, .slice none 0 0, .slice none 0 0, .slice none 0 0, .slice none 0 0, .slice none 0 0, .slice none 0 0, .slice none 0 0, .slice none 0 0, .slice none 0 0, .slice none 0 0, .slice none 0 0, .slice none 0 0, .slice none 0 0, .slice none 0 0, .slice none 0 0, .slice none 0 0, .slice none 0 0, .slice none 0 0, .slice none 0 0, .slice none 0 0, .slice none 0 0, .slice none 0 0, .slice none 0 0, .int .i64 4, .int .i64 0]
  go_upto_region 3 with fail
  have hP : Pr w _ n w1.heap.size ⟨4, 0, fun _ _ => []⟩ ⟨4, 0, fun _ _ => []⟩ [] := pr_new hS hxq (by decide) bq
  generalize w1.alloc (.cells #[.slice none 0 0, .slice none 0 0, .slice none 0 0, .slice none 0 0, .slice none 0 0, .slice none 0 0, .slice none 0 0, .slice none 0 0, .slice none 0 0, .slice none 0 0, .slice none 0 0, .slice none 0 0, .slice none 0 0, .slice none 0 0, .slice none 0 0, .slice none 0 0, .slice none 0 0, .slice none 0 0, .slice none 0 0, .slice none 0 0, .slice none 0 0, .slice none 0 0, .slice none 0 0, .slice none 0 0, .slice none 0 0, .slice none 0 0, .slice none 0 0, .slice none 0 0, .slice none 0 0, .slice none 0 0, .slice none 0 0, .slice none 0 0, .slice none 0 0, .slice none 0 0, .slice none 0 0, .slice none 0 0, .int .i64 4, .int .i64 0] 35) = w2 at *
  generalize w1.heap.size = q at *
  clear hxq bq hS
  generalize (Value.agg #[.slice none 0 0, .slice none 0 0, .slice none 0 0, .slice none 0 0, .slice none 0 0, .slice none 0 0, .slice none 0 0, .slice none 0 0, .slice none 0 0, .slice none 0 0, .slice none 0 0, .slice none 0 0, .slice none 0 0, .slice none 0 0, .slice none 0 0, .slice none 0 0, .slice none 0 0, .slice none 0 0, .slice none 0 0, .slice none 0 0, .slice none 0 0, .slice none 0 0, .slice none 0 0, .slice none 0 0, .slice none 0 0, .slice none 0 0, .slice none 0 0, .slice none 0 0, .slice none 0 0, .slice none 0 0, .slice none 0 0, .slice none 0 0, .slice none 0 0, .slice none 0 0, .slice none 0 0, .slice none 0 0, .int .i64 4, .int .i64 0]) = vq at *
  go_wp2_with fail
  refine (num_any _ _).mono ?_
  rintro x w3 ⟨rfl, rfl⟩
  go_wp2_with fail
  go_loopw [7] (fun iv wr => ∃ (k : Nat) (g : NC), k ≤ len ∧ iv = .int .i64 (k : Int) ∧ g.ends = ((4 : Nat) : Int) ∧ Pr w wr n q g g []) (fun iv _ => len - (nOf iv).toNat)
  case atStart => exact ⟨0, _, Nat.zero_le _, rfl, rfl, hP⟩
  case round =>
    clear hP
    obtain ⟨k, g, hk, rfl, he, hP⟩ := hrel
    by_cases hlt : k < len
    · have hki : (k : Int) < (len : Int) := by omega
      obtain ⟨b, off, rfl, hb, hcell⟩ := hl.pos (by omega)
      obtain ⟨hok, hc⟩ := hcell k (by omega)
      obtain ⟨s, hs⟩ : ∃ s, l[k]'(by omega) = s := ⟨_, rfl⟩
      rw [hs] at hok hc
      have hss := hsl k s (by rw [← hs]; exact List.getElem?_eq_getElem (by omega))
      have hxr := hP.x
      have m0 := hxr.cellSome (hc 0 (by simp [Ac.vals]))
      have m1 := hxr.cellSome (hc 1 (by simp [Ac.vals]))
      have m2 := hxr.cellSome (hc 2 (by simp [Ac.vals]))
      have m3 := hxr.cellSome (hc 3 (by simp [Ac.vals]))
      simp only [Ac.vals, List.getElem_cons_zero, List.getElem_cons_succ, Nat.add_zero] at m0 m1 m2 m3
      clear hs
      go_wp2_with fail
      refine (ldo_any hP 4 he s hok hss).mono ?_
      rintro x w4 ⟨g2, rfl, hP2, he2⟩
      go_wp2_with fail
      exact ⟨⟨k + 1, g2, by omega, by simp, he2.trans he, hP2⟩, by simp [nOf]; omega⟩
    · obtain rfl : k = len := by omega
      go_wp2_with fail
      go_ret2
      exact ⟨n, q, g, rfl, hP, he⟩
end partRpair
end Go.Proofs.Ytekbdpfiommmbaa
