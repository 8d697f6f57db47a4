/- A disk under way, beside marks: what it is, and what of the rest stays. Conditions: told at each. -/
import Derived.Test.YtenmdhdloibemaaRooms
namespace Go.Proofs.Ytenmdhdloibemaa
open Go.RowKit Go.Maps Go.Sort Go.Shelf
set_option linter.unusedVariables false
set_option linter.unusedSimpArgs false

/-- from w0 on: the disk d is g, what lay stays, and so do the blocks of L, and the marks of M -/
def StM (w0 w : World) (d : Nat) (g : DC) (L : List (Nat × TypeId × Array Value)) (M : List Nat) : Prop :=
  ∃ O fm F, DiskX w O d fm F g ∧ (∀ b, b < w0.heap.size → O b = none) ∧ Ext w0 w ∧ (∀ q ∈ L, O q.1 = none ∧ Blk w q.1 q.2.1 q.2.2) ∧ ∀ k ∈ M, O k = none ∧ w.heap[k]? = some (.deferred (some []))
theorem mark_lt {w : World} {k : Nat} (h : w.heap[k]? = some (.deferred (some []))) : k < w.heap.size := (Array.getElem?_eq_some_iff.1 h).1
section
variable {w0 w w' : World} {d : Nat} {g g' : DC} {L : List (Nat × TypeId × Array Value)} {ns : List Nm} {n : Nm} {M : List Nat}
theorem StM.low (h : StM w0 w d g L M) : Ext w0 w := by
  obtain ⟨O, fm, F, hX, h0, hx, hL, hM⟩ := h
  exact hx
theorem StM.blk (h : StM w0 w d g L M) {b : Nat} {t : TypeId} {cs : Array Value} (hq : (b, t, cs) ∈ L) : Blk w b t cs := by
  obtain ⟨O, fm, F, hX, h0, hx, hL, hM⟩ := h
  exact (hL _ hq).2
theorem StM.ext (h : StM w0 w d g L M) (hx : Ext w w') : StM w0 w' d g L M := by
  obtain ⟨O, fm, F, hX, h0, hx0, hL, hM⟩ := h
  exact ⟨O, fm, F, hX.ext hx, h0, hx0.trans hx, fun q hq => ⟨(hL q hq).1, (hL q hq).2.ext hx⟩, fun k hk => ⟨(hM k hk).1, (hx.blk (mark_lt (hM k hk).2)).trans (hM k hk).2⟩⟩
theorem StM.add (h : StM w0 w d g L M) (hx : Ext w w') {b : Nat} {t : TypeId} {cs : Array Value} (hb : w.heap.size ≤ b) (hB : Blk w' b t cs) : StM w0 w' d g ((b, t, cs) :: L) M := by
  obtain ⟨O, fm, F, hX, h0, hx0, hL, hM⟩ := h
  refine ⟨O, fm, F, hX.ext hx, h0, hx0.trans hx, fun q hq => ?_, fun k hk => ⟨(hM k hk).1, (hx.blk (mark_lt (hM k hk).2)).trans (hM k hk).2⟩⟩
  rcases List.mem_cons.1 hq with rfl | hq
  · exact ⟨hX.inn.none hb, hB⟩
  · exact ⟨(hL q hq).1, (hL q hq).2.ext hx⟩
theorem StM.sub (h : StM w0 w d g L M) {L' : List (Nat × TypeId × Array Value)} (hs : ∀ q ∈ L', q ∈ L) : StM w0 w d g L' M := by
  obtain ⟨O, fm, F, hX, h0, hx, hL, hM⟩ := h
  exact ⟨O, fm, F, hX, h0, hx, fun q hq => hL q (hs q hq), hM⟩
theorem StM.next {O : Ow} {fm : Nat} {F : DataW Value} (hX : DiskX w O d fm F g) (h0 : ∀ b, b < w0.heap.size → O b = none) (hx : Ext w0 w) (hL : ∀ q ∈ L, O q.1 = none ∧ Blk w q.1 q.2.1 q.2.2) (hM : ∀ k ∈ M, O k = none ∧ w.heap[k]? = some (.deferred (some []))) (hA : After w w' O d g') : StM w0 w' d g' L M := by
  obtain ⟨O', ⟨fm', F', hX'⟩, hg, t⟩ := hA
  have hz := hx.size
  refine ⟨O', fm', F', hX', fun b hb => (hg b (by omega)).trans (h0 b hb), t.ext_of hx (fun k hk => Nat.le_of_not_lt fun hlt => by rw [Owned, h0 k hlt] at hk; cases hk), fun q hq => ?_, fun k hk => ?_⟩
  rotate_left
  · obtain ⟨q1, q2⟩ := hM k hk
    exact ⟨(hg _ (mark_lt q2)).trans q1, (t.blk k (mark_lt q2) (by rw [Owned, q1]; simp)).trans q2⟩
  obtain ⟨q1, q2⟩ := hL q hq
  exact ⟨(hg _ q2.lt).trans q1, q2.tu t (by rw [Owned, q1]; simp)⟩
theorem StM.st (h : StM w0 w d g L M) : St w0 w d g L := by
  obtain ⟨O, fm, F, hX, h0, hx, hL, hM⟩ := h
  exact ⟨O, fm, F, hX, h0, hx, hL⟩
theorem StM.of (h : St w0 w d g L) : StM w0 w d g L [] := by
  obtain ⟨O, fm, F, hX, h0, hx, hL⟩ := h
  exact ⟨O, fm, F, hX, h0, hx, hL, fun k hk => by cases hk⟩
theorem StM.mark (h : StM w0 w d g L M) {k : Nat} (hk : k ∈ M) : w.heap[k]? = some (.deferred (some [])) := by
  obtain ⟨O, fm, F, hX, h0, hx, hL, hM⟩ := h
  exact (hM k hk).2
theorem StM.addM (h : StM w0 w d g L M) (hx : Ext w w') {k : Nat} (hb : w.heap.size ≤ k) (hk : w'.heap[k]? = some (.deferred (some []))) : StM w0 w' d g L (k :: M) := by
  have h' := h.ext hx
  obtain ⟨O, fm, F, hX, h0, hx0, hL, hM⟩ := h
  refine ⟨O, fm, F, hX.ext hx, h0, hx0.trans hx, fun q hq => ⟨(hL q hq).1, (hL q hq).2.ext hx⟩, fun j hj => ?_⟩
  rcases List.mem_cons.1 hj with rfl | hj
  · exact ⟨hX.inn.none hb, hk⟩
  · exact ⟨(hM j hj).1, (hx.blk (mark_lt (hM j hj).2)).trans (hM j hj).2⟩
/-- a block that a call writes by itself -/
theorem StM.turn {b : Nat} {t : TypeId} {cs : Array Value} (h : StM w0 w d g ((b, t, cs) :: L) M) (hL : ∀ q ∈ L, q.1 ≠ b) (hb : w0.heap.size ≤ b) {t' : TypeId} {cs' : Array Value} (x : Tu (fun k => k = b) w w') (hB : Blk w' b t' cs') : StM w0 w' d g ((b, t', cs') :: L) M := by
  obtain ⟨O, fm, F, hX, h0, hx, hl, hM⟩ := h
  have ob := hl _ (List.mem_cons_self ..)
  have hz := x.size
  refine ⟨O, fm, F, hX.keep (fun k hk => ⟨x.blk k (hX.inn k hk) (fun e => by subst e; rw [Owned, ob.1] at hk; cases hk), rfl⟩) (hX.inn.ext hz), h0, x.ext_of hx (fun k e => by omega), fun q hq => ?_, fun k hk => ?_⟩
  · rcases List.mem_cons.1 hq with rfl | hq
    · exact ⟨ob.1, hB⟩
    · obtain ⟨q1, q2⟩ := hl q (List.mem_cons_of_mem _ hq)
      exact ⟨q1, q2.tu x (fun e => hL q hq e)⟩
  · obtain ⟨q1, q2⟩ := hM k hk
    refine ⟨q1, (x.blk k (mark_lt q2) (fun e => ?_)).trans q2⟩
    subst e
    have := ob.2
    rw [Blk, q2] at this
    cases this
theorem stm_make (h : StM w0 w d g L M) (hns : IsNames g ns) (n : Nm) (hn : n.length ≤ maxLen) {x : Int} (ho : makeOut ns.length g n = (x, g')) :
    Calls Try.prog 18 #[fptr d, nv n] w fun e w' => e = .returned (.int .i64 x) ∧ StM w0 w' d g' L M := by
  obtain ⟨O, fm, F, hX, h0, hx, hL, hM⟩ := h
  refine (make_any w O d fm F g hX n hn).mono ?_
  rw [hX.sizeF hns, ho]
  rintro e w' ⟨rfl, hA⟩
  exact ⟨rfl, .next hX h0 hx hL hM hA⟩
theorem stm_write (h : StM w0 w d g L M) (hns : IsNames g ns) (n : Nm) (hn : n.length ≤ maxLen) (s : Int) (hs : (Lit.int .i64 s).wf = true) (l : Sc) (hl : l.length = 256) (hbig : ∀ c, g.file n = some c → (c.S s).length < 1000000) {x : Int}
    (ho : (wOut g n s (total g ns) fun c => chg g (fun g => g.set n (some (c.write s l))) (fun g => g.set n (some (c.write s l)))) = (x, g')) :
    Calls Try.prog 20 #[fptr d, nv n, .int .i64 s, sec l] w fun e w' => e = .returned (.int .i64 x) ∧ StM w0 w' d g' L M := by
  obtain ⟨O, fm, F, hX, h0, hx, hL, hM⟩ := h
  refine (write__any w O d fm F g hX n hn s hs l hl hbig).mono ?_
  rw [hX.totF hns, ho]
  rintro e w' ⟨rfl, hA⟩
  exact ⟨rfl, .next hX h0 hx hL hM hA⟩
theorem stm_spoil (h : StM w0 w d g L M) (hns : IsNames g ns) (n : Nm) (hn : n.length ≤ maxLen) (s : Int) (hs : (Lit.int .i64 s).wf = true) (l : Sc) (hl : l.length = 256) {x : Int}
    (ho : (wOut g n s (total g ns) fun c => (0, g.set n (some (c.spoil s l)))) = (x, g')) :
    Calls Try.prog 30 #[fptr d, nv n, .int .i64 s, sec l] w fun e w' => e = .returned (.int .i64 x) ∧ StM w0 w' d g' L M := by
  obtain ⟨O, fm, F, hX, h0, hx, hL, hM⟩ := h
  refine (spoil__any w O d fm F g hX n hn s hs l hl).mono ?_
  rw [hX.totF hns, ho]
  rintro e w' ⟨rfl, hA⟩
  exact ⟨rfl, .next hX h0 hx hL hM hA⟩
theorem stm_sync (h : StM w0 w d g L M) (n : Nm) (hn : n.length ≤ maxLen) {x : Int} (ho : syncOut g n = (x, g')) :
    Calls Try.prog 27 #[fptr d, nv n] w fun e w' => e = .returned (.int .i64 x) ∧ StM w0 w' d g' L M := by
  obtain ⟨O, fm, F, hX, h0, hx, hL, hM⟩ := h
  refine (sync__any w O d fm F g hX n hn).mono ?_
  rw [ho]
  rintro e w' ⟨rfl, hA⟩
  exact ⟨rfl, .next hX h0 hx hL hM hA⟩
theorem stm_remove (h : StM w0 w d g L M) (n : Nm) (hn : n.length ≤ maxLen) {x : Int} (ho : removeOut g n = (x, g')) :
    Calls Try.prog 29 #[fptr d, nv n] w fun e w' => e = .returned (.int .i64 x) ∧ StM w0 w' d g' L M := by
  obtain ⟨O, fm, F, hX, h0, hx, hL, hM⟩ := h
  refine (remove_any w O d fm F g hX n hn).mono ?_
  rw [ho]
  rintro e w' ⟨rfl, hA⟩
  exact ⟨rfl, .next hX h0 hx hL hM hA⟩
theorem stm_rename (h : StM w0 w d g L M) (n nt : Nm) (hn : n.length ≤ maxLen) (hnt : nt.length ≤ maxLen) {x : Int} (ho : renameOut g n nt = (x, g')) :
    Calls Try.prog 19 #[fptr d, nv n, nv nt] w fun e w' => e = .returned (.int .i64 x) ∧ StM w0 w' d g' L M := by
  obtain ⟨O, fm, F, hX, h0, hx, hL, hM⟩ := h
  refine (rename_any w O d fm F g hX n nt hn hnt).mono ?_
  rw [ho]
  rintro e w' ⟨rfl, hA⟩
  exact ⟨rfl, .next hX h0 hx hL hM hA⟩
theorem stm_fuse (h : StM w0 w d g L M) (k : Int) (hk : (Lit.int .i64 k).wf = true) :
    Calls Try.prog 28 #[fptr d, .int .i64 k] w fun e w' => e = .returned (.tuple #[]) ∧ StM w0 w' d (fuseSet g k) L M := by
  obtain ⟨O, fm, F, hX, h0, hx, hL, hM⟩ := h
  refine (fuse_any w O d fm F g hX k hk).mono ?_
  rintro e w' ⟨rfl, hA⟩
  exact ⟨rfl, .next hX h0 hx hL hM hA⟩
theorem stm_crash (h : StM w0 w d g L M) (hbig : ∀ n c, g.file n = some c → ∀ m, (c.S m).length ≤ 1000000) (A : Option Addr) (n cap : Nat) (picks : List Int) (hr : RdI w A n picks) (hc : n ≤ cap) (hA : 0 < n → ∀ a, A = some a → a.block < w.heap.size) :
    Calls Try.prog 11 #[fptr d, .slice A n cap] w fun e w' => ∃ d' g' ns rest, e = .returned (fptr d') ∧ IsNames g ns ∧ Crashed ns picks g g' rest ∧ Ext w w' ∧ StM w0 w' d' { g' with fuse := -1, dead := false, chg := 0 } L M := by
  obtain ⟨O, fm, F, hX, h0, hx, hL, hM⟩ := h
  refine (crash_any w O d fm F g hX hbig A n cap picks hr hc hA).mono ?_
  rintro e w' ⟨d', O', g', ns, rest, rfl, h1, h2, ⟨fm', F', h3⟩, h4, h5⟩
  have hz := hx.size
  exact ⟨d', g', ns, rest, rfl, h1, h2, h5, ⟨O', fm', F', h3, fun b hb => h4 b (by omega), hx.trans h5, fun q hq => ⟨h4 _ (hL q hq).2.lt, (hL q hq).2.ext h5⟩, fun k hk => ⟨h4 _ (mark_lt (hM k hk).2), (h5.blk (mark_lt (hM k hk).2)).trans (hM k hk).2⟩⟩⟩
end
end Go.Proofs.Ytenmdhdloibemaa
