/- The laws' own functions: num, once of no files. Conditions: told at each. -/
import Derived.Test.YtenmdhdloibemaaSame
namespace Go.Proofs.Ytenmdhdloibemaa
open Go.RowKit Go.Maps Go.Sort Go.Shelf
set_option linter.unusedVariables false
set_option linter.unusedSimpArgs false
attribute [local go_sem] Oper.semAt_some

/-- cells laid one behind the other -/
def lay (w : World) (l : List (TypeId × Value)) : World := l.foldl (fun w p => w.alloc (.cells #[p.2] p.1)) w
theorem lay_ok : ∀ (l : List (TypeId × Value)) (w : World), Ext w (lay w l) ∧ (lay w l).heap.size = w.heap.size + l.length ∧ ∀ (i : Nat) (p : TypeId × Value), l[i]? = some p → Blk (lay w l) (w.heap.size + i) p.1 #[p.2]
  | [], w => ⟨Ext.refl _, rfl, fun i p h => by simp at h⟩
  | q :: l, w => by
    obtain ⟨h1, h2, h3⟩ := lay_ok l (w.alloc (.cells #[q.2] q.1))
    have e := World.size_alloc w (.cells #[q.2] q.1)
    have hx := (Ext.refl w).alloc (.cells #[q.2] q.1)
    refine ⟨hx.trans h1, by rw [List.length_cons]; exact h2.trans (by omega), fun i p hp => ?_⟩
    cases i with
    | zero =>
      obtain rfl : q = p := by simpa using hp
      exact (Blk.new w q.1 #[q.2]).ext h1
    | succ i =>
      have := h3 i p (by simpa using hp)
      rw [e] at this
      rwa [show w.heap.size + 1 + i = w.heap.size + (i + 1) by omega] at this

set_option maxRecDepth 100000 in
set_option maxHeartbeats 1600000 in
theorem files_no (w : World) (v : Value) (h : NoDisk w v) :
    Calls Try.prog 24 #[v] w fun e w' => ∃ bn bc, e = .returned (filesV bn bc) ∧ FilesFn w' bn bc [] [] w.heap.size ∧ Ext w w' := by
  have hx1 := (Ext.refl w).alloc (.cells #[.slice none 0 0] 81)
  have bA := Blk.new w 81 #[.slice none 0 0]
  have s1 := World.size_alloc w (.cells #[.slice none 0 0] 81)
  have bB := Blk.new (w.alloc (.cells #[.slice none 0 0] 81)) 23 #[.slice none 0 0]
  have hx2 := (Ext.refl (w.alloc (.cells #[.slice none 0 0] 81))).alloc (.cells #[.slice none 0 0] 23)
  rw [s1] at bB
  have bA2 := bA.ext hx2
  have h2 := h.ext (hx1.trans hx2)
  have c1 := bA2.cell 0
  have c2 := bB.cell 0
  go_enter Try.func24, Try.ntmps24
  go_wp2_with fail
  refine (none_no _ _ h2).mono ?_
  rintro e w1 ⟨rfl, rfl⟩
  go_wp2_with fail
  go_loopw [6, 18] (fun _ i wr => i = .int .i64 0 ∧ wr = ((w.alloc (.cells #[.slice none 0 0] 81)).alloc (.cells #[.slice none 0 0] 23))) (fun _ i _ => 0)
  case atStart => exact ⟨rfl, rfl⟩
  case round =>
    obtain ⟨rfl, rfl⟩ := hrel
    go_wp2_with fail
    go_ret
    exact ⟨w.heap.size, w.heap.size + 1, rfl, ⟨none, 0, none, 0, c1, ⟨rfl, .inl rfl⟩, c2, ⟨rfl, .inl rfl⟩, Nat.le_refl _, (by omega), (by rintro a ⟨⟩), (by rintro a ⟨⟩)⟩, hx1.trans hx2⟩

theorem num_any (w : World) (x : Int) : Calls Try.prog 9 #[.int .i64 x] w fun e w' => e = .returned (.int .i64 x) ∧ w = w' := by
  go_enter Try.func9, Try.ntmps9
  go_wp2_with fail
  go_ret
  exact ⟨rfl, rfl⟩
set_option maxRecDepth 100000 in
set_option maxHeartbeats 3200000 in
/-- a disk that is not there has no files, as the document's zero one -/
theorem once_no (w : World) (v : Value) (h : NoDisk w v) (rb : Nat) (cs : Array Value) (hb : Blk w rb 79 cs) (h0 : cs[0]? = some (.slice none 0 0)) :
    Calls Try.prog 45 #[v, fptr rb, .int .i64 0] w fun e w' => e = .returned (.bool true) ∧ Ext w w' := by
  obtain ⟨hx, hz, hB⟩ := lay_ok [(76, fptr rb), (3, .int .i64 0), (4, .bool false), (3, .int .i64 0)] w
  refine calls_of_marks Try.func45 rfl ?_
  simp only [Try.ntmps45, List.size_toArray, List.length_cons, List.length_nil, Nat.reduceAdd, Nat.reduceSub, Array.replicate_succ, Array.replicate_zero, List.push_toArray, List.append_toArray, List.nil_append, List.cons_append]
  go_upto_region 2 with fail
  simp only [lay, List.foldl_cons, List.foldl_nil] at hx hz hB
  generalize (((w.alloc (.cells #[fptr rb] 76)).alloc (.cells #[.int .i64 0] 3)).alloc (.cells #[.bool false] 4)).alloc (.cells #[.int .i64 0] 3) = W at *
  have b1 : Blk W w.heap.size 76 #[fptr rb] := hB 0 _ rfl
  have b2 : Blk W (w.heap.size + 1) 3 #[.int .i64 0] := hB 1 _ rfl
  have b3 : Blk W (w.heap.size + 1 + 1) 4 #[.bool false] := hB 2 _ rfl
  have b4 : Blk W (w.heap.size + 1 + 1 + 1) 3 #[.int .i64 0] := hB 3 _ rfl
  simp only [List.length_cons, List.length_nil] at hz
  clear hB
  go_wp2_with fail
  refine (files_no W v (h.ext hx)).mono ?_
  rintro e w3 ⟨bn, bc, rfl, hFn, hx3⟩
  have hfn := run_eql_fn Try.underlying56 (.func 48) #[] #[fptr bn, fptr bc] w3
  go_wp2_with fail
  refine' range_files (w0 := w3) (lo := W.heap.size) (ns := []) (cs := []) hFn rfl (by simp) (Ext.refl _) hx3.size ?hg (fun _ W' => Ext w3 W') (fun _ _ _ => False) ?hw ?hI ?hIx ?h0 (fun x => absurd x.2 (by simp)) ?assign ?body ?done ?stop
  case hg => rfl
  case hw => exact fun pre W' h' => h'.size
  case hI => exact fun pre W' W'' h' t => t.ext_of h' (fun _ hk => hk)
  case hIx => exact fun c pre W W' h _ => h
  case h0 => exact Ext.refl _
  case stop => exact fun D c pre W _ _ h _ => h.elim
  case assign => exact fun l x => absurd x.2 (by simp)
  case body => exact fun l pre x => absurd x.2 (by simp)
  case done =>
    intro D xs W4 hD hup hx4 hK
    have hx34 := hx3.trans hx4
    go_wp2_with fail
    have hWd := hx34.trans (Ext.refl W4).drew
    have hD2 : W4.drew.heap[D]? = some (.deferred (some [])) := ((Ext.refl W4).drew.blk (Array.getElem?_eq_some_iff.1 hK).1).trans hK
    have ne : ∀ b, b < w.heap.size + 1 + 1 → ¬ b = w.heap.size + 1 + 1 := fun b h e => by omega
    have hbl := hb.lt
    refine wp_region_plan (Tu (fun b => b = w.heap.size + 1 + 1)) [(0, true), (1, true), (2, true), (3, true), (4, true), (5, true), (6, true), (7, false)] (fun _ _ _ x y => (fun x y => Tu.trans x y) x y) (Tu.refl (fun b => b = w.heap.size + 1 + 1)) (by kernel_rfl) (by kernel_rfl) ?_
    intro K hK
    generalize W4.drew = W5 at *
    have l1 : ∀ y : Above (Tu (fun b => b = w.heap.size + 1 + 1)) W5, y.1.cell? ⟨w.heap.size, 0, none⟩ = some (fptr rb) := fun y => ((b1.ext hWd).tu y.2 (by omega)).cell 0
    have l4 : ∀ y : Above (Tu (fun b => b = w.heap.size + 1 + 1)) W5, y.1.cell? ⟨w.heap.size + 1 + 1 + 1, 0, none⟩ = some (.int .i64 0) := fun y => ((b4.ext hWd).tu y.2 (by omega)).cell 0
    have l0 : ∀ y : Above (Tu (fun b => b = w.heap.size + 1 + 1)) W5, y.1.cell? ⟨rb, 0, none⟩ = some (.slice none 0 0) := fun y => (((hb.ext (hx.trans hWd)).tu y.2 (by omega)).cell 0).trans h0
    iterate 7 (
      refine plan_q (v := ?_) rfl rfl ?_ ?_
      rotate_left
      · intro x
        go_simp
        first | done | rfl
      simp only [Act.put, List.getElem_toArray, List.getElem_cons_zero, List.getElem_cons_succ, List.setIfInBounds_toArray, List.set_cons_zero, List.set_cons_succ])
    have B3 := b3.ext hWd
    have e3 := B3.cell 0
    have f3 := B3.free 0
    have B6 := B3.set_ 0 (.bool true)
    have T6 : Tu (fun b => b = w.heap.size + 1 + 1) W5 (W5.setCell ⟨w.heap.size + 1 + 1, 0, none⟩ (.bool true)) := Tu.of_grown (setCell_grownBy _ _ _) (by rintro k e; cases e; rfl)
    clear l1 l4 l0
    refine plan_l rfl rfl ?_
    intro K2 hK2
    go_simp
    refine hK2.out _ _ T6 ?_
    clear hK2 K2
    try simp only [Act.put, List.getElem_toArray, List.getElem_cons_zero, List.getElem_cons_succ, List.setIfInBounds_toArray, List.set_cons_zero, List.set_cons_succ]
    refine plan_end (hK.out _ _ ?_)
    clear hK K
    generalize W5.setCell ⟨w.heap.size + 1 + 1, 0, none⟩ (.bool true) = W6 at *
    go_wp2_with fail
    have zz := hx3.size
    have hD6 : W6.heap[D]? = some (.deferred (some [])) := (T6.blk D (Array.getElem?_eq_some_iff.1 hD2).1 (by omega)).trans hD2
    have t8 : Tu (fun b => b = D) W6 (W6.putObj D (.deferred none)) := Tu.of_grown (grownBy_putObj' W6 D (.deferred none)) (by rintro k e; cases e; rfl)
    refine ⟨by simp, .inl ⟨_, _, rfl, run_takeDeferred hD6, ?_⟩⟩
    exact ⟨_, results_cell1 rfl _ _ _ rfl (B6.tu t8 (by omega)), rfl, t8.ext_of (T6.ext_of (hx.trans hWd) (fun k hk => by omega)) (fun k hk => by omega)⟩
end Go.Proofs.Ytenmdhdloibemaa
