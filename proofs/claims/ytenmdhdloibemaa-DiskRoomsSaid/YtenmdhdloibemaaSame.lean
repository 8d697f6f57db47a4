/- Are two disks the same? Conditions: both are in memory as told; where both are disks, they are the same. -/
import Derived.Test.YtenmdhdloibemaaCrash
namespace Go.Proofs.Ytenmdhdloibemaa
open Go.RowKit Go.Maps Go.Sort Go.Shelf
set_option linter.unusedVariables false
set_option linter.unusedSimpArgs false
attribute [local go_sem] Oper.semAt_some

def DC.Same (g k : DC) : Prop := g.cap = k.cap ∧ ∀ n, (g.file n = none ∧ k.file n = none) ∨ ∃ c c', g.file n = some c ∧ k.file n = some c' ∧ c.Same c'

/-- a result that lies in a cell -/
theorem results_cell1 {fn : Func} {p : Tmp} (h : fn.results = #[.cell p 4]) (tmps : Array Value) (w : World) (g : Nat) {v : Value} (hp : tmps.getD p undef = fptr g) (hb : Blk w g 4 #[v]) :
    (results fn tmps).run Try.prog w = .ok v w := by
  have hp' : tmps[p]?.getD undef = fptr g := by simpa using hp
  have hc := hb.cell 0
  simp [results, h, hp', asAddr, go_sem, Result.andThen, hc]

/-- the two, and the answer, laid -/
def Laid3 (w W : World) (p q : Value) : Prop := Ext w W ∧ Blk W w.heap.size 26 #[p] ∧ Blk W (w.heap.size + 1) 26 #[q] ∧ Blk W (w.heap.size + 1 + 1) 4 #[.bool false] ∧ W.heap.size = w.heap.size + 1 + 1 + 1
theorem laid3 (w : World) (p q : Value) : Laid3 w (((w.alloc (.cells #[p] 26)).alloc (.cells #[q] 26)).alloc (.cells #[.bool false] 4)) p q := by
  have h1 := (Ext.refl w).alloc (.cells #[p] 26)
  have b1 := Blk.new w 26 #[p]
  have s1 := World.size_alloc w (.cells #[p] 26)
  generalize w.alloc (.cells #[p] 26) = W1 at *
  have h2 := (Ext.refl W1).alloc (.cells #[q] 26)
  have b2 := Blk.new W1 26 #[q]
  have s2 := World.size_alloc W1 (.cells #[q] 26)
  generalize W1.alloc (.cells #[q] 26) = W2 at *
  have h3 := (Ext.refl W2).alloc (.cells #[.bool false] 4)
  have b3 := Blk.new W2 4 #[.bool false]
  have s3 := World.size_alloc W2 (.cells #[.bool false] 4)
  rw [s1] at b2 s2
  rw [s2] at b3 s3
  exact ⟨(h1.trans h2).trans h3, (b1.ext h2).ext h3, b2.ext h3, b3, s3⟩

set_option maxRecDepth 100000 in
set_option maxHeartbeats 1600000 in
theorem same_nn (w : World) (p q : Option Addr) (h : NoDisk w (.pointer p)) (k : NoDisk w (.pointer q)) : Calls Try.prog 14 #[.pointer p, .pointer q] w fun e w' => e = .returned (.bool true) ∧ Ext w w' := by
  have hL := laid3 w (.pointer p) (.pointer q)
  refine calls_of_marks Try.func14 rfl ?_
  simp only [Try.ntmps14, List.size_toArray, List.length_cons, List.length_nil, Nat.reduceAdd, Nat.reduceSub, Array.replicate_succ, Array.replicate_zero, List.push_toArray, List.append_toArray, List.nil_append, List.cons_append]
  go_upto_region 1 with fail
  generalize ((w.alloc (.cells #[.pointer p] 26)).alloc (.cells #[.pointer q] 26)).alloc (.cells #[.bool false] 4) = W at *
  obtain ⟨hx, b1, b2, b3, hs⟩ := hL
  have c1 := b1.cell 0
  have c2 := b2.cell 0
  have c3 := b3.cell 0
  have f3 := b3.free 0
  have b4 := b3.set_ 0 (.bool true)
  have hx4 := hx.setCell (p := ⟨w.heap.size + 1 + 1, 0, none⟩) (by simp only; omega) (.bool true)
  go_wp2_with fail
  refine (none_no _ _ (h.ext hx)).mono ?_
  rintro e w1 ⟨rfl, rfl⟩
  go_wp2_with fail
  refine (none_no _ _ (h.ext hx)).mono ?_
  rintro e w1 ⟨rfl, rfl⟩
  go_wp2_with fail
  refine (none_no _ _ (k.ext hx)).mono ?_
  rintro e w1 ⟨rfl, rfl⟩
  go_wp2_with fail
  exact ⟨_, results_cell1 rfl _ _ _ rfl b4, rfl, hx4⟩
set_option maxRecDepth 100000 in
set_option maxHeartbeats 1600000 in
theorem same_nd (w : World) (p : Option Addr) (h : NoDisk w (.pointer p)) (O : Ow) (d fm : Nat) (F : DataW Value) (g : DC) (k : DiskX w O d fm F g) : Calls Try.prog 14 #[.pointer p, fptr d] w fun e w' => e = .returned (.bool false) ∧ Ext w w' := by
  have hL := laid3 w (.pointer p) (fptr d)
  refine calls_of_marks Try.func14 rfl ?_
  simp only [Try.ntmps14, List.size_toArray, List.length_cons, List.length_nil, Nat.reduceAdd, Nat.reduceSub, Array.replicate_succ, Array.replicate_zero, List.push_toArray, List.append_toArray, List.nil_append, List.cons_append]
  go_upto_region 1 with fail
  generalize ((w.alloc (.cells #[.pointer p] 26)).alloc (.cells #[fptr d] 26)).alloc (.cells #[.bool false] 4) = W at *
  obtain ⟨hx, b1, b2, b3, hs⟩ := hL
  have c1 := b1.cell 0
  have c2 := b2.cell 0
  have c3 := b3.cell 0
  have f3 := b3.free 0
  have b4 := b3.set_ 0 (.bool false)
  have hx4 := hx.setCell (p := ⟨w.heap.size + 1 + 1, 0, none⟩) (by simp only; omega) (.bool false)
  go_wp2_with fail
  refine (none_no _ _ (h.ext hx)).mono ?_
  rintro e w1 ⟨rfl, rfl⟩
  go_wp2_with fail
  refine (none_no _ _ (h.ext hx)).mono ?_
  rintro e w1 ⟨rfl, rfl⟩
  go_wp2_with fail
  refine (none_at _ _ _ _ _ _ (k.ext hx)).mono ?_
  rintro e w1 ⟨rfl, rfl⟩
  go_wp2_with fail
  exact ⟨_, results_cell1 rfl _ _ _ rfl b4, rfl, hx4⟩
set_option maxRecDepth 100000 in
set_option maxHeartbeats 1600000 in
theorem same_dn (w : World) (p : Option Addr) (h : NoDisk w (.pointer p)) (O : Ow) (d fm : Nat) (F : DataW Value) (g : DC) (k : DiskX w O d fm F g) : Calls Try.prog 14 #[fptr d, .pointer p] w fun e w' => e = .returned (.bool false) ∧ Ext w w' := by
  have hL := laid3 w (fptr d) (.pointer p)
  refine calls_of_marks Try.func14 rfl ?_
  simp only [Try.ntmps14, List.size_toArray, List.length_cons, List.length_nil, Nat.reduceAdd, Nat.reduceSub, Array.replicate_succ, Array.replicate_zero, List.push_toArray, List.append_toArray, List.nil_append, List.cons_append]
  go_upto_region 1 with fail
  generalize ((w.alloc (.cells #[fptr d] 26)).alloc (.cells #[.pointer p] 26)).alloc (.cells #[.bool false] 4) = W at *
  obtain ⟨hx, b1, b2, b3, hs⟩ := hL
  have c1 := b1.cell 0
  have c2 := b2.cell 0
  have c3 := b3.cell 0
  have f3 := b3.free 0
  have b4 := b3.set_ 0 (.bool false)
  have hx4 := hx.setCell (p := ⟨w.heap.size + 1 + 1, 0, none⟩) (by simp only; omega) (.bool false)
  go_wp2_with fail
  refine (none_at _ _ _ _ _ _ (k.ext hx)).mono ?_
  rintro e w1 ⟨rfl, rfl⟩
  go_wp2_with fail
  refine (none_no _ _ (h.ext hx)).mono ?_
  rintro e w1 ⟨rfl, rfl⟩
  go_wp2_with fail
  refine (none_at _ _ _ _ _ _ (k.ext hx)).mono ?_
  rintro e w1 ⟨rfl, rfl⟩
  go_wp2_with fail
  exact ⟨_, results_cell1 rfl _ _ _ rfl b4, rfl, hx4⟩
theorem DC.Same.size {w : World} {O O2 : Ow} {d fm d2 fm2 : Nat} {F F2 : DataW Value} {g k : DC} (h : DiskX w O d fm F g) (h2 : DiskX w O2 d2 fm2 F2 k) (hs : g.Same k) : Maps.size F = Maps.size F2 := by
  obtain ⟨_, _, k3⟩ := str_keys h.mapF law_s fun kl hk => by
    obtain ⟨n, e, _⟩ := h.2.2.2.2.2.2.2.2.1 kl hk
    exact ⟨n, e⟩
  obtain ⟨_, _, k4⟩ := str_keys h2.mapF law_s fun kl hk => by
    obtain ⟨n, e, _⟩ := h2.2.2.2.2.2.2.2.2.1 kl hk
    exact ⟨n, e⟩
  rw [← k3, ← k4]
  have i1 := h.names.1
  have i2 := h2.names.1
  refine (List.Perm.length_eq ((List.perm_ext_iff_of_nodup i1.1 i2.1).2 fun n => ?_))
  rw [i1.2, i2.2]
  rcases hs.2 n with ⟨e1, e2⟩ | ⟨c, c', e1, e2, _⟩ <;> simp [e1, e2]

set_option maxRecDepth 100000 in
set_option maxHeartbeats 3200000 in
theorem same_any (w : World) (O : Ow) (d fm : Nat) (F : DataW Value) (g : DC) (h : DiskX w O d fm F g) (O2 : Ow) (d2 fm2 : Nat) (F2 : DataW Value) (g2 : DC) (k : DiskX w O2 d2 fm2 F2 g2) (hs : g.Same g2) :
    Calls Try.prog 14 #[fptr d, fptr d2] w fun e w' => e = .returned (.bool true) ∧ Ext w w' := by
  have hL := laid3 w (fptr d) (fptr d2)
  refine calls_of_marks Try.func14 rfl ?_
  simp only [Try.ntmps14, List.size_toArray, List.length_cons, List.length_nil, Nat.reduceAdd, Nat.reduceSub, Array.replicate_succ, Array.replicate_zero, List.push_toArray, List.append_toArray, List.nil_append, List.cons_append]
  go_upto_region 1 with fail
  generalize ((w.alloc (.cells #[fptr d] 26)).alloc (.cells #[fptr d2] 26)).alloc (.cells #[.bool false] 4) = W at *
  obtain ⟨hx, b1, b2, b3, hz⟩ := hL
  have c1 := b1.cell 0
  have c2 := b2.cell 0
  have hX := h.ext hx
  have kX := k.ext hx
  go_wp2_with fail
  refine (none_at _ _ _ _ _ _ hX).mono ?_
  rintro e w1 ⟨rfl, rfl⟩
  go_wp2_with fail
  refine (none_at _ _ _ _ _ _ kX).mono ?_
  rintro e w1 ⟨rfl, rfl⟩
  have hsz := hs.size hX kX
  have l1 : ∀ y : Above Ext W.drew, y.1.cell? ⟨w.heap.size, 0, none⟩ = some (fptr d) := fun y => (b1.ext (((Ext.refl W).drew).trans y.2)).cell 0
  have l2 : ∀ y : Above Ext W.drew, y.1.cell? ⟨w.heap.size + 1, 0, none⟩ = some (fptr d2) := fun y => (b2.ext (((Ext.refl W).drew).trans y.2)).cell 0
  have l3 : ∀ y : Above Ext W.drew, y.1.cell? ⟨d, 0, none⟩ = some (.int .i64 g.cap) := fun y => (hX.blk.ext (((Ext.refl W).drew).trans y.2)).cell 0
  have l4 : ∀ y : Above Ext W.drew, y.1.cell? ⟨d2, 0, none⟩ = some (.int .i64 g.cap) := fun y => by rw [hs.1]; exact (kX.blk.ext (((Ext.refl W).drew).trans y.2)).cell 0
  have l5 : ∀ y : Above Ext W.drew, y.1.cell? ⟨d, 1, none⟩ = some (.map (some fm)) := fun y => (hX.blk.ext (((Ext.refl W).drew).trans y.2)).cell 1
  have l6 : ∀ y : Above Ext W.drew, y.1.cell? ⟨d2, 1, none⟩ = some (.map (some fm2)) := fun y => (kX.blk.ext (((Ext.refl W).drew).trans y.2)).cell 1
  have l7 : ∀ y : Above Ext W.drew, _ := fun y => (hX.mapF.ext (((Ext.refl W).drew).trans y.2)).len Try.underlying51 3
  have l8 : ∀ y : Above Ext W.drew, _ := fun y => (kX.mapF.ext (((Ext.refl W).drew).trans y.2)).len Try.underlying51 3
  rw [← hsz] at l8
  go_wp2_with fail
  refine wp_region_plan Ext [(0, true), (1, true), (2, true), (3, true), (4, true), (5, true), (6, true), (7, true), (8, true), (9, true), (10, true), (11, true), (12, true), (13, true), (14, true), (15, true), (16, true), (17, true), (18, true), (19, true), (20, true), (21, true)] (fun _ _ _ x y => (fun x y => Ext.trans x y) x y) Ext.refl (by kernel_rfl) (by kernel_rfl) ?_
  intro K hK
  iterate 22 (
    refine plan_q (v := ?_) rfl rfl ?_ ?_
    rotate_left
    · intro x
      go_simp
      first | done | rfl
    simp only [Act.put, List.getElem_toArray, List.getElem_cons_zero, List.getElem_cons_succ, List.setIfInBounds_toArray, List.set_cons_zero, List.set_cons_succ])
  refine plan_end (hK.out _ _ ?_)
  clear hK K
  clear l1 l2 l3 l4 l5 l6 l7 l8
  have hxd := (Ext.refl W).drew
  have hx2 := hx.trans hxd
  have b1' := b1.ext hxd
  have b2' := b2.ext hxd
  have b3' := b3.ext hxd
  have hz2 := hxd.size
  clear c1 c2 hX kX
  generalize W.drew = W2 at *
  have c1 := b1'.cell 0
  have c2 := b2'.cell 0
  have hX := h.ext hx2
  have kX := k.ext hx2
  go_wp2_with fail
  refine (files_any W2 O d fm F g hX).mono ?_
  rintro e w3 ⟨bn, bc, ns, rfl, hns, hso, hFn, hx3⟩
  have hX3 := hX.ext hx3
  have kX3 := kX.ext hx3
  have hlen : ns.length ≤ 32 := by rw [(hns.perm hX3.names.1).length_eq]; exact hX3.names.2
  have z3 := hx3.size
  go_wp2_with fail
  refine' range_files (w0 := w3) (lo := W2.heap.size) hFn (by simp) hlen (Ext.refl _) z3 ?hg (fun _ W' => Ext w3 W') (fun _ _ _ => False) ?hw ?hI ?hIx ?h0 _ ?assign ?body ?done ?stop
  case hg => rfl
  case hw => exact fun pre W' h' => h'.size
  case hI => exact fun pre W' W'' h' t => t.ext_of h' (fun _ hk => hk)
  case hIx => exact fun c pre W W' h _ => h
  case h0 => exact Ext.refl _
  case stop => exact fun D c pre W _ _ h _ => h.elim
  case assign =>
    intro l x W K hK
    gi_wp2
    exact hK
  case done =>
    intro D xs W4 hD hup hx4 hK
    have hx34 := hx3.trans hx4
    have b4 := b3'.ext hx34
    have c4 := b4.cell 0
    have f4 := b4.free 0
    have b5 := b4.set_ 0 (.bool true)
    have hx5 : Ext w (W4.setCell ⟨w.heap.size + 1 + 1, 0, none⟩ (.bool true)) := (hx2.trans hx34).setCell (p := ⟨w.heap.size + 1 + 1, 0, none⟩) (by simp only; omega) (.bool true)
    have hD5 : (W4.setCell ⟨w.heap.size + 1 + 1, 0, none⟩ (.bool true)).heap[D]? = some (.deferred (some [])) := ((setCell_grownBy W4 ⟨w.heap.size + 1 + 1, 0, none⟩ (.bool true)).block D (Array.getElem?_eq_some_iff.1 hK).1 (by simp; omega)).trans hK
    go_wp2_with fail
    generalize W4.setCell ⟨w.heap.size + 1 + 1, 0, none⟩ (.bool true) = W5 at *
    have g8 := grownBy_putObj' W5 D (.deferred none)
    have t8 : Tu (fun b => b = D) W5 (W5.putObj D (.deferred none)) := Tu.of_grown g8 (by rintro k e; cases e; rfl)
    refine ⟨by simp, .inl ⟨_, _, rfl, run_takeDeferred hD5, ?_⟩⟩
    exact ⟨_, results_cell1 rfl _ _ _ rfl (b5.tu t8 (by omega)), rfl, t8.ext_of hx5 (fun k hk => by omega)⟩
  case body =>
    rintro l pre ⟨x, hlt⟩ W4 hx4 hl4
    obtain ⟨m, hm⟩ : ∃ m, ns[x] = m := ⟨_, rfl⟩
    have hmem : m ∈ ns := by rw [← hm]; exact List.getElem_mem hlt
    dsimp only
    rw [hm]
    generalize (((Option.map (cntOf g) ns[x]?).getD 0 : Nat) : Int) = cv
    have hX4 := hX3.ext hx4
    have kX4 := kX3.ext hx4
    have b1e := (b1'.ext hx3).ext hx4
    have b2e := (b2'.ext hx3).ext hx4
    obtain ⟨c, hcf⟩ := Option.isSome_iff_exists.1 ((hns.2 m).1 hmem)
    obtain ⟨c', hcf', hcc⟩ : ∃ c', g2.file m = some c' ∧ c.Same c' := by
      rcases hs.2 m with ⟨e1, e2⟩ | ⟨x, y, e1, e2, e3⟩
      · rw [e1] at hcf; cases hcf
      · rw [e1] at hcf; cases hcf; exact ⟨y, e2, e3⟩
    obtain ⟨_, _, _, m1, _, _, _, _, hnm', p0, p1, _, _⟩ := id hX4
    obtain ⟨fb, r1, r2⟩ := p1 m c hcf
    obtain ⟨_, _, _, _, _, _, _, _, _, p0', p1', _, _⟩ := id kX4
    obtain ⟨fb2, r1', r2'⟩ := p1' m c' hcf'
    have hnl : m.length ≤ maxLen := by
      obtain ⟨n', en, hmn⟩ := hnm' (sk m) (by rw [m1.has_iff, r1]; rfl)
      have e3 : m = n' := by simpa [sk] using en
      rw [← e3] at hmn
      simp [mayName] at hmn
      unfold maxLen
      omega
    gi_wp2_with fail
    have hxd := (Ext.refl W4).drew
    refine round_region_tl (Tu (fun b => False)) Ext [.q 0, .q 1, .q 2, .q 3, .q 4, .q 6, .q 7, .q 8, .q 9, .q 10, .seg [5, 11, 12], .q 13] (fun _ _ _ x y => x.trans y) (fun a => Tu.refl _ a) (fun _ _ _ x y => x.trans y) (fun _ _ x => Tu.of_ext x) (fun a => Ext.refl a) (by kernel_rfl) (by kernel_rfl) (by kernel_rfl) ?_
    intro K hK
    have toE : ∀ y : Above (Tu (fun b => False)) W4.drew, Ext W4 y.1 := fun y => y.2.ext_of hxd (fun _ h => h.elim)
    have l1 : ∀ y : Above (Tu (fun b => False)) W4.drew, y.1.cell? ⟨w.heap.size, 0, none⟩ = some (fptr d) := fun y => (b1e.ext (toE y)).cell 0
    have l2 : ∀ y : Above (Tu (fun b => False)) W4.drew, y.1.cell? ⟨w.heap.size + 1, 0, none⟩ = some (fptr d2) := fun y => (b2e.ext (toE y)).cell 0
    have l5 : ∀ y : Above (Tu (fun b => False)) W4.drew, y.1.cell? ⟨d, 1, none⟩ = some (.map (some fm)) := fun y => (hX4.blk.ext (toE y)).cell 1
    have l6 : ∀ y : Above (Tu (fun b => False)) W4.drew, y.1.cell? ⟨d2, 1, none⟩ = some (.map (some fm2)) := fun y => (kX4.blk.ext (toE y)).cell 1
    clear toE
    iterate 10 (
      refine tl_q (v := ?_) rfl rfl ?_ ?_
      rotate_left
      · intro x
        go_simp
        first | done | rfl
      simp only [Act.put, List.getElem_toArray, List.getElem_cons_zero, List.getElem_cons_succ, List.setIfInBounds_toArray, List.set_cons_zero, List.set_cons_succ])
    clear l1 l2 l5 l6
    refine tl_seg (A := ?A) (fun j x u => match j with | 5 => x = fptr fb | 11 => x = fptr fb2 | _ => x = fptr fb) ?hA ?h0 ?hput ?hmono ?hstep ?hend
    case hA =>
      intro v
      simp only [fillT, Option.bind_some, Option.bind_none, Option.bind, List.getElem?_toArray, List.getElem?_cons_zero, List.getElem?_cons_succ, List.setIfInBounds_toArray, List.set_cons_zero, List.set_cons_succ]
      exact rfl
    case h0 => exact rfl
    case hput => repeat' (first | exact trivial | refine And.intro (fun o ho v x => by obtain rfl := Option.some.inj ho; rfl) ?_)
    case hmono => exact ⟨fun x u u' hh e => e, fun x u u' hh e => e, fun x u u' hh e => e, trivial⟩
    case hstep =>
      refine And.intro ?_ (And.intro ?_ (And.intro ?_ trivial))
      ·
        intro o ho
        obtain rfl := Option.some.inj ho
        clear ho
        intro v u hR hD K2 hK2
        clear hD
        rw [if_pos (by rfl)]
        have hu := (hX4.ext (hxd.trans hR)).look hnl
        rw [r1, Option.getD_some] at hu
        go_simp
        exact hK2.out _ _ _ (Ext.refl _) rfl rfl
      ·
        intro o ho
        obtain rfl := Option.some.inj ho
        clear ho
        intro v u hR hD K2 hK2
        clear hD
        rw [if_pos (by rfl)]
        have hu := (kX4.ext (hxd.trans hR)).look hnl
        rw [r1', Option.getD_some] at hu
        go_simp
        exact hK2.out _ _ _ (Ext.refl _) rfl rfl
      ·
        intro o ho
        obtain rfl := Option.some.inj ho
        clear ho
        intro v u hR hD K2 hK2
        have d5 : v 5 = fptr fb := hD 5 (by kernel_rfl) (by kernel_rfl)
        clear hD
        rw [if_pos (by rfl)]
        simp only [d5]
        go_simp
        refine hK2.out _ _ _ (Ext.refl _) rfl ?_
        simp only [d5]
        rfl
    case hend =>
      intro v u hR hF
      have d5 : v 5 = fptr fb := hF.1
      have d11 : v 11 = fptr fb2 := hF.2.1
      have d12 : v 12 = fptr fb := hF.2.2.1
      simp only [d5, d11, d12]
      clear hF d5 d11 d12
      have hru : Ext W4 u := hxd.trans hR
      iterate 1 (
        refine tl_q (v := ?_) rfl rfl ?_ ?_
        rotate_left
        · intro x
          go_simp
          first | done | rfl
        simp only [Act.put, List.getElem_toArray, List.getElem_cons_zero, List.getElem_cons_succ, List.setIfInBounds_toArray, List.set_cons_zero, List.set_cons_succ])
      refine tl_end (hK.out _ _ ?_)
      clear hK K
      gi_wp2_with fail
      refine ⟨trivial, rfl, ?_⟩
      refine (call_round l _ (fsame_any u O fb c (r2.ext hru) O2 fb2 c' (r2'.ext hru) hcc)).mono ?_
      rintro e w9 ⟨rfl, hx9⟩
      gi_wp2_with fail
      have hx49 := hru.trans hx9
      exact ⟨Tu.of_ext hx49, hx4.trans hx49⟩
end Go.Proofs.Ytenmdhdloibemaa
