/- Two files that have the same are told to be. Conditions: they have. -/
import Derived.Test.YtenmdhdloibemaaCopy
namespace Go.Proofs.Ytenmdhdloibemaa
open Go.RowKit Go.Maps Go.Sort
set_option linter.unusedVariables false
set_option linter.unusedSimpArgs false

def FC.Same (c d : FC) : Prop := c.lasts = d.lasts ∧ c.cnt = d.cnt ∧ ∀ n, (c.S n).length = (d.S n).length ∧ c.has n = d.has n

theorem FileX.has_len {w : World} {O : Ow} {fb lb sb : Nat} {c : FC} (h : FileX w O fb lb sb c) (n : Int) : (c.has n).length = 256 := by
  have hz := h.last_len n
  obtain ⟨DL, DS, o1, o2, o3, b1, m1, m2, hL, hS, hf⟩ := h
  simp only [FC.has]
  cases e : (c.S n).getLast? with
  | none => exact hz
  | some l =>
    have hn : c.S n ≠ [] := fun e2 => by rw [e2] at e; cases e
    obtain ⟨_, v, _, rb, cap, rfl, _, _, hl⟩ := hS.2.1 n hn
    exact hl l (List.mem_of_getLast? e)
/-- a sector's writes, told by their number -/
theorem FileX.since_len {w : World} {O : Ow} {fb lb sb : Nat} {c : FC} {n : Int} (h : FileX w O fb lb sb c) (hn : (Lit.int .i64 n).wf = true) : ∃ A cap, ∀ u, Ext w u → (Instr.lookup 70 (.map (some sb)) (.int .i64 n) false).run Try.prog u = .ok (.slice A (c.S n).length cap) u := by
  obtain ⟨v, h1, h2⟩ := h.since' hn
  rcases h2 with ⟨e, rfl⟩ | ⟨_, _, rb, cap, rfl, _⟩
  · exact ⟨none, 0, fun u hu => by rw [e]; exact h1 u hu⟩
  · exact ⟨_, cap, h1⟩

set_option maxRecDepth 100000 in
set_option maxHeartbeats 3200000 in
theorem fsame_any (w : World) (O : Ow) (fb : Nat) (c : FC) (h : FileAt w O fb c) (O2 : Ow) (fb2 : Nat) (c2 : FC) (h2 : FileAt w O2 fb2 c2) (hs : c.Same c2) :
    Calls Try.prog 34 #[fptr fb, fptr fb2] w fun e w' => e = .returned (.bool true) ∧ Ext w w' := by
  obtain ⟨lb, sb, hX⟩ := h.x
  obtain ⟨lb2, sb2, hY⟩ := h2.x
  obtain ⟨DL, DS, o1, o2, o3, b1, m1, m2, hL, hS, hf⟩ := id hX
  have c0 := b1.cell 0
  go_enter Try.func34, Try.ntmps34
  go_wp2_with (at_range; refine wpList_rng _ _ law_i Try.underlying69 rfl rfl m1 rfl ?_; intro w1 hr1 hx1 hs1)
  go_frame
  go_loopw [5] (fun _ wr => ∃ left cnt, Ranging Try.prog wr 3 lb w.heap.size DL left cnt ∧ Ext w wr) (fun _ wr => wr.rangeLeft lb w.heap.size)
  case atStart => exact ⟨_, _, hr1, hx1⟩
  case round =>
    obtain ⟨left, cnt, hrg, hxr⟩ := hrel
    go_wp2_with (at_next; refine wpList_nxt (Value.int .i64) keyI_inv _ law_i w.heap.size left cnt rfl rfl rfl hrg ?_ ?_)
    · intro hl0
      have hxd := hxr.drew
      have b3 := hX.blk.ext hxd
      have b4 := hY.blk.ext hxd
      have e0 : ∀ y : Above Ext wr.drew, y.1.cell? ⟨fb, 0, none⟩ = some (.map (some lb)) := fun y => (b3.ext y.2).cell 0
      have e1 : ∀ y : Above Ext wr.drew, y.1.cell? ⟨fb2, 0, none⟩ = some (.map (some lb2)) := fun y => (b4.ext y.2).cell 0
      have l0 : ∀ y : Above Ext wr.drew, (Builtin.len_ #[69] 3 #[.map (some lb)]).run Try.prog y.1 = .ok (.int .i64 c.cnt) y.1 := fun y => by
        have := ((m1.ext hxd).ext y.2).len Try.underlying69 3
        rwa [hL.1] at this
      have l1 : ∀ y : Above Ext wr.drew, (Builtin.len_ #[69] 3 #[.map (some lb2)]).run Try.prog y.1 = .ok (.int .i64 c.cnt) y.1 := fun y => by
        obtain ⟨DL2, DS2, p1, p2, p3, b2, n1, n2, hL2, hS2, hf2⟩ := hY
        have := ((n1.ext hxd).ext y.2).len Try.underlying69 3
        rwa [hL2.1, ← hs.2.1] at this
      go_wp2_with fail
      refine wp_region_plan Ext [(0, true), (1, true), (2, true), (3, true), (4, true), (5, true), (6, true), (7, true), (8, true), (9, true), (10, true), (11, true)] (fun _ _ _ x y => (fun x y => Ext.trans x y) x y) Ext.refl (by kernel_rfl) (by kernel_rfl) ?_
      intro K hK
      iterate 12 (
        refine plan_q (v := ?_) rfl rfl ?_ ?_
        rotate_left
        · intro x
          go_simp
          first | done | rfl
        simp only [Act.put, List.getElem_toArray, List.getElem_cons_zero, List.getElem_cons_succ, List.setIfInBounds_toArray, List.set_cons_zero, List.set_cons_succ])
      refine plan_end (hK.out _ _ ?_)
      clear hK K
      go_wp2_with fail
      go_ret
      exact ⟨rfl, hxd⟩
    · intro x v kl w3 cnt' hkey hlk hv hrg3 hlt hg3 hs3 hen
      obtain ⟨rfl, hwf⟩ := keyI_val hkey
      rw [hL.2.1 x] at hv
      obtain ⟨l, hl, rfl⟩ : ∃ l, c.lasts x = some l ∧ v = sec l := by
        cases e : c.lasts x with
        | none => rw [e] at hv; cases hv
        | some l => rw [e] at hv; exact ⟨l, rfl, (Option.some.inj hv).symm⟩
      have hl256 := (hL.2.2.1 x l hl).2.2.2
      have hx3 : Ext w w3 := hxr.grown hg3 (by intro k e; cases e; omega)
      replace hs3 := Lib.hid hs3
      go_wp2_with (refine wpList_ssec rfl _ _ rfl w3.heap.size rfl rfl (blk_zero w3) zsec_len hl256 ?_)
      have bx := (blk_zero w3).setRow (sv l)
      have hx4 := ((Ext.refl w3).alloc (Obj.cells Try.zeroCells39 39)).grown (setRow_grownBy _ w3.heap.size (sv l)) (by simp)
      generalize (w3.alloc (Obj.cells Try.zeroCells39 39)).setRow w3.heap.size (sv l) = W4 at *
      have hxd := hx4.drew
      have hX4 := hX.ext (hx3.trans hxd)
      have hY4 := hY.ext (hx3.trans hxd)
      have e0 : ∀ y : Above Ext W4.drew, y.1.cell? ⟨fb, 0, none⟩ = some (.map (some lb)) := fun y => (hX4.blk.ext y.2).cell 0
      have e1 : ∀ y : Above Ext W4.drew, y.1.cell? ⟨fb2, 0, none⟩ = some (.map (some lb2)) := fun y => (hY4.blk.ext y.2).cell 0
      have hne : ∀ u, (binOp .neq 39 (sec l) (sec l)).run Try.prog u = .ok (.bool false) u := fun u => by
        rw [run_sec_neq l l hl256 hl256]
        simp
      have hgd := fun x y u => run_sec_guard .neq x y l l u
      go_wp2_with fail
      refine wp_region_plan Ext [(0, true), (1, true), (2, false), (3, true), (4, true), (5, true), (6, true), (7, true), (8, true), (9, true), (11, true), (10, false), (12, true), (13, true), (14, true)] (fun _ _ _ x y => (fun x y => Ext.trans x y) x y) Ext.refl (by kernel_rfl) (by kernel_rfl) ?_
      intro K hK
      iterate 2 (
        refine plan_q (v := ?_) rfl rfl ?_ ?_
        rotate_left
        · intro x
          go_simp
          first | done | rfl
        simp only [Act.put, List.getElem_toArray, List.getElem_cons_zero, List.getElem_cons_succ, List.setIfInBounds_toArray, List.set_cons_zero, List.set_cons_succ])
      refine plan_l rfl rfl ?_
      intro K2 hK2
      go_simp
      refine (counts_any W4.drew O2 fb2 lb2 sb2 c2 x hY4 hwf).mono ?_
      rw [← hs.1, hl]
      rintro e w5 ⟨rfl, hx5⟩
      go_simp
      refine hK2.out _ _ hx5 ?_
      clear hK2 K2
      try simp only [Act.put, List.getElem_toArray, List.getElem_cons_zero, List.getElem_cons_succ, List.setIfInBounds_toArray, List.set_cons_zero, List.set_cons_succ]
      have e2 : ∀ y : Above Ext w5, y.1.cell? ⟨fb2, 0, none⟩ = some (.map (some lb2)) := fun y => e1 ⟨y.1, hx5.trans y.2⟩
      clear e1
      iterate 7 (
        refine plan_q (v := ?_) rfl rfl ?_ ?_
        rotate_left
        · intro x
          go_simp
          first | done | rfl
        simp only [Act.put, List.getElem_toArray, List.getElem_cons_zero, List.getElem_cons_succ, List.setIfInBounds_toArray, List.set_cons_zero, List.set_cons_succ])
      refine plan_q (v := sec l) rfl rfl (fun y => exec_lsec rfl w3.heap.size rfl ((show Blk W4.drew _ _ _ from bx).ext (hx5.trans y.2)) hl256) ?_
      simp only [Act.put, List.getElem_toArray, List.getElem_cons_zero, List.getElem_cons_succ, List.setIfInBounds_toArray, List.set_cons_zero, List.set_cons_succ]
      have hlk2 := (hY4.ext hx5).look hwf
      rw [← hs.1, hl, Option.getD_some] at hlk2
      refine plan_l rfl rfl ?_
      intro K2 hK2
      go_simp
      refine hK2.out _ _ (Ext.refl _) ?_
      clear hK2 K2
      try simp only [Act.put, List.getElem_toArray, List.getElem_cons_zero, List.getElem_cons_succ, List.setIfInBounds_toArray, List.set_cons_zero, List.set_cons_succ]
      iterate 3 (
        refine plan_q (v := ?_) rfl rfl ?_ ?_
        rotate_left
        · intro x
          go_simp
          first | done | rfl
        simp only [Act.put, List.getElem_toArray, List.getElem_cons_zero, List.getElem_cons_succ, List.setIfInBounds_toArray, List.set_cons_zero, List.set_cons_succ])
      refine plan_end (hK.out _ _ ?_)
      clear hK K
      have hxe := hxd.trans (hx5.drew)
      have hX5 := hX.ext (hx3.trans hxe)
      have hY5 := hY.ext (hx3.trans hxe)
      obtain ⟨A1, q1, hq1⟩ := hX5.since_len hwf
      obtain ⟨A2, q2, hq2⟩ := hY5.since_len hwf
      rw [← (hs.2.2 x).1] at hq2
      obtain ⟨L, hL2⟩ : ∃ L, (c.S x).length = L := ⟨_, rfl⟩
      rw [hL2] at hq1 hq2
      have hh := hX5.has_len x
      obtain ⟨m, hm⟩ : ∃ m, c.has x = m := ⟨_, rfl⟩
      have hm2 : c2.has x = m := by rw [← (hs.2.2 x).2]; exact hm
      rw [hm] at hh
      have hne2 : ∀ u, (binOp .neq 39 (sec m) (sec m)).run Try.prog u = .ok (.bool false) u := fun u => by
        rw [run_sec_neq m m hh hh]
        simp
      have hgd2 := fun x y u => run_sec_guard .neq x y m m u
      have e3 : ∀ y : Above Ext w5.drew, y.1.cell? ⟨fb, 1, none⟩ = some (.map (some sb)) := fun y => (hX5.blk.ext y.2).cell 1
      have e4 : ∀ y : Above Ext w5.drew, y.1.cell? ⟨fb2, 1, none⟩ = some (.map (some sb2)) := fun y => (hY5.blk.ext y.2).cell 1
      clear e0 e2 hne hgd
      go_wp2_with fail
      refine wp_region_pl Ext [.q 0, .q 1, .q 2, .q 3, .q 4, .q 7, .q 8, .q 9, .q 10, .q 11, .seg [5, 12, 6, 13], .q 14, .q 15, .q 16, .q 17, .q 19, .q 20, .f 18, .f 21, .q 22, .q 23, .q 24] (fun _ _ _ x y => (fun x y => Ext.trans x y) x y) Ext.refl (by kernel_rfl) (by kernel_rfl) ?_
      intro K hK
      iterate 10 (
        refine pl_q (v := ?_) rfl rfl ?_ ?_
        rotate_left
        · intro x
          go_simp
          first | done | rfl
        simp only [Act.put, List.getElem_toArray, List.getElem_cons_zero, List.getElem_cons_succ, List.setIfInBounds_toArray, List.set_cons_zero, List.set_cons_succ])
      refine pl_seg (A := ?A) (fun j x u => match j with | 5 => x = .slice A1 L q1 | 12 => x = .slice A2 L q2 | _ => x = .int .i64 (L : Int)) (fun _ _ _ _ => True) ?hA ?h0 ?hput ?hmono ?hstep ?hend
      case hA =>
        intro v
        simp only [fillT, Option.bind_some, Option.bind_none, Option.bind, List.getElem?_toArray, List.getElem?_cons_zero, List.getElem?_cons_succ, List.setIfInBounds_toArray, List.set_cons_zero, List.set_cons_succ]
        exact rfl
      case h0 => exact rfl
      case hput => repeat' (first | exact trivial | refine And.intro (fun o ho v x => by obtain rfl := Option.some.inj ho; rfl) ?_)
      case hmono => exact ⟨fun x u u' hh e => e, fun x u u' hh e => e, fun x u u' hh e => e, fun x u u' hh e => e, trivial⟩
      case hstep =>
        refine And.intro ?_ (And.intro ?_ (And.intro ?_ (And.intro ?_ trivial)))
        ·
          intro o ho
          obtain rfl := Option.some.inj ho
          clear ho
          intro v u hR hD K2 hK2
          clear hD
          rw [if_pos (by rfl)]
          have hqu := hq1 u hR
          go_simp
          exact hK2.out _ _ _ (Ext.refl _) rfl (fun _ _ _ _ _ => trivial) rfl
        ·
          intro o ho
          obtain rfl := Option.some.inj ho
          clear ho
          intro v u hR hD K2 hK2
          clear hD
          rw [if_pos (by rfl)]
          have hqu := hq2 u hR
          go_simp
          exact hK2.out _ _ _ (Ext.refl _) rfl (fun _ _ _ _ _ => trivial) rfl
        ·
          intro o ho
          obtain rfl := Option.some.inj ho
          clear ho
          intro v u hR hD K2 hK2
          have d5 : v 5 = .slice A1 L q1 := hD 5 (by kernel_rfl) (by kernel_rfl)
          clear hD
          rw [if_pos (by rfl)]
          simp only [d5]
          go_simp
          refine hK2.out _ _ _ (Ext.refl _) rfl (fun _ _ _ _ _ => trivial) ?_
          simp only [d5]
          rfl
        ·
          intro o ho
          obtain rfl := Option.some.inj ho
          clear ho
          intro v u hR hD K2 hK2
          have d12 : v 12 = .slice A2 L q2 := hD 12 (by kernel_rfl) (by kernel_rfl)
          clear hD
          rw [if_pos (by rfl)]
          simp only [d12]
          go_simp
          refine hK2.out _ _ _ (Ext.refl _) rfl (fun _ _ _ _ _ => trivial) ?_
          simp only [d12]
          rfl
      case hend =>
        intro v u hR hF hP
        have d5 : v 5 = .slice A1 L q1 := hF.1
        have d12 : v 12 = .slice A2 L q2 := hF.2.1
        have d6 : v 6 = .int .i64 (L : Int) := hF.2.2.1
        have d13 : v 13 = .int .i64 (L : Int) := hF.2.2.2.1
        simp only [d5, d12, d6, d13]
        clear hF hP d5 d12 d6 d13
        iterate 6 (
          refine pl_q (v := ?_) rfl rfl ?_ ?_
          rotate_left
          · intro x
            go_simp
            first | done | rfl
          simp only [Act.put, List.getElem_toArray, List.getElem_cons_zero, List.getElem_cons_succ, List.setIfInBounds_toArray, List.set_cons_zero, List.set_cons_succ])
        refine pl_l rfl rfl ?_
        intro K2 hK2
        go_simp
        refine (has_any u O fb lb sb c x (hX5.ext hR) hwf).mono ?_
        rw [hm]
        rintro e w6 ⟨rfl, hx6⟩
        go_simp
        refine hK2.out _ _ hx6 ?_
        clear hK2 K2
        try simp only [Act.put, List.getElem_toArray, List.getElem_cons_zero, List.getElem_cons_succ, List.setIfInBounds_toArray, List.set_cons_zero, List.set_cons_succ]
        refine pl_l rfl rfl ?_
        intro K2 hK2
        go_simp
        refine (has_any w6 O2 fb2 lb2 sb2 c2 x (hY5.ext (hR.trans hx6)) hwf).mono ?_
        rw [hm2]
        rintro e w7 ⟨rfl, hx7⟩
        go_simp
        refine hK2.out _ _ hx7 ?_
        clear hK2 K2
        try simp only [Act.put, List.getElem_toArray, List.getElem_cons_zero, List.getElem_cons_succ, List.setIfInBounds_toArray, List.set_cons_zero, List.set_cons_succ]
        iterate 3 (
          refine pl_q (v := ?_) rfl rfl ?_ ?_
          rotate_left
          · intro x
            go_simp
            first | done | rfl
          simp only [Act.put, List.getElem_toArray, List.getElem_cons_zero, List.getElem_cons_succ, List.setIfInBounds_toArray, List.set_cons_zero, List.set_cons_succ])
        refine pl_end (hK.out _ _ ?_)
        clear hK K
        go_wp2_with fail
        have hxz := ((hxe.trans hR).trans hx6).trans hx7
        have hrg7 := hrg3.keep (w' := w7) (hxz.blk hrg3.map.lt) (hxz.blk hrg3.lt)
        refine ⟨⟨_, _, hrg7, hx3.trans hxz⟩, ?_⟩
        rw [hrg7.left_eq, ← hrg3.left_eq]
        exact hlt
end Go.Proofs.Ytenmdhdloibemaa
