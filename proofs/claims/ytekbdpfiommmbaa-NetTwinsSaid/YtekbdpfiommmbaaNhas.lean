/- has, full, own, told, and bytes.Clone. Conditions: the net is in memory as told. -/
import Derived.Test.YtekbdpfiommmbaaNet
import Derived.Deep.CutRange
import Derived.Deep.CutBlock
namespace Go.Proofs.Ytekbdpfiommmbaa
open Go.RowKit Go.Maps
set_option linter.unusedVariables false
set_option linter.unusedSimpArgs false

set_option maxRecDepth 100000 in
set_option maxHeartbeats 1600000 in
theorem has_any (w : World) (O : Ow) (n fm : Nat) (F : DataW Value) (g : NC) (h : NetX w O n fm F g) (a b : Int) (ha : (Lit.int .i64 a).wf = true) (hb : (Lit.int .i64 b).wf = true) :
    Calls Try.prog 43 #[fptr n, lnv a b] w fun e w' => e = .returned (.bool (decide (g.ok a b))) ∧ Ext w w' := by
  obtain ⟨B, hB⟩ : ∃ B, decide (g.ok a b) = B := ⟨_, rfl⟩
  rw [hB]
  have HB := Lib.hid hB
  clear hB
  have hx1 := (Ext.refl w).alloc (.cells #[.int .i64 a, .int .i64 b] 77)
  have b1 := Blk.new w 77 #[.int .i64 a, .int .i64 b]
  have h1 := h.ext hx1
  go_enter Try.func43, Try.ntmps43
  go_upto_region 1 with fail
  generalize w.alloc (.cells #[.int .i64 a, .int .i64 b] 77) = w1 at *
  generalize w.heap.size = q at *
  have hxd := (Ext.refl w1).drew
  have fin : ∀ W, Ext w1 W → Ext w W := fun W hW => hx1.trans hW
  refine wp_region_plan Ext [(0, true), (1, true), (2, true), (3, true), (4, false), (5, true), (6, true), (7, true), (8, true), (9, true), (10, true), (12, true), (13, true), (14, true), (15, true), (11, false), (16, true), (17, true), (18, true), (19, true), (20, true), (21, true), (22, true), (23, true), (24, true), (25, true)] (fun _ _ _ x y => (fun x y => Ext.trans x y) x y) Ext.refl (by kernel_rfl) (by kernel_rfl) ?_
  intro K hK
  have c0 : ∀ y : Above Ext w1.drew, y.1.cell? ⟨q, 0, none⟩ = some (.int .i64 a) := fun y => (b1.ext (hxd.trans y.2)).cell 0
  have c1 : ∀ y : Above Ext w1.drew, y.1.cell? ⟨q, 1, none⟩ = some (.int .i64 b) := fun y => (b1.ext (hxd.trans y.2)).cell 1
  have c2 : ∀ y : Above Ext w1.drew, y.1.cell? ⟨n, 0, none⟩ = some (.int .i64 g.ends) := fun y => ((h1.ext (hxd.trans y.2)).blk).cell 0
  iterate 4 (
    refine plan_q (v := ?_) rfl rfl ?_ ?_
    rotate_left
    · intro x
      go_simp
      first | done | rfl
    simp only [Act.put, List.getElem_toArray, List.getElem_cons_zero, List.getElem_cons_succ, List.setIfInBounds_toArray, List.set_cons_zero, List.set_cons_succ])
  refine plan_l rfl (by kernel_rfl) ?_
  intro K2 hK2
  go_simp
  refine hK2.out _ _ (Ext.refl _) ?_
  clear hK2 K2
  try simp only [Act.put, List.getElem_toArray, List.getElem_cons_zero, List.getElem_cons_succ, List.setIfInBounds_toArray, List.set_cons_zero, List.set_cons_succ]
  obtain ⟨m, hm⟩ : ∃ m, (if b < a then b else a) = m := ⟨_, rfl⟩
  rw [hm]
  have hm1 : 1 ≤ m ↔ (1 ≤ a ∧ 1 ≤ b) := by rw [← hm]; split <;> omega
  obtain ⟨M, hM⟩ : ∃ M, (if a < b then b else a) = M := ⟨_, rfl⟩
  have hM1 : M ≤ g.ends ↔ (a ≤ g.ends ∧ b ≤ g.ends) := by rw [← hM]; split <;> omega
  have Hm := Lib.hid (And.intro hm1 hM1)
  clear hm1 hM1 hm
  by_cases k1 : 1 ≤ m
  rotate_left
  · have e0 : B = false := by rw [← HB.out]; exact decide_eq_false (fun h => k1 (Hm.out.1.2 ⟨h.1, h.2.1⟩))
    subst e0
    have k1' : decide (1 ≤ m) = false := decide_eq_false k1
    iterate 2 (
      refine plan_q (v := ?_) rfl rfl ?_ ?_
      rotate_left
      · intro x
        go_simp
        first | done | rfl
      simp only [Act.put, List.getElem_toArray, List.getElem_cons_zero, List.getElem_cons_succ, List.setIfInBounds_toArray, List.set_cons_zero, List.set_cons_succ])
    iterate 10 (
      refine plan_n rfl (by kernel_rfl) ?_
      simp only [Act.put, List.getElem_toArray, List.getElem_cons_zero, List.getElem_cons_succ, List.setIfInBounds_toArray, List.set_cons_zero, List.set_cons_succ])
    iterate 2 (
      refine plan_q (v := ?_) rfl rfl ?_ ?_
      rotate_left
      · intro x
        go_simp
        first | done | rfl
      simp only [Act.put, List.getElem_toArray, List.getElem_cons_zero, List.getElem_cons_succ, List.setIfInBounds_toArray, List.set_cons_zero, List.set_cons_succ])
    iterate 5 (
      refine plan_n rfl (by kernel_rfl) ?_
      simp only [Act.put, List.getElem_toArray, List.getElem_cons_zero, List.getElem_cons_succ, List.setIfInBounds_toArray, List.set_cons_zero, List.set_cons_succ])
    iterate 2 (
      refine plan_q (v := ?_) rfl rfl ?_ ?_
      rotate_left
      · intro x
        go_simp
        first | done | rfl
      simp only [Act.put, List.getElem_toArray, List.getElem_cons_zero, List.getElem_cons_succ, List.setIfInBounds_toArray, List.set_cons_zero, List.set_cons_succ])
    clear c0 c1 c2
    refine plan_end (hK.out _ _ ?_)
    clear hK K
    go_wp2_with fail
    go_ret
    exact ⟨rfl, fin _ hxd⟩
  have k1' : decide (1 ≤ m) = true := decide_eq_true k1
  iterate 2 (
    refine plan_q (v := ?_) rfl rfl ?_ ?_
    rotate_left
    · intro x
      go_simp
      first | done | rfl
    simp only [Act.put, List.getElem_toArray, List.getElem_cons_zero, List.getElem_cons_succ, List.setIfInBounds_toArray, List.set_cons_zero, List.set_cons_succ])
  iterate 8 (
    refine plan_q (v := ?_) rfl rfl ?_ ?_
    rotate_left
    · intro x
      go_simp
      first | done | rfl
    simp only [Act.put, List.getElem_toArray, List.getElem_cons_zero, List.getElem_cons_succ, List.setIfInBounds_toArray, List.set_cons_zero, List.set_cons_succ])
  refine plan_l rfl (by kernel_rfl) ?_
  intro K2 hK2
  go_simp
  refine hK2.out _ _ (Ext.refl _) ?_
  clear hK2 K2
  try simp only [Act.put, List.getElem_toArray, List.getElem_cons_zero, List.getElem_cons_succ, List.setIfInBounds_toArray, List.set_cons_zero, List.set_cons_succ]
  clear hM
  by_cases k2 : M ≤ g.ends
  rotate_left
  · have e0 : B = false := by rw [← HB.out]; exact decide_eq_false (fun h => k2 (Hm.out.2.2 ⟨h.2.2.1, h.2.2.2.1⟩))
    subst e0
    have k2' : decide (M ≤ g.ends) = false := decide_eq_false k2
    iterate 3 (
      refine plan_q (v := ?_) rfl rfl ?_ ?_
      rotate_left
      · intro x
        go_simp
        first | done | rfl
      simp only [Act.put, List.getElem_toArray, List.getElem_cons_zero, List.getElem_cons_succ, List.setIfInBounds_toArray, List.set_cons_zero, List.set_cons_succ])
    iterate 5 (
      refine plan_n rfl (by kernel_rfl) ?_
      simp only [Act.put, List.getElem_toArray, List.getElem_cons_zero, List.getElem_cons_succ, List.setIfInBounds_toArray, List.set_cons_zero, List.set_cons_succ])
    iterate 2 (
      refine plan_q (v := ?_) rfl rfl ?_ ?_
      rotate_left
      · intro x
        go_simp
        first | done | rfl
      simp only [Act.put, List.getElem_toArray, List.getElem_cons_zero, List.getElem_cons_succ, List.setIfInBounds_toArray, List.set_cons_zero, List.set_cons_succ])
    clear c0 c1 c2
    refine plan_end (hK.out _ _ ?_)
    clear hK K
    go_wp2_with fail
    go_ret
    exact ⟨rfl, fin _ hxd⟩
  have k2' : decide (M ≤ g.ends) = true := decide_eq_true k2
  by_cases k3 : a = b
  · have e0 : B = false := by rw [← HB.out]; exact decide_eq_false (fun h => h.2.2.2.2 k3)
    subst e0
    have k3' : (a == b) = true := by simpa using k3
    have k4' : (a != b) = false := by simpa using k3
    iterate 3 (
      refine plan_q (v := ?_) rfl rfl ?_ ?_
      rotate_left
      · intro x
        go_simp
        first | done | rfl
      simp only [Act.put, List.getElem_toArray, List.getElem_cons_zero, List.getElem_cons_succ, List.setIfInBounds_toArray, List.set_cons_zero, List.set_cons_succ])
    iterate 5 (
      refine plan_q (v := ?_) rfl rfl ?_ ?_
      rotate_left
      · intro x
        go_simp
        first | done | rfl
      simp only [Act.put, List.getElem_toArray, List.getElem_cons_zero, List.getElem_cons_succ, List.setIfInBounds_toArray, List.set_cons_zero, List.set_cons_succ])
    iterate 2 (
      refine plan_q (v := ?_) rfl rfl ?_ ?_
      rotate_left
      · intro x
        go_simp
        first | done | rfl
      simp only [Act.put, List.getElem_toArray, List.getElem_cons_zero, List.getElem_cons_succ, List.setIfInBounds_toArray, List.set_cons_zero, List.set_cons_succ])
    clear c0 c1 c2
    refine plan_end (hK.out _ _ ?_)
    clear hK K
    go_wp2_with fail
    go_ret
    exact ⟨rfl, fin _ hxd⟩
  · have e0 : B = true := by rw [← HB.out]; exact decide_eq_true ⟨(Hm.out.1.1 k1).1, (Hm.out.1.1 k1).2, (Hm.out.2.1 k2).1, (Hm.out.2.1 k2).2, k3⟩
    subst e0
    have k3' : (a == b) = false := by simpa using k3
    have k4' : (a != b) = true := by simpa using k3
    iterate 3 (
      refine plan_q (v := ?_) rfl rfl ?_ ?_
      rotate_left
      · intro x
        go_simp
        first | done | rfl
      simp only [Act.put, List.getElem_toArray, List.getElem_cons_zero, List.getElem_cons_succ, List.setIfInBounds_toArray, List.set_cons_zero, List.set_cons_succ])
    iterate 5 (
      refine plan_q (v := ?_) rfl rfl ?_ ?_
      rotate_left
      · intro x
        go_simp
        first | done | rfl
      simp only [Act.put, List.getElem_toArray, List.getElem_cons_zero, List.getElem_cons_succ, List.setIfInBounds_toArray, List.set_cons_zero, List.set_cons_succ])
    iterate 2 (
      refine plan_q (v := ?_) rfl rfl ?_ ?_
      rotate_left
      · intro x
        go_simp
        first | done | rfl
      simp only [Act.put, List.getElem_toArray, List.getElem_cons_zero, List.getElem_cons_succ, List.setIfInBounds_toArray, List.set_cons_zero, List.set_cons_succ])
    clear c0 c1 c2
    refine plan_end (hK.out _ _ ?_)
    clear hK K
    go_wp2_with fail
    go_ret
    exact ⟨rfl, fin _ hxd⟩

set_option maxRecDepth 100000 in
set_option maxHeartbeats 1600000 in
theorem full_any (w : World) (O : Ow) (n fm : Nat) (F : DataW Value) (g : NC) (h : NetX w O n fm F g) (a b : Int) (ha : (Lit.int .i64 a).wf = true) (hb : (Lit.int .i64 b).wf = true) :
    Calls Try.prog 44 #[fptr n, lnv a b] w fun e w' => e = .returned (.bool (decide (32 ≤ ((g.L a b).length : Int)))) ∧ Ext w w' := by
  have hx1 := (Ext.refl w).alloc (.cells #[.int .i64 a, .int .i64 b] 77)
  have b1 := Blk.new w 77 #[.int .i64 a, .int .i64 b]
  have h1 := h.ext hx1
  obtain ⟨k, hk⟩ : ∃ k, (g.L a b).length = k := ⟨_, rfl⟩
  rw [hk]
  have Hk := Lib.hid hk
  clear hk
  go_enter Try.func44, Try.ntmps44
  go_upto_region 1 with fail
  generalize w.alloc (.cells #[.int .i64 a, .int .i64 b] 77) = w1 at *
  generalize w.heap.size = q at *
  have hxd := (Ext.refl w1).drew
  have fin : ∀ W, Ext w1 W → Ext w W := fun W hW => hx1.trans hW
  obtain ⟨v, cs, hlk, hrow, hR, A, c, rfl⟩ := (h1.ext hxd).look ha hb
  rw [Hk.out] at hlk
  refine wp_region_plan Ext [(0, true), (1, true), (2, true), (3, true), (4, true), (5, false), (6, true), (7, true), (8, true)] (fun _ _ _ x y => (fun x y => Ext.trans x y) x y) Ext.refl (by kernel_rfl) (by kernel_rfl) ?_
  intro K hK
  have c0 : ∀ y : Above Ext w1.drew, y.1.cell? ⟨q, 0, none⟩ = some (.int .i64 a) := fun y => (b1.ext (hxd.trans y.2)).cell 0
  have c1 : ∀ y : Above Ext w1.drew, y.1.cell? ⟨q, 1, none⟩ = some (.int .i64 b) := fun y => (b1.ext (hxd.trans y.2)).cell 1
  have c2 : ∀ y : Above Ext w1.drew, y.1.cell? ⟨n, 1, none⟩ = some (.map (some fm)) := fun y => ((h1.ext (hxd.trans y.2)).blk).cell 1
  iterate 5 (
    refine plan_q (v := ?_) rfl rfl ?_ ?_
    rotate_left
    · intro x
      go_simp
      first | done | rfl
    simp only [Act.put, List.getElem_toArray, List.getElem_cons_zero, List.getElem_cons_succ, List.setIfInBounds_toArray, List.set_cons_zero, List.set_cons_succ])
  refine plan_l rfl (by kernel_rfl) ?_
  intro K2 hK2
  go_simp
  refine hK2.out _ _ (Ext.refl _) ?_
  clear hK2 K2
  try simp only [Act.put, List.getElem_toArray, List.getElem_cons_zero, List.getElem_cons_succ, List.setIfInBounds_toArray, List.set_cons_zero, List.set_cons_succ]
  iterate 3 (
    refine plan_q (v := ?_) rfl rfl ?_ ?_
    rotate_left
    · intro x
      go_simp
      first | done | rfl
    simp only [Act.put, List.getElem_toArray, List.getElem_cons_zero, List.getElem_cons_succ, List.setIfInBounds_toArray, List.set_cons_zero, List.set_cons_succ])
  clear c0 c1 c2
  refine plan_end (hK.out _ _ ?_)
  clear hK K
  go_wp2_with fail
  go_ret
  exact ⟨rfl, fin _ hxd⟩
