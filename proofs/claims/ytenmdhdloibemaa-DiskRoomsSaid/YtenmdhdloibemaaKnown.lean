/- The chapter's rows. Conditions: none. -/
import Derived.Test.YtenmdhdloibemaaKst
namespace Go.Proofs.Ytenmdhdloibemaa
open Go.RowKit Go.Maps Go.Sort Go.Shelf
set_option linter.unusedVariables false
set_option linter.unusedSimpArgs false
attribute [local go_sem] Oper.semAt_some


theorem fresh_names (k : Int) : IsNames (freshDC k) [] := ⟨List.nodup_nil, fun n => by simp [freshDC]⟩
theorem rdI_none (w : World) : RdI w none 0 [] := ⟨⟨rfl, .inl rfl⟩, fun p hp => by cases hp⟩
theorem rdI_one (w : World) (b : Nat) (p : Int) (t : TypeId) (hp : (Lit.int .i64 p).wf = true) (hb : Blk w b t #[.int .i64 p]) : RdI w (some ⟨b, 0, none⟩) 1 [p] := by
  refine ⟨⟨rfl, .inr ⟨b, 0, rfl, hb.lt, fun i hi => ?_⟩⟩, fun q hq => by rw [List.mem_singleton.1 hq]; exact hp⟩
  simp only [iv, List.map_cons, List.map_nil, List.length_cons, List.length_nil] at hi
  obtain rfl : i = 0 := by omega
  exact hb.cell 0

set_option maxRecDepth 100000 in
set_option maxHeartbeats 6400000 in
theorem known_any (w : World) : Calls Try.prog 6 #[] w fun e w' => e = .returned (.bool true) ∧ Ext w w' := by
  go_enter Try.func6, Try.ntmps6
  go_wp2_with fail
  refine (new_any w 9 (by decide)).mono ?_
  rintro e w1 ⟨hx0, ⟨_, _, d, O, rfl, ⟨fm, F, hX⟩, h0, _⟩ | ⟨h9, _⟩⟩
  rotate_left
  · exact absurd ⟨by decide, by decide⟩ h9
  have hS : St w w1 d (freshDC 9) [] := ⟨O, fm, F, hX, h0, hx0, fun q hq => by cases hq⟩
  clear hX h0 hx0
  go_wp2_with fail
  refine ((num_any _ 0)).mono ?_
  rintro e w1 ⟨rfl, rfl⟩
  go_wp2_with fail
  refine ((st_make hS (fresh_names 9) [97] (by decide) (kst_make 9 [97] (by decide)))).mono ?_
  rintro e w1 ⟨rfl, hS1⟩
  replace hS := hS1
  clear hS1
  go_wp2_with fail
  refine ((num_any _ 0)).mono ?_
  rintro e w1 ⟨rfl, rfl⟩
  go_wp2_with fail
  refine ((full_any 120 _)).mono ?_
  rintro e w1 ⟨rfl, hx1⟩
  replace hS := hS.ext hx1
  clear hx1
  go_wp2_with fail
  refine ((st_write hS (kst_names _ _ _ _ _ _) [97] (by decide) 3 (by decide) (fsec 120) (fsec_len _) (by rintro c e; rw [kst_file] at e; cases e; decide) (kst_write _ _ _ _ _ _ (by decide) (by decide) (by decide) (fun h => absurd h.2 (by decide))))).mono ?_
  rintro e w1 ⟨rfl, hS1⟩
  replace hS := hS1
  clear hS1
  go_wp2_with fail
  refine ((num_any _ 0)).mono ?_
  rintro e w1 ⟨rfl, rfl⟩
  go_wp2_with fail
  refine ((st_sync hS [97] (by decide) (kst_sync _ _ _ _ (by decide)))).mono ?_
  rintro e w1 ⟨rfl, hS1⟩
  replace hS := hS1
  clear hS1
  go_wp2_with fail
  refine ((num_any _ 0)).mono ?_
  rintro e w1 ⟨rfl, rfl⟩
  go_wp2_with fail
  refine ((full_any 121 _)).mono ?_
  rintro e w1 ⟨rfl, hx1⟩
  replace hS := hS.ext hx1
  clear hx1
  go_wp2_with fail
  refine ((st_write hS (kst_names _ _ _ _ _ _) [97] (by decide) 3 (by decide) (fsec 121) (fsec_len _) (by rintro c e; rw [kst_file] at e; cases e; decide) (kst_write _ _ _ _ _ _ (by decide) (by decide) (by decide) (fun h => absurd h.2 (by decide))))).mono ?_
  rintro e w1 ⟨rfl, hS1⟩
  replace hS := hS1
  clear hS1
  go_wp2_with fail
  refine ((num_any _ 0)).mono ?_
  rintro e w1 ⟨rfl, rfl⟩
  go_wp2_with fail
  refine ((full_any 122 _)).mono ?_
  rintro e w1 ⟨rfl, hx1⟩
  replace hS := hS.ext hx1
  clear hx1
  go_wp2_with fail
  refine ((st_write hS (kst_names _ _ _ _ _ _) [97] (by decide) 3 (by decide) (fsec 122) (fsec_len _) (by rintro c e; rw [kst_file] at e; cases e; decide) (kst_write _ _ _ _ _ _ (by decide) (by decide) (by decide) (fun h => absurd h.2 (by decide))))).mono ?_
  rintro e w1 ⟨rfl, hS1⟩
  replace hS := hS1
  clear hS1
  go_wp2_with fail
  refine ((num_any _ 0)).mono ?_
  rintro e w1 ⟨rfl, rfl⟩
  have hxA := (Ext.refl w1).alloc (.cells #[.int .i64 2] 3)
  have bA := Blk.new w1 3 #[.int .i64 2]
  have zA := Lib.hid (World.size_alloc w1 (.cells #[.int .i64 2] 3))
  have hSA := hS.ext hxA
  have hbig : ∀ k, ∀ n c, (kst 9 (-1) false k [97] kc4).file n = some c → ∀ m, (c.S m).length ≤ 1000000 := by
    intro k n c e m
    have : c = kc4 := by
      simp only [kst] at e
      split at e
      · cases e; rfl
      · cases e
    rw [this, kc4_S]
    split <;> simp
  go_wp2_with fail
  generalize w1.alloc (.cells #[.int .i64 2] 3) = w2 at *
  refine (st_crash hSA (hbig _) _ 1 1 [2] (rdI_one _ _ _ _ (by decide) bA) (by omega) (by rintro _ a ⟨⟩; have := zA.out; simp only; omega)).mono ?_
  rintro e w3 ⟨c, g1, ns1, r1, rfl, hn1, hk1, hC, hx3, _⟩
  replace hS := hSA.ext hx3
  have hq1 := kc4_crashed (by decide) hn1 hk1
  go_wp2_with fail
  refine (st_crash hS (hbig _) none 0 0 [] (rdI_none _) (by omega) (by rintro h; omega)).mono ?_
  rintro e w4 ⟨o, g2, ns2, r2, rfl, hn2, hk2, hO, hx4, _⟩
  replace hS := hS.ext hx4
  replace hC := hC.ext hx4
  have hq2 := kc4_crashed (by decide) hn2 hk2
  clear hSA hbig hk1 hk2 hn1 hn2 bA zA hxA
  go_wp2_with fail
  refine (st_read hC [97] (by decide) 3 (by decide)).mono ?_
  rw [show findE { g1 with fuse := -1, dead := false, chg := 0 } [97] 3 = 0 from hq1.1, show readS { g1 with fuse := -1, dead := false, chg := 0 } [97] 3 = fsec 122 from hq1.2]
  rintro e w5 ⟨rfl, hx5, _⟩
  replace hS := hS.ext hx5
  replace hO := hO.ext hx5
  clear hC
  have hx6 : Ext w5 ((w5.alloc (.cells Try.zeroCells39 39)).setRow w5.heap.size (sv (fsec 122))) := ((Ext.refl w5).alloc _).grown (setRow_grownBy _ w5.heap.size (sv (fsec 122))) (by simp)
  have b6 := (blk_zero w5).setRow (sv (fsec 122))
  go_wp2_with (refine wpList_ssec rfl _ _ rfl w5.heap.size rfl rfl (blk_zero w5) zsec_len (fsec_len _) ?_)
  replace hS := hS.add hx6 (Nat.le_refl _) b6
  replace hO := hO.ext hx6
  generalize (w5.alloc (.cells Try.zeroCells39 39)).setRow w5.heap.size (sv (fsec 122)) = w6 at *
  generalize w5.heap.size = z5 at *
  refine (st_read hO [97] (by decide) 3 (by decide)).mono ?_
  rw [show findE { g2 with fuse := -1, dead := false, chg := 0 } [97] 3 = 0 from hq2.1, show readS { g2 with fuse := -1, dead := false, chg := 0 } [97] 3 = fsec 120 from hq2.2]
  rintro e w7 ⟨rfl, hx7, _⟩
  replace hS := hS.ext hx7
  clear hO hx6 b6 hx7 hx5 hx4 hx3 hq1 hq2
  have hx8 : Ext w7 ((w7.alloc (.cells Try.zeroCells39 39)).setRow w7.heap.size (sv (fsec 120))) := ((Ext.refl w7).alloc _).grown (setRow_grownBy _ w7.heap.size (sv (fsec 120))) (by simp)
  have b8 := (blk_zero w7).setRow (sv (fsec 120))
  go_wp2_with (refine wpList_ssec rfl _ _ rfl w7.heap.size rfl rfl (blk_zero w7) zsec_len (fsec_len _) ?_)
  replace hS := hS.add hx8 (Nat.le_refl _) b8
  generalize (w7.alloc (.cells Try.zeroCells39 39)).setRow w7.heap.size (sv (fsec 120)) = w8 at *
  generalize w7.heap.size = z7 at *
  have b5 : Blk w8 z5 39 (sv (fsec 122)) := hS.blk (by simp)
  have b7 : Blk w8 z7 39 (sv (fsec 120)) := hS.blk (by simp)
  have hsd := (Ext.refl w8).drew
  have nq : ∀ u, ∀ x : World, (binOp .neq 39 (sec (fsec u)) (sec (fsec u))).run Try.prog x = .ok (.bool false) x := fun u x => by
    rw [run_sec_neq _ _ (fsec_len _) (fsec_len _)]
    simp
  have hgd := fun u x y z => run_sec_guard .neq x y (fsec u) (fsec u) z
  clear hx8 b8
  refine wp_region_plan Ext [(0, true), (1, false), (2, true), (3, true), (4, true), (5, false), (6, true), (7, true), (8, true), (9, true), (11, true), (10, false), (12, false), (13, true), (14, true), (15, true)] (fun _ _ _ x y => (fun x y => Ext.trans x y) x y) Ext.refl (by kernel_rfl) (by kernel_rfl) ?_
  intro K hK
  refine plan_q (v := sec (fsec 122)) rfl rfl (fun y => exec_lsec rfl z5 rfl (b5.ext (hsd.trans y.2)) (fsec_len _)) ?_
  simp only [Act.put, List.getElem_toArray, List.getElem_cons_zero, List.getElem_cons_succ, List.setIfInBounds_toArray, List.set_cons_zero, List.set_cons_succ]
  refine plan_l rfl rfl ?_
  intro K2 hK2
  go_simp
  refine (full_any 122 w8.drew).mono ?_
  rintro e w9 ⟨rfl, hx9⟩
  go_simp
  refine hK2.out _ _ hx9 ?_
  clear hK2 K2
  try simp only [Act.put, List.getElem_toArray, List.getElem_cons_zero, List.getElem_cons_succ, List.setIfInBounds_toArray, List.set_cons_zero, List.set_cons_succ]
  have hx89 := hsd.trans hx9
  iterate 2 (
    refine plan_q (v := ?_) rfl rfl ?_ ?_
    rotate_left
    · intro x
      go_simp
      first | done | rfl
    simp only [Act.put, List.getElem_toArray, List.getElem_cons_zero, List.getElem_cons_succ, List.setIfInBounds_toArray, List.set_cons_zero, List.set_cons_succ])
  refine plan_q (v := sec (fsec 120)) rfl rfl (fun y => exec_lsec rfl z7 rfl (b7.ext (hx89.trans y.2)) (fsec_len _)) ?_
  simp only [Act.put, List.getElem_toArray, List.getElem_cons_zero, List.getElem_cons_succ, List.setIfInBounds_toArray, List.set_cons_zero, List.set_cons_succ]
  refine plan_l rfl rfl ?_
  intro K2 hK2
  go_simp
  refine (full_any 120 w9).mono ?_
  rintro e w10 ⟨rfl, hx10⟩
  go_simp
  refine hK2.out _ _ hx10 ?_
  clear hK2 K2
  try simp only [Act.put, List.getElem_toArray, List.getElem_cons_zero, List.getElem_cons_succ, List.setIfInBounds_toArray, List.set_cons_zero, List.set_cons_succ]
  have hx810 := hx89.trans hx10
  iterate 5 (
    refine plan_q (v := ?_) rfl rfl ?_ ?_
    rotate_left
    · intro x
      go_simp
      first | done | rfl
    simp only [Act.put, List.getElem_toArray, List.getElem_cons_zero, List.getElem_cons_succ, List.setIfInBounds_toArray, List.set_cons_zero, List.set_cons_succ])
  refine plan_l rfl rfl ?_
  intro K2 hK2
  go_simp
  refine (num_any w10 0).mono ?_
  rintro e w11 ⟨rfl, rfl⟩
  go_simp
  refine hK2.out _ _ (Ext.refl w10) ?_
  clear hK2 K2
  try simp only [Act.put, List.getElem_toArray, List.getElem_cons_zero, List.getElem_cons_succ, List.setIfInBounds_toArray, List.set_cons_zero, List.set_cons_succ]
  refine plan_l rfl rfl ?_
  intro K2 hK2
  go_simp
  refine (num_any w10 0).mono ?_
  rintro e w11 ⟨rfl, rfl⟩
  go_simp
  refine hK2.out _ _ (Ext.refl w10) ?_
  clear hK2 K2
  try simp only [Act.put, List.getElem_toArray, List.getElem_cons_zero, List.getElem_cons_succ, List.setIfInBounds_toArray, List.set_cons_zero, List.set_cons_succ]
  iterate 3 (
    refine plan_q (v := ?_) rfl rfl ?_ ?_
    rotate_left
    · intro x
      go_simp
      first | done | rfl
    simp only [Act.put, List.getElem_toArray, List.getElem_cons_zero, List.getElem_cons_succ, List.setIfInBounds_toArray, List.set_cons_zero, List.set_cons_succ])
  refine plan_end (hK.out _ _ ?_)
  clear hK K
  replace hS := hS.ext hx810
  clear b5 b7 hsd nq hgd hx9 hx89 hx10 hx810
  go_wp2_with fail
  refine (st_fuse hS 1 (by decide)).mono ?_
  rw [kst_fuse]
  rintro e w12 ⟨rfl, hS1⟩
  replace hS := hS1
  clear hS1
  go_wp2_with fail
  refine ((st_rename hS [97] [98] (by decide) (by decide) (kst_rename _ _ _ _ _ (by decide) (by decide)))).mono ?_
  rintro e w1 ⟨rfl, hS1⟩
  replace hS := hS1
  clear hS1
  go_wp2_with fail
  refine ((full_any 119 _)).mono ?_
  rintro e w1 ⟨rfl, hx1⟩
  replace hS := hS.ext hx1
  clear hx1
  go_wp2_with fail
  refine ((st_write hS (kst_names _ _ _ _ _ _) [98] (by decide) 0 (by decide) (fsec 119) (fsec_len _) (by rintro c e; rw [kst_file] at e; cases e; decide) (kst_last _ _ _ _ _ _ (by decide) (by decide) (by decide) (fun h => absurd h.2 (by decide))))).mono ?_
  rintro e w1 ⟨rfl, hS1⟩
  replace hS := hS1
  clear hS1
  have ef : ∀ k, findE (kst 9 0 true k [98] (kc4.write 0 (fsec 119))) [98] 0 = 0 := fun k => kst_find _ _ _ _ _ _ _ (by decide) (by decide) (by decide)
  have er : ∀ k, readS (kst 9 0 true k [98] (kc4.write 0 (fsec 119))) [98] 0 = fsec 119 := fun k => by
    rw [readS, if_pos (ef k), kst_file]
    rfl
  have ef2 : ∀ k, findE (kst 9 0 true k [98] (kc4.write 0 (fsec 119))) [98] 65536 = 2 := fun k => by
    rw [findE, if_pos (by simp)]
  have er2 : ∀ k, readS (kst 9 0 true k [98] (kc4.write 0 (fsec 119))) [98] 65536 = zsec := fun k => by
    rw [readS, if_neg (by rw [ef2]; decide)]
  have ef3 : ∀ k, findE (kst 9 0 true k [98] (kc4.write 0 (fsec 119))) [99] 0 = 6 := fun k => by
    rw [findE, if_neg (by decide), if_pos (by simp [kst])]
  have er3 : ∀ k, readS (kst 9 0 true k [98] (kc4.write 0 (fsec 119))) [99] 0 = zsec := fun k => by
    rw [readS, if_neg (by rw [ef3]; decide)]
  have hS' : ∃ k, St w w1 d (kst 9 0 true k [98] (kc4.write 0 (fsec 119))) [] := ⟨_, hS.sub (by simp)⟩
  obtain ⟨k, hS'⟩ := hS'
  replace hS := hS'
  clear hS'
  go_wp2_with fail
  refine (st_read hS [98] (by decide) 0 (by decide)).mono ?_
  rw [ef, er]
  rintro e w13 ⟨rfl, hx13, _⟩
  replace hS := hS.ext hx13
  have hx_ : Ext w13 ((w13.alloc (.cells Try.zeroCells39 39)).setRow w13.heap.size (sv (fsec 119))) := ((Ext.refl w13).alloc _).grown (setRow_grownBy _ w13.heap.size (sv (fsec 119))) (by simp)
  have b_ := (blk_zero w13).setRow (sv (fsec 119))
  go_wp2_with (refine wpList_ssec rfl _ _ rfl w13.heap.size rfl rfl (blk_zero w13) zsec_len (fsec_len _) ?_)
  replace hS := hS.add hx_ (Nat.le_refl _) b_
  generalize (w13.alloc (.cells Try.zeroCells39 39)).setRow w13.heap.size (sv (fsec 119)) = w14 at *
  generalize w13.heap.size = z13 at *
  clear hx_ b_
  refine (st_read hS [98] (by decide) 65536 (by decide)).mono ?_
  rw [ef2, er2]
  rintro e w15 ⟨rfl, hx15, _⟩
  replace hS := hS.ext hx15
  have hx_ : Ext w15 ((w15.alloc (.cells Try.zeroCells39 39)).setRow w15.heap.size (sv zsec)) := ((Ext.refl w15).alloc _).grown (setRow_grownBy _ w15.heap.size (sv zsec)) (by simp)
  have b_ := (blk_zero w15).setRow (sv zsec)
  go_wp2_with (refine wpList_ssec rfl _ _ rfl w15.heap.size rfl rfl (blk_zero w15) zsec_len zsec_len ?_)
  replace hS := hS.add hx_ (Nat.le_refl _) b_
  generalize (w15.alloc (.cells Try.zeroCells39 39)).setRow w15.heap.size (sv zsec) = w16 at *
  generalize w15.heap.size = z15 at *
  clear hx_ b_
  refine (st_read hS [99] (by decide) 0 (by decide)).mono ?_
  rw [ef3, er3]
  rintro e w17 ⟨rfl, hx17, _⟩
  replace hS := hS.ext hx17
  have hx_ : Ext w17 ((w17.alloc (.cells Try.zeroCells39 39)).setRow w17.heap.size (sv zsec)) := ((Ext.refl w17).alloc _).grown (setRow_grownBy _ w17.heap.size (sv zsec)) (by simp)
  have b_ := (blk_zero w17).setRow (sv zsec)
  go_wp2_with (refine wpList_ssec rfl _ _ rfl w17.heap.size rfl rfl (blk_zero w17) zsec_len zsec_len ?_)
  replace hS := hS.add hx_ (Nat.le_refl _) b_
  generalize (w17.alloc (.cells Try.zeroCells39 39)).setRow w17.heap.size (sv zsec) = w18 at *
  generalize w17.heap.size = z17 at *
  clear hx_ b_
  replace hS := hS.sub (L' := [(z13, 39, sv (fsec 119))]) (by simp)
  clear ef er ef2 er2 ef3 er3 hx13 hx15 hx17
  have q1 : ∀ k, makeOut [([98] : Nm)].length (kst 9 0 true k [98] (kc4.write 0 (fsec 119))) [66] = (2, kst 9 0 true k [98] (kc4.write 0 (fsec 119))) := fun k => by
    rw [makeOut, if_pos (by decide)]
  have q2 : ∀ k, makeOut [([98] : Nm)].length (kst 9 0 true k [98] (kc4.write 0 (fsec 119))) [98] = (14, kst 9 0 true k [98] (kc4.write 0 (fsec 119))) := fun k => by
    rw [makeOut, if_neg (by decide), if_pos (by simp [kst])]
  have b0 : Blk w18.drew z13 39 (sv (fsec 119)) := (hS.blk (by simp)).ext (Ext.refl w18).drew
  replace hS := hS.ext (Ext.refl w18).drew
  have nq : ∀ u, ∀ x : World, (binOp .eql 39 (sec (fsec u)) (sec (fsec u))).run Try.prog x = .ok (.bool true) x := fun u x => by
    rw [run_sec_eql _ _ (fsec_len _) (fsec_len _)]
    simp
  have hgd := fun u x y z => run_sec_guard .eql x y (fsec u) (fsec u) z
  refine wp_region_plan (fun u u' => Blk u z13 39 (sv (fsec 119)) → Blk u' z13 39 (sv (fsec 119))) [(0, true), (1, false), (2, true), (3, true), (4, true), (5, false), (6, true), (7, true), (8, true), (9, true), (10, false), (11, true), (12, true), (13, true), (14, true), (15, false), (16, true), (17, true), (18, true), (19, true), (20, false), (21, false), (22, true), (23, true), (24, true), (25, true), (26, false), (27, false), (28, true), (29, true), (30, true), (31, true), (32, false), (33, false), (34, true), (35, true), (36, true), (37, true), (38, false), (39, true), (40, true), (41, true), (42, true), (43, false), (44, true), (45, true), (46, true)] (fun _ _ _ x y => (fun x y h => y (x h)) x y) (fun u h => h) (by kernel_rfl) (by kernel_rfl) ?_
  intro K hK
  generalize w18.drew = w19 at *
  iterate 1 (
    refine plan_q (v := ?_) rfl rfl ?_ ?_
    rotate_left
    · intro x
      go_simp
      first | done | rfl
    simp only [Act.put, List.getElem_toArray, List.getElem_cons_zero, List.getElem_cons_succ, List.setIfInBounds_toArray, List.set_cons_zero, List.set_cons_succ])
  refine plan_l rfl rfl ?_
  intro K2 hK2
  go_simp
  refine (num_any _ 0).mono ?_
  rintro e w1 ⟨rfl, rfl⟩
  go_simp
  refine hK2.out _ _ (fun h => h) ?_
  clear hK2 K2
  try simp only [Act.put, List.getElem_toArray, List.getElem_cons_zero, List.getElem_cons_succ, List.setIfInBounds_toArray, List.set_cons_zero, List.set_cons_succ]
  iterate 3 (
    refine plan_q (v := ?_) rfl rfl ?_ ?_
    rotate_left
    · intro x
      go_simp
      first | done | rfl
    simp only [Act.put, List.getElem_toArray, List.getElem_cons_zero, List.getElem_cons_succ, List.setIfInBounds_toArray, List.set_cons_zero, List.set_cons_succ])
  refine plan_l rfl rfl ?_
  intro K2 hK2
  go_simp
  refine (num_any _ 8).mono ?_
  rintro e w1 ⟨rfl, rfl⟩
  go_simp
  refine hK2.out _ _ (fun h => h) ?_
  clear hK2 K2
  try simp only [Act.put, List.getElem_toArray, List.getElem_cons_zero, List.getElem_cons_succ, List.setIfInBounds_toArray, List.set_cons_zero, List.set_cons_succ]
  iterate 3 (
    refine plan_q (v := ?_) rfl rfl ?_ ?_
    rotate_left
    · intro x
      go_simp
      first | done | rfl
    simp only [Act.put, List.getElem_toArray, List.getElem_cons_zero, List.getElem_cons_succ, List.setIfInBounds_toArray, List.set_cons_zero, List.set_cons_succ])
  refine plan_q (v := sec (fsec 119)) rfl rfl (fun y => exec_lsec rfl z13 rfl (y.2 b0) (fsec_len _)) ?_
  simp only [Act.put, List.getElem_toArray, List.getElem_cons_zero, List.getElem_cons_succ, List.setIfInBounds_toArray, List.set_cons_zero, List.set_cons_succ]
  refine plan_l rfl rfl ?_
  intro K2 hK2
  go_simp
  refine (full_any 119 _).mono ?_
  rintro e w20 ⟨rfl, hx20⟩
  go_simp
  refine hK2.out _ _ (fun h => h.ext hx20) ?_
  clear hK2 K2
  try simp only [Act.put, List.getElem_toArray, List.getElem_cons_zero, List.getElem_cons_succ, List.setIfInBounds_toArray, List.set_cons_zero, List.set_cons_succ]
  replace hS := hS.ext hx20
  clear hx20
  iterate 4 (
    refine plan_q (v := ?_) rfl rfl ?_ ?_
    rotate_left
    · intro x
      go_simp
      first | done | rfl
    simp only [Act.put, List.getElem_toArray, List.getElem_cons_zero, List.getElem_cons_succ, List.setIfInBounds_toArray, List.set_cons_zero, List.set_cons_succ])
  refine plan_l rfl rfl ?_
  intro K2 hK2
  go_simp
  refine (num_any _ 0).mono ?_
  rintro e w1 ⟨rfl, rfl⟩
  go_simp
  refine hK2.out _ _ (fun h => h) ?_
  clear hK2 K2
  try simp only [Act.put, List.getElem_toArray, List.getElem_cons_zero, List.getElem_cons_succ, List.setIfInBounds_toArray, List.set_cons_zero, List.set_cons_succ]
  iterate 4 (
    refine plan_q (v := ?_) rfl rfl ?_ ?_
    rotate_left
    · intro x
      go_simp
      first | done | rfl
    simp only [Act.put, List.getElem_toArray, List.getElem_cons_zero, List.getElem_cons_succ, List.setIfInBounds_toArray, List.set_cons_zero, List.set_cons_succ])
  refine plan_l rfl rfl ?_
  intro K2 hK2
  go_simp
  refine (st_sync hS [98] (by decide) (kst_dead_sync _ _ _ _ (by decide))).mono ?_
  rintro e w1 ⟨rfl, hS1⟩
  replace hS := hS1
  clear hS1
  go_simp
  refine hK2.out _ _ (fun _ => hS.blk (by simp)) ?_
  clear hK2 K2
  try simp only [Act.put, List.getElem_toArray, List.getElem_cons_zero, List.getElem_cons_succ, List.setIfInBounds_toArray, List.set_cons_zero, List.set_cons_succ]
  refine plan_l rfl rfl ?_
  intro K2 hK2
  go_simp
  refine (num_any _ 8).mono ?_
  rintro e w1 ⟨rfl, rfl⟩
  go_simp
  refine hK2.out _ _ (fun h => h) ?_
  clear hK2 K2
  try simp only [Act.put, List.getElem_toArray, List.getElem_cons_zero, List.getElem_cons_succ, List.setIfInBounds_toArray, List.set_cons_zero, List.set_cons_succ]
  iterate 4 (
    refine plan_q (v := ?_) rfl rfl ?_ ?_
    rotate_left
    · intro x
      go_simp
      first | done | rfl
    simp only [Act.put, List.getElem_toArray, List.getElem_cons_zero, List.getElem_cons_succ, List.setIfInBounds_toArray, List.set_cons_zero, List.set_cons_succ])
  refine plan_l rfl rfl ?_
  intro K2 hK2
  go_simp
  refine (st_make hS (kst_names _ _ _ _ _ _) [66] (by decide) (q1 _)).mono ?_
  rintro e w1 ⟨rfl, hS1⟩
  replace hS := hS1
  clear hS1
  go_simp
  refine hK2.out _ _ (fun _ => hS.blk (by simp)) ?_
  clear hK2 K2
  try simp only [Act.put, List.getElem_toArray, List.getElem_cons_zero, List.getElem_cons_succ, List.setIfInBounds_toArray, List.set_cons_zero, List.set_cons_succ]
  refine plan_l rfl rfl ?_
  intro K2 hK2
  go_simp
  refine (num_any _ 2).mono ?_
  rintro e w1 ⟨rfl, rfl⟩
  go_simp
  refine hK2.out _ _ (fun h => h) ?_
  clear hK2 K2
  try simp only [Act.put, List.getElem_toArray, List.getElem_cons_zero, List.getElem_cons_succ, List.setIfInBounds_toArray, List.set_cons_zero, List.set_cons_succ]
  iterate 4 (
    refine plan_q (v := ?_) rfl rfl ?_ ?_
    rotate_left
    · intro x
      go_simp
      first | done | rfl
    simp only [Act.put, List.getElem_toArray, List.getElem_cons_zero, List.getElem_cons_succ, List.setIfInBounds_toArray, List.set_cons_zero, List.set_cons_succ])
  refine plan_l rfl rfl ?_
  intro K2 hK2
  go_simp
  refine (st_make hS (kst_names _ _ _ _ _ _) [98] (by decide) (q2 _)).mono ?_
  rintro e w1 ⟨rfl, hS1⟩
  replace hS := hS1
  clear hS1
  go_simp
  refine hK2.out _ _ (fun _ => hS.blk (by simp)) ?_
  clear hK2 K2
  try simp only [Act.put, List.getElem_toArray, List.getElem_cons_zero, List.getElem_cons_succ, List.setIfInBounds_toArray, List.set_cons_zero, List.set_cons_succ]
  refine plan_l rfl rfl ?_
  intro K2 hK2
  go_simp
  refine (num_any _ 14).mono ?_
  rintro e w1 ⟨rfl, rfl⟩
  go_simp
  refine hK2.out _ _ (fun h => h) ?_
  clear hK2 K2
  try simp only [Act.put, List.getElem_toArray, List.getElem_cons_zero, List.getElem_cons_succ, List.setIfInBounds_toArray, List.set_cons_zero, List.set_cons_succ]
  iterate 4 (
    refine plan_q (v := ?_) rfl rfl ?_ ?_
    rotate_left
    · intro x
      go_simp
      first | done | rfl
    simp only [Act.put, List.getElem_toArray, List.getElem_cons_zero, List.getElem_cons_succ, List.setIfInBounds_toArray, List.set_cons_zero, List.set_cons_succ])
  refine plan_l rfl rfl ?_
  intro K2 hK2
  go_simp
  refine (num_any _ 2).mono ?_
  rintro e w1 ⟨rfl, rfl⟩
  go_simp
  refine hK2.out _ _ (fun h => h) ?_
  clear hK2 K2
  try simp only [Act.put, List.getElem_toArray, List.getElem_cons_zero, List.getElem_cons_succ, List.setIfInBounds_toArray, List.set_cons_zero, List.set_cons_succ]
  iterate 4 (
    refine plan_q (v := ?_) rfl rfl ?_ ?_
    rotate_left
    · intro x
      go_simp
      first | done | rfl
    simp only [Act.put, List.getElem_toArray, List.getElem_cons_zero, List.getElem_cons_succ, List.setIfInBounds_toArray, List.set_cons_zero, List.set_cons_succ])
  refine plan_l rfl rfl ?_
  intro K2 hK2
  go_simp
  refine (num_any _ 6).mono ?_
  rintro e w1 ⟨rfl, rfl⟩
  go_simp
  refine hK2.out _ _ (fun h => h) ?_
  clear hK2 K2
  try simp only [Act.put, List.getElem_toArray, List.getElem_cons_zero, List.getElem_cons_succ, List.setIfInBounds_toArray, List.set_cons_zero, List.set_cons_succ]
  iterate 3 (
    refine plan_q (v := ?_) rfl rfl ?_ ?_
    rotate_left
    · intro x
      go_simp
      first | done | rfl
    simp only [Act.put, List.getElem_toArray, List.getElem_cons_zero, List.getElem_cons_succ, List.setIfInBounds_toArray, List.set_cons_zero, List.set_cons_succ])
  refine plan_end (hK.out _ _ ?_)
  clear hK K
  go_wp2_with fail
  go_ret
  exact ⟨rfl, hS.low⟩
end Go.Proofs.Ytenmdhdloibemaa
