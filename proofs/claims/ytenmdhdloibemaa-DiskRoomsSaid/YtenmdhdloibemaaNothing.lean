/- Of a disk that is not there. Conditions: the one is none, the other a disk in memory. -/
import Derived.Test.YtenmdhdloibemaaLawf
namespace Go.Proofs.Ytenmdhdloibemaa
open Go.RowKit Go.Maps Go.Sort Go.Shelf
set_option linter.unusedVariables false
set_option linter.unusedSimpArgs false
attribute [local go_sem] Oper.semAt_some


abbrev na : Value := nv [97]

set_option maxRecDepth 100000 in
set_option maxHeartbeats 6400000 in
theorem nothing_any (w : World) (p : Option Addr) (h : NoDisk w (.pointer p)) (O : Ow) (d fm : Nat) (F : DataW Value) (g : DC) (k : DiskX w O d fm F g) :
    Calls Try.prog 23 #[.pointer p, fptr d] w fun e w' => e = .returned (.bool true) ∧ Ext w w' := by
  have hN := h
  have hX := k
  have hE := Ext.refl w
  go_enter Try.func23, Try.ntmps23
  go_wp2_with fail
  refine ((fuse_no _ _ _ hN)).mono ?_
  rintro e w1 ⟨rfl, rfl⟩
  go_wp2_with fail
  refine ((read_no _ _ _ _ hN)).mono ?_
  rintro e w1 ⟨rfl, hx1⟩
  replace hN := hN.ext hx1
  replace hX := hX.ext hx1
  replace hE := hE.trans hx1
  try replace hR := hR.ext hx1
  clear hx1
  have hx2 : Ext w1 ((w1.alloc (.cells Try.zeroCells39 39)).setRow w1.heap.size (sv zsec)) := ((Ext.refl w1).alloc _).grown (setRow_grownBy _ w1.heap.size (sv zsec)) (by simp)
  go_wp2_with (refine wpList_ssec rfl _ _ rfl w1.heap.size rfl rfl (blk_zero w1) zsec_len zsec_len ?_)
  generalize (w1.alloc (.cells Try.zeroCells39 39)).setRow w1.heap.size (sv zsec) = w2 at *
  replace hN := hN.ext hx2
  replace hX := hX.ext hx2
  replace hE := hE.trans hx2
  refine (lasts_no _ _ _ _ hN).mono ?_
  rintro e w3 ⟨rfl, rfl⟩
  have hbd := build_sec
  have hR := Blk.new w2 79 #[.slice none 0 0, .int .i64 0, .int .i64 0, .bool false, .int .i64 0]
  have hx3 := (Ext.refl w2).alloc (.cells #[.slice none 0 0, .int .i64 0, .int .i64 0, .bool false, .int .i64 0] 79)
  go_upto_region 5 with fail
  generalize w2.alloc (.cells #[.slice none 0 0, .int .i64 0, .int .i64 0, .bool false, .int .i64 0] 79) = w4 at *
  replace hN := hN.ext hx3
  replace hX := hX.ext hx3
  replace hE := hE.trans hx3
  generalize w2.heap.size = rb at *
  go_wp2_with fail
  refine ((make_no _ p [97] hN)).mono ?_
  rintro e w1 ⟨rfl, hx1⟩
  replace hN := hN.ext hx1
  replace hX := hX.ext hx1
  replace hE := hE.trans hx1
  try replace hR := hR.ext hx1
  clear hx1
  go_wp2_with fail
  refine ((num_any _ _)).mono ?_
  rintro e w1 ⟨rfl, rfl⟩
  go_wp2_with fail
  refine ((write_no _ (.pointer p) na 0 zsec hN)).mono ?_
  rintro e w1 ⟨rfl, hx1⟩
  replace hN := hN.ext hx1
  replace hX := hX.ext hx1
  replace hE := hE.trans hx1
  try replace hR := hR.ext hx1
  clear hx1
  go_wp2_with fail
  refine ((num_any _ _)).mono ?_
  rintro e w1 ⟨rfl, rfl⟩
  go_wp2_with fail
  refine ((sync_no _ _ _ hN)).mono ?_
  rintro e w1 ⟨rfl, hx1⟩
  replace hN := hN.ext hx1
  replace hX := hX.ext hx1
  replace hE := hE.trans hx1
  try replace hR := hR.ext hx1
  clear hx1
  go_wp2_with fail
  refine ((num_any _ _)).mono ?_
  rintro e w1 ⟨rfl, rfl⟩
  go_wp2_with fail
  refine ((remove_no _ p [] hN)).mono ?_
  rintro e w1 ⟨rfl, hx1⟩
  replace hN := hN.ext hx1
  replace hX := hX.ext hx1
  replace hE := hE.trans hx1
  try replace hR := hR.ext hx1
  clear hx1
  go_wp2_with fail
  refine ((num_any _ _)).mono ?_
  rintro e w1 ⟨rfl, rfl⟩
  go_wp2_with fail
  refine ((rename_no _ p [97] [] hN)).mono ?_
  rintro e w1 ⟨rfl, hx1⟩
  replace hN := hN.ext hx1
  replace hX := hX.ext hx1
  replace hE := hE.trans hx1
  try replace hR := hR.ext hx1
  clear hx1
  go_wp2_with fail
  refine ((num_any _ _)).mono ?_
  rintro e w1 ⟨rfl, rfl⟩
  go_wp2_with fail
  refine ((spoil_no _ (.pointer p) na (.int .i64 0) zsec hN)).mono ?_
  rintro e w1 ⟨rfl, hx1⟩
  replace hN := hN.ext hx1
  replace hX := hX.ext hx1
  replace hE := hE.trans hx1
  try replace hR := hR.ext hx1
  clear hx1
  go_wp2_with fail
  refine ((num_any _ _)).mono ?_
  rintro e w1 ⟨rfl, rfl⟩
  go_wp2_with fail
  refine ((num_any _ _)).mono ?_
  rintro e w1 ⟨rfl, rfl⟩
  go_wp2_with fail
  refine ((num_any _ _)).mono ?_
  rintro e w1 ⟨rfl, rfl⟩
  go_wp2_with fail
  refine ((has__no _ _ _ hN)).mono ?_
  rintro e w1 ⟨rfl, rfl⟩
  go_wp2_with fail
  refine ((count_no _ _ _ hN)).mono ?_
  rintro e w1 ⟨rfl, rfl⟩
  go_wp2_with fail
  refine ((room_no _ _ hN)).mono ?_
  rintro e w1 ⟨rfl, rfl⟩
  go_wp2_with fail
  refine ((dead_no _ _ hN)).mono ?_
  rintro e w1 ⟨rfl, rfl⟩
  go_wp2_with fail
  refine ((changes_no _ _ hN)).mono ?_
  rintro e w1 ⟨rfl, rfl⟩
  go_wp2_with fail
  refine ((once_no _ _ hN _ _ hR rfl)).mono ?_
  rintro e w1 ⟨rfl, hx1⟩
  replace hN := hN.ext hx1
  replace hX := hX.ext hx1
  replace hE := hE.trans hx1
  try replace hR := hR.ext hx1
  clear hx1
  have hx9 := (Ext.refl w1).alloc (.cells #[.int .i64 1] 3)
  go_wp2_with fail
  generalize w1.alloc (.cells #[.int .i64 1] 3) = w5 at *
  replace hN := hN.ext hx9
  replace hX := hX.ext hx9
  replace hE := hE.trans hx9
  refine (crash_no _ (.pointer p) _ _ _ hN).mono ?_
  rintro e w1 ⟨rfl, hx1⟩
  replace hN := hN.ext hx1
  replace hX := hX.ext hx1
  replace hE := hE.trans hx1
  go_wp2_with fail
  refine ((copy_no _ (.pointer p) hN)).mono ?_
  rintro e w1 ⟨rfl, hx1⟩
  replace hN := hN.ext hx1
  replace hX := hX.ext hx1
  replace hE := hE.trans hx1
  try replace hR := hR.ext hx1
  clear hx1
  go_wp2_with fail
  refine ((same_nn _ p none hN (.inl rfl))).mono ?_
  rintro e w1 ⟨rfl, hx1⟩
  replace hN := hN.ext hx1
  replace hX := hX.ext hx1
  replace hE := hE.trans hx1
  try replace hR := hR.ext hx1
  clear hx1
  go_wp2_with fail
  refine ((same_nd _ p hN O d fm F g hX)).mono ?_
  rintro e w1 ⟨rfl, hx1⟩
  replace hN := hN.ext hx1
  replace hX := hX.ext hx1
  replace hE := hE.trans hx1
  try replace hR := hR.ext hx1
  clear hx1
  go_wp2_with fail
  refine ((same_dn _ p hN O d fm F g hX)).mono ?_
  rintro e w1 ⟨rfl, hx1⟩
  replace hN := hN.ext hx1
  replace hX := hX.ext hx1
  replace hE := hE.trans hx1
  try replace hR := hR.ext hx1
  clear hx1
  go_wp2_with fail
  go_ret
  exact ⟨rfl, hE⟩
end Go.Proofs.Ytenmdhdloibemaa
