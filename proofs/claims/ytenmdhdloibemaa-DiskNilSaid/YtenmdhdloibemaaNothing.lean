/- Of a disk that is not there. Conditions: the one is none, the other a disk in memory. -/
import Derived.Test.YtenmdhdloibemaaLawf
namespace Go.Proofs.Ytenmdhdloibemaa
open Go.RowKit Go.Maps Go.Sort Go.Shelf
set_option linter.unusedVariables false
set_option linter.unusedSimpArgs false
attribute [local go_sem] Oper.semAt_some

set_option hygiene false in
macro "ca0 " t:term : tactic => `(tactic| (go_wp2_with fail; refine ($t).mono ?_; rintro e w1 ⟨rfl, rfl⟩))
set_option hygiene false in
macro "ca1 " t:term : tactic => `(tactic| (go_wp2_with fail; refine ($t).mono ?_; rintro e w1 ⟨rfl, hx1⟩; replace hN := hN.ext hx1; replace hX := hX.ext hx1; replace hE := hE.trans hx1; try (replace hR := hR.ext hx1); clear hx1))

abbrev na : Value := nv [97]

set_option maxRecDepth 100000 in
set_option maxHeartbeats 6400000 in
theorem nothing_any (w : World) (p : Option Addr) (h : NoDisk w (.pointer p)) (O : Ow) (d fm : Nat) (F : DataW Value) (g : DC) (k : DiskX w O d fm F g) :
    Calls Try.prog 23 #[.pointer p, fptr d] w fun e w' => e = .returned (.bool true) ∧ Ext w w' := by
  have hN := h
  have hX := k
  have hE := Ext.refl w
  go_enter Try.func23, Try.ntmps23
  ca0 (fuse_no _ _ _ hN)
  ca1 (read_no _ _ _ _ hN)
  have hx2 : Ext w1 ((w1.alloc (.cells Try.zeroCells39 39)).setRow w1.heap.size (sv zsec)) := ((Ext.refl w1).alloc _).grown (setRow_grownBy _ w1.heap.size (sv zsec)) (by simp)
  go_wp2_with (refine wpList_ssec rfl _ _ rfl w1.heap.size rfl rfl (blk_zero w1) zsec_len zsec_len ?_)
  generalize (w1.alloc (.cells Try.zeroCells39 39)).setRow w1.heap.size (sv zsec) = w2 at *
  replace hN := hN.ext hx2
  replace hX := hX.ext hx2
  replace hE := hE.trans hx2
  refine (lasts_no _ _ _ _ hN).mono ?_
  rintro e w3 ⟨rfl, rfl⟩
  have hbd := build_sec
  have hR := Blk.new w2 79 #[.slice none 0 0, .int .i64 0, .int .i64 0, .bool false, .int .i64 0]
  have hx3 := (Ext.refl w2).alloc (.cells #[.slice none 0 0, .int .i64 0, .int .i64 0, .bool false, .int .i64 0] 79)
  go_upto_region 5 with fail
  generalize w2.alloc (.cells #[.slice none 0 0, .int .i64 0, .int .i64 0, .bool false, .int .i64 0] 79) = w4 at *
  replace hN := hN.ext hx3
  replace hX := hX.ext hx3
  replace hE := hE.trans hx3
  generalize w2.heap.size = rb at *
  ca1 (make_no _ p [97] hN)
  ca0 (num_any _ _)
  ca1 (write_no _ (.pointer p) na 0 zsec hN)
  ca0 (num_any _ _)
  ca1 (sync_no _ _ _ hN)
  ca0 (num_any _ _)
  ca1 (remove_no _ p [] hN)
  ca0 (num_any _ _)
  ca1 (rename_no _ p [97] [] hN)
  ca0 (num_any _ _)
  ca1 (spoil_no _ (.pointer p) na (.int .i64 0) zsec hN)
  ca0 (num_any _ _)
  ca0 (num_any _ _)
  ca0 (num_any _ _)
  ca0 (has__no _ _ _ hN)
  ca0 (count_no _ _ _ hN)
  ca0 (room_no _ _ hN)
  ca0 (dead_no _ _ hN)
  ca0 (changes_no _ _ hN)
  ca1 (once_no _ _ hN _ _ hR rfl)
  have hx9 := (Ext.refl w1).alloc (.cells #[.int .i64 1] 3)
  go_wp2_with fail
  generalize w1.alloc (.cells #[.int .i64 1] 3) = w5 at *
  replace hN := hN.ext hx9
  replace hX := hX.ext hx9
  replace hE := hE.trans hx9
  refine (crash_no _ (.pointer p) _ _ _ hN).mono ?_
  rintro e w1 ⟨rfl, hx1⟩
  replace hN := hN.ext hx1
  replace hX := hX.ext hx1
  replace hE := hE.trans hx1
  ca1 (copy_no _ (.pointer p) hN)
  ca1 (same_nn _ p none hN (.inl rfl))
  ca1 (same_nd _ p hN O d fm F g hX)
  ca1 (same_dn _ p hN O d fm F g hX)
  go_wp2_with fail
  go_ret
  exact ⟨rfl, hE⟩
end Go.Proofs.Ytenmdhdloibemaa
