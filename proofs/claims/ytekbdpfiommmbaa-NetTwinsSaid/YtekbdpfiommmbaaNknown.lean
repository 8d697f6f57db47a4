/- The chapter's rows: known answers true. No conditions. -/
import Derived.Test.YtekbdpfiommmbaaNst
namespace Go.Proofs.Ytekbdpfiommmbaa
open Go.RowKit Go.Maps
set_option linter.unusedVariables false
set_option linter.unusedSimpArgs false
attribute [local go_sem] Oper.semAt_some

def kg0 : NC := ⟨3, 0, fun _ _ => []⟩
def kg1 : NC := kg0.put 2 1 [[97]]
def kg2 : NC := kg1.put 1 2 [[98]]
def kg3 : NC := kg2.put 1 3 [[99]]
def kg4 : NC := kg3.del 2 1 0
def kg5 : NC := kg4.put 1 2 [[98], [98]]
def kg6 : NC := kg5.del 1 2 1
theorem so_ok {g : NC} {a b : Int} {row : Row} {l : List Row} (h1 : g.ok a b) (h2 : row.length ≤ 1048576) (h3 : (g.L a b).length < 32) (h4 : g.L a b ++ [row] = l) : sendOut g a b row = (0, g.put a b l) := by
  rw [sendOut, if_neg (by rintro (h | h); exact h h1; omega), if_neg (by omega), h4]
theorem so1 : sendOut kg0 2 1 [97] = (0, kg1) := so_ok (by decide) (by decide) (by decide) rfl
theorem so2 : sendOut kg1 1 2 [98] = (0, kg2) := so_ok (by decide) (by decide) (by decide) rfl
theorem so3 : sendOut kg2 1 3 [99] = (0, kg3) := so_ok (by decide) (by decide) (by decide) rfl
theorem so4 : sendOut kg6 1 1 [120] = (2, kg6) := by rw [sendOut, if_pos (.inl (by decide))]
theorem sp1 : Spot kg3 3 0 1 0 := ⟨by decide, by decide, by decide⟩
theorem sp2 : Spot kg3 3 2 3 0 := ⟨by decide, by decide, by decide⟩
theorem sp3 : Spot kg4 3 0 1 0 := ⟨by decide, by decide, by decide⟩
theorem sp4 : Spot kg5 3 1 1 1 := ⟨by decide, by decide, by decide⟩
theorem nst_sendk {w0 w : World} {n : Nat} {g g' : NC} {L : List Keep} {x : Int} {a b : Int} {row : Row} {B : Option Addr} {k d : Nat} (h : NSt w0 w n g L) (ho : sendOut g a b row = (x, g')) (ha : (Lit.int .i64 a).wf = true) (hb : (Lit.int .i64 b).wf = true) (hk : k = row.length) (hB : Rd w 0 B k row) (hd : row.length ≤ maxLen) :
    Calls Try.prog 18 #[fptr n, .int .i64 a, .int .i64 b, .slice B k d] w fun e w' => e = .returned (.int .i64 x) ∧ NSt w0 w' n g' L := by
  have := nst_send h a b ha hb B d k row hk hB hd
  rw [ho] at this
  exact this
theorem rd_one (w : World) (u : UInt8) (t : TypeId) (m : Nat × Nat) {x : Int} (hx : x = (u.toNat : Int)) : Rd (w.alloc (.cells #[.int .u8 x] t m)) 0 (some ⟨w.heap.size, 0, none⟩) 1 [u] := by
  subst hx
  exact (Rd.newM w t [u] m).low (Nat.zero_le _)
set_option maxRecDepth 100000 in
set_option maxHeartbeats 6400000 in
theorem known_any (w : World) : Calls Try.prog 11 #[] w fun e w' => e = .returned (.bool true) ∧ Ext w w' := by
  have kc := fun (w : World) (C : Array Value) (n c : Nat) => Lib.run_convert_bytes_const (P := Try.prog) w 38 5 C n c Try.underlying38 Try.underlying5
  go_enter Try.func11, Try.ntmps11
  go_wp2_with fail
  refine (nst_new w 3 (by decide)).mono ?_
  rintro e w1 ⟨n, rfl, hS⟩
  rw [show (⟨3, 0, fun _ _ => []⟩ : NC) = kg0 from rfl] at hS
  go_wp2_with fail
  refine ((num_any _ 0)).mono ?_
  rintro e w1 ⟨rfl, rfl⟩
  go_wp2_with fail
  refine ((nst_sendk (hS.ext ((Ext.refl _).alloc _)) so1 (by decide) (by decide) rfl (rd_one _ 97 _ _ rfl) (by decide))).mono ?_
  rintro e w1 ⟨rfl, hS1⟩
  replace hS := hS1
  clear hS1
  go_wp2_with fail
  refine ((num_any _ 0)).mono ?_
  rintro e w1 ⟨rfl, rfl⟩
  go_wp2_with fail
  refine ((nst_sendk (hS.ext ((Ext.refl _).alloc _)) so2 (by decide) (by decide) rfl (rd_one _ 98 _ _ rfl) (by decide))).mono ?_
  rintro e w1 ⟨rfl, hS1⟩
  replace hS := hS1
  clear hS1
  go_wp2_with fail
  refine ((num_any _ 0)).mono ?_
  rintro e w1 ⟨rfl, rfl⟩
  go_wp2_with fail
  refine ((nst_sendk (hS.ext ((Ext.refl _).alloc _)) so3 (by decide) (by decide) rfl (rd_one _ 99 _ _ rfl) (by decide))).mono ?_
  rintro e w1 ⟨rfl, hS1⟩
  replace hS := hS1
  clear hS1
  go_wp2_with fail
  refine ((num_any _ 0)).mono ?_
  rintro e w1 ⟨rfl, rfl⟩
  go_wp2_with fail
  refine (nst_at hS 3 rfl 0 (by decide) 1 0 sp1 1 2 [98] rfl rfl).mono ?_
  rintro e w2 ⟨A1, c1, rfl, hS1, -⟩
  replace hS := hS1.blk ((Ext.refl _).alloc (.cells #[.int .i64 1, .int .i64 2, .slice A1 1 c1] 51)) (Blk.new w2 51 #[.int .i64 1, .int .i64 2, .slice A1 1 c1]) (Nat.le_refl _)
  clear hS1
  obtain ⟨q1, hq1⟩ : ∃ q, w2.heap.size = q := ⟨_, rfl⟩
  rw [hq1] at hS
  go_wp2_with fail
  clear hq1
  generalize w2.alloc (.cells #[.int .i64 1, .int .i64 2, .slice A1 1 c1] 51) = w3 at *
  refine (nst_take hS 3 rfl 2 (by decide) 3 0 sp2 2 1 [97] rfl rfl).mono ?_
  rintro e w4 ⟨A2, c2, rfl, hS1, -⟩
  replace hS := hS1.blk ((Ext.refl _).alloc (.cells #[.int .i64 2, .int .i64 1, .slice A2 1 c2] 51)) (Blk.new w4 51 #[.int .i64 2, .int .i64 1, .slice A2 1 c2]) (Nat.le_refl _)
  rw [show kg3.del 2 1 0 = kg4 from rfl] at hS
  clear hS1
  obtain ⟨q2, hq2⟩ : ∃ q, w4.heap.size = q := ⟨_, rfl⟩
  rw [hq2] at hS
  go_upto_region 6 with fail
  clear hq2
  generalize w4.alloc (.cells #[.int .i64 2, .int .i64 1, .slice A2 1 c2] 51) = w5 at *
  have BA := hS.at_blk (b := q1) (t := 51) (cs := #[.int .i64 1, .int .i64 2, .slice A1 1 c1]) (by simp)
  have BB := hS.at_blk (b := q2) (t := 51) (cs := #[.int .i64 2, .int .i64 1, .slice A2 1 c2]) (by simp)
  have a0 := BA.cell 0
  have a1 := BA.cell 1
  have a2 := BA.cell 2
  go_wp2_with fail
  clear a0 a1 a2
  have x6 := (Ext.refl w5).alloc (.cells #[.int .u8 98] 5 (1, 2))
  have r6 := rd_one w5 98 5 (1, 2) rfl
  refine (same_any _ 1 2 1 2 A1 (some ⟨w5.heap.size, 0, none⟩) c1 1 [98] [98] ((hS.rd (A := A1) (row := [98]) (by simp)).ext x6) r6 (by decide) (by decide)).mono ?_
  rintro e w6 ⟨rfl, hx6⟩
  replace hS := hS.ext (x6.trans hx6)
  have b0 := (BB.ext (x6.trans hx6)).cell 0
  have b1 := (BB.ext (x6.trans hx6)).cell 1
  have b2 := (BB.ext (x6.trans hx6)).cell 2
  clear x6 hx6 r6 BA BB
  go_wp2_with fail
  clear b0 b1 b2
  have x6 := (Ext.refl w6).alloc (.cells #[.int .u8 97] 5 (1, 2))
  have r6 := rd_one w6 97 5 (1, 2) rfl
  refine (same_any _ 2 1 2 1 A2 (some ⟨w6.heap.size, 0, none⟩) c2 1 [97] [97] ((hS.rd (A := A2) (row := [97]) (by simp)).ext x6) r6 (by decide) (by decide)).mono ?_
  rintro e w7 ⟨rfl, hx6⟩
  replace hS := hS.ext (x6.trans hx6)
  clear x6 hx6 r6
  go_wp2_with fail
  refine ((num_any _ 0)).mono ?_
  rintro e w1 ⟨rfl, rfl⟩
  go_wp2_with fail
  refine ((num_any _ 0)).mono ?_
  rintro e w1 ⟨rfl, rfl⟩
  go_wp2_with fail
  refine (nst_len hS 3 rfl).mono ?_
  rintro e w8 ⟨rfl, hS1⟩
  replace hS := hS1
  clear hS1
  rw [show cntG kg4 3 (3 * 3) = 2 by decide]
  go_wp2_with fail
  refine ((nst_double hS 3 rfl 0 (by decide) 1 0 sp3 1 2 [98] rfl rfl (by decide))).mono ?_
  rintro e w1 ⟨rfl, hS1⟩
  replace hS := hS1
  clear hS1
  rw [show kg4.put 1 2 (kg4.L 1 2 ++ [[98]]) = kg5 from rfl] at hS
  go_wp2_with fail
  refine (nst_take hS 3 rfl 1 (by decide) 1 1 sp4 1 2 [98] rfl rfl).mono ?_
  rintro e w9 ⟨A3, c3, rfl, hS1, -⟩
  rw [show kg5.del 1 2 1 = kg6 from rfl] at hS1
  replace hS := hS1.blk ((Ext.refl _).alloc (.cells #[.int .i64 1, .int .i64 2, .slice A3 1 c3] 51)) (Blk.new w9 51 #[.int .i64 1, .int .i64 2, .slice A3 1 c3]) (Nat.le_refl _)
  clear hS1
  obtain ⟨q3, hq3⟩ : ∃ q, w9.heap.size = q := ⟨_, rfl⟩
  rw [hq3] at hS
  go_wp2_with fail
  clear hq3
  generalize w9.alloc (.cells #[.int .i64 1, .int .i64 2, .slice A3 1 c3] 51) = w10 at *
  refine (num_any _ 0).mono ?_
  rintro e w11 ⟨rfl, rfl⟩
  go_wp2_with fail
  refine ((num_any _ 0)).mono ?_
  rintro e w1 ⟨rfl, rfl⟩
  have BA := hS.at_blk (b := q1) (t := 51) (cs := #[.int .i64 1, .int .i64 2, .slice A1 1 c1]) (by simp)
  have BC := hS.at_blk (b := q3) (t := 51) (cs := #[.int .i64 1, .int .i64 2, .slice A3 1 c3]) (by simp)
  have a0 := BA.cell 0
  have a1 := BA.cell 1
  have a2 := BA.cell 2
  have b0 := BC.cell 0
  have b1 := BC.cell 1
  have b2 := BC.cell 2
  go_wp2_with fail
  clear a0 a1 a2 b0 b1 b2
  refine (same_any _ 1 2 1 2 A3 A1 c3 c1 [98] [98] (hS.rd (A := A3) (row := [98]) (by simp)) (hS.rd (A := A1) (row := [98]) (by simp)) (by decide) (by decide)).mono ?_
  rintro e w12 ⟨rfl, hx6⟩
  replace hS := hS.ext hx6
  clear hx6 BA BC
  go_wp2_with fail
  refine ((nst_drop hS 3 rfl 9 (by decide) (by decide))).mono ?_
  rintro e w1 ⟨rfl, hS1⟩
  replace hS := hS1
  clear hS1
  go_wp2_with fail
  refine ((num_any _ 6)).mono ?_
  rintro e w1 ⟨rfl, rfl⟩
  go_wp2_with fail
  refine (nst_sendk (hS.ext ((Ext.refl _).alloc _)) so4 (by decide) (by decide) rfl (rd_one _ 120 _ _ rfl) (by decide)).mono ?_
  rintro e w13 ⟨rfl, hS1⟩
  go_wp2_with fail
  refine ((num_any _ 2)).mono ?_
  rintro e w1 ⟨rfl, rfl⟩
  go_wp2_with fail
  go_ret
  exact ⟨rfl, hS1.x⟩
