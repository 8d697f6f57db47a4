/- The contracts of crc's functions: tables, registers, sums. Conditions: as each theorem says. -/
import Derived.Test.YtpfepajenimejaaReg
namespace Go.Proofs.Ytpfepajenimejaa
open Go.RowKit
set_option linter.unusedVariables false
set_option linter.unusedSimpArgs false

theorem size16 : (Try.prog.info? 38).map (·.size) = some 16 := by kernel_rfl
theorem size16t (f : Nat → BitVec 32) : (Try.prog.info? 38).map (·.size) = some (tabv f 16).size := by rw [tabv_size]; exact size16
theorem size32t (f : Nat → BitVec 32) : (Try.prog.info? 42).map (·.size) = some (tabv f 32).size := by rw [tabv_size]; exact size42
/-- what fourSteps makes -/
abbrev fours : Array Value := tabv (fun i => sts 4 (BitVec.ofNat 32 i)) 16

theorem fourSteps_any (w : World) :
    Calls Try.prog 17 #[] w fun e w' => e = .returned (.agg fours) ∧ Ext w w' := by
  go_enter Try.func17, Try.ntmps17
  go_wp2
  go_loopw [2, 3, 4] (fun _ _ i wr => ∃ k : Nat, k ≤ 16 ∧ i = .int .i64 k ∧ Blk wr (w.heap.size + 1) 38 (tabv (fun i => if i < k then sts 4 (BitVec.ofNat 32 i) else 0#32) 16) ∧ Blk wr (w.heap.size) 38 (tabv (fun i => 0#32) 16) ∧ Ext w wr) (fun _ _ i _ => 16 - (intOf i).toNat)
  case atStart =>
    refine ⟨0, Nat.zero_le _, rfl, ?_, ?_, ?_⟩
    · rw [tabv_congr _ (fun _ => 0#32) 16 (fun i hi => by simp)]
      exact heap_alloc2_new w _ _
    · exact (Blk.new w _ _).ext ((Ext.refl _).alloc _)
    · exact ((Ext.refl _).alloc _).alloc _
  case round =>
    obtain ⟨k, hk, rfl, hb, hb0, hx⟩ := hrel
    by_cases hlt : k < 16
    · have hf := hb.free k
      have hc := (hb.cell k).trans (tabv_get _ _ _ (by omega))
      have hb1 := hb.set_ k (wv (sts 4 (BitVec.ofNat 32 k)))
      rw [tabv_set, tabv_congr _ (fun i => if i < k + 1 then sts 4 (BitVec.ofNat 32 i) else 0#32) 16 (fun i hi => by
        by_cases e : i = k
        · subst e; simp
        · by_cases h2 : i < k
          · simp [e, h2, show i < k + 1 by omega]
          · simp [e, h2, show ¬ i < k + 1 by omega])] at hb1
      have hb0 := hb0.other (setCell_grownBy wr ⟨w.heap.size + 1, k, none⟩ (wv (sts 4 (BitVec.ofNat 32 k)))) (by simp)
      have hx := hx.setCell (p := ⟨w.heap.size + 1, k, none⟩) (by simp) (wv (sts 4 (BitVec.ofNat 32 k)))
      have hw := Lib.hid (show Value.int .u32 (k : Int) = wv (BitVec.ofNat 32 k) by
        rw [wv, BitVec.toNat_ofNat, Nat.mod_eq_of_lt (by omega)])
      clear hb
      have hki : (k : Int) < 16 := by omega
      go_wp2_with fail
      go_loop [3, 9] (fun x i => ∃ j : Nat, j ≤ 4 ∧ i = .int .i64 j ∧ x = wv (sts j (BitVec.ofNat 32 k))) (fun _ i => 4 - (intOf i).toNat)
      case atStart => exact ⟨0, Nat.zero_le _, rfl, hw.out⟩
      case round =>
        obtain ⟨j, hj, rfl, rfl⟩ := hrel
        by_cases hj4 : j < 4
        · go_wp2_with fail
          refine (step_any (sts j (BitVec.ofNat 32 k)) _).mono ?_
          rintro e w1 ⟨rfl, rfl⟩
          go_simp
          go_wp2_with fail
          go_round
          case rel => exact ⟨j + 1, by omega, by go_num, rfl⟩
          case measure => simp [intOf]; omega
        · obtain rfl : j = 4 := by omega
          go_wp2_with fail
          go_roundw
          case rel => exact ⟨k + 1, by omega, by go_num, hb1, hb0, hx⟩
          case measure => simp [intOf]; omega
    · obtain rfl : k = 16 := by omega
      rw [tabv_congr _ (fun i => sts 4 (BitVec.ofNat 32 i)) 16 (fun i hi => by simp [hi])] at hb
      have hx := hx.grown (setRow_grownBy wr w.heap.size fours) (by simp)
      have hb2 := hb0.setRow fours
      go_wp2_with (first | refine wpList_load_row rfl 38 _ rfl (w.heap.size + 1) rfl 38 _ (0, 0) _ hb Try.underlying38 rfl (size16t _) ?_ | refine wpList_store_row rfl 38 _ _ rfl w.heap.size fours rfl rfl 38 _ hb0 (size16t _) (by rw [tabv_size, tabv_size]) (tabv_one _ _) ?_)
      refine bodyPost_ret (v := .agg fours) (results_cell_row rfl _ _ w.heap.size 38 _ (0, 0) _ rfl hb2 Try.underlying38 rfl (size16t _)) rfl ⟨rfl, hx⟩

theorem index_tab (f : Nat → BitVec 32) (k : Nat) (h : k < 32) (w : World) : (Instr.index 42 (.agg (tabv f 32)) (.int .i64 k)).run Try.prog w = .ok (wv (f k)) w := by
  have hs : (Try.prog.info? 23).map (·.size) = some 1 := by kernel_rfl
  have hu : Try.prog.underlying 42 = some (.array 32 23) := Try.underlying42
  have hc := tabv_get f 32 k h
  have hcell : ((k : Int) < 32) := by omega
  cases hq : Try.prog.info? 23 with
  | none => simp [hq] at hs
  | some i =>
    have hs1 : i.size = 1 := by simpa [hq] using hs
    simp [Instr.index, asIntOf, underlying, hu, Sem.run_bind, sizeOf, typeInfo, hq, hs1, Result.andThen]
    rw [if_pos h]
    simp [part, Sem.run_bind, sizeOf, typeInfo, Result.andThen, hc]

theorem times_any (f : Nat → BitVec 32) (r : BitVec 32) (w : World) :
    Calls Try.prog 24 #[.agg (tabv f 32), wv r] w fun e w' => e = .returned (wv (lin f r 32)) ∧ Ext w w' := by
  go_enter Try.func24, Try.ntmps24
  go_wp2_with (refine wpList_load_row rfl 42 _ rfl w.heap.size rfl 42 _ (0, 0) _ (Blk.new w _ _) Try.underlying42 rfl (size32t _) ?_)
  have hx : Ext w (w.alloc (.cells (tabv f 32) 42)) := (Ext.refl w).alloc _
  generalize w.alloc (.cells (tabv f 32) 42) = w1 at *
  go_loop [1, 5, 7, 8, 10] (fun x p _ _ i => ∃ k : Nat, k ≤ 32 ∧ i = .int .i64 k ∧ x = wv (r >>> k) ∧ p = wv (lin f r k)) (fun _ _ _ _ i => 32 - (intOf i).toNat)
  case atStart => exact ⟨0, Nat.zero_le _, rfl, by rw [BitVec.ushiftRight_zero], rfl⟩
  case round =>
    obtain ⟨k, hk, rfl, rfl, rfl⟩ := hrel
    by_cases hlt : k < 32
    · have hc := tabv_get f 32 k hlt
      have hix := index_tab f k hlt
      have h1 := Lib.hid (masked (f k) (r >>> k))
      have h2 := Lib.hid (half1 (r >>> k))
      have h3 := Lib.hid (xor32 (lin f r k) (if (r >>> k).getLsbD 0 then f k else 0#32))
      have h4 := Lib.hid (show lin f r (k + 1) = lin f r k ^^^ (if (r >>> k).getLsbD 0 then f k else 0#32) by rw [lin, BitVec.getLsbD_ushiftRight, Nat.add_zero])
      have h5 := Lib.hid (show r >>> (k + 1) = (r >>> k) >>> 1 by rw [BitVec.shiftRight_add])
      have hv : (r >>> k).toNat < 4294967296 := (r >>> k).isLt
      generalize r >>> k = rk at *
      go_wp2_with fail
      go_round
      case rel => exact ⟨k + 1, by omega, by go_num, by rw [h5.out, h2.out], by rw [h4.out, h1.out, h3.out]⟩
      case measure => simp [intOf]; omega
    · obtain rfl : k = 32 := by omega
      go_wp2_with fail
      go_ret
      exact ⟨rfl, hx⟩

/-- the table of so many steps -/
abbrev tabk (k : Nat) : Array Value := tabv (fun i => sts k (1#32 <<< i)) 32
/-- the register that weighs one -/
def e31 : BitVec 32 := 1#32 <<< 31
theorem powers_tab (k : Nat) : powers (sts k e31) = tabk k := tabv_congr _ _ _ fun i hi => tab_at k i hi
theorem times_tab (k : Nat) (r : BitVec 32) (w : World) :
    Calls Try.prog 24 #[.agg (tabk k), wv r] w fun e w' => e = .returned (wv (sts k r)) ∧ Ext w w' := by
  have := times_any (fun i => sts k (1#32 <<< i)) r w
  rw [lin_sts] at this
  exact this
theorem products_tab (k : Nat) (w : World) :
    Calls Try.prog 23 #[wv (sts k e31)] w fun e w' => e = .returned (.agg (tabk k)) ∧ Ext w w' := by
  have := products_any (sts k e31) w
  rw [powers_tab] at this
  exact this

theorem square_tab (k : Nat) (w : World) :
    Calls Try.prog 25 #[.agg (tabk k)] w fun e w' => e = .returned (.agg (tabk (k + k))) ∧ Ext w w' := by
  have hc : (tabk k)[31]? = some (wv (sts k e31)) := tabv_get (fun i => sts k (1#32 <<< i)) 32 31 (by decide)
  go_enter Try.func25, Try.ntmps25
  go_wp2_with (refine wpList_load_row rfl 42 _ rfl w.heap.size rfl 42 _ (0, 0) _ ((Blk.new w _ _).ext ((Ext.refl _).alloc _)) Try.underlying42 rfl (size32t _) ?_)
  refine (times_tab k (sts k e31) _).mono ?_
  rintro e w1 ⟨rfl, hx1⟩
  rw [← sts_add]
  have hx := (((Ext.refl w).alloc (.cells (tabk k) 42)).alloc _).trans hx1
  go_simp
  go_wp2_with fail
  refine (products_tab (k + k) _).mono ?_
  rintro e w2 ⟨rfl, hx2⟩
  go_simp
  have hb00 : Blk ((w.alloc (.cells (tabk k) 42)).alloc (.cells (tabv (fun _ => 0#32) 32) 42)) (w.heap.size + 1) 42 (tabv (fun _ => 0#32) 32) := heap_alloc2_new w _ _
  have hb0 := (hb00.ext hx1).ext hx2
  have hb2 := hb0.setRow (tabk (k + k))
  have hx3 := (hx.trans hx2).grown (setRow_grownBy w2 (w.heap.size + 1) (tabk (k + k))) (by simp)
  clear hb00
  go_wp2_with (refine wpList_store_row rfl 42 _ _ rfl (w.heap.size + 1) (tabk (k + k)) rfl rfl 42 _ hb0 (size32t _) (by rw [tabv_size, tabv_size]) (tabv_one _ _) ?_)
  refine bodyPost_ret (v := .agg (tabk (k + k))) (results_cell_row rfl _ _ (w.heap.size + 1) 42 _ (0, 0) _ rfl hb2 Try.underlying42 rfl (size32t _)) rfl ⟨rfl, hx3⟩

theorem zeroByte_eq : sts 8 e31 = 8388608#32 := by decide +kernel
theorem and1_i64 (m : Nat) (h : m < 9223372036854775808) : bits .and .i64 (m : Int) 1 = ((m % 2 : Nat) : Int) := by
  have := i64_and127 1
  show IntKind.i64.wrap ((BitVec.ofInt 64 (m : Int) &&& BitVec.ofInt 64 1).toNat : Int) = _
  rw [BitVec.toNat_and, BitVec.ofInt_natCast, BitVec.toNat_ofNat, Nat.mod_eq_of_lt (by omega)]
  rw [show (BitVec.ofInt 64 1).toNat = 1 from rfl, Nat.and_one_is_mod, IntKind.wrap_i64]
  omega

theorem pass_nat (r : BitVec 32) (n : Nat) (hn : n < 9223372036854775808) (w : World) :
    Calls Try.prog 19 #[wv r, .int .i64 n] w fun e w' => e = .returned (wv (sts (8 * n) r)) ∧ Ext w w' := by
  go_enter Try.func19, Try.ntmps19
  go_wp2_with fail
  have hp := products_tab 8 w
  rw [zeroByte_eq] at hp
  refine hp.mono ?_
  rintro e w1 ⟨rfl, hx1⟩
  clear hp
  go_simp
  have hb0 : Blk (w1.alloc (.cells (tabv (fun _ => 0#32) 32) 42)) w1.heap.size 42 (tabv (fun _ => 0#32) 32) := Blk.new w1 _ _
  have hb2 := hb0.setRow (tabk 8)
  have hsz := hx1.size
  have hx3 := (hx1.alloc (.cells (tabv (fun _ => 0#32) 32) 42)).grown (setRow_grownBy _ w1.heap.size (tabk 8)) (by simp; exact hsz)
  go_wp2_with (refine wpList_store_row rfl 42 _ _ rfl w1.heap.size (tabk 8) rfl rfl 42 _ hb0 (size32t _) (by rw [tabv_size, tabv_size]) (tabv_one _ _) ?_)
  generalize w1.heap.size = g at *
  go_loopw [0, 1] (fun x i wr => ∃ (m K : Nat) (y : BitVec 32), m ≤ n ∧ i = .int .i64 m ∧ x = wv y ∧ sts (K * m) y = sts (8 * n) r ∧ Blk wr g 42 (tabk K) ∧ Ext w wr) (fun _ i _ => (intOf i).toNat)
  case atStart => exact ⟨n, 8, r, Nat.le_refl _, rfl, rfl, rfl, hb2, hx3⟩
  case round =>
    obtain ⟨m, K, y, hm, rfl, rfl, he, hb, hx⟩ := hrel
    rcases Nat.eq_zero_or_pos m with rfl | hm0
    · go_wp2_with fail
      go_ret
      exact ⟨by rw [← he]; rfl, hx⟩
    · have h1 : (0 : Int) < m := by omega
      have h2 := and1_i64 m (by omega)
      rcases Nat.mod_two_eq_zero_or_one m with h3 | h3
      · rw [h3] at h2
        go_wp2_with (refine wpList_load_row rfl 42 _ rfl g rfl 42 _ (0, 0) _ hb Try.underlying42 rfl (size32t _) ?_)
        refine (square_tab K _).mono ?_
        rintro e w3 ⟨rfl, hx4⟩
        go_simp
        have hb3 := hb.ext hx4
        have hb4 := hb3.setRow (tabk (K + K))
        have hx5 := (hx.trans hx4).grown (setRow_grownBy w3 g (tabk (K + K))) (by simp; exact hsz)
        go_wp2_with (refine wpList_store_row rfl 42 _ _ rfl g (tabk (K + K)) rfl rfl 42 _ hb3 (size32t _) (by rw [tabv_size, tabv_size]) (tabv_one _ _) ?_)
        go_roundw
        case rel => exact ⟨m / 2, K + K, y, by omega, by go_num, rfl, by rw [← he]; congr 1; rw [← Nat.two_mul, Nat.mul_comm 2 K, Nat.mul_assoc]; congr 1; omega, hb4, hx5⟩
        case measure => simp [intOf]; omega
      · rw [h3] at h2
        go_wp2_with (refine wpList_load_row rfl 42 _ rfl g rfl 42 _ (0, 0) _ hb Try.underlying42 rfl (size32t _) ?_)
        refine (times_tab K y _).mono ?_
        rintro e w4 ⟨rfl, hx5⟩
        go_simp
        have hb3 := hb.ext hx5
        go_wp2_with (refine wpList_load_row rfl 42 _ rfl g rfl 42 _ (0, 0) _ hb3 Try.underlying42 rfl (size32t _) ?_)
        refine (square_tab K _).mono ?_
        rintro e w3 ⟨rfl, hx4⟩
        go_simp
        have hb3 := hb3.ext hx4
        have hb4 := hb3.setRow (tabk (K + K))
        have hx5 := ((hx.trans hx5).trans hx4).grown (setRow_grownBy w3 g (tabk (K + K))) (by simp; exact hsz)
        go_wp2_with (refine wpList_store_row rfl 42 _ _ rfl g (tabk (K + K)) rfl rfl 42 _ hb3 (size32t _) (by rw [tabv_size, tabv_size]) (tabv_one _ _) ?_)
        go_roundw
        case rel =>
          refine ⟨m / 2, K + K, sts K y, by omega, by go_num, rfl, ?_, hb4, hx5⟩
          rw [← he, ← sts_add]
          congr 1
          rw [← Nat.two_mul, Nat.mul_comm 2 K, Nat.mul_assoc, ← Nat.mul_succ]
          congr 1
          omega
        case measure => simp [intOf]; omega

theorem pass_neg (r : BitVec 32) (n : Int) (hn : n ≤ 0) (w : World) :
    Calls Try.prog 19 #[wv r, .int .i64 n] w fun e w' => e = .returned (wv r) ∧ Ext w w' := by
  have h1 : ¬ (0 < n) := by omega
  go_enter Try.func19, Try.ntmps19
  go_wp2_with fail
  have hp := products_tab 8 w
  rw [zeroByte_eq] at hp
  refine hp.mono ?_
  rintro e w1 ⟨rfl, hx1⟩
  clear hp
  go_simp
  have hb0 : Blk (w1.alloc (.cells (tabv (fun _ => 0#32) 32) 42)) w1.heap.size 42 (tabv (fun _ => 0#32) 32) := Blk.new w1 _ _
  have hsz := hx1.size
  have hx3 := (hx1.alloc (.cells (tabv (fun _ => 0#32) 32) 42)).grown (setRow_grownBy _ w1.heap.size (tabk 8)) (by simp; exact hsz)
  go_wp2_with (refine wpList_store_row rfl 42 _ _ rfl w1.heap.size (tabk 8) rfl rfl 42 _ hb0 (size32t _) (by rw [tabv_size, tabv_size]) (tabv_one _ _) ?_)
  go_loopw [0, 1] (fun x i wr => x = wv r ∧ i = .int .i64 n ∧ Ext w wr) (fun _ i _ => (intOf i).toNat)
  case atStart => exact ⟨rfl, rfl, hx3⟩
  case round =>
    obtain ⟨rfl, rfl, hx⟩ := hrel
    go_wp2_with fail
    go_ret
    exact ⟨rfl, hx⟩

theorem pass_any (r : BitVec 32) (n : Int) (hn : n < 9223372036854775808) (w : World) :
    Calls Try.prog 19 #[wv r, .int .i64 n] w fun e w' => e = .returned (wv (sts (8 * n.toNat) r)) ∧ Ext w w' := by
  rcases Int.lt_or_le 0 n with h | h
  · obtain ⟨n, rfl⟩ := Int.eq_ofNat_of_zero_le (Int.le_of_lt h)
    exact pass_nat r n (by omega) w
  · rw [show n.toNat = 0 by omega]
    exact pass_neg r n h w

theorem join_any (a b : BitVec 32) (n : Int) (hn : n < 9223372036854775808) (w : World) :
    Calls Try.prog 11 #[wv a, wv b, .int .i64 n] w fun e w' => e = .returned (wv (sts (8 * n.toNat) a ^^^ b)) ∧ Ext w w' := by
  have hxo := Lib.hid (xor32 (sts (8 * n.toNat) a) b)
  go_enter Try.func11, Try.ntmps11
  go_wp2_with fail
  refine (pass_any a n hn w).mono ?_
  rintro e w1 ⟨rfl, hx1⟩
  go_simp
  go_wp2_with fail
  go_ret
  exact ⟨ret_int hxo.out, hx1⟩

theorem zeros_any (a : BitVec 32) (n : Int) (hn : n < 9223372036854775808) (w : World) :
    Calls Try.prog 14 #[wv a, .int .i64 n] w fun e w' => e = .returned (wv (~~~ sts (8 * n.toNat) (~~~ a))) ∧ Ext w w' := by
  have h1 := not32 a
  have h2 := not32 (sts (8 * n.toNat) (~~~ a))
  generalize ~~~ a = na at *
  generalize hr : ~~~ sts (8 * n.toNat) na = r at *
  go_enter Try.func14, Try.ntmps14
  go_wp2_with fail
  refine (pass_any na n hn w).mono ?_
  rintro e w1 ⟨rfl, hx1⟩
  go_simp
  go_wp2_with fail
  go_ret
  exact ⟨rfl, hx1⟩

theorem nibble_lt (r : BitVec 32) : (r &&& 15#32).toNat < 16 := by
  rw [BitVec.toNat_and]
  exact Nat.and_lt_two_pow (n := 4) _ (by decide)
theorem nibble_cell (r : BitVec 32) : fours[(r &&& 15#32).toNat]? = some (wv (sts 4 (r &&& 15#32))) := by
  have h := nibble_lt r
  rw [fours, tabv_get _ _ _ h, BitVec.ofNat_toNat]
  simp
theorem half4 (v : BitVec 32) : ((v.toNat : Int) / (16 : Int)) = ((v >>> 4).toNat : Int) := half v 4
theorem w8_val (u : UInt8) : (((w8 u).toNat : Nat) : Int) = (u.toNat : Int) := by
  rw [w8, BitVec.toNat_ofNat, Nat.mod_eq_of_lt (by have := u.toNat_lt; omega)]
theorem xor_byte (r : BitVec 32) (u : UInt8) : bits .xor .u32 (r.toNat : Int) (u.toNat : Int) = ((r ^^^ w8 u).toNat : Int) := by
  rw [← w8_val, xor32]

theorem extend_any (s : BitVec 32) (A : Option Addr) (n c lo : Nat) (l : List UInt8) (w : World) (hr : Rd w lo A n l) (hn : n < 4611686018427387904) :
    Calls Try.prog 18 #[.agg fours, wv s, .slice A n c] w fun e w' => e = .returned (wv (more s l)) ∧ Ext w w' := by
  have hl := hr.len
  subst hl
  have h1 := not32 s
  have h9 := Lib.hid (not32 (reg (~~~ s) l))
  have hm := Lib.hid (show more s l = ~~~ reg (~~~ s) l from rfl)
  generalize more s l = q at *
  generalize ~~~ s = ns at *
  go_enter Try.func18, Try.ntmps18
  go_wp2_with fail
  have hb : Blk (w.alloc (.cells fours 38)) w.heap.size 38 fours := Blk.new w _ _
  have hx : Ext w (w.alloc (.cells fours 38)) := (Ext.refl w).alloc _
  have hr := hr.ext hx
  generalize (w.alloc (.cells fours 38)) = w1 at *
  generalize w.heap.size = g at *
  go_loop [7, 9, 10, 15] (fun x _ _ i => ∃ k : Nat, k ≤ l.length ∧ i = .int .i64 k ∧ x = wv (reg ns (l.take k))) (fun _ _ _ i => l.length - (intOf i).toNat)
  case atStart => exact ⟨0, Nat.zero_le _, rfl, rfl⟩
  case round =>
    obtain ⟨k, hk, rfl, rfl⟩ := hrel
    by_cases hlt : k < l.length
    · obtain ⟨b, off, rfl, -, -, hc⟩ := hr.pos (by omega)
      have hcell := hc k hlt
      have hu : (l[k]).toNat < 256 := (l[k]).toNat_lt
      have h2 := xor_byte (reg ns (l.take k)) l[k]
      have h3 := Lib.hid (show reg ns (l.take (k + 1)) = sts 8 (reg ns (l.take k) ^^^ w8 l[k]) by rw [← reg_snoc]; simp)
      clear hc
      generalize (reg ns (l.take k) ^^^ w8 l[k]) = y at *
      go_wp2_with fail
      go_loop [7, 10, 23] (fun x _ i => ∃ j : Nat, j ≤ 2 ∧ i = .int .i64 j ∧ x = wv (sts (4 * j) y)) (fun _ _ i => 2 - (intOf i).toNat)
      case atStart => exact ⟨0, Nat.zero_le _, rfl, rfl⟩
      case round =>
        obtain ⟨j, hj, rfl, rfl⟩ := hrel
        by_cases hj2 : j < 2
        · have h5 := Lib.hid (show sts (4 * (j + 1)) y = (sts (4 * j) y >>> 4) ^^^ sts 4 (sts (4 * j) y &&& 15#32) by rw [← sts_four, ← sts_add, Nat.mul_succ, Nat.add_comm])
          generalize sts (4 * j) y = z at *
          have h6 := and32 z 15#32
          rw [show (((15#32).toNat : Nat) : Int) = 15 from rfl] at h6
          have h7 := half4 z
          have h8 := nibble_cell z
          have h8b := nibble_lt z
          have hcz := (hb.cell (z &&& 15#32).toNat).trans h8
          have h10 := xor32 (z >>> 4) (sts 4 (z &&& 15#32))
          generalize (z >>> 4) ^^^ sts 4 (z &&& 15#32) = z4 at *
          generalize sts 4 (z &&& 15#32) = zt at *
          generalize (z &&& 15#32) = zl at *
          generalize (z >>> 4) = zh at *
          go_wp2_with fail
          go_round
          case rel => exact ⟨j + 1, by omega, by go_num, by rw [h5.out]⟩
          case measure => simp [intOf]; omega
        · obtain rfl : j = 2 := by omega
          go_wp2_with fail
          go_round
          case rel => exact ⟨k + 1, by omega, by go_num, by rw [h3.out]⟩
          case measure => simp [intOf]; omega
    · obtain rfl : k = l.length := by omega
      rw [List.take_length]
      go_wp2_with fail
      go_ret
      exact ⟨by rw [hm.out]; exact ret_int h9.out, hx⟩

theorem more_any (s : BitVec 32) (A : Option Addr) (n c lo : Nat) (l : List UInt8) (w : World) (hr : Rd w lo A n l) (hn : n < 4611686018427387904) :
    Calls Try.prog 12 #[wv s, .slice A n c] w fun e w' => e = .returned (wv (more s l)) ∧ Ext w w' := by
  go_enter Try.func12, Try.ntmps12
  go_wp2_with fail
  refine (fourSteps_any _).mono ?_
  rintro e w1 ⟨rfl, hx1⟩
  go_simp
  go_wp2_with fail
  refine (extend_any s A n c lo l _ (hr.ext hx1) hn).mono ?_
  rintro e w2 ⟨rfl, hx2⟩
  go_simp
  go_wp2_with fail
  go_ret
  exact ⟨rfl, hx1.trans hx2⟩

theorem sum_any (A : Option Addr) (n c : Nat) (ls : List (List UInt8)) (w : World) (hr : RdL w A n ls) (hn : n ≤ 9223372036854775807) (hlen : ∀ l ∈ ls, l.length < 4611686018427387904) :
    Calls Try.prog 9 #[.slice A n c] w fun e w' => e = .returned (wv (more 0#32 (jn ls))) ∧ Ext w w' := by
  have hl := hr.len
  subst hl
  go_enter Try.func9, Try.ntmps9
  go_wp2_with fail
  refine (fourSteps_any _).mono ?_
  rintro e w1 ⟨rfl, hx1⟩
  go_simp
  have hb0 : Blk (w1.alloc (.cells (tabv (fun _ => 0#32) 16) 38)) w1.heap.size 38 (tabv (fun _ => 0#32) 16) := Blk.new w1 _ _
  have hb2 := hb0.setRow fours
  have hsz := hx1.size
  have hx3 := (hx1.alloc (.cells (tabv (fun _ => 0#32) 16) 38)).grown (setRow_grownBy _ w1.heap.size fours) (by simp; exact hsz)
  go_wp2_with (refine wpList_store_row rfl 38 _ _ rfl w1.heap.size fours rfl rfl 38 _ hb0 (size16t _) (by rw [tabv_size, tabv_size]) (tabv_one _ _) ?_)
  generalize w1.heap.size = g at *
  go_loopw [4, 6, 10] (fun x _ i wr => ∃ k : Nat, k ≤ ls.length ∧ i = .int .i64 k ∧ x = wv (more 0#32 (jn (ls.take k))) ∧ Blk wr g 38 fours ∧ Ext w wr) (fun _ _ i _ => ls.length - (intOf i).toNat)
  case atStart => exact ⟨0, Nat.zero_le _, rfl, by rw [jn_zero, more_nil]; rfl, hb2, hx3⟩
  case round =>
    obtain ⟨k, hk, rfl, rfl, hb, hx⟩ := hrel
    by_cases hlt : k < ls.length
    · obtain ⟨b, off, rfl, hbl, hc⟩ := (hr.ext hx).pos (by omega)
      obtain ⟨Ai, ci, hcell, hri⟩ := hc k hlt
      have hS := Lib.hid (show more 0#32 (jn (ls.take (k + 1))) = more (more 0#32 (jn (ls.take k))) ls[k] by rw [jn_snoc ls k hlt, more_append])
      have hk2 := hlen ls[k] (List.getElem_mem hlt)
      clear hc
      go_wp2_with (refine wpList_load_row rfl 38 _ rfl g rfl 38 _ (0, 0) _ hb Try.underlying38 rfl (size16t _) ?_)
      refine (extend_any _ Ai _ ci _ ls[k] _ hri hk2).mono ?_
      rintro e w3 ⟨rfl, hx4⟩
      go_simp
      have hb := hb.ext hx4
      have hx := hx.trans hx4
      go_wp2_with fail
      go_roundw
      case rel => exact ⟨k + 1, by omega, by go_num, by rw [hS.out], hb, hx⟩
      case measure => simp [intOf]; omega
    · obtain rfl : k = ls.length := by omega
      rw [jn_full]
      go_wp2_with fail
      go_ret
      exact ⟨rfl, hx⟩

theorem RdL.new1 {w : World} (e : TypeId) (A : Option Addr) (n c : Nat) (l : List UInt8) (h1 : Rd w 0 A n l) :
    RdL (w.alloc (.cells #[Value.slice A n c] e)) (some ⟨w.heap.size, 0, none⟩) 1 [l] := by
  have hl := h1.len
  subst hl
  exact RdL.new e [(A, c)] [l] rfl fun i h2 h3 => by
    obtain rfl : i = 0 := by simpa using h2
    exact h1
theorem wv_eq (a b : BitVec 32) : ((a.toNat : Int) == (b.toNat : Int)) = decide (a = b) := by
  by_cases h : a = b
  · subst h; simp
  · have : a.toNat ≠ b.toNat := fun e => h (BitVec.eq_of_toNat_eq e)
    simp [h]
    omega
theorem holds_any (A : Option Addr) (n c : Nat) (l : List UInt8) (s : BitVec 32) (w : World) (hr : Rd w 0 A n l) (hn : n < 4611686018427387904) :
    Calls Try.prog 10 #[.slice A n c, wv s] w fun e w' => e = .returned (.bool (decide (more 0#32 l = s))) ∧ Ext w w' := by
  have he := wv_eq (more 0#32 l) s
  generalize hq : more 0#32 l = q at *
  go_enter Try.func10, Try.ntmps10
  go_wp2_with fail
  refine (sum_any _ 1 1 [l] _ (RdL.new1 _ A n c l hr) (by decide) (by intro k hk; have := hr.len; simp at hk; subst hk; omega)).mono ?_
  rintro e w3 ⟨rfl, hx4⟩
  rw [show jn [l] = l by simp [jn], hq]
  have hx := ((Ext.refl w).alloc (.cells #[Value.slice A n c] 22)).trans hx4
  go_simp
  go_wp2_with fail
  go_ret
  exact ⟨rfl, hx⟩
end Go.Proofs.Ytpfepajenimejaa
