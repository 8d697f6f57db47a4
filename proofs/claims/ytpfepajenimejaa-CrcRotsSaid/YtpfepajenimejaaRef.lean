/- The contracts of the document's own answers for crc. Conditions: as each theorem says. -/
import Derived.Test.YtpfepajenimejaaExt
import Derived.Test.YtpfepajenimejaaPlan
namespace Go.Proofs.Ytpfepajenimejaa
open Go.RowKit
set_option linter.unusedVariables false
set_option linter.unusedSimpArgs false

theorem bit0_eq (v : BitVec 32) : ((v.toNat : Int) % 2 == 1) = v.getLsbD 0 := by
  have : v.getLsbD 0 = decide (v.toNat % 2 = 1) := by rw [← BitVec.testBit_toNat]; simp [Nat.testBit_zero]
  rw [this]
  rcases Nat.mod_two_eq_zero_or_one v.toNat with h | h
  · simp [h]; omega
  · simp [h]; omega

theorem rstep_any (v : BitVec 32) (w : World) :
    Calls Try.prog 20 #[wv v] w fun e w' => e = .returned (wv (sts 8 v)) ∧ w = w' := by
  go_enter Try.func20, Try.ntmps20
  go_wp2
  go_loop [0, 3] (fun x i => ∃ k : Nat, k ≤ 8 ∧ i = .int .i64 k ∧ x = wv (sts k v)) (fun _ i => 8 - (intOf i).toNat)
  case atStart => exact ⟨0, Nat.zero_le _, rfl, rfl⟩
  case round =>
    obtain ⟨k, hk, rfl, rfl⟩ := hrel
    by_cases hlt : k < 8
    · have h1 := bit0_eq (sts k v)
      have h2 := half1 (sts k v)
      have h3 := Lib.hid (show sts (k + 1) v = st (sts k v) from rfl)
      generalize sts k v = r at *
      have hv : r.toNat < 4294967296 := r.isLt
      cases hb : r.getLsbD 0
      · have h4 := Lib.hid (st_even r hb)
        rw [hb] at h1
        generalize r >>> 1 = rh at *
        go_wp2
        go_round
        case rel => exact ⟨k + 1, by omega, by go_num, by rw [h3.out, h4.out]⟩
        case measure => simp [intOf]; omega
      · have h4 := Lib.hid (show st r = (r >>> 1) ^^^ 2197175160#32 by unfold st; rw [hb]; simp)
        have h5 := Lib.hid (show bits .xor .u32 ((r >>> 1).toNat : Int) 2197175160 = (((r >>> 1) ^^^ 2197175160#32).toNat : Int) from xor32 _ 2197175160#32)
        rw [hb] at h1
        generalize r >>> 1 = rh at *
        go_wp2
        go_round
        case rel => exact ⟨k + 1, by omega, by go_num, by rw [h3.out, h4.out, wv, ← h5.out]⟩
        case measure => simp [intOf]; omega
    · obtain rfl : k = 8 := by omega
      go_wp2
      go_ret
      exact ⟨rfl, rfl⟩

theorem rmore_any (s : BitVec 32) (A : Option Addr) (n c lo : Nat) (l : List UInt8) (w : World) (hr : Rd w lo A n l) (hn : n < 4611686018427387904) :
    Calls Try.prog 13 #[wv s, .slice A n c] w fun e w' => e = .returned (wv (more s l)) ∧ w = w' := by
  have hl := hr.len
  subst hl
  have h1 := not32' s
  have h9 := Lib.hid (not32' (reg (~~~ s) l))
  have hm := Lib.hid (show more s l = ~~~ reg (~~~ s) l from rfl)
  generalize more s l = q at *
  generalize ~~~ s = ns at *
  go_enter Try.func13, Try.ntmps13
  go_wp2_with fail
  go_loop [5, 6] (fun x i => ∃ k : Nat, k ≤ l.length ∧ i = .int .i64 k ∧ x = wv (reg ns (l.take k))) (fun _ i => l.length - (intOf i).toNat)
  case atStart => exact ⟨0, Nat.zero_le _, rfl, rfl⟩
  case round =>
    obtain ⟨k, hk, rfl, rfl⟩ := hrel
    by_cases hlt : k < l.length
    · obtain ⟨b, off, rfl, -, -, hc⟩ := hr.pos (by omega)
      have hcell := hc k hlt
      have hu : (l[k]).toNat < 256 := (l[k]).toNat_lt
      have h2 := xor_byte (reg ns (l.take k)) l[k]
      have h3 := Lib.hid (show reg ns (l.take (k + 1)) = sts 8 (reg ns (l.take k) ^^^ w8 l[k]) by rw [← reg_snoc]; simp)
      clear hc
      generalize (reg ns (l.take k) ^^^ w8 l[k]) = y at *
      go_wp2_with fail
      refine (rstep_any y _).mono ?_
      rintro e w1 ⟨rfl, rfl⟩
      go_simp
      go_wp2_with fail
      go_round
      case rel => exact ⟨k + 1, by omega, by go_num, by rw [h3.out]⟩
      case measure => simp [intOf]; omega
    · obtain rfl : k = l.length := by omega
      rw [List.take_length]
      go_wp2_with fail
      go_ret
      exact ⟨by rw [hm.out]; exact ret_int h9.out, rfl⟩

theorem rsum_any (A : Option Addr) (n c lo : Nat) (l : List UInt8) (w : World) (hr : Rd w lo A n l) (hn : n < 4611686018427387904) :
    Calls Try.prog 8 #[.slice A n c] w fun e w' => e = .returned (wv (more 0#32 l)) ∧ w = w' := by
  go_enter Try.func8, Try.ntmps8
  go_wp2_with fail
  refine (rmore_any 0#32 A n c lo l _ hr hn).mono ?_
  rintro e w1 ⟨rfl, rfl⟩
  go_simp
  go_wp2_with fail
  go_ret
  exact ⟨rfl, rfl⟩

theorem size32r (f : Nat → BitVec 32) : (Try.prog.info? 43).map (·.size) = some (tabv f 32).size := by rw [tabv_size]; kernel_rfl
theorem bitk_eq (v : BitVec 32) (k : Nat) (hk : k < 32) : ((v.toNat : Int) / 2 ^ k % 2 == 1) = v.getLsbD k := by
  have := half v k
  rw [this, bit0_eq, BitVec.getLsbD_ushiftRight, Nat.add_zero]

theorem through_any (f : Nat → BitVec 32) (r : BitVec 32) (w : World) :
    Calls Try.prog 21 #[.agg (tabv f 32), wv r] w fun e w' => e = .returned (wv (lin f r 32)) ∧ Ext w w' := by
  go_enter Try.func21, Try.ntmps21
  go_wp2_with fail
  have hb : Blk (w.alloc (.cells (tabv f 32) 43)) w.heap.size 43 (tabv f 32) := Blk.new w _ _
  have hx : Ext w (w.alloc (.cells (tabv f 32) 43)) := (Ext.refl w).alloc _
  generalize w.alloc (.cells (tabv f 32) 43) = w1 at *
  generalize w.heap.size = g at *
  go_loop [5, 6] (fun p i => ∃ k : Nat, k ≤ 32 ∧ i = .int .i64 k ∧ p = wv (lin f r k)) (fun _ i => 32 - (intOf i).toNat)
  case atStart => exact ⟨0, Nat.zero_le _, rfl, rfl⟩
  case round =>
    obtain ⟨k, hk, rfl, rfl⟩ := hrel
    by_cases hlt : k < 32
    · have hc := (hb.cell k).trans (tabv_get f 32 k hlt)
      have h1 : (((r.toNat : Int) / 2 ^ k).tmod 2 == 1) = r.getLsbD k := by
        have h0 : (0 : Int) ≤ (r.toNat : Int) / 2 ^ k := by rw [half r k]; omega
        rw [Int.tmod_eq_emod_of_nonneg h0, bitk_eq r k hlt]
      have h3 := Lib.hid (xor32 (lin f r k) (f k))
      have h4 := Lib.hid (show lin f r (k + 1) = lin f r k ^^^ (if r.getLsbD k then f k else 0#32) from rfl)
      cases hbk : r.getLsbD k
      · rw [hbk] at h1 h4
        go_wp2_with fail
        go_round
        case rel => exact ⟨k + 1, by omega, by go_num, by rw [h4.out]; simp⟩
        case measure => simp [intOf]; omega
      · rw [hbk] at h1 h4
        go_wp2_with fail
        go_round
        case rel => exact ⟨k + 1, by omega, by go_num, by rw [h4.out, wv, if_pos rfl, ← h3.out]⟩
        case measure => simp [intOf]; omega
    · obtain rfl : k = 32 := by omega
      go_wp2_with fail
      go_ret
      exact ⟨rfl, hx⟩

theorem through_tab (k : Nat) (r : BitVec 32) (w : World) :
    Calls Try.prog 21 #[.agg (tabk k), wv r] w fun e w' => e = .returned (wv (sts k r)) ∧ Ext w w' := by
  have := through_any (fun i => sts k (1#32 <<< i)) r w
  rw [lin_sts] at this
  exact this
theorem shl1 (k : Nat) (h : k < 32) : (((1#32 <<< k).toNat : Nat) : Int) = 2 ^ k := by
  have : ∀ k : Fin 32, (((1#32 <<< k.1).toNat : Nat) : Int) = 2 ^ k.1 := by decide
  exact this ⟨k, h⟩

theorem exec_load_row {P : Program} {o : Oper} {a : Act} {w : World} {t : TypeId} {cs : Array Value} {d : TypeDesc} (ty : TypeId) (x : Operand) (ho : o.op = .load ty x)
    (g : Nat) (hx : a.eval x = .pointer (some ⟨g, 0, none⟩)) (hb : Blk w g t cs) (hu : P.underlying ty = some d) (hd : (match d with | .struct _ | .array _ _ => true | _ => false) = true) (hi : (P.info? ty).map (·.size) = some cs.size) :
    (execOp a.eval o).run P w = .ok (.value (.agg cs)) w := by
  unfold execOp
  simp only [ho, hx, Instr.loadAt, Instr.sureAddr, Sem.run_bind, Sem.run_pure, Result.andThen_ok, run_loadVar_row w g t ty cs (0, 0) d hb hu hd hi]

theorem far_any (r : BitVec 32) (n : Nat) (hn : n < 9223372036854775808) (w : World) :
    Calls Try.prog 15 #[wv r, .int .i64 n] w fun e w' => e = .returned (wv (sts (8 * n) r)) ∧ Ext w w' := by
  go_enter Try.func15, Try.ntmps15
  go_wp2_with fail
  have hb00 : Blk (w.alloc (.cells (tabv (fun _ => 0#32) 32) 43)) w.heap.size 43 (tabv (fun _ => 0#32) 32) := Blk.new w _ _
  have hx00 : Ext w (w.alloc (.cells (tabv (fun _ => 0#32) 32) 43)) := (Ext.refl w).alloc _
  go_loopw [6] (fun i wr => ∃ k : Nat, k ≤ 32 ∧ i = .int .i64 k ∧ Blk wr w.heap.size 43 (tabv (fun i => if i < k then sts 8 (1#32 <<< i) else 0#32) 32) ∧ Ext w wr) (fun i _ => 32 - (intOf i).toNat)
  case atStart => exact ⟨0, Nat.zero_le _, rfl, by rw [tabv_congr _ (fun _ => 0#32) 32 (fun i hi => by simp)]; exact hb00, hx00⟩
  case round =>
    obtain ⟨k, hk, rfl, hb, hx⟩ := hrel
    by_cases hlt : k < 32
    · have hf := hb.free k
      have hc := (hb.cell k).trans (tabv_get _ _ _ hlt)
      have hb1 := hb.set_ k (wv (sts 8 (1#32 <<< k)))
      rw [tabv_set, tabv_congr _ (fun i => if i < k + 1 then sts 8 (1#32 <<< i) else 0#32) 32 (fun i hi => by
        by_cases e : i = k
        · subst e; simp
        · by_cases h2 : i < k
          · simp [e, h2, show i < k + 1 by omega]
          · simp [e, h2, show ¬ i < k + 1 by omega])] at hb1
      have hx := hx.setCell (p := ⟨w.heap.size, k, none⟩) (by simp) (wv (sts 8 (1#32 <<< k)))
      have h1 := shl1 k hlt
      clear hb hb00 hx00
      have hs := rstep_any (1#32 <<< k) wr
      rw [show wv (1#32 <<< k) = .int .u32 (2 ^ k) by rw [wv, h1]] at hs
      have hki : (k : Int) < 32 := by omega
      go_wp2_with fail
      refine hs.mono ?_
      rintro e w1 ⟨rfl, rfl⟩
      clear hs
      go_simp
      go_wp2_with fail
      go_roundw
      case rel => exact ⟨k + 1, by omega, by go_num, hb1, hx⟩
      case measure => simp [intOf]; omega
    · obtain rfl : k = 32 := by omega
      rw [tabv_congr _ (fun i => sts 8 (1#32 <<< i)) 32 (fun i hi => by simp [hi])] at hb
      clear hb00 hx00
      have hg : w.heap.size < wr.heap.size := hb.lt
      generalize hgg : w.heap.size = g at *
      go_wp2_with fail
      rw [show ((32 : Nat) : Int) = 32 from rfl]
      go_loopw [0, 1, 7, 8] (fun x i _ _ wr => ∃ (m K0 : Nat) (y : BitVec 32), m ≤ n ∧ i = .int .i64 m ∧ x = wv y ∧ sts (K0 * m) y = sts (8 * n) r ∧ Blk wr g 43 (tabk K0) ∧ Ext w wr) (fun _ i _ _ _ => (intOf i).toNat)
      case atStart => exact ⟨n, 8, r, Nat.le_refl _, rfl, rfl, rfl, hb, hx⟩
      case round =>
        obtain ⟨m, K0, y, hm, rfl, rfl, he, hb, hx⟩ := hrel
        rcases Nat.eq_zero_or_pos m with rfl | hm0
        · go_wp2_with fail
          go_ret
          exact ⟨by rw [← he]; rfl, hx⟩
        · have h1 : (0 : Int) < m := by omega
          have h2 : ((m : Int) % 2 == 1) = decide (m % 2 = 1) := by
            rcases Nat.mod_two_eq_zero_or_one m with h | h
            · simp [h]; omega
            · simp [h]; omega
          rcases Nat.mod_two_eq_zero_or_one m with h3 | h3
          · rw [show decide (m % 2 = 1) = false by simp [h3]] at h2
            have hsame : ∃ z, z = wr := ⟨_, rfl⟩
            obtain ⟨ws, rfl⟩ := hsame
            go_wp2_with fail
            have hgw : g < ws.heap.size := hb.lt
            have hbq00 : Blk (ws.alloc (.cells (tabv (fun _ => 0#32) 32) 43)) ws.heap.size 43 (tabv (fun _ => 0#32) 32) := Blk.new ws _ _
            have hbm00 := hb.ext ((Ext.refl ws).alloc (.cells (tabv (fun _ => 0#32) 32) 43))
            have hx00 := hx.alloc (.cells (tabv (fun _ => 0#32) 32) 43)
            have hwq : w.heap.size ≤ ws.heap.size := hx.size
            generalize ws.heap.size = q at *
            go_loopw [8] (fun i wi => ∃ k : Nat, k ≤ 32 ∧ i = .int .i64 k ∧ Blk wi g 43 (tabk K0) ∧ Blk wi q 43 (tabv (fun i => if i < k then sts (K0 + K0) (1#32 <<< i) else 0#32) 32) ∧ Ext w wi) (fun i _ => 32 - (intOf i).toNat)
            case atStart => exact ⟨0, Nat.zero_le _, rfl, hbm00, by rw [tabv_congr _ (fun _ => 0#32) 32 (fun i hi => by simp)]; exact hbq00, hx00⟩
            case round =>
              obtain ⟨k, hk, rfl, hbm, hbq, hxw⟩ := hrel
              clear hbq00 hbm00 hx00
              by_cases hlt : k < 32
              · have hx0 := (Ext.refl wr).drew
                have hki : (k : Int) < 32 := by omega
                have hbm0 := hbm.ext hx0
                have hbq0 := hbq.ext hx0
                have hxw0 := hxw.drew
                go_wp2_with fail
                refine wp_region_plan (fun u u' => u.grownBy u' (some q)) [(0, true), (1, true), (2, true), (3, true), (4, true), (5, false), (6, true), (7, false)] (fun _ _ _ x y => grownBy_trans x y) (fun _ => World.grownBy.refl _ _) (by kernel_rfl) (by kernel_rfl) ?_
                intro K hK
                iterate 1 (
                  refine plan_q (v := ?_) rfl rfl ?_ ?_
                  rotate_left
                  · intro x
                    go_simp
                    first | done | rfl
                  simp only [Act.put, List.getElem_toArray, List.getElem_cons_zero, List.getElem_cons_succ, List.setIfInBounds_toArray, List.set_cons_zero, List.set_cons_succ])
                refine plan_q (v := .agg (tabk K0)) rfl rfl (fun x => exec_load_row 43 _ rfl g rfl (hbm0.other x.2 (by simp; omega)) Try.underlying43 rfl (size32r _)) ?_
                simp only [Act.put, List.getElem_toArray, List.getElem_cons_zero, List.getElem_cons_succ, List.setIfInBounds_toArray, List.set_cons_zero, List.set_cons_succ]
                iterate 2 (
                  refine plan_q (v := ?_) rfl rfl ?_ ?_
                  rotate_left
                  · intro x
                    go_simp
                    first | done | rfl
                  simp only [Act.put, List.getElem_toArray, List.getElem_cons_zero, List.getElem_cons_succ, List.setIfInBounds_toArray, List.set_cons_zero, List.set_cons_succ])
                refine plan_q (v := wv (sts K0 (1#32 <<< k))) rfl rfl ?_ ?_
                · intro x
                  have hmc := ((hbm0.other x.2 (by simp; omega)).cell k).trans (tabv_get _ _ _ hlt)
                  go_simp
                simp only [Act.put, List.getElem_toArray, List.getElem_cons_zero, List.getElem_cons_succ, List.setIfInBounds_toArray, List.set_cons_zero, List.set_cons_succ]
                refine plan_l rfl rfl ?_
                intro K2 hK2
                go_simp
                refine (through_tab K0 (sts K0 (1#32 <<< k)) _).mono ?_
                rintro e w5 ⟨rfl, hx5⟩
                go_simp
                refine hK2.out _ _ (hx5.grownBy _) ?_
                clear hK2 K2
                try simp only [Act.put, List.getElem_toArray, List.getElem_cons_zero, List.getElem_cons_succ, List.setIfInBounds_toArray, List.set_cons_zero, List.set_cons_succ]
                iterate 1 (
                  refine plan_q (v := ?_) rfl rfl ?_ ?_
                  rotate_left
                  · intro x
                    go_simp
                    first | done | rfl
                  simp only [Act.put, List.getElem_toArray, List.getElem_cons_zero, List.getElem_cons_succ, List.setIfInBounds_toArray, List.set_cons_zero, List.set_cons_succ])
                have hbm5 := hbm0.ext hx5
                have hbq5 := hbq0.ext hx5
                have hxw5 := hxw0.trans hx5
                have hf := hbq5.free k
                have hcq := (hbq5.cell k).trans (tabv_get _ _ _ hlt)
                have hb1 := hbq5.set_ k (wv (sts (K0 + K0) (1#32 <<< k)))
                rw [tabv_set, tabv_congr _ (fun i => if i < k + 1 then sts (K0 + K0) (1#32 <<< i) else 0#32) 32 (fun i hi => by
                  by_cases e : i = k
                  · subst e; simp
                  · by_cases h2 : i < k
                    · simp [e, h2, show i < k + 1 by omega]
                    · simp [e, h2, show ¬ i < k + 1 by omega])] at hb1
                have hbm6 := hbm5.other (setCell_grownBy w5 ⟨q, k, none⟩ (wv (sts (K0 + K0) (1#32 <<< k)))) (by simp; omega)
                have hx6 := hxw5.setCell (p := ⟨q, k, none⟩) (by simp; omega) (wv (sts (K0 + K0) (1#32 <<< k)))
                rw [sts_add] at hb1 hbm6 hx6
                refine plan_l rfl rfl ?_
                intro K2 hK2
                go_simp
                refine hK2.out _ _ (setCell_grownBy _ _ _) ?_
                clear hK2 K2
                try simp only [Act.put, List.getElem_toArray, List.getElem_cons_zero, List.getElem_cons_succ, List.setIfInBounds_toArray, List.set_cons_zero, List.set_cons_succ]
                refine plan_end (hK.out _ _ ?_)
                clear hK K
                go_wp2_with fail
                go_roundw
                case rel => exact ⟨k + 1, by omega, by go_num, hbm6, hb1, hx6⟩
                case measure => simp [intOf]; omega
              · obtain rfl : k = 32 := by omega
                rw [tabv_congr _ (fun i => sts (K0 + K0) (1#32 <<< i)) 32 (fun i hi => by simp [hi])] at hbq
                have hb4 := hbm.setRow (tabk (K0 + K0))
                have hx5 := hxw.grown (setRow_grownBy wr g (tabk (K0 + K0))) (by simp; omega)
                go_wp2_with (first | refine wpList_load_row rfl 43 _ rfl q rfl 43 _ (0, 0) _ hbq Try.underlying43 rfl (size32r _) ?_ | refine wpList_store_row rfl 43 _ _ rfl g (tabk (K0 + K0)) rfl rfl 43 _ hbm (size32r _) (by rw [tabv_size, tabv_size]) (tabv_one _ _) ?_)
                go_roundw
                case rel =>
                  refine ⟨m / 2, K0 + K0, y, by omega, by go_num, rfl, ?_, hb4, hx5⟩
                  rw [← he]; congr 1; rw [← Nat.two_mul, Nat.mul_comm 2 K0, Nat.mul_assoc]; congr 1; omega
                case measure => simp [intOf]; omega

          · rw [show decide (m % 2 = 1) = true by simp [h3]] at h2
            go_wp2_with (refine wpList_load_row rfl 43 _ rfl g rfl 43 _ (0, 0) _ hb Try.underlying43 rfl (size32r _) ?_)
            refine (through_tab K0 y _).mono ?_
            rintro e ws ⟨rfl, hx4⟩
            go_simp
            have hb := hb.ext hx4
            have hx := hx.trans hx4
            go_wp2_with fail
            have hgw : g < ws.heap.size := hb.lt
            have hbq00 : Blk (ws.alloc (.cells (tabv (fun _ => 0#32) 32) 43)) ws.heap.size 43 (tabv (fun _ => 0#32) 32) := Blk.new ws _ _
            have hbm00 := hb.ext ((Ext.refl ws).alloc (.cells (tabv (fun _ => 0#32) 32) 43))
            have hx00 := hx.alloc (.cells (tabv (fun _ => 0#32) 32) 43)
            have hwq : w.heap.size ≤ ws.heap.size := hx.size
            generalize ws.heap.size = q at *
            go_loopw [8] (fun i wi => ∃ k : Nat, k ≤ 32 ∧ i = .int .i64 k ∧ Blk wi g 43 (tabk K0) ∧ Blk wi q 43 (tabv (fun i => if i < k then sts (K0 + K0) (1#32 <<< i) else 0#32) 32) ∧ Ext w wi) (fun i _ => 32 - (intOf i).toNat)
            case atStart => exact ⟨0, Nat.zero_le _, rfl, hbm00, by rw [tabv_congr _ (fun _ => 0#32) 32 (fun i hi => by simp)]; exact hbq00, hx00⟩
            case round =>
              obtain ⟨k, hk, rfl, hbm, hbq, hxw⟩ := hrel
              clear hbq00 hbm00 hx00
              by_cases hlt : k < 32
              · have hx0 := (Ext.refl wr).drew
                have hki : (k : Int) < 32 := by omega
                have hbm0 := hbm.ext hx0
                have hbq0 := hbq.ext hx0
                have hxw0 := hxw.drew
                go_wp2_with fail
                refine wp_region_plan (fun u u' => u.grownBy u' (some q)) [(0, true), (1, true), (2, true), (3, true), (4, true), (5, false), (6, true), (7, false)] (fun _ _ _ x y => grownBy_trans x y) (fun _ => World.grownBy.refl _ _) (by kernel_rfl) (by kernel_rfl) ?_
                intro K hK
                iterate 1 (
                  refine plan_q (v := ?_) rfl rfl ?_ ?_
                  rotate_left
                  · intro x
                    go_simp
                    first | done | rfl
                  simp only [Act.put, List.getElem_toArray, List.getElem_cons_zero, List.getElem_cons_succ, List.setIfInBounds_toArray, List.set_cons_zero, List.set_cons_succ])
                refine plan_q (v := .agg (tabk K0)) rfl rfl (fun x => exec_load_row 43 _ rfl g rfl (hbm0.other x.2 (by simp; omega)) Try.underlying43 rfl (size32r _)) ?_
                simp only [Act.put, List.getElem_toArray, List.getElem_cons_zero, List.getElem_cons_succ, List.setIfInBounds_toArray, List.set_cons_zero, List.set_cons_succ]
                iterate 2 (
                  refine plan_q (v := ?_) rfl rfl ?_ ?_
                  rotate_left
                  · intro x
                    go_simp
                    first | done | rfl
                  simp only [Act.put, List.getElem_toArray, List.getElem_cons_zero, List.getElem_cons_succ, List.setIfInBounds_toArray, List.set_cons_zero, List.set_cons_succ])
                refine plan_q (v := wv (sts K0 (1#32 <<< k))) rfl rfl ?_ ?_
                · intro x
                  have hmc := ((hbm0.other x.2 (by simp; omega)).cell k).trans (tabv_get _ _ _ hlt)
                  go_simp
                simp only [Act.put, List.getElem_toArray, List.getElem_cons_zero, List.getElem_cons_succ, List.setIfInBounds_toArray, List.set_cons_zero, List.set_cons_succ]
                refine plan_l rfl rfl ?_
                intro K2 hK2
                go_simp
                refine (through_tab K0 (sts K0 (1#32 <<< k)) _).mono ?_
                rintro e w5 ⟨rfl, hx5⟩
                go_simp
                refine hK2.out _ _ (hx5.grownBy _) ?_
                clear hK2 K2
                try simp only [Act.put, List.getElem_toArray, List.getElem_cons_zero, List.getElem_cons_succ, List.setIfInBounds_toArray, List.set_cons_zero, List.set_cons_succ]
                iterate 1 (
                  refine plan_q (v := ?_) rfl rfl ?_ ?_
                  rotate_left
                  · intro x
                    go_simp
                    first | done | rfl
                  simp only [Act.put, List.getElem_toArray, List.getElem_cons_zero, List.getElem_cons_succ, List.setIfInBounds_toArray, List.set_cons_zero, List.set_cons_succ])
                have hbm5 := hbm0.ext hx5
                have hbq5 := hbq0.ext hx5
                have hxw5 := hxw0.trans hx5
                have hf := hbq5.free k
                have hcq := (hbq5.cell k).trans (tabv_get _ _ _ hlt)
                have hb1 := hbq5.set_ k (wv (sts (K0 + K0) (1#32 <<< k)))
                rw [tabv_set, tabv_congr _ (fun i => if i < k + 1 then sts (K0 + K0) (1#32 <<< i) else 0#32) 32 (fun i hi => by
                  by_cases e : i = k
                  · subst e; simp
                  · by_cases h2 : i < k
                    · simp [e, h2, show i < k + 1 by omega]
                    · simp [e, h2, show ¬ i < k + 1 by omega])] at hb1
                have hbm6 := hbm5.other (setCell_grownBy w5 ⟨q, k, none⟩ (wv (sts (K0 + K0) (1#32 <<< k)))) (by simp; omega)
                have hx6 := hxw5.setCell (p := ⟨q, k, none⟩) (by simp; omega) (wv (sts (K0 + K0) (1#32 <<< k)))
                rw [sts_add] at hb1 hbm6 hx6
                refine plan_l rfl rfl ?_
                intro K2 hK2
                go_simp
                refine hK2.out _ _ (setCell_grownBy _ _ _) ?_
                clear hK2 K2
                try simp only [Act.put, List.getElem_toArray, List.getElem_cons_zero, List.getElem_cons_succ, List.setIfInBounds_toArray, List.set_cons_zero, List.set_cons_succ]
                refine plan_end (hK.out _ _ ?_)
                clear hK K
                go_wp2_with fail
                go_roundw
                case rel => exact ⟨k + 1, by omega, by go_num, hbm6, hb1, hx6⟩
                case measure => simp [intOf]; omega
              · obtain rfl : k = 32 := by omega
                rw [tabv_congr _ (fun i => sts (K0 + K0) (1#32 <<< i)) 32 (fun i hi => by simp [hi])] at hbq
                have hb4 := hbm.setRow (tabk (K0 + K0))
                have hx5 := hxw.grown (setRow_grownBy wr g (tabk (K0 + K0))) (by simp; omega)
                go_wp2_with (first | refine wpList_load_row rfl 43 _ rfl q rfl 43 _ (0, 0) _ hbq Try.underlying43 rfl (size32r _) ?_ | refine wpList_store_row rfl 43 _ _ rfl g (tabk (K0 + K0)) rfl rfl 43 _ hbm (size32r _) (by rw [tabv_size, tabv_size]) (tabv_one _ _) ?_)
                go_roundw
                case rel =>
                  refine ⟨m / 2, K0 + K0, sts K0 y, by omega, by go_num, rfl, ?_, hb4, hx5⟩
                  rw [← he, ← sts_add]
                  congr 1
                  rw [← Nat.two_mul, Nat.mul_comm 2 K0, Nat.mul_assoc, ← Nat.mul_succ]
                  congr 1
                  omega
                case measure => simp [intOf]; omega

end Go.Proofs.Ytpfepajenimejaa
