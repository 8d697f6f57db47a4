/- WireKeeps answers true, whatever fields it is given. No conditions. -/
import Derived.Test.YtbikncgabmgphaaFields
import Derived.Test.YtbikncgabmgphaaFrame
namespace Go.Proofs.Ytbikncgabmgphaa.lawKeeps
open Go.ChangeShapes Go.WideShapes Go.ChangeAt Go.RowKit
open Go.ChangeMaps (open_string shut_string)
set_option linter.unusedVariables false
set_option linter.unusedSimpArgs false

set_option maxRecDepth 100000 in
set_option maxHeartbeats 3200000 in
theorem walk (w : World) (A : Option Addr) (n c : Nat) (fs : List Fd) (hf : FieldsIn w A n fs) (hc : n ≤ c) :
    Calls Try.prog 10 #[.slice A n c] w fun e w' => e = .returned (.bool true) ∧ Ext w w' := by
  have hfl := hf.1
  go_enter Try.func10, Try.ntmps10
  go_wp2_with fail
  refine (known_any _).mono ?_
  rintro e w0 ⟨rfl, hx0⟩
  go_wp2_with fail
  go_loopw [3, 4] (fun row i wr => ∃ k : Nat, k ≤ n ∧ k ≤ 101 ∧ i = .int .i64 k ∧ (∃ Ak ck, row = .slice Ak (codes (fs.take k)).length ck ∧ (codes (fs.take k)).length ≤ ck ∧ Rd wr 0 Ak (codes (fs.take k)).length (codes (fs.take k))) ∧ (∀ f ∈ fs.take k, okF f) ∧ Ext w wr) (fun _ i _ => n - (intOf i).toNat)
  case atStart => exact ⟨0, Nat.zero_le _, Nat.zero_le _, rfl, ⟨none, 0, rfl, Nat.le_refl _, Rd.nil _ _ _⟩, by simp, hx0⟩
  case round =>
    obtain ⟨k, hk, hk2, rfl, ⟨Ak, ck, rfl, hck, hrow⟩, hok, hy⟩ := hrel
    have hcl := codes_len _ hok
    have hkl : (fs.take k).length ≤ k := by simp; omega
    have hRl : (codes (fs.take k)).length ≤ 400000 := by omega
    by_cases hlt : k < n
    · obtain ⟨hl, hz | ⟨b, off, rfl, hcells⟩⟩ := hf
      · omega
      · have hkf : k < fs.length := by omega
        obtain ⟨Ai, ki, ci, d0, d1, d2, hr, wf0, wf1⟩ := hcells k hkf
        have hsn := Lib.hid (show codes (fs.take (k + 1)) = codes (fs.take k) ++ code fs[k] by rw [List.take_succ_eq_append_getElem hkf, codes_snoc])
        have hok' := Lib.hid (show okF fs[k] → ∀ f ∈ fs.take (k + 1), okF f by
          intro h f hm
          rw [List.take_succ_eq_append_getElem hkf, List.mem_append] at hm
          rcases hm with hm | hm
          · exact hok f hm
          · rw [List.mem_singleton.1 hm]; exact h)
        generalize codes (fs.take k) = R at *
        generalize fs[k] = f at *
        obtain ⟨N, S, B⟩ := f
        dsimp only at *
        have hBl := hr.len
        have hyd := hy.drew
        have e0 : ∀ x : Above Ext wr.drew, x.1.cell? ⟨b, off + k * 3, none⟩ = some (.int .u64 N) := fun x => (hyd.trans x.2).cellSome d0
        have e1 : ∀ x : Above Ext wr.drew, x.1.cell? ⟨b, off + k * 3 + 1, none⟩ = some (.int .i64 S) := fun x => (hyd.trans x.2).cellSome d1
        have e2 : ∀ x : Above Ext wr.drew, x.1.cell? ⟨b, off + k * 3 + 2, none⟩ = some (.slice Ai ki ci) := fun x => (hyd.trans x.2).cellSome d2
        clear hcells hcl hkl
        by_cases h100 : 100 < k
        · have h100' : (100 : Int) < (k : Int) := by omega
          clear h100 hok'
          go_wp2_with fail
          refine wp_region_plan Ext [(0, true), (1, true), (2, true), (3, true), (4, true), (5, true), (6, true), (7, true), (8, true), (9, true), (10, true), (11, true), (12, true), (13, true), (14, true), (15, true), (16, true), (17, true), (18, true), (19, true), (20, true), (21, true), (22, true), (23, true), (24, true), (25, true), (26, true), (27, true), (28, true), (29, false), (30, true), (31, true), (32, true)] (fun _ _ _ => Ext.trans) Ext.refl (by kernel_rfl) (by kernel_rfl) ?_
          intro K hK
          iterate 3 (
            refine plan_q (v := ?_) rfl rfl ?_ ?_
            rotate_left
            · intro x
              go_simp
              first | done | rfl
            simp only [Act.put, List.getElem_toArray, List.getElem_cons_zero, List.getElem_cons_succ, List.setIfInBounds_toArray, List.set_cons_zero, List.set_cons_succ])
          iterate 7 (
            refine plan_n rfl rfl ?_
            simp only [Act.put, List.getElem_toArray, List.getElem_cons_zero, List.getElem_cons_succ, List.setIfInBounds_toArray, List.set_cons_zero, List.set_cons_succ])
          iterate 2 (
            refine plan_q (v := ?_) rfl rfl ?_ ?_
            rotate_left
            · intro x
              go_simp
              first | done | rfl
            simp only [Act.put, List.getElem_toArray, List.getElem_cons_zero, List.getElem_cons_succ, List.setIfInBounds_toArray, List.set_cons_zero, List.set_cons_succ])
          iterate 20 (
            refine plan_n rfl rfl ?_
            simp only [Act.put, List.getElem_toArray, List.getElem_cons_zero, List.getElem_cons_succ, List.setIfInBounds_toArray, List.set_cons_zero, List.set_cons_succ])
          iterate 1 (
            refine plan_q (v := ?_) rfl rfl ?_ ?_
            rotate_left
            · intro x
              go_simp
              first | done | rfl
            simp only [Act.put, List.getElem_toArray, List.getElem_cons_zero, List.getElem_cons_succ, List.setIfInBounds_toArray, List.set_cons_zero, List.set_cons_succ])
          refine plan_end (hK.out _ _ ?_)
          clear hK K
          go_wp2_with fail
          go_ret
          exact ⟨rfl, hyd⟩
        have h100' : ¬ (100 : Int) < (k : Int) := by omega
        by_cases hB : 3000 < ki
        · have hB' : (3000 : Int) < (ki : Int) := by omega
          clear hok' hB
          go_wp2_with fail
          have n100 : decide ((100 : Int) < (k : Int)) = false := by simp; omega
          refine wp_region_plan Ext [(0, true), (1, true), (2, true), (3, true), (4, true), (5, true), (6, true), (7, true), (8, true), (9, true), (10, true), (11, true), (12, true), (13, true), (14, true), (15, true), (16, true), (17, true), (18, true), (19, true), (20, true), (21, true), (22, true), (23, true), (24, true), (25, true), (26, true), (27, true), (28, true), (29, false), (30, true), (31, true), (32, true)] (fun _ _ _ => Ext.trans) Ext.refl (by kernel_rfl) (by kernel_rfl) ?_
          intro K hK
          iterate 12 (
            refine plan_q (v := ?_) rfl rfl ?_ ?_
            rotate_left
            · intro x
              go_simp
              first | done | rfl
            simp only [Act.put, List.getElem_toArray, List.getElem_cons_zero, List.getElem_cons_succ, List.setIfInBounds_toArray, List.set_cons_zero, List.set_cons_succ])
          iterate 20 (
            refine plan_n rfl rfl ?_
            simp only [Act.put, List.getElem_toArray, List.getElem_cons_zero, List.getElem_cons_succ, List.setIfInBounds_toArray, List.set_cons_zero, List.set_cons_succ])
          iterate 1 (
            refine plan_q (v := ?_) rfl rfl ?_ ?_
            rotate_left
            · intro x
              go_simp
              first | done | rfl
            simp only [Act.put, List.getElem_toArray, List.getElem_cons_zero, List.getElem_cons_succ, List.setIfInBounds_toArray, List.set_cons_zero, List.set_cons_succ])
          refine plan_end (hK.out _ _ ?_)
          clear hK K
          go_wp2_with fail
          go_ret
          exact ⟨rfl, hyd⟩
        have hB' : ¬ (3000 : Int) < (ki : Int) := by omega
        have rB := hr.ext hyd
        have rR := hrow.ext (Ext.refl wr).drew
        have f0 := hyd.cellSome d0
        have f1 := hyd.cellSome d1
        have f2 := hyd.cellSome d2
        by_cases hS : S = 0
        · subst hS
          have hcode := Lib.hid (show code (N, 0, B) = blob B from rfl)
          have hokf := hok'.out ⟨by show B.length ≤ 3000; omega, wf0, fun h => absurd rfl h⟩
          have hkb : ki ≤ 65535 := by omega
          clear hok' hB
          go_wp2_with fail
          have n100 : decide ((100 : Int) < (k : Int)) = false := by simp; omega
          have n3000 : decide ((3000 : Int) < (ki : Int)) = false := by simp; omega
          refine wp_region_plan Ext [(0, true), (1, true), (2, true), (3, true), (4, true), (5, true), (6, true), (7, true), (8, true), (9, true), (10, true), (11, true), (12, true), (13, true), (14, true), (15, true), (16, true), (17, true), (18, true), (19, true), (20, true), (21, true), (22, true), (23, true), (24, true), (25, true), (26, true), (27, true), (28, true), (29, false), (30, true), (31, true), (32, true)] (fun _ _ _ => Ext.trans) Ext.refl (by kernel_rfl) (by kernel_rfl) ?_
          intro K hK
          iterate 19 (
            refine plan_q (v := ?_) rfl rfl ?_ ?_
            rotate_left
            · intro x
              go_simp
              first | done | rfl
            simp only [Act.put, List.getElem_toArray, List.getElem_cons_zero, List.getElem_cons_succ, List.setIfInBounds_toArray, List.set_cons_zero, List.set_cons_succ])
          iterate 12 (
            refine plan_n rfl rfl ?_
            simp only [Act.put, List.getElem_toArray, List.getElem_cons_zero, List.getElem_cons_succ, List.setIfInBounds_toArray, List.set_cons_zero, List.set_cons_succ])
          iterate 2 (
            refine plan_q (v := ?_) rfl rfl ?_ ?_
            rotate_left
            · intro x
              go_simp
              first | done | rfl
            simp only [Act.put, List.getElem_toArray, List.getElem_cons_zero, List.getElem_cons_succ, List.setIfInBounds_toArray, List.set_cons_zero, List.set_cons_succ])
          refine plan_end (hK.out _ _ ?_)
          clear hK K
          clear e0 e1 e2 n100 n3000
          go_wp2_with fail
          refine (blob_any Ai ki ci _ B _ rB hkb).mono ?_
          rintro e w1 ⟨A1, c1, rfl, hr1, hx1⟩
          clear f0 f2
          replace f1 := hx1.cellSome f1
          go_wp2_with (go_at_call 13; refine (num_any _ _).mono ?_; rintro e w1 ⟨rfl, rfl⟩)
          refine (join_cap _ _ _ [R, blob B] _ (RdL.new2 _ _ _ _ _ _ _ _ _ (rR.ext hx1) (hr1.low (Nat.zero_le _))) (by rw [jn_two, List.length_append, blob_length]; omega) (by omega)).mono ?_
          rintro e w2 ⟨A2, c2, rfl, hr2, hx2, hc2⟩
          go_wp2_with fail
          go_roundw
          case rel =>
            have hnew := hsn.out
            rw [hcode.out, ← jn_two] at hnew
            refine ⟨k + 1, by omega, by omega, by go_num, ?_, hokf, (hyd.trans hx1).trans (((Ext.refl _).alloc _).trans hx2)⟩
            rw [hnew]
            exact ⟨A2, c2, rfl, hc2, hr2.low (Nat.zero_le _)⟩
          case measure => simp [intOf]; omega
        · by_cases hroom : room N S = true
          · have hokf := hok'.out ⟨by show B.length ≤ 3000; omega, wf0, fun _ => hroom⟩
            have hcode := Lib.hid (show code (N, S, B) = beb N.toNat S.toNat from if_neg hS)
            have hu := Lib.hid (u64_of wf0)
            have hS8 : S.toNat ≤ 8 := by
              have := room_lt hroom hu.out.1 hu.out.2
              omega
            have hkb : ki ≤ 65535 := by omega
            clear hok' hB
            go_wp2_with fail
            have n100 : decide ((100 : Int) < (k : Int)) = false := by simp; omega
            have n3000 : decide ((3000 : Int) < (ki : Int)) = false := by simp; omega
            have nS : (S != 0) = true := by simp [hS]
            refine wp_region_plan Ext [(0, true), (1, true), (2, true), (3, true), (4, true), (5, true), (6, true), (7, true), (8, true), (9, true), (10, true), (11, true), (12, true), (13, true), (14, true), (15, true), (16, true), (17, true), (18, true), (19, true), (20, true), (21, true), (22, true), (23, true), (24, true), (25, true), (26, true), (27, true), (28, true), (29, false), (30, true), (31, true), (32, true)] (fun _ _ _ => Ext.trans) Ext.refl (by kernel_rfl) (by kernel_rfl) ?_
            intro K hK
            iterate 29 (
              refine plan_q (v := ?_) rfl rfl ?_ ?_
              rotate_left
              · intro x
                go_simp
                first | done | rfl
              simp only [Act.put, List.getElem_toArray, List.getElem_cons_zero, List.getElem_cons_succ, List.setIfInBounds_toArray, List.set_cons_zero, List.set_cons_succ])
            refine plan_l rfl rfl ?_
            intro K2 hK2
            go_simp
            refine (room_any N S _).mono ?_
            rintro e wf ⟨rfl, rfl⟩
            go_simp
            refine hK2.out _ _ (Ext.refl _) ?_
            clear hK2 K2
            try simp only [Act.put, List.getElem_toArray, List.getElem_cons_zero, List.getElem_cons_succ, List.setIfInBounds_toArray, List.set_cons_zero, List.set_cons_succ]
            iterate 3 (
              refine plan_q (v := ?_) rfl rfl ?_ ?_
              rotate_left
              · intro x
                go_simp
                first | done | rfl
              simp only [Act.put, List.getElem_toArray, List.getElem_cons_zero, List.getElem_cons_succ, List.setIfInBounds_toArray, List.set_cons_zero, List.set_cons_succ])
            refine plan_end (hK.out _ _ ?_)
            clear hK K
            clear e0 e1 e2 n100 n3000
            go_wp2_with fail
            refine (blob_any Ai ki ci _ B _ rB hkb).mono ?_
            rintro e w1 ⟨A1, c1, rfl, hr1, hx1⟩
            have hyw := hyd.trans (hx1.trans (Ext.refl _).drew)
            have e0 : ∀ x : Above Ext w1.drew, x.1.cell? ⟨b, off + k * 3, none⟩ = some (.int .u64 N) := fun x => (hyw.trans x.2).cellSome d0
            have e1 : ∀ x : Above Ext w1.drew, x.1.cell? ⟨b, off + k * 3 + 1, none⟩ = some (.int .i64 S) := fun x => (hyw.trans x.2).cellSome d1
            replace f1 := hx1.cellSome f1
            clear f0 f2
            go_wp2_with fail
            refine wp_region_plan Ext [(0, true), (1, true), (2, true), (3, true), (4, true), (5, true), (6, true), (7, true), (8, true), (9, true), (10, false), (11, true), (12, true), (13, true), (14, true), (15, true)] (fun _ _ _ => Ext.trans) Ext.refl (by kernel_rfl) (by kernel_rfl) ?_
            intro K hK
            iterate 10 (
              refine plan_q (v := ?_) rfl rfl ?_ ?_
              rotate_left
              · intro x
                go_simp
                first | done | rfl
              simp only [Act.put, List.getElem_toArray, List.getElem_cons_zero, List.getElem_cons_succ, List.setIfInBounds_toArray, List.set_cons_zero, List.set_cons_succ])
            refine plan_l rfl rfl ?_
            intro K2 hK2
            go_simp
            refine (put_yes N S _ hroom hu.out.1 hu.out.2).mono ?_
            rintro e w2 ⟨A2, c2, rfl, hr2, hx2⟩
            go_simp
            refine hK2.out _ _ hx2 ?_
            clear hK2 K2
            try simp only [Act.put, List.getElem_toArray, List.getElem_cons_zero, List.getElem_cons_succ, List.setIfInBounds_toArray, List.set_cons_zero, List.set_cons_succ]
            iterate 5 (
              refine plan_q (v := ?_) rfl rfl ?_ ?_
              rotate_left
              · intro x
                go_simp
                first | done | rfl
              simp only [Act.put, List.getElem_toArray, List.getElem_cons_zero, List.getElem_cons_succ, List.setIfInBounds_toArray, List.set_cons_zero, List.set_cons_succ])
            refine plan_end (hK.out _ _ ?_)
            clear hK K
            clear e0 e1 f1
            go_wp2_with (go_at_call 13; refine (num_any _ _).mono ?_; rintro e w1 ⟨rfl, rfl⟩)
            have rR2 := rR.ext ((hx1.trans (Ext.refl _).drew).trans hx2)
            refine (join_cap _ _ _ [R, beb N.toNat S.toNat] _ (RdL.new2 _ _ _ _ _ _ _ _ _ rR2 (hr2.low (Nat.zero_le _))) (by rw [jn_two, List.length_append, beb_length]; omega) (by omega)).mono ?_
            rintro e w3 ⟨A3, c3, rfl, hr3, hx3, hc3⟩
            go_wp2_with fail
            go_roundw
            case rel =>
              have hnew := hsn.out
              rw [hcode.out, ← jn_two] at hnew
              refine ⟨k + 1, by omega, by omega, by go_num, ?_, hokf, (hyw.trans hx2).trans (((Ext.refl _).alloc _).trans hx3)⟩
              rw [hnew]
              exact ⟨A3, c3, rfl, hc3, hr3.low (Nat.zero_le _)⟩
            case measure => simp [intOf]; omega
          · have hroom' : room N S = false := by simpa using hroom
            clear hok' hB hroom
            go_wp2_with fail
            have n100 : decide ((100 : Int) < (k : Int)) = false := by simp; omega
            have n3000 : decide ((3000 : Int) < (ki : Int)) = false := by simp; omega
            have nS : (S != 0) = true := by simp [hS]
            refine wp_region_plan Ext [(0, true), (1, true), (2, true), (3, true), (4, true), (5, true), (6, true), (7, true), (8, true), (9, true), (10, true), (11, true), (12, true), (13, true), (14, true), (15, true), (16, true), (17, true), (18, true), (19, true), (20, true), (21, true), (22, true), (23, true), (24, true), (25, true), (26, true), (27, true), (28, true), (29, false), (30, true), (31, true), (32, true)] (fun _ _ _ => Ext.trans) Ext.refl (by kernel_rfl) (by kernel_rfl) ?_
            intro K hK
            iterate 29 (
              refine plan_q (v := ?_) rfl rfl ?_ ?_
              rotate_left
              · intro x
                go_simp
                first | done | rfl
              simp only [Act.put, List.getElem_toArray, List.getElem_cons_zero, List.getElem_cons_succ, List.setIfInBounds_toArray, List.set_cons_zero, List.set_cons_succ])
            refine plan_l rfl rfl ?_
            intro K2 hK2
            go_simp
            refine (room_any N S _).mono ?_
            rw [hroom']
            rintro e wf ⟨rfl, rfl⟩
            go_simp
            refine hK2.out _ _ (Ext.refl _) ?_
            clear hK2 K2
            try simp only [Act.put, List.getElem_toArray, List.getElem_cons_zero, List.getElem_cons_succ, List.setIfInBounds_toArray, List.set_cons_zero, List.set_cons_succ]
            iterate 3 (
              refine plan_q (v := ?_) rfl rfl ?_ ?_
              rotate_left
              · intro x
                go_simp
                first | done | rfl
              simp only [Act.put, List.getElem_toArray, List.getElem_cons_zero, List.getElem_cons_succ, List.setIfInBounds_toArray, List.set_cons_zero, List.set_cons_succ])
            refine plan_end (hK.out _ _ ?_)
            clear hK K
            go_wp2_with fail
            go_ret
            exact ⟨rfl, hyd⟩
    · obtain rfl : k = n := by omega
      rw [← hfl, List.take_length] at hok hck hrow hRl
      rw [← hfl, List.take_length]
      have hfr := hf.ext hy
      rw [hfl]
      have hread := Lib.hid (show fs.foldl kstep (true, some (codes fs)) = (true, some []) by
        have := codes_read fs [] hok
        rwa [List.append_nil] at this)
      have hcut := codes_cut fs hok
      have hn1 : k ≤ 1000 := by omega
      have hb1 : (codes fs).length ≤ 1000000000 := by omega
      clear hcl hkl hRl hlt
      generalize codes fs = R at *
      go_wp2_with fail
      refine (read_any Ak R.length ck _ R _ hrow hb1).mono ?_
      rintro e w1 ⟨g1, rfl, hg1, hx1⟩
      go_wp2_with fail
      refine (keeps_any wr w1 g1 _ (some R) A k c fs hx1 (Nat.le_refl _) hg1 hfr hn1).mono ?_
      rw [hread.out]
      rintro e w2 ⟨rfl, hg2, hx2⟩
      dsimp only at hg2
      go_wp2_with fail
      refine (end_any g1 _ _ _ hg2).mono ?_
      rw [show rend (some []) = 0 from rfl]
      rintro e wf ⟨rfl, rfl⟩
      by_cases hz : R.length = 0
      · go_wp2_with (go_at_call 13; refine (num_any _ _).mono ?_; rintro e w1 ⟨rfl, rfl⟩)
        go_ret
        exact ⟨rfl, hy.trans hx2⟩
      · have hc2 := Lib.hid (hcut (List.ne_nil_of_length_pos (by omega)))
        have q1 : ((R.length : Int) == 0) = false := by rw [beq_eq_false_iff_ne]; omega
        have q2 : ((R.length : Int) - 1).toNat = R.length - 1 := by omega
        have q3 : (R.length : Int) ≤ (ck : Int) := by omega
        have q4 : (1 : Int) ≤ (R.length : Int) := by omega
        clear hcut hread
        go_wp2_with (go_at_call 13; refine (num_any _ _).mono ?_; rintro e w1 ⟨rfl, rfl⟩)
        have rcut := (hrow.ext hx2).take (k := R.length - 1) (by omega)
        rw [← List.dropLast_eq_take] at rcut
        refine (read_any Ak _ ck _ R.dropLast _ rcut (by omega)).mono ?_
        rintro e w3 ⟨g3, rfl, hg3, hx3⟩
        go_wp2_with fail
        refine (keeps_any wr w3 g3 _ (some R.dropLast) A k c fs (hx2.trans hx3) hx2.size hg3 hfr hn1).mono ?_
        rw [hc2.out]
        rintro e w4 ⟨rfl, hg4, hx4⟩
        dsimp only at hg4
        go_wp2_with fail
        refine (failed_any g3 _ _ _ hg4).mono ?_
        rintro e wf ⟨rfl, rfl⟩
        go_wp2_with fail
        go_ret
        exact ⟨rfl, hy.trans hx4⟩

set_option maxRecDepth 100000 in
theorem lifted (os : Os) (started : os.Started) (H : Type) (enc : TypeId × Value → H) :
    ReturnsInHanded {} Try.checked os 10 .any (Rows.wireKeepsSpec.pre6 enc Try.prog Try.f10 Rows.wireKeepsRow.domain false) (Rows.wireKeepsSpec.post enc Try.prog Try.f10 false true false false) := by
  refine returnsInHanded_of_change (C := Try.checked) own started (by kernel_rfl) Try.func10
    (ChangeSpec.witness6 (enc := enc) (C := Try.checked) false ⟨#[], #[.slice none 0 0], []⟩ 8 (by kernel_rfl) (by kernel_rfl) (by kernel_rfl) (by kernel_rfl)) ?_
  intro W base args ds gs before hval0 hW hcnd _
  have hval : ∀ (j : Nat) t v, Try.f10.params[j]? = some t → args[j]? = some v → Value.okWide Try.prog W .any base t v := hval0
  have hW' := hW
  obtain ⟨p, q, hA0, hV, rfl, hfz, hnd⟩ := hW
  have hA : DataW.TrodAll enc Try.prog W 0 (fun _ => true) true Try.f10.params.toList args.toList ds p := hA0
  rw [Try.params10] at hA hval
  obtain ⟨v0, vs0, d0, ds0, p0, q0, hargs, rfl, rfl, h0, r0⟩ := trodAll_cons hA
  obtain ⟨rfl, rfl, rfl⟩ := trodAll_nil r0
  obtain rfl : args = #[v0] := by cases args; simp_all
  obtain ⟨rfl, rfl⟩ := trodVars_none hV
  obtain ⟨a0, n0, c0, rfl⟩ := okWide_slice Try.underlying61 (hval 0 61 v0 rfl rfl)
  have k0 := h0
  have lt0 : ∀ x ∈ p0, x.block < W.heap.size := by obtain ⟨m, hm⟩ := k0; exact DataW.trod_lt m _ _ _ hm
  obtain ⟨l0, w0, y0⟩ := open_fields h0
  clear hA0 hval0
  refine (walk W a0 n0 c0 l0 w0 y0).mono fun e W' ⟨he, bel⟩ => ?_
  subst he
  exact ⟨_, rfl, _, _, _, [], _, [], hW', trodAll_mk1 (shut_bool Try.underlying4 _), (trodAll_cons_mk (Below.trod laidOut (by kernel_rfl) (of_decide_eq_true (by kernel_rfl)) k0 bel lt0) trodAll_mk0), rfl, Below.frame bel _, fun h => by cases h⟩

theorem over_ : Rows.wireKeepsRow.holds Try.pinned (OpenSpec.ofChange Rows.wireKeepsSpec) :=
  OpenClaim.holds_of_wide 10 Try.f10 rfl rfl rfl rfl rfl rfl rfl ⟨rfl, rfl, rfl, rfl, rfl⟩ rfl rfl rfl rfl rfl (by kernel_rfl) Try.func10 (by kernel_rfl)
    (of_decide_eq_true (by kernel_rfl)) (by unfold Func.isWrapper; first | (rw [if_pos (by decide +kernel)]; kernel_rfl) | (rw [if_neg (by decide +kernel)]; exact ⟨rfl, rfl⟩))
    (fun os started H enc _ => lifted os started H enc)

theorem proved : Rows.WireKeepsSaid := over_
end Go.Proofs.Ytbikncgabmgphaa.lawKeeps
