/- DiskBack answers true, whatever steps, picks, name and number it is given. No conditions. -/
import Derived.Test.YtenmdhdloibemaaBack
import Derived.Test.YtenmdhdloibemaaKnown
import Derived.Test.YtenmdhdloibemaaFrame
namespace Go.Proofs.Ytenmdhdloibemaa.lawBk
open Go.ChangeShapes Go.WideShapes Go.ChangeAt Go.RowKit Go.Maps Go.Shelf
open Go.ChangeMaps (open_string shut_string)
set_option linter.unusedVariables false
set_option linter.unusedSimpArgs false
attribute [local go_sem] Oper.semAt_some

theorem run_step {w : World} {b off : Nat} {s : Sp} (h : ∀ j (hj : j < s.vals.length), w.cell? ⟨b, off + j, none⟩ = some s.vals[j]) : (loadVar 34 ⟨b, off, none⟩).run Try.prog w = .ok (.agg s.vals.toArray) w := by
  have e : (loadCells ⟨b, off, none⟩ 6).run Try.prog w = .ok s.vals.toArray w := by
    have := run_loadCells_list (P := Try.prog) w ⟨b, off, none⟩ s.vals (fun j v hv => by
      have hadd : (⟨b, off, none⟩ : Addr).add j = ⟨b, off + j, none⟩ := by unfold Addr.add; split <;> simp_all
      rw [hadd]
      obtain ⟨hj, hv⟩ := List.getElem?_eq_some_iff.1 hv
      rw [h j hj, hv])
    exact this
  simp [loadVar, Sem.run_bind, Try.isAgg34, Try.sizeOf34, e]
theorem exec_lstep {w : World} {o : Oper} {a : Act} {s : Sp} {x : Operand} (ho : o.op = .load 34 x) (b off : Nat) (hx : a.eval x = .pointer (some ⟨b, off, none⟩))
    (h : ∀ j (hj : j < s.vals.length), w.cell? ⟨b, off + j, none⟩ = some s.vals[j]) : (execOp a.eval o).run Try.prog w = .ok (.value (.agg s.vals.toArray)) w := by
  unfold execOp
  simp only [ho, hx, Instr.loadAt, Instr.sureAddr, Sem.run_bind, Sem.run_pure, Result.andThen_ok, run_step h]
theorem wpList_lstep {w : World} {ops : Array Oper} {rest : List Oper} {o : Oper} {a : Act} {Q : Exit → Act → World → Prop} {s : Sp} (hgd : o.guard = none) (x : Operand) (ho : o.op = .load 34 x) (b off : Nat) (hx : a.eval x = .pointer (some ⟨b, off, none⟩))
    (hc : ∀ j (hj : j < s.vals.length), w.cell? ⟨b, off + j, none⟩ = some s.vals[j])
    (h : wpList Try.prog ops Q rest (a.put o.dst (.agg s.vals.toArray)) w) : wpList Try.prog ops Q (o :: rest) a w := by
  refine wpList_plain hgd fun K hK => ?_
  unfold Oper.wp execOp
  simp only [ho, hx, Instr.loadAt, Instr.sureAddr, Sem.run_bind, Sem.run_pure, Result.andThen_ok, run_step hc]
  exact hK _ _ h

theorem oper_lsec {w : World} {o : Oper} {a : Act} {K : Act → World → Prop} {Q : Exit → Act → World → Prop} {l : List UInt8} (x : Operand) (ho : o.op = .load 39 x) (g : Nat) (hx : a.eval x = .pointer (some ⟨g, 0, none⟩)) {t : TypeId} (hb : Blk w g t (sv l)) (hl : l.length = 256)
    (h : K (a.put o.dst (sec l)) w) : o.wp Try.prog a w K Q := by
  unfold Oper.wp
  rw [exec_lsec ho g hx hb hl]
  exact h
theorem rdI_cells (w : World) (b : Nat) (ps : List Int) (t : TypeId) (hw : ∀ p ∈ ps, (Lit.int .i64 p).wf = true) (hb : Blk w b t (iv ps).toArray) : RdI w (some ⟨b, 0, none⟩) ps.length ps := by
  refine ⟨⟨by simp [iv], .inr ⟨b, 0, rfl, hb.lt, fun i hi => ?_⟩⟩, hw⟩
  have := hb.cell i
  rw [Nat.zero_add, this]
  simp [List.getElem?_eq_getElem hi]

set_option maxRecDepth 100000 in
set_option maxHeartbeats 40000000 in
theorem walk (w : World) (A : Option Addr) (len cap : Nat) (l : List Sp) (hl : StepsAt w A len l) (hcap : len ≤ cap) (B : Option Addr) (pn pc : Nat) (picks : List Int) (hp : RdJ w B pn pc picks) (_ : True) (sn : ByteArray) (hsn : sn.size ≤ maxLen) (n : Int) (hn : (Lit.int IntKind.i64 n).wf = true) :
    Calls Try.prog 3 #[.slice A len cap, .slice B pn pc, .string sn, .int .i64 n] w fun e w' => e = .returned (.bool true) ∧ Ext w w' := by
  obtain ⟨nm, rfl⟩ : ∃ nm : Nm, sn = ⟨nm.toArray⟩ := ⟨sn.data.toList, by simp⟩
  have hnm : nm.length ≤ maxLen := by simpa [ByteArray.size] using hsn
  go_enter Try.func3, Try.ntmps3
  go_wp2_with fail
  refine (known_any w).mono ?_
  rintro e w1 ⟨rfl, hx1⟩
  go_wp2_with fail
  refine (much_any w1 A len cap l (hl.ext hx1) 150 (by decide) (by decide)).mono ?_
  rintro e w2 ⟨b, rfl, hb, hx2⟩
  have hx12 := hx1.trans hx2
  cases b with
  | true =>
    go_wp2_with fail
    go_ret
    exact ⟨rfl, hx12⟩
  | false =>
    have hlen := hb rfl
    by_cases h3 : (300 : Int) < (pn : Int)
    · go_wp2_with fail
      go_ret
      exact ⟨rfl, hx12⟩
    clear hb
    go_wp2_with fail
    refine (new_any w2 200 (by decide)).mono ?_
    rintro e w3 ⟨hx0, ⟨_, _, d0, O, rfl, ⟨fm, F, hX⟩, h0, _⟩ | ⟨h9, _⟩⟩
    rotate_left
    · exact absurd ⟨by decide, by decide⟩ h9
    have hS0 : St w w3 d0 (freshDC 200) [] := ⟨O, fm, F, hX, fun b hb => h0 b (by have := hx12.size; omega), hx12.trans hx0, fun q hq => by cases hq⟩
    clear hX h0 hx0
    go_wp2_with fail
    refine ((num_any _ 0)).mono ?_
    rintro e w1 ⟨rfl, rfl⟩
    go_wp2_with fail
    go_loopw [9, 11] (fun dv i wr => ∃ (k d : Nat) (g : DC), k ≤ len ∧ i = .int .i64 k ∧ dv = fptr d ∧ Src l k g ∧ St w wr d g []) (fun _ i _ => len - (nOf i).toNat)
    case atStart => exact ⟨0, d0, freshDC 200, Nat.zero_le _, rfl, rfl, fun n c e => by simp [freshDC] at e, hS0⟩
    case round =>
      obtain ⟨k, d, g, hk, rfl, rfl, hsrc, hS⟩ := hrel
      have hlr := hl.ext hS.low
      by_cases hlt : k < len
      · have hki : (k : Int) < (len : Int) := by omega
        obtain ⟨b, off, rfl, hbb, hcell⟩ := hlr.pos (by omega)
        have hkl : k < l.length := by rw [hl.1]; exact hlt
        obtain ⟨hok, hc⟩ := hcell k hkl
        go_wp2_with (refine wpList_lstep rfl _ rfl b (off + k * 6) rfl hc ?_)
        refine (do_any w wr d g [] hS (hsrc.big (by omega)) l[k] hok).mono ?_
        rintro e w5 ⟨x, d', g', rfl, hd, hS5⟩
        go_wp2_with fail
        exact ⟨⟨k + 1, d', g', by omega, by simp, rfl, hsrc.step hkl hd, hS5⟩, by simp [nOf]; omega⟩
      · obtain rfl : k = len := by omega
        have hpR := hp.ext hS.low
        have hbig := hsrc.big (by omega)
        go_wp2_with fail
        refine (st_crash hS (fun n c e m => Nat.le_of_lt (hbig n c e m)) B pn pc picks hpR.1 hpR.2.1 hpR.2.2).mono ?_
        rintro e w4 ⟨c, g1, ns, r, rfl, hn1, hk1, hC, hx4, _⟩
        replace hS := hS.ext hx4
        have hcalm : Calm (crashedDC g1) := fun n c e m => crashed_calm hn1 hk1 n c e m
        have hcb : ∀ n c, (crashedDC g1).file n = some c → ∀ m, (c.S m).length ≤ 1000000 := fun n c e m => by rw [hcalm n c e m]; simp
        go_wp2_with fail
        refine ((st_dead hC)).mono ?_
        rintro e w1 ⟨rfl, rfl⟩
        go_wp2_with fail
        refine ((st_changes hC)).mono ?_
        rintro e w1 ⟨rfl, rfl⟩
        go_wp2_with fail
        refine (st_crash hC hcb none 0 0 [] (rdI_none _) (by omega) (fun h => by omega)).mono ?_
        rintro e w5 ⟨c2, g3, ns3, r3, rfl, hn3, hk3, hC2, hx5, _⟩
        replace hS := hS.ext hx5
        replace hC := hC.ext hx5
        go_wp2_with fail
        refine (st_same hC hC2 (crashed_same hcalm hn3 hk3)).mono ?_
        rintro e w6 ⟨rfl, hx6⟩
        replace hS := hS.ext hx6
        replace hC := hC.ext hx6
        clear hC2 hn3 hk3 hx5 hx6
        have hxA := (Ext.refl w6).alloc (.cells #[.int .i64 1, .int .i64 1, .int .i64 1] 3)
        have bA := Blk.new w6 3 #[.int .i64 1, .int .i64 1, .int .i64 1]
        have zA := Lib.hid (World.size_alloc w6 (.cells #[.int .i64 1, .int .i64 1, .int .i64 1] 3))
        go_wp2_with fail
        replace hS := hS.ext hxA
        replace hC := hC.ext hxA
        generalize w6.alloc (.cells #[.int .i64 1, .int .i64 1, .int .i64 1] 3) = w7 at *
        refine (st_crash hC hcb _ 3 3 [1, 1, 1] (rdI_cells _ _ [1, 1, 1] _ (by decide) bA) (by omega) (by rintro _ a ⟨⟩; have := zA.out; simp only; omega)).mono ?_
        rintro e w8 ⟨c3, g4, ns4, r4, rfl, hn4, hk4, hC2, hx8, _⟩
        replace hS := hS.ext hx8
        replace hC := hC.ext hx8
        go_wp2_with fail
        refine (st_same hC hC2 (crashed_same hcalm hn4 hk4)).mono ?_
        rintro e w9 ⟨rfl, hx9⟩
        replace hS := hS.ext hx9
        replace hC := hC.ext hx9
        clear hC2 hn4 hk4 hx8 hx9 bA zA hcb hcalm hxA hpR
        obtain ⟨E, hE⟩ : ∃ E, findE g nm n = E := ⟨_, rfl⟩
        have hE1 : findE { g1 with fuse := -1, dead := false, chg := 0 } nm n = E := (crashed_find hn1 hk1 nm n).trans hE
        obtain ⟨r1, hr1⟩ : ∃ r1, readS g1 nm n = r1 := ⟨_, rfl⟩
        obtain ⟨r0, hr0⟩ : ∃ r0, readS g nm n = r0 := ⟨_, rfl⟩
        go_wp2_with fail
        refine (st_read hC nm hnm n hn).mono ?_
        rw [hE1, show readS { g1 with fuse := -1, dead := false, chg := 0 } nm n = r1 from hr1]
        rintro e w10 ⟨rfl, hx10, hl1⟩
        replace hS := hS.ext hx10
        replace hC := hC.ext hx10
        have hx_ : Ext w10 ((w10.alloc (.cells Try.zeroCells39 39)).setRow w10.heap.size (sv r1)) := ((Ext.refl w10).alloc _).grown (setRow_grownBy _ w10.heap.size (sv r1)) (by simp)
        have b_ := (blk_zero w10).setRow (sv r1)
        go_wp2_with (refine wpList_ssec rfl _ _ rfl w10.heap.size rfl rfl (blk_zero w10) zsec_len hl1 ?_)
        replace hC := hC.ext hx_
        replace hS := hS.add hx_ (Nat.le_refl _) b_
        generalize (w10.alloc (.cells Try.zeroCells39 39)).setRow w10.heap.size (sv r1) = w11 at *
        generalize w10.heap.size = z13 at *
        clear hx_ b_
        refine (st_crash hS (fun n c e m => Nat.le_of_lt (hbig n c e m)) none 0 0 [] (rdI_none _) (by omega) (fun h => by omega)).mono ?_
        rintro e w12 ⟨c4, g2, ns5, r5, rfl, hn5, hk5, hC2, hx12', _⟩
        replace hS := hS.ext hx12'
        replace hC := hC.ext hx12'
        have hE2 : findE { g2 with fuse := -1, dead := false, chg := 0 } nm n = E := (crashed_find hn5 hk5 nm n).trans hE
        obtain ⟨r2, hr2⟩ : ∃ r2, readS g2 nm n = r2 := ⟨_, rfl⟩
        go_wp2_with fail
        refine (st_read hC2 nm hnm n hn).mono ?_
        rw [hE2, show readS { g2 with fuse := -1, dead := false, chg := 0 } nm n = r2 from hr2]
        rintro e w14 ⟨rfl, hx14, hl2⟩
        clear hC2
        replace hS := hS.ext hx14
        replace hC := hC.ext hx14
        have hx_ : Ext w14 ((w14.alloc (.cells Try.zeroCells39 39)).setRow w14.heap.size (sv r2)) := ((Ext.refl w14).alloc _).grown (setRow_grownBy _ w14.heap.size (sv r2)) (by simp)
        have b_ := (blk_zero w14).setRow (sv r2)
        go_wp2_with (refine wpList_ssec rfl _ _ rfl w14.heap.size rfl rfl (blk_zero w14) zsec_len hl2 ?_)
        replace hC := hC.ext hx_
        replace hS := hS.add hx_ (Nat.le_refl _) b_
        generalize (w14.alloc (.cells Try.zeroCells39 39)).setRow w14.heap.size (sv r2) = w15 at *
        generalize w14.heap.size = z15 at *
        clear hx_ b_
        refine (st_read hS nm hnm n hn).mono ?_
        rw [hE, hr0]
        rintro e w16 ⟨rfl, hx16, hl0⟩
        replace hS := hS.ext hx16
        replace hC := hC.ext hx16
        have hx_ : Ext w16 ((w16.alloc (.cells Try.zeroCells39 39)).setRow w16.heap.size (sv r0)) := ((Ext.refl w16).alloc _).grown (setRow_grownBy _ w16.heap.size (sv r0)) (by simp)
        have b_ := (blk_zero w16).setRow (sv r0)
        go_wp2_with (refine wpList_ssec rfl _ _ rfl w16.heap.size rfl rfl (blk_zero w16) zsec_len hl0 ?_)
        replace hC := hC.ext hx_
        replace hS := hS.add hx_ (Nat.le_refl _) b_
        generalize (w16.alloc (.cells Try.zeroCells39 39)).setRow w16.heap.size (sv r0) = w17 at *
        generalize w16.heap.size = z17 at *
        clear hx_ b_
        clear hx10 hx12' hx14 hx16
        have hfacts := back_facts hsrc hn1 hk1 hn5 hk5 nm n
        rw [hr1, hr2, hr0] at hfacts
        go_wp2_with fail
        refine ((num_any _ E)).mono ?_
        rintro e w1 ⟨rfl, rfl⟩
        go_wp2_with fail
        refine ((num_any _ E)).mono ?_
        rintro e w1 ⟨rfl, rfl⟩
        go_wp2_with fail
        refine ((num_any _ E)).mono ?_
        rintro e w1 ⟨rfl, rfl⟩
        go_wp2_with fail
        refine ((num_any _ E)).mono ?_
        rintro e w1 ⟨rfl, rfl⟩
        go_wp2_with fail
        refine ((num_any _ E)).mono ?_
        rintro e w1 ⟨rfl, rfl⟩
        by_cases hE0 : E = 0
        · subst hE0
          obtain ⟨q1, q2, q3⟩ := hfacts hE
          go_wp2_with fail
          refine (st_lasts hC nm hnm n hn).mono ?_
          rw [hE1, show lastsB { g1 with fuse := -1, dead := false, chg := 0 } nm n = true from q1]
          rintro e w18 ⟨rfl, rfl⟩
          obtain ⟨cb, hcb⟩ : ∃ cb, lastsB g nm n = cb := ⟨_, rfl⟩
          go_wp2_with fail
          refine (st_lasts hS nm hnm n hn).mono ?_
          rw [hE, hcb]
          rintro e w18 ⟨rfl, rfl⟩
          rw [hcb] at q2
          go_wp2_with fail
          refine ((num_any _ 0)).mono ?_
          rintro e w1 ⟨rfl, rfl⟩
          go_wp2_with fail
          refine ((num_any _ 0)).mono ?_
          rintro e w1 ⟨rfl, rfl⟩
          have b13 : Blk w17 z13 39 (sv r1) := hS.blk (by simp)
          have b15 : Blk w17 z15 39 (sv r2) := hS.blk (by simp)
          have b17 : Blk w17 z17 39 (sv r0) := hS.blk (by simp)
          have hlow := hS.low
          clear hS hC
          cases cb with
          | true =>
            obtain ⟨t1, t2⟩ := q2 rfl
            subst t1 t2
            have nq : ∀ x : World, (binOp .neq 39 (sec r1) (sec r1)).run Try.prog x = .ok (.bool false) x := fun x => by
              rw [run_sec_neq _ _ hl1 hl1]
              simp
            have eq : ∀ x : World, (binOp .eql 39 (sec r1) (sec r1)).run Try.prog x = .ok (.bool true) x := fun x => by
              rw [run_sec_eql _ _ hl1 hl1]
              simp
            have hgd := fun x y z => run_sec_guard .neq x y r1 r1 z
            have hgd2 := fun x y z => run_sec_guard .eql x y r1 r1 z
            go_wp2_with fail
            refine oper_lsec _ rfl z13 rfl b13 hl1 ?_
            go_wp2_with fail
            refine oper_lsec _ rfl z15 rfl b15 hl1 ?_
            go_wp2_with fail
            refine oper_lsec _ rfl z13 rfl b13 hl1 ?_
            go_wp2_with fail
            refine oper_lsec _ rfl z17 rfl b17 hl1 ?_
            go_wp2_with fail
            refine oper_lsec _ rfl z13 rfl b13 hl1 ?_
            go_wp2_with fail
            refine oper_lsec _ rfl z15 rfl b15 hl1 ?_
            go_wp2_with fail
            go_loopw [23, 24] (fun f kk wr => f = .bool true ∧ kk = .int .i64 0 ∧ Ext w wr) (fun _ _ _ => 0)
            case atStart => exact ⟨rfl, rfl, hlow⟩
            case round =>
              obtain ⟨rfl, rfl, hxr⟩ := hrel
              by_cases hk0 : (0 : Int) < (k : Int)
              · go_wp2_with fail
                go_ret
                exact ⟨rfl, hxr⟩
              · go_wp2_with fail
                go_ret
                exact ⟨rfl, hxr⟩
          | false =>
            by_cases h12 : r1 = r2
            · subst h12
              have eq : ∀ x : World, (binOp .eql 39 (sec r1) (sec r1)).run Try.prog x = .ok (.bool true) x := fun x => by
                rw [run_sec_eql _ _ hl1 hl1]
                simp
              have hgd2 := fun x y z => run_sec_guard .eql x y r1 r1 z
              go_wp2_with fail
              refine oper_lsec _ rfl z13 rfl b13 hl1 ?_
              go_wp2_with fail
              refine oper_lsec _ rfl z15 rfl b15 hl1 ?_
              go_wp2_with fail
              go_loopw [23, 24] (fun f kk wr => f = .bool true ∧ kk = .int .i64 0 ∧ Ext w wr) (fun _ _ _ => 0)
              case atStart => exact ⟨rfl, rfl, hlow⟩
              case round =>
                obtain ⟨rfl, rfl, hxr⟩ := hrel
                by_cases hk0 : (0 : Int) < (k : Int)
                · go_wp2_with fail
                  go_ret
                  exact ⟨rfl, hxr⟩
                · go_wp2_with fail
                  go_ret
                  exact ⟨rfl, hxr⟩
            · obtain ⟨k0, hk0, hk2, hk3, hk4, hk5⟩ := q3 h12
              have HK := Lib.hid (And.intro hk3 (And.intro hk4 hk5))
              clear hk3 hk4 hk5
              have eq : ∀ x : World, (binOp .eql 39 (sec r1) (sec r2)).run Try.prog x = .ok (.bool false) x := fun x => by
                rw [run_sec_eql _ _ hl1 hl2]
                simp [h12]
              have hgd2 := fun x y z => run_sec_guard .eql x y r1 r2 z
              go_wp2_with fail
              refine oper_lsec _ rfl z13 rfl b13 hl1 ?_
              go_wp2_with fail
              refine oper_lsec _ rfl z15 rfl b15 hl2 ?_
              go_wp2_with fail
              clear eq hgd2
              go_loopw [23, 24] (fun f kk wr => ∃ (j : Nat) (fb : Bool), j ≤ k ∧ kk = .int .i64 j ∧ f = .bool fb ∧ (fb = false → j ≤ k0) ∧ Ext w17 wr) (fun _ kk _ => k - (nOf kk).toNat)
              case atStart => exact ⟨0, false, Nat.zero_le _, rfl, rfl, fun _ => Nat.zero_le _, Ext.refl _⟩
              case round =>
                obtain ⟨j, fb, hj, rfl, rfl, hfb, hxr⟩ := hrel
                cases fb with
                | true =>
                  by_cases hlt : j < k
                  · have hji : (j : Int) < (k : Int) := by omega
                    go_wp2_with fail
                    go_ret
                    exact ⟨rfl, hlow.trans hxr⟩
                  · have hji : ¬ (j : Int) < (k : Int) := by omega
                    go_wp2_with fail
                    go_ret
                    exact ⟨rfl, hlow.trans hxr⟩
                | false =>
                  have hj0 := hfb rfl
                  have hlt : j < k := by omega
                  have hji : (j : Int) < (k : Int) := by omega
                  obtain ⟨b, off, rfl, hbb, hcell⟩ := (hl.ext (hlow.trans hxr)).pos (by omega)
                  obtain ⟨hok, hc⟩ := hcell j (by rw [hl.1]; exact hlt)
                  obtain ⟨s, hs⟩ : ∃ s, l[j]'(by rw [hl.1]; exact hlt) = s := ⟨_, rfl⟩
                  rw [hs] at hok hc
                  have b13r := b13.ext hxr
                  obtain ⟨kind, n2, name, name2, byt, A2, pn2, pc2, ps2⟩ := s
                  have c0 : wr.cell? ⟨b, off + j * 6, none⟩ = some (.int .i64 kind) := hc 0 (by simp [Sp.vals])
                  have c1 : wr.cell? ⟨b, off + j * 6 + 1, none⟩ = some (.int .i64 n2) := hc 1 (by simp [Sp.vals])
                  have c4 : wr.cell? ⟨b, off + j * 6 + 4, none⟩ = some (.int .u8 (byt.toNat : Int)) := hc 4 (by simp [Sp.vals])
                  have hjk : j = k0 → kind = 2 ∧ n2 = n ∧ r1 = fsec byt := by
                    rintro rfl
                    have hh := HK.out
                    rw [hs] at hh
                    exact hh
                  clear hc hok hs
                  have hxd := (Ext.refl wr).drew
                  have e1 := run_sec_eql r1 (fsec byt) hl1 (fsec_len _)
                  have hgd3 := fun x y z => run_sec_guard .eql x y r1 (fsec byt) z
                  have HJ := Lib.hid hjk
                  clear hjk
                  go_wp2_with fail
                  rcases (show kind = 2 ∨ kind = 8 ∨ (kind ≠ 2 ∧ kind ≠ 8) by omega) with rfl | rfl | ⟨k2, k8⟩
                  · by_cases hnn : n2 = n
                    · obtain rfl := hnn
                      refine wp_region_plan Ext [(0, true), (1, true), (2, true), (3, true), (4, true), (5, true), (6, true), (7, true), (8, true), (9, true), (10, true), (11, true), (12, true), (13, true), (14, true), (15, true), (16, true), (17, true), (18, true), (19, true), (20, true), (21, true), (22, true), (23, true), (24, true), (25, true), (26, true), (27, true), (28, true), (29, true), (30, false), (31, true), (32, true), (33, true)] (fun _ _ _ x y => (fun x y => Ext.trans x y) x y) Ext.refl (by kernel_rfl) (by kernel_rfl) ?_
                      intro K hK
                      generalize wr.drew = wq at *
                      have m0 : ∀ y : Above Ext wq, y.1.cell? ⟨b, off + j * 6, none⟩ = _ := fun y => (hxd.trans y.2).cellSome c0
                      have m1 : ∀ y : Above Ext wq, y.1.cell? ⟨b, off + j * 6 + 1, none⟩ = _ := fun y => (hxd.trans y.2).cellSome c1
                      have m4 : ∀ y : Above Ext wq, y.1.cell? ⟨b, off + j * 6 + 4, none⟩ = _ := fun y => (hxd.trans y.2).cellSome c4
                      iterate 7 (
                        refine plan_q (v := ?_) rfl rfl ?_ ?_
                        rotate_left
                        · intro x
                          go_simp
                          first | done | rfl
                        simp only [Act.put, List.getElem_toArray, List.getElem_cons_zero, List.getElem_cons_succ, List.setIfInBounds_toArray, List.set_cons_zero, List.set_cons_succ])
                      iterate 6 (
                        refine plan_n rfl rfl ?_
                        simp only [Act.put, List.getElem_toArray, List.getElem_cons_zero, List.getElem_cons_succ, List.setIfInBounds_toArray, List.set_cons_zero, List.set_cons_succ])
                      iterate 2 (
                        refine plan_q (v := ?_) rfl rfl ?_ ?_
                        rotate_left
                        · intro x
                          go_simp
                          first | done | rfl
                        simp only [Act.put, List.getElem_toArray, List.getElem_cons_zero, List.getElem_cons_succ, List.setIfInBounds_toArray, List.set_cons_zero, List.set_cons_succ])
                      iterate 7 (
                        refine plan_q (v := ?_) rfl rfl ?_ ?_
                        rotate_left
                        · intro x
                          go_simp
                          first | done | rfl
                        simp only [Act.put, List.getElem_toArray, List.getElem_cons_zero, List.getElem_cons_succ, List.setIfInBounds_toArray, List.set_cons_zero, List.set_cons_succ])
                      iterate 2 (
                        refine plan_q (v := ?_) rfl rfl ?_ ?_
                        rotate_left
                        · intro x
                          go_simp
                          first | done | rfl
                        simp only [Act.put, List.getElem_toArray, List.getElem_cons_zero, List.getElem_cons_succ, List.setIfInBounds_toArray, List.set_cons_zero, List.set_cons_succ])
                      refine plan_q (v := sec r1) rfl rfl (fun y => exec_lsec rfl z13 rfl (b13r.ext (hxd.trans y.2)) hl1) ?_
                      simp only [Act.put, List.getElem_toArray, List.getElem_cons_zero, List.getElem_cons_succ, List.setIfInBounds_toArray, List.set_cons_zero, List.set_cons_succ]
                      iterate 5 (
                        refine plan_q (v := ?_) rfl rfl ?_ ?_
                        rotate_left
                        · intro x
                          go_simp
                          first | done | rfl
                        simp only [Act.put, List.getElem_toArray, List.getElem_cons_zero, List.getElem_cons_succ, List.setIfInBounds_toArray, List.set_cons_zero, List.set_cons_succ])
                      clear m0 m1 m4
                      refine plan_l rfl rfl ?_
                      intro K2 hK2
                      go_simp
                      refine (full_any byt wq).mono ?_
                      rintro e w20 ⟨rfl, hx20⟩
                      go_simp
                      refine hK2.out _ _ hx20 ?_
                      clear hK2 K2
                      try simp only [Act.put, List.getElem_toArray, List.getElem_cons_zero, List.getElem_cons_succ, List.setIfInBounds_toArray, List.set_cons_zero, List.set_cons_succ]
                      iterate 3 (
                        refine plan_q (v := ?_) rfl rfl ?_ ?_
                        rotate_left
                        · intro x
                          go_simp
                          first | done | rfl
                        simp only [Act.put, List.getElem_toArray, List.getElem_cons_zero, List.getElem_cons_succ, List.setIfInBounds_toArray, List.set_cons_zero, List.set_cons_succ])
                      refine plan_end (hK.out _ _ ?_)
                      clear hK K
                      have hx2 := hxr.trans (hxd.trans hx20)
                      go_wp2_with fail
                      exact ⟨⟨j + 1, r1 == fsec byt, hlt, by simp, rfl, fun hf => by
                        have hne : j ≠ k0 := fun e => by
                          rw [(HJ.out e).2.2] at hf
                          simp at hf
                        omega, hx2⟩, by simp [nOf]; omega⟩
                    · have en : (n2 == n) = false := by simpa using hnn
                      have en2 : ¬ n2 = n := hnn
                      refine wp_region_plan Ext [(0, true), (1, true), (2, true), (3, true), (4, true), (5, true), (6, true), (7, true), (8, true), (9, true), (10, true), (11, true), (12, true), (13, true), (14, true), (15, true), (16, true), (17, true), (18, true), (19, true), (20, true), (21, true), (22, true), (23, true), (24, true), (25, true), (26, true), (27, true), (28, true), (29, true), (30, false), (31, true), (32, true), (33, true)] (fun _ _ _ x y => (fun x y => Ext.trans x y) x y) Ext.refl (by kernel_rfl) (by kernel_rfl) ?_
                      intro K hK
                      generalize wr.drew = wq at *
                      have m0 : ∀ y : Above Ext wq, y.1.cell? ⟨b, off + j * 6, none⟩ = _ := fun y => (hxd.trans y.2).cellSome c0
                      have m1 : ∀ y : Above Ext wq, y.1.cell? ⟨b, off + j * 6 + 1, none⟩ = _ := fun y => (hxd.trans y.2).cellSome c1
                      have m4 : ∀ y : Above Ext wq, y.1.cell? ⟨b, off + j * 6 + 4, none⟩ = _ := fun y => (hxd.trans y.2).cellSome c4
                      iterate 7 (
                        refine plan_q (v := ?_) rfl rfl ?_ ?_
                        rotate_left
                        · intro x
                          go_simp
                          first | done | rfl
                        simp only [Act.put, List.getElem_toArray, List.getElem_cons_zero, List.getElem_cons_succ, List.setIfInBounds_toArray, List.set_cons_zero, List.set_cons_succ])
                      iterate 6 (
                        refine plan_n rfl rfl ?_
                        simp only [Act.put, List.getElem_toArray, List.getElem_cons_zero, List.getElem_cons_succ, List.setIfInBounds_toArray, List.set_cons_zero, List.set_cons_succ])
                      iterate 2 (
                        refine plan_q (v := ?_) rfl rfl ?_ ?_
                        rotate_left
                        · intro x
                          go_simp
                          first | done | rfl
                        simp only [Act.put, List.getElem_toArray, List.getElem_cons_zero, List.getElem_cons_succ, List.setIfInBounds_toArray, List.set_cons_zero, List.set_cons_succ])
                      iterate 7 (
                        refine plan_q (v := ?_) rfl rfl ?_ ?_
                        rotate_left
                        · intro x
                          go_simp
                          first | done | rfl
                        simp only [Act.put, List.getElem_toArray, List.getElem_cons_zero, List.getElem_cons_succ, List.setIfInBounds_toArray, List.set_cons_zero, List.set_cons_succ])
                      iterate 2 (
                        refine plan_q (v := ?_) rfl rfl ?_ ?_
                        rotate_left
                        · intro x
                          go_simp
                          first | done | rfl
                        simp only [Act.put, List.getElem_toArray, List.getElem_cons_zero, List.getElem_cons_succ, List.setIfInBounds_toArray, List.set_cons_zero, List.set_cons_succ])
                      iterate 8 (
                        refine plan_n rfl rfl ?_
                        simp only [Act.put, List.getElem_toArray, List.getElem_cons_zero, List.getElem_cons_succ, List.setIfInBounds_toArray, List.set_cons_zero, List.set_cons_succ])
                      iterate 2 (
                        refine plan_q (v := ?_) rfl rfl ?_ ?_
                        rotate_left
                        · intro x
                          go_simp
                          first | done | rfl
                        simp only [Act.put, List.getElem_toArray, List.getElem_cons_zero, List.getElem_cons_succ, List.setIfInBounds_toArray, List.set_cons_zero, List.set_cons_succ])
                      clear m0 m1 m4
                      refine plan_end (hK.out _ _ ?_)
                      clear hK K
                      have hx2 := hxr.trans hxd
                      go_wp2_with fail
                      exact ⟨⟨j + 1, false, hlt, by simp, rfl, fun _ => by
                        have hne : j ≠ k0 := fun e => by
                          have := HJ.out e
                          omega
                        omega, hx2⟩, by simp [nOf]; omega⟩
                  · by_cases hnn : n2 = n
                    · obtain rfl := hnn
                      refine wp_region_plan Ext [(0, true), (1, true), (2, true), (3, true), (4, true), (5, true), (6, true), (7, true), (8, true), (9, true), (10, true), (11, true), (12, true), (13, true), (14, true), (15, true), (16, true), (17, true), (18, true), (19, true), (20, true), (21, true), (22, true), (23, true), (24, true), (25, true), (26, true), (27, true), (28, true), (29, true), (30, false), (31, true), (32, true), (33, true)] (fun _ _ _ x y => (fun x y => Ext.trans x y) x y) Ext.refl (by kernel_rfl) (by kernel_rfl) ?_
                      intro K hK
                      generalize wr.drew = wq at *
                      have m0 : ∀ y : Above Ext wq, y.1.cell? ⟨b, off + j * 6, none⟩ = _ := fun y => (hxd.trans y.2).cellSome c0
                      have m1 : ∀ y : Above Ext wq, y.1.cell? ⟨b, off + j * 6 + 1, none⟩ = _ := fun y => (hxd.trans y.2).cellSome c1
                      have m4 : ∀ y : Above Ext wq, y.1.cell? ⟨b, off + j * 6 + 4, none⟩ = _ := fun y => (hxd.trans y.2).cellSome c4
                      iterate 7 (
                        refine plan_q (v := ?_) rfl rfl ?_ ?_
                        rotate_left
                        · intro x
                          go_simp
                          first | done | rfl
                        simp only [Act.put, List.getElem_toArray, List.getElem_cons_zero, List.getElem_cons_succ, List.setIfInBounds_toArray, List.set_cons_zero, List.set_cons_succ])
                      iterate 6 (
                        refine plan_q (v := ?_) rfl rfl ?_ ?_
                        rotate_left
                        · intro x
                          go_simp
                          first | done | rfl
                        simp only [Act.put, List.getElem_toArray, List.getElem_cons_zero, List.getElem_cons_succ, List.setIfInBounds_toArray, List.set_cons_zero, List.set_cons_succ])
                      iterate 2 (
                        refine plan_q (v := ?_) rfl rfl ?_ ?_
                        rotate_left
                        · intro x
                          go_simp
                          first | done | rfl
                        simp only [Act.put, List.getElem_toArray, List.getElem_cons_zero, List.getElem_cons_succ, List.setIfInBounds_toArray, List.set_cons_zero, List.set_cons_succ])
                      iterate 7 (
                        refine plan_q (v := ?_) rfl rfl ?_ ?_
                        rotate_left
                        · intro x
                          go_simp
                          first | done | rfl
                        simp only [Act.put, List.getElem_toArray, List.getElem_cons_zero, List.getElem_cons_succ, List.setIfInBounds_toArray, List.set_cons_zero, List.set_cons_succ])
                      iterate 2 (
                        refine plan_q (v := ?_) rfl rfl ?_ ?_
                        rotate_left
                        · intro x
                          go_simp
                          first | done | rfl
                        simp only [Act.put, List.getElem_toArray, List.getElem_cons_zero, List.getElem_cons_succ, List.setIfInBounds_toArray, List.set_cons_zero, List.set_cons_succ])
                      refine plan_q (v := sec r1) rfl rfl (fun y => exec_lsec rfl z13 rfl (b13r.ext (hxd.trans y.2)) hl1) ?_
                      simp only [Act.put, List.getElem_toArray, List.getElem_cons_zero, List.getElem_cons_succ, List.setIfInBounds_toArray, List.set_cons_zero, List.set_cons_succ]
                      iterate 5 (
                        refine plan_q (v := ?_) rfl rfl ?_ ?_
                        rotate_left
                        · intro x
                          go_simp
                          first | done | rfl
                        simp only [Act.put, List.getElem_toArray, List.getElem_cons_zero, List.getElem_cons_succ, List.setIfInBounds_toArray, List.set_cons_zero, List.set_cons_succ])
                      clear m0 m1 m4
                      refine plan_l rfl rfl ?_
                      intro K2 hK2
                      go_simp
                      refine (full_any byt wq).mono ?_
                      rintro e w20 ⟨rfl, hx20⟩
                      go_simp
                      refine hK2.out _ _ hx20 ?_
                      clear hK2 K2
                      try simp only [Act.put, List.getElem_toArray, List.getElem_cons_zero, List.getElem_cons_succ, List.setIfInBounds_toArray, List.set_cons_zero, List.set_cons_succ]
                      iterate 3 (
                        refine plan_q (v := ?_) rfl rfl ?_ ?_
                        rotate_left
                        · intro x
                          go_simp
                          first | done | rfl
                        simp only [Act.put, List.getElem_toArray, List.getElem_cons_zero, List.getElem_cons_succ, List.setIfInBounds_toArray, List.set_cons_zero, List.set_cons_succ])
                      refine plan_end (hK.out _ _ ?_)
                      clear hK K
                      have hx2 := hxr.trans (hxd.trans hx20)
                      go_wp2_with fail
                      exact ⟨⟨j + 1, r1 == fsec byt, hlt, by simp, rfl, fun hf => by
                        have hne : j ≠ k0 := fun e => by
                          rw [(HJ.out e).2.2] at hf
                          simp at hf
                        omega, hx2⟩, by simp [nOf]; omega⟩
                    · have en : (n2 == n) = false := by simpa using hnn
                      have en2 : ¬ n2 = n := hnn
                      refine wp_region_plan Ext [(0, true), (1, true), (2, true), (3, true), (4, true), (5, true), (6, true), (7, true), (8, true), (9, true), (10, true), (11, true), (12, true), (13, true), (14, true), (15, true), (16, true), (17, true), (18, true), (19, true), (20, true), (21, true), (22, true), (23, true), (24, true), (25, true), (26, true), (27, true), (28, true), (29, true), (30, false), (31, true), (32, true), (33, true)] (fun _ _ _ x y => (fun x y => Ext.trans x y) x y) Ext.refl (by kernel_rfl) (by kernel_rfl) ?_
                      intro K hK
                      generalize wr.drew = wq at *
                      have m0 : ∀ y : Above Ext wq, y.1.cell? ⟨b, off + j * 6, none⟩ = _ := fun y => (hxd.trans y.2).cellSome c0
                      have m1 : ∀ y : Above Ext wq, y.1.cell? ⟨b, off + j * 6 + 1, none⟩ = _ := fun y => (hxd.trans y.2).cellSome c1
                      have m4 : ∀ y : Above Ext wq, y.1.cell? ⟨b, off + j * 6 + 4, none⟩ = _ := fun y => (hxd.trans y.2).cellSome c4
                      iterate 7 (
                        refine plan_q (v := ?_) rfl rfl ?_ ?_
                        rotate_left
                        · intro x
                          go_simp
                          first | done | rfl
                        simp only [Act.put, List.getElem_toArray, List.getElem_cons_zero, List.getElem_cons_succ, List.setIfInBounds_toArray, List.set_cons_zero, List.set_cons_succ])
                      iterate 6 (
                        refine plan_q (v := ?_) rfl rfl ?_ ?_
                        rotate_left
                        · intro x
                          go_simp
                          first | done | rfl
                        simp only [Act.put, List.getElem_toArray, List.getElem_cons_zero, List.getElem_cons_succ, List.setIfInBounds_toArray, List.set_cons_zero, List.set_cons_succ])
                      iterate 2 (
                        refine plan_q (v := ?_) rfl rfl ?_ ?_
                        rotate_left
                        · intro x
                          go_simp
                          first | done | rfl
                        simp only [Act.put, List.getElem_toArray, List.getElem_cons_zero, List.getElem_cons_succ, List.setIfInBounds_toArray, List.set_cons_zero, List.set_cons_succ])
                      iterate 7 (
                        refine plan_q (v := ?_) rfl rfl ?_ ?_
                        rotate_left
                        · intro x
                          go_simp
                          first | done | rfl
                        simp only [Act.put, List.getElem_toArray, List.getElem_cons_zero, List.getElem_cons_succ, List.setIfInBounds_toArray, List.set_cons_zero, List.set_cons_succ])
                      iterate 2 (
                        refine plan_q (v := ?_) rfl rfl ?_ ?_
                        rotate_left
                        · intro x
                          go_simp
                          first | done | rfl
                        simp only [Act.put, List.getElem_toArray, List.getElem_cons_zero, List.getElem_cons_succ, List.setIfInBounds_toArray, List.set_cons_zero, List.set_cons_succ])
                      iterate 8 (
                        refine plan_n rfl rfl ?_
                        simp only [Act.put, List.getElem_toArray, List.getElem_cons_zero, List.getElem_cons_succ, List.setIfInBounds_toArray, List.set_cons_zero, List.set_cons_succ])
                      iterate 2 (
                        refine plan_q (v := ?_) rfl rfl ?_ ?_
                        rotate_left
                        · intro x
                          go_simp
                          first | done | rfl
                        simp only [Act.put, List.getElem_toArray, List.getElem_cons_zero, List.getElem_cons_succ, List.setIfInBounds_toArray, List.set_cons_zero, List.set_cons_succ])
                      clear m0 m1 m4
                      refine plan_end (hK.out _ _ ?_)
                      clear hK K
                      have hx2 := hxr.trans hxd
                      go_wp2_with fail
                      exact ⟨⟨j + 1, false, hlt, by simp, rfl, fun _ => by
                        have hne : j ≠ k0 := fun e => by
                          have := HJ.out e
                          omega
                        omega, hx2⟩, by simp [nOf]; omega⟩
                  · have ek2 : (kind == 2) = false := by simpa using k2
                    have ek8 : (kind == 8) = false := by simpa using k8
                    refine wp_region_plan Ext [(0, true), (1, true), (2, true), (3, true), (4, true), (5, true), (6, true), (7, true), (8, true), (9, true), (10, true), (11, true), (12, true), (13, true), (14, true), (15, true), (16, true), (17, true), (18, true), (19, true), (20, true), (21, true), (22, true), (23, true), (24, true), (25, true), (26, true), (27, true), (28, true), (29, true), (30, false), (31, true), (32, true), (33, true)] (fun _ _ _ x y => (fun x y => Ext.trans x y) x y) Ext.refl (by kernel_rfl) (by kernel_rfl) ?_
                    intro K hK
                    generalize wr.drew = wq at *
                    have m0 : ∀ y : Above Ext wq, y.1.cell? ⟨b, off + j * 6, none⟩ = _ := fun y => (hxd.trans y.2).cellSome c0
                    have m1 : ∀ y : Above Ext wq, y.1.cell? ⟨b, off + j * 6 + 1, none⟩ = _ := fun y => (hxd.trans y.2).cellSome c1
                    have m4 : ∀ y : Above Ext wq, y.1.cell? ⟨b, off + j * 6 + 4, none⟩ = _ := fun y => (hxd.trans y.2).cellSome c4
                    iterate 7 (
                      refine plan_q (v := ?_) rfl rfl ?_ ?_
                      rotate_left
                      · intro x
                        go_simp
                        first | done | rfl
                      simp only [Act.put, List.getElem_toArray, List.getElem_cons_zero, List.getElem_cons_succ, List.setIfInBounds_toArray, List.set_cons_zero, List.set_cons_succ])
                    iterate 6 (
                      refine plan_q (v := ?_) rfl rfl ?_ ?_
                      rotate_left
                      · intro x
                        go_simp
                        first | done | rfl
                      simp only [Act.put, List.getElem_toArray, List.getElem_cons_zero, List.getElem_cons_succ, List.setIfInBounds_toArray, List.set_cons_zero, List.set_cons_succ])
                    iterate 2 (
                      refine plan_q (v := ?_) rfl rfl ?_ ?_
                      rotate_left
                      · intro x
                        go_simp
                        first | done | rfl
                      simp only [Act.put, List.getElem_toArray, List.getElem_cons_zero, List.getElem_cons_succ, List.setIfInBounds_toArray, List.set_cons_zero, List.set_cons_succ])
                    iterate 7 (
                      refine plan_n rfl rfl ?_
                      simp only [Act.put, List.getElem_toArray, List.getElem_cons_zero, List.getElem_cons_succ, List.setIfInBounds_toArray, List.set_cons_zero, List.set_cons_succ])
                    iterate 2 (
                      refine plan_q (v := ?_) rfl rfl ?_ ?_
                      rotate_left
                      · intro x
                        go_simp
                        first | done | rfl
                      simp only [Act.put, List.getElem_toArray, List.getElem_cons_zero, List.getElem_cons_succ, List.setIfInBounds_toArray, List.set_cons_zero, List.set_cons_succ])
                    iterate 8 (
                      refine plan_n rfl rfl ?_
                      simp only [Act.put, List.getElem_toArray, List.getElem_cons_zero, List.getElem_cons_succ, List.setIfInBounds_toArray, List.set_cons_zero, List.set_cons_succ])
                    iterate 2 (
                      refine plan_q (v := ?_) rfl rfl ?_ ?_
                      rotate_left
                      · intro x
                        go_simp
                        first | done | rfl
                      simp only [Act.put, List.getElem_toArray, List.getElem_cons_zero, List.getElem_cons_succ, List.setIfInBounds_toArray, List.set_cons_zero, List.set_cons_succ])
                    clear m0 m1 m4
                    refine plan_end (hK.out _ _ ?_)
                    clear hK K
                    have hx2 := hxr.trans hxd
                    go_wp2_with fail
                    exact ⟨⟨j + 1, false, hlt, by simp, rfl, fun _ => by
                      have hne : j ≠ k0 := fun e => by
                        have := HJ.out e
                        omega
                      omega, hx2⟩, by simp [nOf]; omega⟩
        · have hEb : (E == 0) = false := by simpa using hE0
          go_wp2_with fail
          go_ret
          exact ⟨rfl, hS.low⟩

set_option maxRecDepth 100000 in
theorem lifted (os : Os) (started : os.Started) (H : Type) (enc : TypeId × Value → H) :
    ReturnsInHanded {} Try.checked os 3 .any (Rows.diskBackSpec.pre6 enc Try.prog Try.f3 Rows.diskBackRow.domain false) (Rows.diskBackSpec.post enc Try.prog Try.f3 false true false false) := by
  refine returnsInHanded_of_change (C := Try.checked) own started (by kernel_rfl) Try.func3
    (ChangeSpec.witness6 (enc := enc) (C := Try.checked) false ⟨#[], #[.slice none 0 0, .slice none 0 0, .string ⟨#[]⟩, .int .i64 0], []⟩ 8 (by kernel_rfl) (by kernel_rfl) (by kernel_rfl) (by kernel_rfl)) ?_
  intro W base args ds gs before hval0 hW hcnd _
  have hval : ∀ (j : Nat) t v, Try.f3.params[j]? = some t → args[j]? = some v → Value.okWide Try.prog W .any base t v := hval0
  have hW' := hW
  obtain ⟨p, q, hA0, hV, rfl, hfz, hnd⟩ := hW
  have hA : DataW.TrodAll enc Try.prog W 0 (fun _ => true) true Try.f3.params.toList args.toList ds p := hA0
  rw [Try.params3] at hA hval
  obtain ⟨v0, vs0, d0, ds0, p0, q0, hargs, rfl, rfl, h0, r0⟩ := trodAll_cons hA
  obtain ⟨v1, vs1, d1, ds1, p1, q1, rfl, rfl, rfl, h1, r1⟩ := trodAll_cons r0
  obtain ⟨v2, vs2, d2, ds2, p2, q2, rfl, rfl, rfl, h2, r2⟩ := trodAll_cons r1
  obtain ⟨v3, vs3, d3, ds3, p3, q3, rfl, rfl, rfl, h3, r3⟩ := trodAll_cons r2
  obtain ⟨rfl, rfl, rfl⟩ := trodAll_nil r3
  obtain rfl : args = #[v0, v1, v2, v3] := by cases args; simp_all
  obtain ⟨rfl, rfl⟩ := trodVars_none hV
  obtain ⟨a0, n0, c0, rfl⟩ := okWide_slice Try.underlying22 (hval 0 22 v0 rfl rfl)
  have k0 := h0
  have lt0 : ∀ x ∈ p0, x.block < W.heap.size := by obtain ⟨m, hm⟩ := k0; exact DataW.trod_lt m _ _ _ hm
  obtain ⟨l0, w0, y0⟩ := open_steps h0
  obtain ⟨a1, n1, c1, rfl⟩ := okWide_slice Try.underlying23 (hval 1 23 v1 rfl rfl)
  have k1 := h1
  have lt1 : ∀ x ∈ p1, x.block < W.heap.size := by obtain ⟨m, hm⟩ := k1; exact DataW.trod_lt m _ _ _ hm
  obtain ⟨l1, w1, y1⟩ := open_picks h1
  obtain ⟨a2, rfl, rfl, rfl, w2⟩ := open_string Try.underlying9 (hval 2 9 v2 rfl rfl) h2
  obtain ⟨a3, rfl, rfl, rfl, w3⟩ := open_int Try.underlying3 (hval 3 3 v3 rfl rfl) h3
  clear hA0 hval0
  refine (walk W a0 n0 c0 l0 w0 y0 a1 n1 c1 l1 w1 y1 a2 w2 a3 w3).mono fun e W' ⟨he, bel⟩ => ?_
  subst he
  exact ⟨_, rfl, _, _, _, [], _, [], hW', trodAll_mk1 (shut_bool Try.underlying4 _), (trodAll_cons_mk (Below.trod laidOut (by kernel_rfl) (of_decide_eq_true (by kernel_rfl)) k0 bel lt0) (trodAll_cons_mk (Below.trod laidOut (by kernel_rfl) (of_decide_eq_true (by kernel_rfl)) k1 bel lt1) (trodAll_cons_mk (shut_string Try.underlying9 w2) (trodAll_cons_mk (shut_int Try.underlying3 w3) trodAll_mk0)))), rfl, Below.frame bel _, fun h => by cases h⟩

theorem over_ : Rows.diskBackRow.holds Try.pinned (OpenSpec.ofChange Rows.diskBackSpec) :=
  OpenClaim.holds_of_wide 3 Try.f3 rfl rfl rfl rfl rfl rfl rfl ⟨rfl, rfl, rfl, rfl, rfl⟩ rfl rfl rfl rfl rfl (by kernel_rfl) Try.func3 (by kernel_rfl)
    (of_decide_eq_true (by kernel_rfl)) (by unfold Func.isWrapper; first | (rw [if_pos (by decide +kernel)]; kernel_rfl) | (rw [if_neg (by decide +kernel)]; exact ⟨rfl, rfl⟩))
    (fun os started H enc _ => lifted os started H enc)

theorem proved : Rows.DiskBackSaid := over_
end Go.Proofs.Ytenmdhdloibemaa.lawBk
