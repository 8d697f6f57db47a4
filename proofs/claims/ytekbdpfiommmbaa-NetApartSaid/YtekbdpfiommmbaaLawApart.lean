/- NetApart answers true, whatever acts, act and place it is given. No conditions. -/
import Derived.Test.YtekbdpfiommmbaaRC
import Derived.Test.YtekbdpfiommmbaaNmuch
import Derived.Test.YtekbdpfiommmbaaNknown
import Derived.Test.YtekbdpfiommmbaaFrame
namespace Go.Proofs.Ytekbdpfiommmbaa.lawApart
open Go.ChangeShapes Go.WideShapes Go.ChangeAt Go.RowKit Go.Maps Go.Shelf
open Go.ChangeMaps (open_string shut_string)
set_option linter.unusedVariables false
set_option linter.unusedSimpArgs false
attribute [local go_sem] Oper.semAt_some

set_option maxRecDepth 100000 in
set_option maxHeartbeats 12800000 in
theorem walk (w : World) (A : Option Addr) (len c : Nat) (l : List Ac) (hl : ActsAt w A len l) (hc : len ≤ c) (s : Ac) (hs : s.ok w) (pl : Int) (wp : (Lit.int .i64 pl).wf = true) :
    Calls Try.prog 4 #[.slice A len c, acV s, .int .i64 pl] w fun e w' => e = .returned (.bool true) ∧ Ext w w' := by
  obtain ⟨ok1, ok2, ok3, ok4, ok5⟩ := id hs
  have hxa := (Ext.refl w).alloc (.cells #[.int .i64 s.kind, .int .i64 s.a, .int .i64 s.b, .slice s.A s.l.length s.c] 40)
  have ba := Blk.new w 40 #[.int .i64 s.kind, .int .i64 s.a, .int .i64 s.b, .slice s.A s.l.length s.c]
  have hl1 := hl.ext hxa
  have hr1 := ok4.ext hxa
  go_enter Try.func4, Try.ntmps4
  go_upto_region 1 with fail
  generalize w.alloc (.cells #[.int .i64 s.kind, .int .i64 s.a, .int .i64 s.b, .slice s.A s.l.length s.c] 40) = w1 at *
  generalize w.heap.size = zb at *
  go_wp2_with fail
  refine (much_any w1 A len c l hl1).mono ?_
  rintro e w2 ⟨bb, rfl, hb, hx2⟩
  have hxw := hxa.trans hx2
  cases bb with
  | true =>
    go_wp2_with fail
    refine (known_any _).mono ?_
    rintro e wk ⟨rfl, hxk⟩
    go_wp2_with fail
    go_ret
    exact ⟨rfl, (hxw).trans hxk⟩
  | false =>
    obtain ⟨h60, h20⟩ := hb rfl
    have hl2 := hl1.ext hx2
    have hr2 := hr1.ext hx2
    have ba2 := ba.ext hx2
    have hll := hl.1
    clear hb hl1 hr1 ba
    have m3 := ba2.cell 3
    simp at m3
    by_cases hbig : 3000 < s.l.length
    · have hbI : (3000 : Int) < (s.l.length : Int) := by omega
      go_wp2_with fail
      refine (known_any _).mono ?_
      rintro e wk ⟨rfl, hxk⟩
      go_wp2_with fail
      go_ret
      exact ⟨rfl, (hxw).trans hxk⟩
    have hbI : ¬ (3000 : Int) < (s.l.length : Int) := by omega
    go_wp2_with fail
    refine (lpair_any w2 A len c l hl2 (by omega) (fun k s h => by have := h20 k s h; omega)).mono ?_
    rintro e w3 ⟨n, q, g, rfl, hP, he⟩
    clear m3
    go_wp2_with fail
    refine (pr_keep hP 4 he).mono ?_
    rintro x w4 ⟨Aw, cw, pw, Lw, rfl, hRw, hP4⟩
    rw [List.append_nil] at hP4
    obtain ⟨er, g2, hso⟩ : ∃ er g2, sendOut g s.a s.b s.l = (er, g2) := ⟨_, _, rfl⟩
    have he2 : g2.ends = ((4 : Nat) : Int) := by
      have := sendOut_ends g s.a s.b s.l
      rw [hso] at this
      exact this.trans he
    have hoth := send_others he s.a s.b s.l
    rw [hso] at hoth
    simp only at hoth
    have hr4 := hr2.ext hP4.x
    have ba4 := ba2.ext hP4.x
    have m1 := ba4.cell 1
    have m2 := ba4.cell 2
    have m3 := ba4.cell 3
    simp at m1 m2 m3
    have htl := (hP4.le 4 he).1
    go_wp2_with fail
    refine (pr_send hP4 s.a s.b ok2 ok3 s.A s.c s.l.length s.l rfl hr4 (by unfold maxLen; omega) er g2 hso).mono ?_
    rintro x w5 ⟨rfl, hP5⟩
    clear m1 m2 m3 ba4 hr4 hP4 hP hso
    go_wp2_with fail
    refine (pr_keep hP5 4 he2).mono ?_
    rintro x w6 ⟨An, cn, pn, Ln, rfl, hRn, hP6⟩
    have hno2 := hP6.no
    have h322 := (hP6.le 4 he2).2.2.2
    have hnl := (hP6.le 4 he2).1
    obtain ⟨ts, hts⟩ : ∃ ts, flL g 4 (4 * 4) = ts := ⟨_, rfl⟩
    obtain ⟨us, hus⟩ : ∃ us, flL g2 4 (4 * 4) = us := ⟨_, rfl⟩
    rw [hts] at hRw hoth htl ⊢
    rw [hus] at hRn hoth hnl ⊢
    have HUS := Lib.hid hus
    have HOTH := Lib.hid hoth
    clear hts hus hoth
    go_wp2_with fail
    have hxd := (Ext.refl w6).drew
    have hP7 := hP6.ext hxd
    have hFw := hRw.fla hP7 (fun x hx => List.mem_append_right _ hx)
    have hFn := hRn.fla hP7 (fun x hx => List.mem_append_left _ hx)
    have ba7 := ba2.ext hP7.x
    refine wp_region_plan Ext [(0, true), (1, true), (2, true), (3, true), (4, true), (5, true), (6, true), (7, true), (8, true), (9, true), (10, true), (11, true), (13, true), (14, true), (15, true), (16, true), (17, true), (12, false), (18, false), (19, false), (20, true), (21, true)] (fun _ _ _ x y => Ext.trans x y) Ext.refl (by kernel_rfl) (by kernel_rfl) ?_
    intro K hK
    have t1 : ∀ y : Above Ext w6.drew, y.1.cell? ⟨zb, 1, none⟩ = some (.int .i64 s.a) := fun y => (ba7.ext y.2).cell 1
    have t2 : ∀ y : Above Ext w6.drew, y.1.cell? ⟨zb, 2, none⟩ = some (.int .i64 s.b) := fun y => (ba7.ext y.2).cell 2
    iterate 17 (
      refine plan_q (v := ?_) rfl rfl ?_ ?_
      rotate_left
      · intro x
        go_simp
        first | done | rfl
      simp only [Act.put, List.getElem_toArray, List.getElem_cons_zero, List.getElem_cons_succ, List.setIfInBounds_toArray, List.set_cons_zero, List.set_cons_succ])
    clear t1 t2
    refine plan_l rfl (by kernel_rfl) ?_
    intro K2 hK2
    go_simp
    refine (only_any w6.drew An cn us pn hFn (by omega) s.a s.b true).mono ?_
    rintro x w7 ⟨A7, c7, p7, rfl, hF7, hx7⟩
    go_simp
    refine hK2.out _ _ hx7 ?_
    clear hK2 K2
    try simp only [Act.put, List.getElem_toArray, List.getElem_cons_zero, List.getElem_cons_succ, List.setIfInBounds_toArray, List.set_cons_zero, List.set_cons_succ]
    refine plan_l rfl (by kernel_rfl) ?_
    intro K2 hK2
    go_simp
    refine (only_any w7 Aw cw ts pw (hFw.ext hx7) (by omega) s.a s.b true).mono ?_
    rintro x w8 ⟨A8, c8, p8, rfl, hF8, hx8⟩
    rw [← HOTH.out] at hF8 ⊢
    go_simp
    refine hK2.out _ _ hx8 ?_
    clear hK2 K2
    try simp only [Act.put, List.getElem_toArray, List.getElem_cons_zero, List.getElem_cons_succ, List.setIfInBounds_toArray, List.set_cons_zero, List.set_cons_succ]
    refine plan_l rfl (by kernel_rfl) ?_
    intro K2 hK2
    go_simp
    refine (sameall_any w8 A7 A8 c7 c8 _ p7 p8 (hF7.ext hx8) hF8 (by have := List.length_filter_le (onl s.a s.b true) us; omega)).mono ?_
    rintro x w9 ⟨rfl, hx9⟩
    go_simp
    refine hK2.out _ _ hx9 ?_
    clear hK2 K2
    try simp only [Act.put, List.getElem_toArray, List.getElem_cons_zero, List.getElem_cons_succ, List.setIfInBounds_toArray, List.set_cons_zero, List.set_cons_succ]
    iterate 2 (
      refine plan_q (v := ?_) rfl rfl ?_ ?_
      rotate_left
      · intro x
        go_simp
        first | done | rfl
      simp only [Act.put, List.getElem_toArray, List.getElem_cons_zero, List.getElem_cons_succ, List.setIfInBounds_toArray, List.set_cons_zero, List.set_cons_succ])
    refine plan_end (hK.out _ _ ?_)
    clear hK K
    have hP9 := ((hP7.ext hx7).ext hx8).ext hx9
    clear hP7 hFw hFn ba7 hF7 hF8 hx7 hx8 hx9 hxd hP6 hP5
    go_wp2_with fail
    obtain ⟨er2, t, hat⟩ : ∃ er2 t, atL us pl = (er2, t) := ⟨_, _, rfl⟩
    have hat' : atL (flL g2 4 (4 * 4)) pl = (er2, t) := by rw [HUS.out]; exact hat
    refine (pr_at hP9 4 he2 pl wp er2 t hat').mono ?_
    rintro x w10 ⟨A10, c10, rfl, r10, l10, hx10⟩
    have hxf := (Ext.refl w10).alloc (.cells #[.int .i64 t.1, .int .i64 t.2.1, .slice A10 t.2.2.length c10] 51)
    have bf := Blk.new w10 51 #[.int .i64 t.1, .int .i64 t.2.1, .slice A10 t.2.2.length c10]
    have hP11 := (hP9.ext hx10).made hxf bf (Nat.le_refl _)
    have HAT := Lib.hid hat'
    clear hat hat' hP9 hx10 r10
    go_upto_region 12 with fail
    generalize w10.alloc (.cells #[.int .i64 t.1, .int .i64 t.2.1, .slice A10 t.2.2.length c10] 51) = w11 at *
    generalize w10.heap.size = zf at *
    clear hxf bf
    go_wp2_with fail
    refine (num_any _ _).mono ?_
    rintro x w12 ⟨rfl, rfl⟩
    have hxq := hxw.trans hP11.x
    by_cases h0 : er2 = 0
    rotate_left
    · have hne : (er2 == 0) = false := by simpa using h0
      clear h0
      go_wp2_with fail
      refine (known_any _).mono ?_
      rintro e wk ⟨rfl, hxk⟩
      go_wp2_with fail
      go_ret
      exact ⟨rfl, (hxq).trans hxk⟩
    subst h0
    obtain ⟨htw, htl2⟩ := twice he2 (by omega) hno2 h322 HAT.out
    have hdE := dbl_ends g2 4 pl
    obtain ⟨dr, gD, hdo⟩ : ∃ dr gD, dblOut g2 4 pl = (dr, gD) := ⟨_, _, rfl⟩
    rw [hdo] at htw htl2 hdE
    simp only at htw htl2 hdE
    have heD : gD.ends = ((4 : Nat) : Int) := hdE.trans he2
    have htE := takeG_ends gD 4 pl
    obtain ⟨gT, hgT⟩ : ∃ gT, takeG gD 4 pl = gT := ⟨_, rfl⟩
    rw [hgT] at htw htl2 htE
    have heT : gT.ends = ((4 : Nat) : Int) := htE.trans heD
    obtain ⟨vs, hvs⟩ : ∃ vs, flL gT 4 (4 * 4) = vs := ⟨_, rfl⟩
    rw [hvs, HUS.out] at htw htl2
    have HTW := Lib.hid htw
    have HTL := Lib.hid htl2
    have HDO := Lib.hid hdo
    have HGT := Lib.hid hgT
    have HVS := Lib.hid hvs
    clear htw htl2 hdo hgT hvs hdE htE
    go_wp2_with fail
    refine (pr_double hP11 4 he2 pl wp).mono ?_
    rintro x w13 ⟨rfl, hP13⟩
    rw [HDO.out] at hP13 ⊢
    simp only at hP13
    obtain ⟨er3, t3, hat3⟩ : ∃ er3 t3, atL (flL gD 4 (4 * 4)) pl = (er3, t3) := ⟨_, _, rfl⟩
    go_wp2_with fail
    refine (pr_take hP13 4 heD pl wp er3 t3 hat3).mono ?_
    rintro x w14 ⟨A14, c14, rfl, r14, l14, hP14⟩
    rw [HGT.out] at hP14
    clear hP11 hP13 hat3 r14 l14
    go_wp2_with fail
    refine (pr_all hP14 4 heT).mono ?_
    rintro x w15 ⟨Av, cv, pv, rfl, hFv, hx15⟩
    have hvl := (hP14.le 4 heT).1
    rw [HVS.out] at hFv hvl ⊢
    have hP15 := hP14.ext hx15
    clear hP14 hx15
    go_wp2_with fail
    have hxd := (Ext.refl w15).drew
    have hP16 := hP15.ext hxd
    have hFv16 := hFv.ext hxd
    have hFn := hRn.fla hP16 (fun x hx => List.mem_cons_of_mem _ (List.mem_append_left _ hx))
    have bz := hP16.blk List.mem_cons_self
    refine wp_region_plan Ext [(0, true), (1, true), (2, true), (3, true), (4, true), (6, true), (7, true), (8, true), (9, true), (10, true), (5, false), (11, false), (12, true), (13, true)] (fun _ _ _ x y => Ext.trans x y) Ext.refl (by kernel_rfl) (by kernel_rfl) ?_
    intro K hK
    have t1 : ∀ y : Above Ext w15.drew, y.1.cell? ⟨zf, 0, none⟩ = some (.int .i64 t.1) := fun y => (bz.ext y.2).cell 0
    have t2 : ∀ y : Above Ext w15.drew, y.1.cell? ⟨zf, 1, none⟩ = some (.int .i64 t.2.1) := fun y => (bz.ext y.2).cell 1
    iterate 10 (
      refine plan_q (v := ?_) rfl rfl ?_ ?_
      rotate_left
      · intro x
        go_simp
        first | done | rfl
      simp only [Act.put, List.getElem_toArray, List.getElem_cons_zero, List.getElem_cons_succ, List.setIfInBounds_toArray, List.set_cons_zero, List.set_cons_succ])
    clear t1 t2
    refine plan_l rfl (by kernel_rfl) ?_
    intro K2 hK2
    go_simp
    refine (only_any w15.drew Av cv vs pv hFv16 (by omega) t.1 t.2.1 false).mono ?_
    rintro x w16 ⟨A16, c16, p16, rfl, hF16, hx16⟩
    go_simp
    refine hK2.out _ _ hx16 ?_
    clear hK2 K2
    try simp only [Act.put, List.getElem_toArray, List.getElem_cons_zero, List.getElem_cons_succ, List.setIfInBounds_toArray, List.set_cons_zero, List.set_cons_succ]
    refine plan_l rfl (by kernel_rfl) ?_
    intro K2 hK2
    go_simp
    refine (only_any w16 An cn us pn (hFn.ext hx16) (by omega) t.1 t.2.1 false).mono ?_
    rintro x w17 ⟨A17, c17, p17, rfl, hF17, hx17⟩
    go_simp
    refine hK2.out _ _ hx17 ?_
    clear hK2 K2
    try simp only [Act.put, List.getElem_toArray, List.getElem_cons_zero, List.getElem_cons_succ, List.setIfInBounds_toArray, List.set_cons_zero, List.set_cons_succ]
    iterate 2 (
      refine plan_q (v := ?_) rfl rfl ?_ ?_
      rotate_left
      · intro x
        go_simp
        first | done | rfl
      simp only [Act.put, List.getElem_toArray, List.getElem_cons_zero, List.getElem_cons_succ, List.setIfInBounds_toArray, List.set_cons_zero, List.set_cons_succ])
    refine plan_end (hK.out _ _ ?_)
    clear hK K
    obtain ⟨fa, hfa⟩ : ∃ fa, (vs.filter (onl t.1 t.2.1 false)).length = fa := ⟨_, rfl⟩
    obtain ⟨fb, hfb⟩ : ∃ fb, (us.filter (onl t.1 t.2.1 false)).length = fb := ⟨_, rfl⟩
    have hll2 := HTL.out
    rw [hfa, hfb] at hll2
    have hfal : fa ≤ 800 := by
      rw [← hfa]
      have := List.length_filter_le (onl t.1 t.2.1 false) vs
      omega
    have hfbl : fb ≤ 800 := by
      rw [← hfb]
      have := List.length_filter_le (onl t.1 t.2.1 false) us
      omega
    rw [hfa, hfb]
    have hP17 := (hP16.ext hx16).ext hx17
    have hFv17 := (hFv16.ext hx16).ext hx17
    have hFn17 := (hFn.ext hx16).ext hx17
    clear hfa hfb hP15 hP16 hFv hFv16 hFn bz hF16 hF17 hx16 hx17 hxd hRw HTL
    go_wp2_with fail
    have hxd := (Ext.refl w17).drew
    have hP18 := hP17.ext hxd
    have hFv18 := hFv17.ext hxd
    have hFn18 := hFn17.ext hxd
    have bz := hP18.blk List.mem_cons_self
    refine wp_region_plan Ext [(0, true), (1, true), (2, true), (3, true), (4, true), (5, true), (6, true), (8, true), (9, true), (10, true), (11, true), (12, true), (7, false), (13, false), (14, false), (15, true), (16, true), (17, true), (18, true), (19, true), (20, true), (21, true), (22, true), (23, true), (24, true), (25, true), (26, true), (27, true), (28, true), (29, true), (30, true), (31, true), (32, true), (33, true), (34, true), (35, true), (36, true), (37, false), (38, true), (39, true)] (fun _ _ _ x y => Ext.trans x y) Ext.refl (by kernel_rfl) (by kernel_rfl) ?_
    intro K hK
    have t1 : ∀ y : Above Ext w17.drew, y.1.cell? ⟨zf, 0, none⟩ = some (.int .i64 t.1) := fun y => (bz.ext y.2).cell 0
    have t2 : ∀ y : Above Ext w17.drew, y.1.cell? ⟨zf, 1, none⟩ = some (.int .i64 t.2.1) := fun y => (bz.ext y.2).cell 1
    iterate 12 (
      refine plan_q (v := ?_) rfl rfl ?_ ?_
      rotate_left
      · intro x
        go_simp
        first | done | rfl
      simp only [Act.put, List.getElem_toArray, List.getElem_cons_zero, List.getElem_cons_succ, List.setIfInBounds_toArray, List.set_cons_zero, List.set_cons_succ])
    clear t1 t2
    refine plan_l rfl (by kernel_rfl) ?_
    intro K2 hK2
    go_simp
    refine (only_any w17.drew Av cv vs pv hFv18 (by omega) t.1 t.2.1 true).mono ?_
    rintro x w18 ⟨A18, c18, p18, rfl, hF18, hx18⟩
    go_simp
    refine hK2.out _ _ hx18 ?_
    clear hK2 K2
    try simp only [Act.put, List.getElem_toArray, List.getElem_cons_zero, List.getElem_cons_succ, List.setIfInBounds_toArray, List.set_cons_zero, List.set_cons_succ]
    refine plan_l rfl (by kernel_rfl) ?_
    intro K2 hK2
    go_simp
    refine (only_any w18 An cn us pn (hFn18.ext hx18) (by omega) t.1 t.2.1 true).mono ?_
    rintro x w19 ⟨A19, c19, p19, rfl, hF19, hx19⟩
    rw [← HTW.out] at hF19 ⊢
    go_simp
    refine hK2.out _ _ hx19 ?_
    clear hK2 K2
    try simp only [Act.put, List.getElem_toArray, List.getElem_cons_zero, List.getElem_cons_succ, List.setIfInBounds_toArray, List.set_cons_zero, List.set_cons_succ]
    refine plan_l rfl (by kernel_rfl) ?_
    intro K2 hK2
    go_simp
    refine (sameall_any w19 A18 A19 c18 c19 _ p18 p19 (hF18.ext hx19) hF19 (by have := List.length_filter_le (onl t.1 t.2.1 true) vs; omega)).mono ?_
    rintro x w20 ⟨rfl, hx20⟩
    go_simp
    refine hK2.out _ _ hx20 ?_
    clear hK2 K2
    try simp only [Act.put, List.getElem_toArray, List.getElem_cons_zero, List.getElem_cons_succ, List.setIfInBounds_toArray, List.set_cons_zero, List.set_cons_succ]
    have hP20 := ((hP18.ext hx18).ext hx19).ext hx20
    have hxe := hxw.trans hP20.x
    clear hP17 hP18 hFv17 hFv18 hFn17 hFn18 bz hF18 hF19 hx18 hx19 hx20 hxd
    by_cases hE : fa = fb
    · subst hE
      clear hll2
      iterate 8 (
        refine plan_q (v := ?_) rfl rfl ?_ ?_
        rotate_left
        · intro x
          go_simp
          first | done | rfl
        simp only [Act.put, List.getElem_toArray, List.getElem_cons_zero, List.getElem_cons_succ, List.setIfInBounds_toArray, List.set_cons_zero, List.set_cons_succ])
      iterate 11 (
        refine plan_n rfl (by kernel_rfl) ?_
        simp only [Act.put, List.getElem_toArray, List.getElem_cons_zero, List.getElem_cons_succ, List.setIfInBounds_toArray, List.set_cons_zero, List.set_cons_succ])
      iterate 3 (
        refine plan_q (v := ?_) rfl rfl ?_ ?_
        rotate_left
        · intro x
          go_simp
          first | done | rfl
        simp only [Act.put, List.getElem_toArray, List.getElem_cons_zero, List.getElem_cons_succ, List.setIfInBounds_toArray, List.set_cons_zero, List.set_cons_succ])
      refine plan_l rfl (by kernel_rfl) ?_
      intro K2 hK2
      go_simp
      refine (known_any _).mono ?_
      rintro x w21 ⟨rfl, hx21⟩
      go_simp
      refine hK2.out _ _ hx21 ?_
      clear hK2 K2
      try simp only [Act.put, List.getElem_toArray, List.getElem_cons_zero, List.getElem_cons_succ, List.setIfInBounds_toArray, List.set_cons_zero, List.set_cons_succ]
      iterate 2 (
        refine plan_q (v := ?_) rfl rfl ?_ ?_
        rotate_left
        · intro x
          go_simp
          first | done | rfl
        simp only [Act.put, List.getElem_toArray, List.getElem_cons_zero, List.getElem_cons_succ, List.setIfInBounds_toArray, List.set_cons_zero, List.set_cons_succ])
      refine plan_end (hK.out _ _ ?_)
      clear hK K
      go_wp2_with fail
      go_ret
      exact ⟨rfl, hxe.trans hx21⟩
    · obtain ⟨hb32, ha31⟩ := hll2.resolve_left hE
      obtain rfl : fb = 32 := hb32
      obtain rfl : fa = 31 := by omega
      clear hll2 hE
      iterate 22 (
        refine plan_q (v := ?_) rfl rfl ?_ ?_
        rotate_left
        · intro x
          go_simp
          first | done | rfl
        simp only [Act.put, List.getElem_toArray, List.getElem_cons_zero, List.getElem_cons_succ, List.setIfInBounds_toArray, List.set_cons_zero, List.set_cons_succ])
      refine plan_l rfl (by kernel_rfl) ?_
      intro K2 hK2
      go_simp
      refine (known_any _).mono ?_
      rintro x w21 ⟨rfl, hx21⟩
      go_simp
      refine hK2.out _ _ hx21 ?_
      clear hK2 K2
      try simp only [Act.put, List.getElem_toArray, List.getElem_cons_zero, List.getElem_cons_succ, List.setIfInBounds_toArray, List.set_cons_zero, List.set_cons_succ]
      iterate 2 (
        refine plan_q (v := ?_) rfl rfl ?_ ?_
        rotate_left
        · intro x
          go_simp
          first | done | rfl
        simp only [Act.put, List.getElem_toArray, List.getElem_cons_zero, List.getElem_cons_succ, List.setIfInBounds_toArray, List.set_cons_zero, List.set_cons_succ])
      refine plan_end (hK.out _ _ ?_)
      clear hK K
      go_wp2_with fail
      go_ret
      exact ⟨rfl, hxe.trans hx21⟩

set_option maxRecDepth 100000 in
theorem lifted (os : Os) (started : os.Started) (H : Type) (enc : TypeId × Value → H) :
    ReturnsInHanded {} Try.checked os 4 .any (Rows.netApartSpec.pre6 enc Try.prog Try.f4 Rows.netApartRow.domain false) (Rows.netApartSpec.post enc Try.prog Try.f4 false true false false) := by
  refine returnsInHanded_of_change (C := Try.checked) own started (by kernel_rfl) Try.func4
    (ChangeSpec.witness6 (enc := enc) (C := Try.checked) false ⟨#[], #[.slice none 0 0, .agg #[.int .i64 0, .int .i64 0, .int .i64 0, .slice none 0 0], .int .i64 0], []⟩ 8 (by kernel_rfl) (by kernel_rfl) (by kernel_rfl) (by kernel_rfl)) ?_
  intro W base args ds gs before hval0 hW hcnd _
  have hval : ∀ (j : Nat) t v, Try.f4.params[j]? = some t → args[j]? = some v → Value.okWide Try.prog W .any base t v := hval0
  have hW' := hW
  obtain ⟨p, q, hA0, hV, rfl, hfz, hnd⟩ := hW
  have hA : DataW.TrodAll enc Try.prog W 0 (fun _ => true) true Try.f4.params.toList args.toList ds p := hA0
  rw [Try.params4] at hA hval
  obtain ⟨v0, vs0, d0, ds0, p0, q0, hargs, rfl, rfl, h0, r0⟩ := trodAll_cons hA
  obtain ⟨v1, vs1, d1, ds1, p1, q1, rfl, rfl, rfl, h1, r1⟩ := trodAll_cons r0
  obtain ⟨v2, vs2, d2, ds2, p2, q2, rfl, rfl, rfl, h2, r2⟩ := trodAll_cons r1
  obtain ⟨rfl, rfl, rfl⟩ := trodAll_nil r2
  obtain rfl : args = #[v0, v1, v2] := by cases args; simp_all
  obtain ⟨rfl, rfl⟩ := trodVars_none hV
  obtain ⟨a0, n0, c0, rfl⟩ := okWide_slice Try.underlying22 (hval 0 22 v0 rfl rfl)
  have k0 := h0
  have lt0 : ∀ x ∈ p0, x.block < W.heap.size := by obtain ⟨m, hm⟩ := k0; exact DataW.trod_lt m _ _ _ hm
  obtain ⟨l0, w0, y0⟩ := open_acts h0
  have k1 := h1
  have lt1 : ∀ x ∈ p1, x.block < W.heap.size := by obtain ⟨m, hm⟩ := k1; exact DataW.trod_lt m _ _ _ hm
  obtain ⟨l1, rfl, w1⟩ := open_act (hval 1 40 v1 rfl rfl) h1
  obtain ⟨a2, rfl, rfl, rfl, w2⟩ := open_int Try.underlying3 (hval 2 3 v2 rfl rfl) h2
  clear hA0 hval0
  refine (walk W a0 n0 c0 l0 w0 y0 l1 w1 a2 w2).mono fun e W' ⟨he, bel⟩ => ?_
  subst he
  exact ⟨_, rfl, _, _, _, [], _, [], hW', trodAll_mk1 (shut_bool Try.underlying4 _), (trodAll_cons_mk (Below.trod laidOut (by kernel_rfl) (of_decide_eq_true (by kernel_rfl)) k0 bel lt0) (trodAll_cons_mk (Below.trod laidOut (by kernel_rfl) (of_decide_eq_true (by kernel_rfl)) k1 bel lt1) (trodAll_cons_mk (shut_int Try.underlying3 w2) trodAll_mk0))), rfl, Below.frame bel _, fun h => by cases h⟩

theorem over_ : Rows.netApartRow.holds Try.pinned (OpenSpec.ofChange Rows.netApartSpec) :=
  OpenClaim.holds_of_wide 4 Try.f4 rfl rfl rfl rfl rfl rfl rfl ⟨rfl, rfl, rfl, rfl, rfl⟩ rfl rfl rfl rfl rfl (by kernel_rfl) Try.func4 (by kernel_rfl)
    (of_decide_eq_true (by kernel_rfl)) (by unfold Func.isWrapper; first | (rw [if_pos (by decide +kernel)]; kernel_rfl) | (rw [if_neg (by decide +kernel)]; exact ⟨rfl, rfl⟩))
    (fun os started H enc _ => lifted os started H enc)

theorem proved : Rows.NetApartSaid := over_
end Go.Proofs.Ytekbdpfiommmbaa.lawApart
