/- CrcPages answers true, whatever two pages, whatever place and whatever sum it is given. No conditions. -/
import Derived.Test.YtpfepajenimejaaWords
import Derived.Test.YtpfepajenimejaaFrame
import Derived.Test.YtpfepajenimejaaFlow
namespace Go.Proofs.Ytpfepajenimejaa.lawPages
open Go.ChangeShapes Go.WideShapes Go.ChangeAt Go.RowKit
open Go.ChangeMaps (open_string shut_string)
set_option linter.unusedVariables false
set_option linter.unusedSimpArgs false

set_option maxRecDepth 100000 in
set_option maxHeartbeats 3200000 in
theorem walk (w : World) (A : Option Addr) (n c : Nat) (l : List UInt8) (hr : Rd w 0 A n l) (hc : n ≤ c) (B : Option Addr) (m d : Nat) (k : List UInt8) (ks : Rd w 0 B m k) (kc : m ≤ d)
    (p : Int) (hpw : (Lit.int IntKind.i64 p).wf = true) (s : Int) (hsw : (Lit.int IntKind.u32 s).wf = true) :
    Calls Try.prog 3 #[.slice A n c, .slice B m d, .int .i64 p, .int .u32 s] w fun e w' => e = .returned (.bool true) ∧ Ext w w' := by
  obtain ⟨s, rfl⟩ := word_of hsw
  clear hsw
  by_cases hA : 20000 < n
  ·
    have hA' : (20000 : Int) < (n : Int) := by omega
    clear hA
    go_enter Try.func3, Try.ntmps3
    go_wp2_with fail
    refine (known_any _).mono ?_
    rintro e wk ⟨rfl, hxk⟩
    go_wp2_with fail
    go_ret
    exact ⟨rfl, hxk⟩
  have hA' : ¬ (20000 : Int) < (n : Int) := by omega
  by_cases hB : 20000 < m
  ·
    have hB' : (20000 : Int) < (m : Int) := by omega
    clear hA hB
    go_enter Try.func3, Try.ntmps3
    go_wp2_with fail
    refine (known_any _).mono ?_
    rintro e wk ⟨rfl, hxk⟩
    go_wp2_with fail
    go_ret
    exact ⟨rfl, hxk⟩
  have hB' : ¬ (20000 : Int) < (m : Int) := by omega
  have hl := hr.len
  have hk := ks.len
  have q1 : n < 4611686018427387904 := by omega
  have q2 : m < 4611686018427387904 := by omega
  go_enter Try.func3, Try.ntmps3
  go_wp2_with (at_builtin; refine wpList_append_b bytes_ty rfl _ _ rfl w (Ext.refl w) _ 0 0 [] rfl (Own.nil _ _ _) A n c _ l rfl hr (by omega) ?_; rw [Nat.zero_add, List.nil_append]; intro A1 c1 w1 h1 _ hx1)
  obtain ⟨q, hq⟩ : ∃ q, more 0#32 l = q := ⟨_, rfl⟩
  refine (rsum_any A n c 0 l _ (hr.ext hx1) q1).mono ?_
  rw [hq]
  rintro e w2 ⟨rfl, rfl⟩
  go_wp2_with fail
  have r1 := h1.rd.low (Nat.zero_le _)
  refine (sum_any _ 1 1 [l] _ (RdL.new1 _ A1 n c1 l r1) (by decide) (by intro k hk; simp at hk; subst hk; omega)).mono ?_
  rw [show jn [l] = l by simp [jn], hq]
  rintro e w2 ⟨rfl, hx2⟩
  replace hx2 := ((Ext.refl w1).alloc _).trans hx2
  go_wp2_with fail
  refine (holds_any A1 n c1 l q _ (r1.ext hx2) q1).mono ?_
  rw [hq, show decide (q = q) = true by simp]
  rintro e w3 ⟨rfl, hx3⟩
  replace hx3 := hx2.trans hx3
  clear hx2
  go_wp2_with fail
  refine (holds_any A1 n c1 l s _ (r1.ext hx3) q1).mono ?_
  rw [hq]
  rintro e w4 ⟨rfl, hx4⟩
  replace hx4 := hx3.trans hx4
  clear hx3
  have e1 := wv_eq s q
  have e2 : (decide (q = s) == decide (s = q)) = true := by rw [show decide (q = s) = decide (s = q) by congr 1; exact propext eq_comm]; simp
  have hs1 := run_string (r1.ext hx4) c1 Try.underlying22 Try.underlying5 Try.underlying9
  have hs2 := run_string (hr.ext (hx1.trans hx4)) c Try.underlying22 Try.underlying5 Try.underlying9
  have hx := hx1.trans hx4
  by_cases hp : p < 0
  · go_wp2_with fail
    refine (known_any _).mono ?_
    rintro e wk ⟨rfl, hxk⟩
    go_wp2_with fail
    go_ret
    exact ⟨rfl, (hx).trans hxk⟩
  by_cases hp2 : (n : Int) < p
  · go_wp2_with fail
    refine (known_any _).mono ?_
    rintro e wk ⟨rfl, hxk⟩
    go_wp2_with fail
    go_ret
    exact ⟨rfl, (hx).trans hxk⟩
  by_cases hp3 : (m : Int) < p
  · go_wp2_with fail
    refine (known_any _).mono ?_
    rintro e wk ⟨rfl, hxk⟩
    go_wp2_with fail
    go_ret
    exact ⟨rfl, (hx).trans hxk⟩
  obtain ⟨P, rfl⟩ := Int.eq_ofNat_of_zero_le (show 0 ≤ p by omega)
  have hP1 : P ≤ n := by omega
  have hP2 : P ≤ m := by omega
  go_wp2_with fail
  clear hs1 hs2 hp hp2 hp3
  have g1 : (P : Int) ≤ (c : Int) := by omega
  have g2 : (P : Int) ≤ (m : Int) := by omega
  have g3 : (m : Int) ≤ (d : Int) := by omega
  have r4 := hr.ext hx
  have k4 := ks.ext hx
  obtain ⟨T, hT⟩ : ∃ T, l.take P ++ k.drop P = T := ⟨_, rfl⟩
  obtain ⟨N, hN⟩ : ∃ N, P + (m - P) = N := ⟨_, rfl⟩
  refine wp_region_plan (fun a b => True) [(0, true), (1, true), (2, true), (4, true), (5, true), (6, true), (3, false), (7, false), (8, true)] (fun _ _ _ x y => (fun x y => trivial) x y) (fun a => trivial) (by kernel_rfl) (by kernel_rfl) ?_
  intro K hK
  iterate 6 (
    refine plan_q (v := ?_) rfl rfl ?_ ?_
    rotate_left
    · intro x
      go_simp
      first | done | rfl
    simp only [Act.put, List.getElem_toArray, List.getElem_cons_zero, List.getElem_cons_succ, List.setIfInBounds_toArray, List.set_cons_zero, List.set_cons_succ])
  refine plan_l rfl rfl ?_
  intro K2 hK2
  refine wp_append_b bytes_ty _ _ rfl w4.drew (Ext.refl _) _ 0 0 [] rfl (Own.nil _ _ _) A P c 0 (l.take P) rfl ((r4.take hP1).ext (Ext.refl _).drew) (by omega) ?_
  rw [Nat.zero_add, List.nil_append]
  intro A5 c5 w5 h5 _ hx5
  refine hK2.out _ _ trivial ?_
  clear hK2 K2
  try simp only [Act.put, List.getElem_toArray, List.getElem_cons_zero, List.getElem_cons_succ, List.setIfInBounds_toArray, List.set_cons_zero, List.set_cons_succ]
  refine plan_l rfl rfl ?_
  intro K2 hK2
  refine wp_append_b bytes_ty _ _ rfl w4.drew hx5 A5 P c5 (l.take P) rfl h5 _ (m - P) (d - P) 0 (k.drop P) rfl ((k4.ext ((Ext.refl _).drew.trans hx5)).drop hP2 kc) (by omega) ?_
  rw [hT, hN]
  intro A6 c6 w6 h6 _ hx6
  refine hK2.out _ _ trivial ?_
  clear hK2 K2
  try simp only [Act.put, List.getElem_toArray, List.getElem_cons_zero, List.getElem_cons_succ, List.setIfInBounds_toArray, List.set_cons_zero, List.set_cons_succ]
  iterate 1 (
    refine plan_q (v := ?_) rfl rfl ?_ ?_
    rotate_left
    · intro x
      go_simp
      first | done | rfl
    simp only [Act.put, List.getElem_toArray, List.getElem_cons_zero, List.getElem_cons_succ, List.setIfInBounds_toArray, List.set_cons_zero, List.set_cons_succ])
  refine plan_end (hK.out _ _ ?_)
  clear hK K
  generalize (if d = P then B else Option.map (fun x => x.add P) B) = Z0
  have hx46 := (Ext.refl w4).drew.trans hx6
  have hx9 := (hx.trans hx46)
  have r6 := (hr.ext hx9).take hP1
  have k6 := (ks.ext hx9).drop hP2 kc
  have t6 := h6.rd.low (Nat.zero_le _)
  generalize hZ : (if d = P then B else Option.map (fun x => x.add P) B) = Z at k6
  obtain ⟨t, ht⟩ : ∃ t, more 0#32 T = t := ⟨_, rfl⟩
  obtain ⟨x1, hx1'⟩ : ∃ x, more 0#32 (l.take P) = x := ⟨_, rfl⟩
  obtain ⟨x2, hx2'⟩ : ∃ x, more 0#32 (k.drop P) = x := ⟨_, rfl⟩
  have hjoin : sts (8 * (((m - P : Nat) : Int)).toNat) x1 ^^^ x2 = t := by
    rw [← ht, ← hT, more_join, hx1', hx2', List.length_drop, hk, Int.toNat_natCast]
  have hwr : IntKind.i64.wrap ((m : Int) - (P : Int)) = ((m - P : Nat) : Int) := by rw [IntKind.wrap_i64]; omega
  clear hx5 h5 hx4 hx1 r1 h1 e1 e2 r4 k4 hx6 h6
  go_wp2_with fail
  have z1 : decide ((P : Int) < 0) = false := by simp
  have z2 : decide (n < P) = false := by simp; omega
  have z3 : decide (m < P) = false := by simp; omega
  simp only [z1, z2, z3, Bool.or_self]
  refine wp_region_pl Ext [.q 0, .q 3, .q 4, .q 5, .q 8, .q 9, .q 10, .q 13, .q 14, .q 15, .q 16, .seg [1, 6, 11, 2, 7], .f 12, .f 17, .q 18, .q 19, .q 20, .q 21, .f 22, .f 23, .q 24, .q 25, .f 26, .q 27, .q 28] (fun _ _ _ x y => Ext.trans x y) Ext.refl (by kernel_rfl) (by kernel_rfl) ?_
  intro K hK
  iterate 11 (
    refine pl_q (v := ?_) rfl rfl ?_ ?_
    rotate_left
    · intro x
      go_simp
      first | done | rfl
    simp only [Act.put, List.getElem_toArray, List.getElem_cons_zero, List.getElem_cons_succ, List.setIfInBounds_toArray, List.set_cons_zero, List.set_cons_succ])
  clear hZ
  have t6 := t6.ext (Ext.refl _).drew
  have r6 := r6.ext (Ext.refl _).drew
  have k6 := k6.ext (Ext.refl _).drew
  refine pl_seg (A := ?A) (fun j x u => match j with | 1 => ∃ a, x = .slice a 1 1 ∧ RdL u a 1 [T] | 6 => ∃ a, x = .slice a 1 1 ∧ RdL u a 1 [l.take P] | 11 => ∃ a, x = .slice a 1 1 ∧ RdL u a 1 [k.drop P] | 2 => x = wv t | 7 => x = wv x1 | _ => True) (fun _ _ _ _ => True) ?hA ?h0 ?hput ?hmono ?hstep ?hend
  case hA =>
    intro v
    simp only [fillT, Option.bind_some, Option.bind_none, Option.bind, List.getElem?_toArray, List.getElem?_cons_zero, List.getElem?_cons_succ, List.setIfInBounds_toArray, List.set_cons_zero, List.set_cons_succ]
    exact rfl
  case h0 => exact rfl
  case hput => repeat' (first | exact trivial | refine And.intro (fun o ho v x => by obtain rfl := Option.some.inj ho; rfl) ?_)
  case hmono => exact ⟨fun x u u' h ⟨a, e, r⟩ => ⟨a, e, r.ext h⟩, fun x u u' h ⟨a, e, r⟩ => ⟨a, e, r.ext h⟩, fun x u u' h ⟨a, e, r⟩ => ⟨a, e, r.ext h⟩, fun x u u' h e => e, fun x u u' h e => e, trivial⟩
  case hstep =>
    refine And.intro ?_ (And.intro ?_ (And.intro ?_ (And.intro ?_ (And.intro ?_ trivial))))
    ·
      intro o ho
      obtain rfl := Option.some.inj ho
      clear ho
      intro v u hR hD K2 hK2
      clear hD
      go_simp
      exact hK2.out _ _ _ ((Ext.refl _).alloc _) ⟨_, rfl, RdL.new1 _ _ _ _ _ (t6.ext hR)⟩ (fun _ _ _ _ _ => trivial) rfl
    ·
      intro o ho
      obtain rfl := Option.some.inj ho
      clear ho
      intro v u hR hD K2 hK2
      clear hD
      go_simp
      exact hK2.out _ _ _ ((Ext.refl _).alloc _) ⟨_, rfl, RdL.new1 _ _ _ _ _ (r6.ext hR)⟩ (fun _ _ _ _ _ => trivial) rfl
    ·
      intro o ho
      obtain rfl := Option.some.inj ho
      clear ho
      intro v u hR hD K2 hK2
      clear hD
      go_simp
      exact hK2.out _ _ _ ((Ext.refl _).alloc _) ⟨_, rfl, RdL.new1 _ _ _ _ _ (k6.ext hR)⟩ (fun _ _ _ _ _ => trivial) rfl
    ·
      intro o ho
      obtain rfl := Option.some.inj ho
      clear ho
      intro v u hR hD K2 hK2
      have d1 :  ∃ a, v 1 = .slice a 1 1 ∧ RdL u a 1 [T] := hD 1 (by kernel_rfl) (by kernel_rfl)
      clear hD
      obtain ⟨a1, e1, f1⟩ := d1
      go_simp
      refine (sum_any a1 1 1 [T] _ f1 (by decide) (by intro k hk; simp at hk; subst hk; have := t6.len; omega)).mono ?_
      rw [show jn [T] = T by simp [jn], ht]
      rintro e w7 ⟨rfl, hx7⟩
      go_simp
      exact hK2.out _ _ _ hx7 rfl (fun _ _ _ _ _ => trivial) (by simp only [e1]; rfl)
    ·
      intro o ho
      obtain rfl := Option.some.inj ho
      clear ho
      intro v u hR hD K2 hK2
      have d6 :  ∃ a, v 6 = .slice a 1 1 ∧ RdL u a 1 [l.take P] := hD 6 (by kernel_rfl) (by kernel_rfl)
      clear hD
      obtain ⟨a1, e1, f1⟩ := d6
      go_simp
      refine (sum_any a1 1 1 [l.take P] _ f1 (by decide) (by intro k hk; simp at hk; subst hk; simp; omega)).mono ?_
      rw [show jn [l.take P] = l.take P by simp [jn], hx1']
      rintro e w7 ⟨rfl, hx7⟩
      go_simp
      exact hK2.out _ _ _ hx7 rfl (fun _ _ _ _ _ => trivial) (by simp only [e1]; rfl)
  case hend =>
    intro v u hR hF hP
    obtain ⟨⟨a1, e1, f1⟩, ⟨a6, e6, f6⟩, ⟨a11, e11, f11⟩, e2, e7, -⟩ := hF
    have e2 : v 2 = wv t := e2
    have e7 : v 7 = wv x1 := e7
    simp only [e1, e6, e11, e2, e7]
    clear e1 e6 e2 e7 e11 f1 f6
    have hx10 := (hx9.drew).trans hR
    have t7 := t6.ext hR
    clear hx46 hx9 hR
    refine pl_l rfl rfl ?_
    intro K2 hK2
    go_simp
    refine (sum_any a11 1 1 [k.drop P] _ f11 (by decide) (by intro k hk; simp at hk; subst hk; simp; omega)).mono ?_
    rw [show jn [k.drop P] = k.drop P by simp [jn], hx2']
    rintro e w7 ⟨rfl, hx7⟩
    go_simp
    refine hK2.out _ _ hx7 ?_
    clear hK2 K2
    try simp only [Act.put, List.getElem_toArray, List.getElem_cons_zero, List.getElem_cons_succ, List.setIfInBounds_toArray, List.set_cons_zero, List.set_cons_succ]
    refine pl_l rfl rfl ?_
    intro K2 hK2
    go_simp
    refine (join_any x1 x2 _ (by omega) _).mono ?_
    rw [hjoin]
    rintro e w8 ⟨rfl, hx8⟩
    go_simp
    refine hK2.out _ _ hx8 ?_
    clear hK2 K2
    try simp only [Act.put, List.getElem_toArray, List.getElem_cons_zero, List.getElem_cons_succ, List.setIfInBounds_toArray, List.set_cons_zero, List.set_cons_succ]
    replace hx8 := hx7.trans hx8
    iterate 4 (
      refine pl_q (v := ?_) rfl rfl ?_ ?_
      rotate_left
      · intro x
        go_simp
        first | done | rfl
      simp only [Act.put, List.getElem_toArray, List.getElem_cons_zero, List.getElem_cons_succ, List.setIfInBounds_toArray, List.set_cons_zero, List.set_cons_succ])
    refine pl_l rfl rfl ?_
    intro K2 hK2
    go_simp
    refine (rsum_any A6 N c6 0 T _ (t7.ext hx8) (by omega)).mono ?_
    rw [ht]
    rintro e w9 ⟨rfl, rfl⟩
    go_simp
    refine hK2.out _ _ (Ext.refl _) ?_
    clear hK2 K2
    try simp only [Act.put, List.getElem_toArray, List.getElem_cons_zero, List.getElem_cons_succ, List.setIfInBounds_toArray, List.set_cons_zero, List.set_cons_succ]
    refine pl_l rfl rfl ?_
    intro K2 hK2
    go_simp
    refine (holds_any A6 N c6 T t _ (t7.ext hx8) (by omega)).mono ?_
    rw [ht, show decide (t = t) = true by simp]
    rintro e w10 ⟨rfl, hx11⟩
    go_simp
    refine hK2.out _ _ hx11 ?_
    clear hK2 K2
    try simp only [Act.put, List.getElem_toArray, List.getElem_cons_zero, List.getElem_cons_succ, List.setIfInBounds_toArray, List.set_cons_zero, List.set_cons_succ]
    replace hx11 := hx8.trans hx11
    iterate 2 (
      refine pl_q (v := ?_) rfl rfl ?_ ?_
      rotate_left
      · intro x
        go_simp
        first | done | rfl
      simp only [Act.put, List.getElem_toArray, List.getElem_cons_zero, List.getElem_cons_succ, List.setIfInBounds_toArray, List.set_cons_zero, List.set_cons_succ])
    refine pl_l rfl rfl ?_
    intro K2 hK2
    go_simp
    refine (known_any _).mono ?_
    rintro e w12 ⟨rfl, hx12⟩
    go_simp
    refine hK2.out _ _ hx12 ?_
    clear hK2 K2
    try simp only [Act.put, List.getElem_toArray, List.getElem_cons_zero, List.getElem_cons_succ, List.setIfInBounds_toArray, List.set_cons_zero, List.set_cons_succ]
    iterate 2 (
      refine pl_q (v := ?_) rfl rfl ?_ ?_
      rotate_left
      · intro x
        go_simp
        first | done | rfl
      simp only [Act.put, List.getElem_toArray, List.getElem_cons_zero, List.getElem_cons_succ, List.setIfInBounds_toArray, List.set_cons_zero, List.set_cons_succ])
    refine pl_end (hK.out _ _ ?_)
    clear hK K
    go_wp2_with fail
    go_ret
    exact ⟨rfl, (hx10.trans hx11).trans hx12⟩

set_option maxRecDepth 100000 in
theorem lifted (os : Os) (started : os.Started) (H : Type) (enc : TypeId × Value → H) :
    ReturnsInHanded {} Try.checked os 3 .any (Rows.crcPagesSpec.pre6 enc Try.prog Try.f3 Rows.crcPagesRow.domain false) (Rows.crcPagesSpec.post enc Try.prog Try.f3 false true false false) := by
  refine returnsInHanded_of_change (C := Try.checked) own started (by kernel_rfl) Try.func3
    (ChangeSpec.witness6 (enc := enc) (C := Try.checked) false ⟨#[], #[.slice none 0 0, .slice none 0 0, .int .i64 0, .int .u32 0], []⟩ 8 (by kernel_rfl) (by kernel_rfl) (by kernel_rfl) (by kernel_rfl)) ?_
  intro W base args ds gs before hval0 hW hcnd _
  have hval : ∀ (j : Nat) t v, Try.f3.params[j]? = some t → args[j]? = some v → Value.okWide Try.prog W .any base t v := hval0
  have hW' := hW
  obtain ⟨p, q, hA0, hV, rfl, hfz, hnd⟩ := hW
  have hA : DataW.TrodAll enc Try.prog W 0 (fun _ => true) true Try.f3.params.toList args.toList ds p := hA0
  rw [Try.params3] at hA hval
  obtain ⟨v0, vs0, d0, ds0, p0, q0, hargs, rfl, rfl, h0, r0⟩ := trodAll_cons hA
  obtain ⟨v1, vs1, d1, ds1, p1, q1, rfl, rfl, rfl, h1, r1⟩ := trodAll_cons r0
  obtain ⟨v2, vs2, d2, ds2, p2, q2, rfl, rfl, rfl, h2, r2⟩ := trodAll_cons r1
  obtain ⟨v3, vs3, d3, ds3, p3, q3, rfl, rfl, rfl, h3, r3⟩ := trodAll_cons r2
  obtain ⟨rfl, rfl, rfl⟩ := trodAll_nil r3
  obtain rfl : args = #[v0, v1, v2, v3] := by cases args; simp_all
  obtain ⟨rfl, rfl⟩ := trodVars_none hV
  obtain ⟨a0, n0, c0, rfl⟩ := okWide_slice Try.underlying22 (hval 0 22 v0 rfl rfl)
  have k0 := h0
  have lt0 : ∀ x ∈ p0, x.block < W.heap.size := by obtain ⟨m, hm⟩ := k0; exact DataW.trod_lt m _ _ _ hm
  obtain ⟨l0, w0, y0⟩ := open_rd Try.underlying22 Try.underlying5 (by kernel_rfl) h0
  obtain ⟨a1, n1, c1, rfl⟩ := okWide_slice Try.underlying22 (hval 1 22 v1 rfl rfl)
  have k1 := h1
  have lt1 : ∀ x ∈ p1, x.block < W.heap.size := by obtain ⟨m, hm⟩ := k1; exact DataW.trod_lt m _ _ _ hm
  obtain ⟨l1, w1, y1⟩ := open_rd Try.underlying22 Try.underlying5 (by kernel_rfl) h1
  obtain ⟨a2, rfl, rfl, rfl, w2⟩ := open_int Try.underlying3 (hval 2 3 v2 rfl rfl) h2
  obtain ⟨a3, rfl, rfl, rfl, w3⟩ := open_int Try.underlying23 (hval 3 23 v3 rfl rfl) h3
  clear hA0 hval0
  refine (walk W a0 n0 c0 l0 w0 y0 a1 n1 c1 l1 w1 y1 a2 w2 a3 w3).mono fun e W' ⟨he, bel⟩ => ?_
  subst he
  exact ⟨_, rfl, _, _, _, [], _, [], hW', trodAll_mk1 (shut_bool Try.underlying4 _), (trodAll_cons_mk (Below.trod laidOut (by kernel_rfl) (of_decide_eq_true (by kernel_rfl)) k0 bel lt0) (trodAll_cons_mk (Below.trod laidOut (by kernel_rfl) (of_decide_eq_true (by kernel_rfl)) k1 bel lt1) (trodAll_cons_mk (shut_int Try.underlying3 w2) (trodAll_cons_mk (shut_int Try.underlying23 w3) trodAll_mk0)))), rfl, Below.frame bel _, fun h => by cases h⟩

theorem over_ : Rows.crcPagesRow.holds Try.pinned (OpenSpec.ofChange Rows.crcPagesSpec) :=
  OpenClaim.holds_of_wide 3 Try.f3 rfl rfl rfl rfl rfl rfl rfl ⟨rfl, rfl, rfl, rfl, rfl⟩ rfl rfl rfl rfl rfl (by kernel_rfl) Try.func3 (by kernel_rfl)
    (of_decide_eq_true (by kernel_rfl)) (by unfold Func.isWrapper; first | (rw [if_pos (by decide +kernel)]; kernel_rfl) | (rw [if_neg (by decide +kernel)]; exact ⟨rfl, rfl⟩))
    (fun os started H enc _ => lifted os started H enc)

theorem proved : Rows.CrcPagesSaid := over_
end Go.Proofs.Ytpfepajenimejaa.lawPages
