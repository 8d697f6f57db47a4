/- WireRows answers true, whatever three rows of bytes and whatever number it is given. No conditions. -/
import Derived.Test.YtbikncgabmgphaaKnown
import Derived.Test.YtbikncgabmgphaaFrame
import Derived.Test.YtbikncgabmgphaaHex
import Derived.Test.YtbikncgabmgphaaPlan
namespace Go.Proofs.Ytbikncgabmgphaa.lawRows
open Go.ChangeShapes Go.WideShapes Go.ChangeAt Go.RowKit
open Go.ChangeMaps (open_string shut_string)
set_option linter.unusedVariables false
set_option linter.unusedSimpArgs false

theorem hexOf_append (l k : List UInt8) : hexOf (l ++ k) = hexOf l ++ hexOf k := by simp [hexOf]
theorem jn_three (l k j : List UInt8) : jn [l, k, j] = l ++ k ++ j := by simp [jn]
theorem own_at {w : World} {base : Nat} {e : TypeId} {A : Option Addr} {n c : Nat} {l : List UInt8} (h : Own w base e A n c l) (hn : 0 < n) : ∃ g, A = some ⟨g, 0, none⟩ ∧ base ≤ g ∧ g < w.heap.size := by
  rcases h.2 with ⟨_, h0⟩ | ⟨g, cap, cur, hv, hb, hg, _⟩
  · omega
  · refine ⟨g, ?_, hb, (Array.getElem?_eq_some_iff.1 hg).1⟩
    injection hv

theorem xor_all : ∀ u : Fin 256, (decide (0 ≤ bits .xor .u8 (u.1 : Int) 255) && decide (bits .xor .u8 (u.1 : Int) 255 < 256)) = true := by decide +kernel
theorem xor_in (u : UInt8) : 0 ≤ bits .xor .u8 (u.toNat : Int) 255 ∧ bits .xor .u8 (u.toNat : Int) 255 < 256 := by
  have := xor_all ⟨u.toNat, u.toNat_lt⟩
  simpa using this

set_option maxRecDepth 100000 in
set_option maxHeartbeats 3200000 in
theorem walk (w : World) (A : Option Addr) (n c : Nat) (l : List UInt8) (hr : Rd w 0 A n l) (hc : n ≤ c) (B : Option Addr) (m d : Nat) (k : List UInt8) (ks : Rd w 0 B m k) (kc : m ≤ d)
    (C : Option Addr) (o f : Nat) (j : List UInt8) (js : Rd w 0 C o j) (jc : o ≤ f) (p : Int) (hpw : (Lit.int IntKind.i64 p).wf = true) :
    Calls Try.prog 6 #[.slice A n c, .slice B m d, .slice C o f, .int .i64 p] w fun e w' => e = .returned (.bool true) ∧ Ext w w' := by
  by_cases hA : 3000 < n
  ·
    have hA' : (3000 : Int) < (n : Int) := by omega
    clear hA
    go_enter Try.func6, Try.ntmps6
    go_wp2_with fail
    refine (known_any _).mono ?_
    rintro e wk ⟨rfl, hxk⟩
    go_wp2_with fail
    go_ret
    exact ⟨rfl, hxk⟩
  have hA' : ¬ (3000 : Int) < (n : Int) := by omega
  by_cases hB : 3000 < m
  ·
    have hB' : (3000 : Int) < (m : Int) := by omega
    clear hA hB
    go_enter Try.func6, Try.ntmps6
    go_wp2_with fail
    refine (known_any _).mono ?_
    rintro e wk ⟨rfl, hxk⟩
    go_wp2_with fail
    go_ret
    exact ⟨rfl, hxk⟩
  have hB' : ¬ (3000 : Int) < (m : Int) := by omega
  by_cases hC : 3000 < o
  ·
    have hC' : (3000 : Int) < (o : Int) := by omega
    clear hA hB hC
    go_enter Try.func6, Try.ntmps6
    go_wp2_with fail
    refine (known_any _).mono ?_
    rintro e wk ⟨rfl, hxk⟩
    go_wp2_with fail
    go_ret
    exact ⟨rfl, hxk⟩
  have hC' : ¬ (3000 : Int) < (o : Int) := by omega
  have hl := hr.len
  have hk := ks.len
  have hj := js.len
  obtain ⟨T, hT⟩ : ∃ T, jn [l, k, j] = T := ⟨_, rfl⟩
  have hTn : T.length = n + m + o := by rw [← hT, jn_three]; simp; omega
  obtain ⟨N, hN⟩ : ∃ N, T.length = N := ⟨_, rfl⟩
  have hNl : N ≤ 9000 := by omega
  clear hTn
  have hH := Lib.hid (show hexOf T = hexOf l ++ hexOf k ++ hexOf j by rw [← hT, jn_three, hexOf_append, hexOf_append])
  have q1 : n ≤ 1000000000 := by omega
  have q2 : m ≤ 1000000000 := by omega
  have q3 : o ≤ 1000000000 := by omega
  have q4 : N ≤ 1000000000 := by omega
  clear hA hB hC
  go_enter Try.func6, Try.ntmps6
  go_wp2_with fail
  refine (rjoin_any _ _ _ [l, k, j] _ (RdL.new3 _ _ _ _ _ _ _ _ _ _ _ _ _ hr ks js) (by rw [hT, hN]; omega) (by omega)).mono ?_
  rw [hT, hN]
  rintro e w1 ⟨A1, c1, rfl, h1, hx1⟩
  replace hx1 := ((Ext.refl w).alloc _).trans hx1
  have h1' := h1.low (lo' := w.heap.size) (by simp)
  clear h1
  go_wp2_with fail
  have hs1 := later_string (R := Ext) (fun _ _ h => h) (h1'.ext (Ext.refl _).drew) c1 Try.underlying23 Try.underlying5 Try.underlying9
  refine wp_region_plan Ext [(0, true), (1, true), (2, true), (6, true), (7, true), (3, false), (4, false), (5, true), (8, true), (9, true), (10, true), (11, true), (12, true), (16, true), (18, true), (21, true), (13, false), (14, false), (15, false), (17, false), (19, false), (20, true), (22, false), (23, true), (24, true), (25, true), (26, true), (27, false), (28, true), (29, true), (30, true)] (fun _ _ _ => Ext.trans) Ext.refl (by kernel_rfl) (by kernel_rfl) ?_
  intro K hK
  iterate 5 (
    refine plan_q (v := ?_) rfl rfl ?_ ?_
    rotate_left
    · intro x
      go_simp
      first | done | rfl
    simp only [Act.put, List.getElem_toArray, List.getElem_cons_zero, List.getElem_cons_succ, List.setIfInBounds_toArray, List.set_cons_zero, List.set_cons_succ])
  refine plan_l rfl rfl ?_
  intro K2 hK2
  go_simp
  refine hK2.out _ _ ((Ext.refl _).alloc _) ?_
  clear hK2 K2
  try simp only [Act.put, List.getElem_toArray, List.getElem_cons_zero, List.getElem_cons_succ, List.setIfInBounds_toArray, List.set_cons_zero, List.set_cons_succ]
  have hr1 := hr.ext hx1
  have ks1 := ks.ext hx1
  have js1 := js.ext hx1
  refine plan_l rfl rfl ?_
  intro K2 hK2
  go_simp
  refine (join_any _ _ _ [l, k, j] _ (RdL.new3 _ _ _ _ _ _ _ _ _ _ _ _ _ (hr1.ext (Ext.refl _).drew) (ks1.ext (Ext.refl _).drew) (js1.ext (Ext.refl _).drew)) (by rw [hT, hN]; omega) (by omega)).mono ?_
  rw [hT, hN]
  rintro e w2 ⟨A2, c2, rfl, h2, hx2⟩
  go_simp
  refine hK2.out _ _ hx2 ?_
  clear hK2 K2
  try simp only [Act.put, List.getElem_toArray, List.getElem_cons_zero, List.getElem_cons_succ, List.setIfInBounds_toArray, List.set_cons_zero, List.set_cons_succ]
  replace hx2 := ((Ext.refl w1).drew.alloc _).trans hx2
  clear hs1
  have hs1 := later_string (R := Ext) (fun _ _ h => h) h2 c2 Try.underlying23 Try.underlying5 Try.underlying9
  iterate 9 (
    refine plan_q (v := ?_) rfl rfl ?_ ?_
    rotate_left
    · intro x
      go_simp
      first | done | rfl
    simp only [Act.put, List.getElem_toArray, List.getElem_cons_zero, List.getElem_cons_succ, List.setIfInBounds_toArray, List.set_cons_zero, List.set_cons_succ])
  refine plan_l rfl rfl ?_
  intro K2 hK2
  go_simp
  refine hK2.out _ _ ((Ext.refl _).alloc _) ?_
  clear hK2 K2
  try simp only [Act.put, List.getElem_toArray, List.getElem_cons_zero, List.getElem_cons_succ, List.setIfInBounds_toArray, List.set_cons_zero, List.set_cons_succ]
  refine plan_l rfl rfl ?_
  intro K2 hK2
  go_simp
  refine (join_any _ _ _ [l, k, j] _ (RdL.new3 _ _ _ _ _ _ _ _ _ _ _ _ _ (hr1.ext hx2) (ks1.ext hx2) (js1.ext hx2)) (by rw [hT, hN]; omega) (by omega)).mono ?_
  rw [hT, hN]
  rintro e w3 ⟨A3, c3, rfl, h3, hx3⟩
  go_simp
  refine hK2.out _ _ hx3 ?_
  clear hK2 K2
  try simp only [Act.put, List.getElem_toArray, List.getElem_cons_zero, List.getElem_cons_succ, List.setIfInBounds_toArray, List.set_cons_zero, List.set_cons_succ]
  replace hx3 := (hx2.trans ((Ext.refl _).alloc _)).trans hx3
  clear hs1 hx2
  refine plan_l rfl rfl ?_
  intro K2 hK2
  go_simp
  refine (hex_any A3 N c3 _ T _ h3 q4).mono ?_
  rw [hH.out]
  rintro e w4 ⟨rfl, hx4⟩
  go_simp
  refine hK2.out _ _ hx4 ?_
  clear hK2 K2
  try simp only [Act.put, List.getElem_toArray, List.getElem_cons_zero, List.getElem_cons_succ, List.setIfInBounds_toArray, List.set_cons_zero, List.set_cons_succ]
  replace hx4 := hx3.trans hx4
  clear hx3
  refine plan_l rfl rfl ?_
  intro K2 hK2
  go_simp
  refine (hex_any A n c _ l _ (hr1.ext hx4) q1).mono ?_
  rintro e w5 ⟨rfl, hx5⟩
  go_simp
  refine hK2.out _ _ hx5 ?_
  clear hK2 K2
  try simp only [Act.put, List.getElem_toArray, List.getElem_cons_zero, List.getElem_cons_succ, List.setIfInBounds_toArray, List.set_cons_zero, List.set_cons_succ]
  replace hx5 := hx4.trans hx5
  clear hx4
  refine plan_l rfl rfl ?_
  intro K2 hK2
  go_simp
  refine (hex_any B m d _ k _ (ks1.ext hx5) q2).mono ?_
  rintro e w6 ⟨rfl, hx6⟩
  go_simp
  refine hK2.out _ _ hx6 ?_
  clear hK2 K2
  try simp only [Act.put, List.getElem_toArray, List.getElem_cons_zero, List.getElem_cons_succ, List.setIfInBounds_toArray, List.set_cons_zero, List.set_cons_succ]
  replace hx6 := hx5.trans hx6
  clear hx5
  have hs1 : ¬ 9223372036854775807 < (hexOf l).length + (hexOf k).length := by rw [hexOf_length, hexOf_length]; omega
  iterate 1 (
    refine plan_q (v := ?_) rfl rfl ?_ ?_
    rotate_left
    · intro x
      go_simp
      first | done | rfl
    simp only [Act.put, List.getElem_toArray, List.getElem_cons_zero, List.getElem_cons_succ, List.setIfInBounds_toArray, List.set_cons_zero, List.set_cons_succ])
  clear hs1
  rw [str_append]
  refine plan_l rfl rfl ?_
  intro K2 hK2
  go_simp
  refine (hex_any C o f _ j _ (js1.ext hx6) q3).mono ?_
  rintro e w7 ⟨rfl, hx7⟩
  go_simp
  refine hK2.out _ _ hx7 ?_
  clear hK2 K2
  try simp only [Act.put, List.getElem_toArray, List.getElem_cons_zero, List.getElem_cons_succ, List.setIfInBounds_toArray, List.set_cons_zero, List.set_cons_succ]
  replace hx7 := hx6.trans hx7
  clear hx6
  have hs1 : ¬ 9223372036854775807 < (hexOf l).length + (hexOf k).length + (hexOf j).length := by rw [hexOf_length, hexOf_length, hexOf_length]; omega
  iterate 1 (
    refine plan_q (v := ?_) rfl rfl ?_ ?_
    rotate_left
    · intro x
      go_simp
      first | done | rfl
    simp only [Act.put, List.getElem_toArray, List.getElem_cons_zero, List.getElem_cons_succ, List.setIfInBounds_toArray, List.set_cons_zero, List.set_cons_succ])
  clear hs1
  rw [str_append]
  iterate 3 (
    refine plan_q (v := ?_) rfl rfl ?_ ?_
    rotate_left
    · intro x
      go_simp
      first | done | rfl
    simp only [Act.put, List.getElem_toArray, List.getElem_cons_zero, List.getElem_cons_succ, List.setIfInBounds_toArray, List.set_cons_zero, List.set_cons_succ])
  refine plan_l rfl rfl ?_
  intro K2 hK2
  go_simp
  refine (join_any none 0 0 [] _ ⟨rfl, .inl rfl⟩ (by decide) (by decide)).mono ?_
  rw [show (jn []).length = 0 from rfl]
  rintro e w8 ⟨A8, c8, rfl, h8, hx8⟩
  go_simp
  refine hK2.out _ _ hx8 ?_
  clear hK2 K2
  try simp only [Act.put, List.getElem_toArray, List.getElem_cons_zero, List.getElem_cons_succ, List.setIfInBounds_toArray, List.set_cons_zero, List.set_cons_succ]
  replace hx8 := hx7.trans hx8
  clear hx7
  iterate 3 (
    refine plan_q (v := ?_) rfl rfl ?_ ?_
    rotate_left
    · intro x
      go_simp
      first | done | rfl
    simp only [Act.put, List.getElem_toArray, List.getElem_cons_zero, List.getElem_cons_succ, List.setIfInBounds_toArray, List.set_cons_zero, List.set_cons_succ])
  refine plan_end (hK.out _ _ ?_)
  clear hK K
  have r1 := h1'.ext hx8
  have hx := hx1.trans hx8
  clear hr1 ks1 js1 hr ks js hl hk hj hT hH h1' hx1 hx8 h2 h3 h8
  by_cases hp : p < 0
  ·
    go_wp2_with fail
    refine (known_any _).mono ?_
    rintro e wk ⟨rfl, hxk⟩
    go_wp2_with fail
    go_ret
    exact ⟨rfl, (hx).trans hxk⟩
  by_cases hpN : (N : Int) < p
  ·
    go_wp2_with fail
    refine (known_any _).mono ?_
    rintro e wk ⟨rfl, hxk⟩
    go_wp2_with fail
    go_ret
    exact ⟨rfl, (hx).trans hxk⟩
  obtain ⟨P, rfl⟩ := Int.eq_ofNat_of_zero_le (Int.not_lt.1 hp)
  have hP : P ≤ N := by omega
  go_wp2_with (at_builtin; refine wpList_append_b bytes_ty rfl _ _ rfl w8 (Ext.refl w8) _ 0 0 [] rfl (Own.nil _ _ _) A1 N c1 _ T rfl r1 (by omega) ?_; rw [Nat.zero_add, List.nil_append]; intro A9 c9 w9 h9 _ hx9)
  have hcap := h9.cap
  have e1 : (P : Int) ≤ (c9 : Int) := by omega
  have e2 : (N : Int) ≤ (c9 : Int) := by omega
  refine wp_region_plan Ext [(0, true), (1, true), (2, true), (3, true), (4, true), (5, true), (6, false), (7, false), (8, true)] (fun _ _ _ => Ext.trans) Ext.refl (by kernel_rfl) (by kernel_rfl) ?_
  intro K hK
  iterate 6 (
    refine plan_q (v := ?_) rfl rfl ?_ ?_
    rotate_left
    · intro x
      go_simp
      first | done | rfl
    simp only [Act.put, List.getElem_toArray, List.getElem_cons_zero, List.getElem_cons_succ, List.setIfInBounds_toArray, List.set_cons_zero, List.set_cons_succ])
  refine plan_l rfl rfl ?_
  intro K2 hK2
  go_simp
  refine hK2.out _ _ ((Ext.refl _).alloc _) ?_
  clear hK2 K2
  try simp only [Act.put, List.getElem_toArray, List.getElem_cons_zero, List.getElem_cons_succ, List.setIfInBounds_toArray, List.set_cons_zero, List.set_cons_succ]
  have r9 := (h9.rd.low (Nat.zero_le _)).ext (Ext.refl w9).drew
  have hcut : jn [T.take P, T.drop P] = T := by simp [jn]
  refine plan_l rfl rfl ?_
  intro K2 hK2
  go_simp
  refine (join_any _ _ _ [T.take P, T.drop P] _ (RdL.new2 _ _ _ _ _ _ _ _ _ (r9.take hP) (r9.drop hP hcap)) (by rw [hcut, hN]; omega) (by omega)).mono ?_
  rw [hcut, hN]
  rintro e w10 ⟨A10, c10, rfl, h10, hx10⟩
  go_simp
  refine hK2.out _ _ hx10 ?_
  clear hK2 K2
  try simp only [Act.put, List.getElem_toArray, List.getElem_cons_zero, List.getElem_cons_succ, List.setIfInBounds_toArray, List.set_cons_zero, List.set_cons_succ]
  iterate 1 (
    refine plan_q (v := ?_) rfl rfl ?_ ?_
    rotate_left
    · intro x
      go_simp
      first | done | rfl
    simp only [Act.put, List.getElem_toArray, List.getElem_cons_zero, List.getElem_cons_succ, List.setIfInBounds_toArray, List.set_cons_zero, List.set_cons_succ])
  refine plan_end (hK.out _ _ ?_)
  clear hK K
  generalize (if c9 = P then A9 else Option.map (fun x => x.add P) A9) = Z
  have y10 := ((Ext.refl w9).drew.alloc _).trans hx10
  have h9' := h9.kept y10
  have h10' := h10.low (lo' := w9.heap.size) (by simp)
  have hown : ∀ a, A9 = some a → 0 < N → a.block < w9.heap.size := by
    intro a ha hn
    obtain ⟨g, hg, _, hlt⟩ := own_at h9 hn
    rw [hg] at ha
    cases ha
    exact hlt
  have y8 := hx9.trans y10
  clear h10 hx10 e1 e2 r9 h9 hcut y10 hx9
  go_wp2_with fail
  go_loopw [12] (fun i wr => ∃ k : Nat, k ≤ N ∧ i = .int .i64 k ∧ (∃ lj, Own wr w8.heap.size 5 A9 N c9 lj) ∧ Rd wr w9.heap.size A10 N T ∧ Ext w8 wr) (fun i _ => N - (intOf i).toNat)
  case atStart => exact ⟨0, Nat.zero_le _, rfl, ⟨_, h9'⟩, h10', y8⟩
  case round =>
    obtain ⟨k, hk, rfl, ⟨lj, ho⟩, hj, hy⟩ := hrel
    by_cases hlt : k < N
    · obtain ⟨g, rfl, hg, -⟩ := own_at ho (by omega)
      have hkl : k < lj.length := by rw [ho.rd.len]; exact hlt
      have hcell := ho.at_ hlt
      have hfz := ho.free k
      have hgl := hown _ rfl (by omega)
      go_wp2_with fail
      obtain ⟨b1, b2⟩ := xor_in lj[k]
      have hst := (ho.store k (UInt8.ofNat (bits .xor .u8 ((lj[k]).toNat : Int) 255).toNat)).1
      rw [byte_of _ b1 b2] at hst
      refine ⟨⟨k + 1, hlt, by go_num, ⟨_, hst⟩, hj.set_far (fun a ha e => ?_) _, hy.setCell hg _⟩, by simp [intOf]; omega⟩
      obtain ⟨b, off, hb, hlo, -, -⟩ := hj.pos (by omega)
      rw [hb] at ha
      cases ha
      simp only at e hgl
      omega
    · obtain rfl : k = N := by omega
      have hs1 := run_string hj c10 Try.underlying23 Try.underlying5 Try.underlying9
      have hs2 := run_string (r1.ext hy) c1 Try.underlying23 Try.underlying5 Try.underlying9
      go_wp2_with fail
      refine (known_any _).mono ?_
      rintro e wk ⟨rfl, hxk⟩
      go_wp2_with fail
      go_ret
      exact ⟨rfl, (hx.trans hy).trans hxk⟩

set_option maxRecDepth 100000 in
theorem lifted (os : Os) (started : os.Started) (H : Type) (enc : TypeId × Value → H) :
    ReturnsInHanded {} Try.checked os 6 .any (Rows.wireRowsSpec.pre6 enc Try.prog Try.f6 Rows.wireRowsRow.domain false) (Rows.wireRowsSpec.post enc Try.prog Try.f6 false true false false) := by
  refine returnsInHanded_of_change (C := Try.checked) own started (by kernel_rfl) Try.func6
    (ChangeSpec.witness6 (enc := enc) (C := Try.checked) false ⟨#[], #[.slice none 0 0, .slice none 0 0, .slice none 0 0, .int .i64 0], []⟩ 8 (by kernel_rfl) (by kernel_rfl) (by kernel_rfl) (by kernel_rfl)) ?_
  intro W base args ds gs before hval0 hW hcnd _
  have hval : ∀ (j : Nat) t v, Try.f6.params[j]? = some t → args[j]? = some v → Value.okWide Try.prog W .any base t v := hval0
  have hW' := hW
  obtain ⟨p, q, hA0, hV, rfl, hfz, hnd⟩ := hW
  have hA : DataW.TrodAll enc Try.prog W 0 (fun _ => true) true Try.f6.params.toList args.toList ds p := hA0
  rw [Try.params6] at hA hval
  obtain ⟨v0, vs0, d0, ds0, p0, q0, hargs, rfl, rfl, h0, r0⟩ := trodAll_cons hA
  obtain ⟨v1, vs1, d1, ds1, p1, q1, rfl, rfl, rfl, h1, r1⟩ := trodAll_cons r0
  obtain ⟨v2, vs2, d2, ds2, p2, q2, rfl, rfl, rfl, h2, r2⟩ := trodAll_cons r1
  obtain ⟨v3, vs3, d3, ds3, p3, q3, rfl, rfl, rfl, h3, r3⟩ := trodAll_cons r2
  obtain ⟨rfl, rfl, rfl⟩ := trodAll_nil r3
  obtain rfl : args = #[v0, v1, v2, v3] := by cases args; simp_all
  obtain ⟨rfl, rfl⟩ := trodVars_none hV
  obtain ⟨a0, n0, c0, rfl⟩ := okWide_slice Try.underlying23 (hval 0 23 v0 rfl rfl)
  have k0 := h0
  have lt0 : ∀ x ∈ p0, x.block < W.heap.size := by obtain ⟨m, hm⟩ := k0; exact DataW.trod_lt m _ _ _ hm
  obtain ⟨l0, w0, y0⟩ := open_rd Try.underlying23 Try.underlying5 (by kernel_rfl) h0
  obtain ⟨a1, n1, c1, rfl⟩ := okWide_slice Try.underlying23 (hval 1 23 v1 rfl rfl)
  have k1 := h1
  have lt1 : ∀ x ∈ p1, x.block < W.heap.size := by obtain ⟨m, hm⟩ := k1; exact DataW.trod_lt m _ _ _ hm
  obtain ⟨l1, w1, y1⟩ := open_rd Try.underlying23 Try.underlying5 (by kernel_rfl) h1
  obtain ⟨a2, n2, c2, rfl⟩ := okWide_slice Try.underlying23 (hval 2 23 v2 rfl rfl)
  have k2 := h2
  have lt2 : ∀ x ∈ p2, x.block < W.heap.size := by obtain ⟨m, hm⟩ := k2; exact DataW.trod_lt m _ _ _ hm
  obtain ⟨l2, w2, y2⟩ := open_rd Try.underlying23 Try.underlying5 (by kernel_rfl) h2
  obtain ⟨a3, rfl, rfl, rfl, w3⟩ := open_int Try.underlying3 (hval 3 3 v3 rfl rfl) h3
  clear hA0 hval0
  refine (walk W a0 n0 c0 l0 w0 y0 a1 n1 c1 l1 w1 y1 a2 n2 c2 l2 w2 y2 a3 w3).mono fun e W' ⟨he, bel⟩ => ?_
  subst he
  exact ⟨_, rfl, _, _, _, [], _, [], hW', trodAll_mk1 (shut_bool Try.underlying4 _), (trodAll_cons_mk (Below.trod laidOut (by kernel_rfl) (of_decide_eq_true (by kernel_rfl)) k0 bel lt0) (trodAll_cons_mk (Below.trod laidOut (by kernel_rfl) (of_decide_eq_true (by kernel_rfl)) k1 bel lt1) (trodAll_cons_mk (Below.trod laidOut (by kernel_rfl) (of_decide_eq_true (by kernel_rfl)) k2 bel lt2) (trodAll_cons_mk (shut_int Try.underlying3 w3) trodAll_mk0)))), rfl, Below.frame bel _, fun h => by cases h⟩

theorem over_ : Rows.wireRowsRow.holds Try.pinned (OpenSpec.ofChange Rows.wireRowsSpec) :=
  OpenClaim.holds_of_wide 6 Try.f6 rfl rfl rfl rfl rfl rfl rfl ⟨rfl, rfl, rfl, rfl, rfl⟩ rfl rfl rfl rfl rfl (by kernel_rfl) Try.func6 (by kernel_rfl)
    (of_decide_eq_true (by kernel_rfl)) (by unfold Func.isWrapper; first | (rw [if_pos (by decide +kernel)]; kernel_rfl) | (rw [if_neg (by decide +kernel)]; exact ⟨rfl, rfl⟩))
    (fun os started H enc _ => lifted os started H enc)

theorem proved : Rows.WireRowsSaid := over_
end Go.Proofs.Ytbikncgabmgphaa.lawRows
