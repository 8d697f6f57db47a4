/- CrcHoles answers true, whatever two rows of bytes and whatever two numbers it is given. No conditions. -/
import Derived.Test.YtpfepajenimejaaWords
import Derived.Test.YtpfepajenimejaaFrame
import Derived.Test.YtpfepajenimejaaFlow
namespace Go.Proofs.Ytpfepajenimejaa.lawHoles
open Go.ChangeShapes Go.WideShapes Go.ChangeAt Go.RowKit
open Go.ChangeMaps (open_string shut_string)
set_option linter.unusedVariables false
set_option linter.unusedSimpArgs false

theorem holes_join (l k : List UInt8) (N : Nat) : sts (8 * k.length) (~~~ sts (8 * N) (~~~ more 0#32 l)) ^^^ more 0#32 k = more 0#32 (jn [l, List.replicate N 0, k]) := by
  rw [show jn [l, List.replicate N 0, k] = (l ++ List.replicate N 0) ++ k by simp [jn], more_join, more_append, more_noughts]
theorem not_not (s : BitVec 32) : ~~~ ~~~ s = s := BitVec.not_not

set_option maxRecDepth 100000 in
set_option maxHeartbeats 3200000 in
theorem walk (w : World) (A : Option Addr) (n c : Nat) (l : List UInt8) (hr : Rd w 0 A n l) (hc : n ≤ c) (B : Option Addr) (m d : Nat) (k : List UInt8) (ks : Rd w 0 B m k) (kc : m ≤ d)
    (p : Int) (hpw : (Lit.int IntKind.i64 p).wf = true) (q : Int) (hqw : (Lit.int IntKind.i64 q).wf = true) :
    Calls Try.prog 5 #[.slice A n c, .slice B m d, .int .i64 p, .int .i64 q] w fun e w' => e = .returned (.bool true) ∧ Ext w w' := by
  clear hpw hqw
  by_cases hA : 9000 < n
  ·
    have hA' : (9000 : Int) < (n : Int) := by omega
    clear hA
    go_enter Try.func5, Try.ntmps5
    go_wp2_with fail
    refine (known_any _).mono ?_
    rintro e wk ⟨rfl, hxk⟩
    go_wp2_with fail
    go_ret
    exact ⟨rfl, hxk⟩
  have hA' : ¬ (9000 : Int) < (n : Int) := by omega
  by_cases hB : 9000 < m
  ·
    have hB' : (9000 : Int) < (m : Int) := by omega
    clear hA hB
    go_enter Try.func5, Try.ntmps5
    go_wp2_with fail
    refine (known_any _).mono ?_
    rintro e wk ⟨rfl, hxk⟩
    go_wp2_with fail
    go_ret
    exact ⟨rfl, hxk⟩
  have hB' : ¬ (9000 : Int) < (m : Int) := by omega
  by_cases hp : p < 0
  ·
    clear hA hB
    go_enter Try.func5, Try.ntmps5
    go_wp2_with fail
    refine (known_any _).mono ?_
    rintro e wk ⟨rfl, hxk⟩
    go_wp2_with fail
    go_ret
    exact ⟨rfl, hxk⟩
  by_cases hq : q < 0
  ·
    clear hA hB
    go_enter Try.func5, Try.ntmps5
    go_wp2_with fail
    refine (known_any _).mono ?_
    rintro e wk ⟨rfl, hxk⟩
    go_wp2_with fail
    go_ret
    exact ⟨rfl, hxk⟩
  by_cases hp2 : 1099511627776 < p
  ·
    clear hA hB
    go_enter Try.func5, Try.ntmps5
    go_wp2_with fail
    refine (known_any _).mono ?_
    rintro e wk ⟨rfl, hxk⟩
    go_wp2_with fail
    go_ret
    exact ⟨rfl, hxk⟩
  by_cases hq2 : 1099511627776 < q
  ·
    clear hA hB
    go_enter Try.func5, Try.ntmps5
    go_wp2_with fail
    refine (known_any _).mono ?_
    rintro e wk ⟨rfl, hxk⟩
    go_wp2_with fail
    go_ret
    exact ⟨rfl, hxk⟩
  obtain ⟨N, rfl⟩ := Int.eq_ofNat_of_zero_le (show 0 ≤ p by omega)
  obtain ⟨M, rfl⟩ := Int.eq_ofNat_of_zero_le (show 0 ≤ q by omega)
  have hl := hr.len
  have hk := ks.len
  have q1 : n < 4611686018427387904 := by omega
  have q2 : m < 4611686018427387904 := by omega
  have hz := Lib.hid (holes_join l k N)
  obtain ⟨s, hs⟩ : ∃ s, more 0#32 l = s := ⟨_, rfl⟩
  obtain ⟨zn, hzn⟩ : ∃ z, ~~~ sts (8 * N) (~~~ s) = z := ⟨_, rfl⟩
  obtain ⟨zm, hzm⟩ : ∃ z, ~~~ sts (8 * M) (~~~ zn) = z := ⟨_, rfl⟩
  have hznm : ~~~ sts (8 * (N + M)) (~~~ s) = zm := by
    rw [← hzm, ← hzn, not_not, ← sts_add, Nat.mul_add, Nat.add_comm]
  have hneg : ~~~ sts (8 * (-(N : Int)).toNat) (~~~ s) = s := by
    rw [show (-(N : Int)).toNat = 0 by omega]
    exact not_not s
  have hw1 : IntKind.i64.wrap ((N : Int) + (M : Int)) = ((N + M : Nat) : Int) := by rw [IntKind.wrap_i64]; omega
  have hf1 := not32' s
  have hf2 := not32' (sts (8 * N) (~~~ s))
  rw [hzn] at hf2
  rw [hs] at hz
  obtain ⟨ns, hns⟩ : ∃ z, ~~~ s = z := ⟨_, rfl⟩
  rw [hns] at hf1 hf2
  have hh : (N : Int) ≤ 1099511627776 ∧ (M : Int) ≤ 1099511627776 := by omega
  obtain ⟨hh1, hh2⟩ := hh
  go_enter Try.func5, Try.ntmps5
  go_wp2_with fail
  refine (sum_any _ 1 1 [l] _ (RdL.new1 _ A n c l hr) (by decide) (by intro k hk; simp at hk; subst hk; omega)).mono ?_
  rw [show jn [l] = l by simp [jn], hs]
  rintro e w1 ⟨rfl, hx1⟩
  replace hx1 := ((Ext.refl w).alloc _).trans hx1
  go_wp2_with fail
  refine (zeros_any s (N : Int) (by omega) _).mono ?_
  rw [Int.toNat_natCast, hzn]
  rintro e w2 ⟨rfl, hx2⟩
  replace hx2 := hx1.trans hx2
  go_wp2_with fail
  refine (zeros_any zn (M : Int) (by omega) _).mono ?_
  rw [Int.toNat_natCast, hzm]
  rintro e w3 ⟨rfl, hx3⟩
  replace hx3 := hx2.trans hx3
  go_wp2_with fail
  refine (zeros_any s ((N : Int) + (M : Int)) (by omega) _).mono ?_
  rw [show ((N : Int) + (M : Int)).toNat = N + M by omega, hznm]
  rintro e w4 ⟨rfl, hx4⟩
  replace hx4 := hx3.trans hx4
  clear hx1 hx2 hx3
  go_wp2_with fail
  refine (zeros_any s (N : Int) (by omega) _).mono ?_
  rw [Int.toNat_natCast, hzn]
  rintro e w5 ⟨rfl, hx5⟩
  replace hx5 := hx4.trans hx5
  go_wp2_with fail
  refine (far_any ns N (by omega) _).mono ?_
  rintro e w6 ⟨rfl, hx6⟩
  replace hx6 := hx5.trans hx6
  clear hx4 hx5
  go_wp2_with fail
  refine (zeros_any s (-(N : Int)) (by omega) _).mono ?_
  rw [hneg]
  rintro e w7 ⟨rfl, hx7⟩
  replace hx7 := hx6.trans hx7
  clear hx6
  by_cases h9 : 9000 < N
  · have h9' : (9000 : Int) < (N : Int) := by omega
    go_wp2_with fail
    refine (known_any _).mono ?_
    rintro e wk ⟨rfl, hxk⟩
    go_wp2_with fail
    go_ret
    exact ⟨rfl, (hx7).trans hxk⟩
  have h9' : ¬ (9000 : Int) < (N : Int) := by omega
  go_wp2_with (at_make; refine wpList_make_b bytes_ty rfl _ _ rfl w hx7 _ _ _ _ N rfl rfl rfl rfl (by omega) ?_; intro w8 hown _ hx8)
  have o8 := hown.rd.low (Nat.zero_le _)
  have r8 := hr.ext hx8
  have k8 := ks.ext hx8
  obtain ⟨t, ht⟩ : ∃ t, more 0#32 (jn [l, List.replicate N 0, k]) = t := ⟨_, rfl⟩
  obtain ⟨x2, hx2⟩ : ∃ x, more 0#32 k = x := ⟨_, rfl⟩
  have hjoin : sts (8 * (m : Int).toNat) zn ^^^ x2 = t := by
    rw [← ht, ← hz.out, hzn, hk, hx2, Int.toNat_natCast]
  refine (sum_any _ 3 3 [l, List.replicate N 0, k] _ (RdL.new3 _ _ _ _ _ _ _ _ _ _ _ _ _ r8 o8 k8) (by decide) (by intro j hj; simp at hj; rcases hj with rfl | rfl | rfl <;> first | omega | (rw [List.length_replicate]; omega))).mono ?_
  rw [ht]
  rintro e w9 ⟨rfl, hx9⟩
  replace hx9 := ((Ext.refl w8).alloc _).trans hx9
  go_wp2_with fail
  refine (zeros_any s (N : Int) (by omega) _).mono ?_
  rw [Int.toNat_natCast, hzn]
  rintro e w10 ⟨rfl, hx10⟩
  replace hx10 := hx9.trans hx10
  clear hx9
  go_wp2_with fail
  refine (sum_any _ 1 1 [k] _ (RdL.new1 _ B m d k (k8.ext hx10)) (by decide) (by intro j hj; simp at hj; subst hj; omega)).mono ?_
  rw [show jn [k] = k by simp [jn], hx2]
  rintro e w11 ⟨rfl, hx11⟩
  replace hx11 := (hx10.alloc _).trans hx11
  clear hx10
  go_wp2_with fail
  refine (join_any zn x2 (m : Int) (by omega) _).mono ?_
  rw [hjoin]
  rintro e w12 ⟨rfl, hx12⟩
  replace hx12 := hx11.trans hx12
  clear hx11
  go_wp2_with fail
  refine (zeros_any s (N : Int) (by omega) _).mono ?_
  rw [Int.toNat_natCast, hzn]
  rintro e w13 ⟨rfl, hx13⟩
  replace hx13 := hx12.trans hx13
  clear hx12
  go_wp2_with fail
  refine (more_any s _ N N 0 (List.replicate N 0) _ (o8.ext hx13) (by omega)).mono ?_
  rw [more_noughts, hzn]
  rintro e w14 ⟨rfl, hx14⟩
  replace hx14 := hx8.trans (hx13.trans hx14)
  clear hx13
  go_wp2_with fail
  refine (known_any _).mono ?_
  rintro e wk ⟨rfl, hxk⟩
  go_wp2_with fail
  go_ret
  exact ⟨rfl, (hx14).trans hxk⟩

set_option maxRecDepth 100000 in
theorem lifted (os : Os) (started : os.Started) (H : Type) (enc : TypeId × Value → H) :
    ReturnsInHanded {} Try.checked os 5 .any (Rows.crcHolesSpec.pre6 enc Try.prog Try.f5 Rows.crcHolesRow.domain false) (Rows.crcHolesSpec.post enc Try.prog Try.f5 false true false false) := by
  refine returnsInHanded_of_change (C := Try.checked) own started (by kernel_rfl) Try.func5
    (ChangeSpec.witness6 (enc := enc) (C := Try.checked) false ⟨#[], #[.slice none 0 0, .slice none 0 0, .int .i64 0, .int .i64 0], []⟩ 8 (by kernel_rfl) (by kernel_rfl) (by kernel_rfl) (by kernel_rfl)) ?_
  intro W base args ds gs before hval0 hW hcnd _
  have hval : ∀ (j : Nat) t v, Try.f5.params[j]? = some t → args[j]? = some v → Value.okWide Try.prog W .any base t v := hval0
  have hW' := hW
  obtain ⟨p, q, hA0, hV, rfl, hfz, hnd⟩ := hW
  have hA : DataW.TrodAll enc Try.prog W 0 (fun _ => true) true Try.f5.params.toList args.toList ds p := hA0
  rw [Try.params5] at hA hval
  obtain ⟨v0, vs0, d0, ds0, p0, q0, hargs, rfl, rfl, h0, r0⟩ := trodAll_cons hA
  obtain ⟨v1, vs1, d1, ds1, p1, q1, rfl, rfl, rfl, h1, r1⟩ := trodAll_cons r0
  obtain ⟨v2, vs2, d2, ds2, p2, q2, rfl, rfl, rfl, h2, r2⟩ := trodAll_cons r1
  obtain ⟨v3, vs3, d3, ds3, p3, q3, rfl, rfl, rfl, h3, r3⟩ := trodAll_cons r2
  obtain ⟨rfl, rfl, rfl⟩ := trodAll_nil r3
  obtain rfl : args = #[v0, v1, v2, v3] := by cases args; simp_all
  obtain ⟨rfl, rfl⟩ := trodVars_none hV
  obtain ⟨a0, n0, c0, rfl⟩ := okWide_slice Try.underlying22 (hval 0 22 v0 rfl rfl)
  have k0 := h0
  have lt0 : ∀ x ∈ p0, x.block < W.heap.size := by obtain ⟨m, hm⟩ := k0; exact DataW.trod_lt m _ _ _ hm
  obtain ⟨l0, w0, y0⟩ := open_rd Try.underlying22 Try.underlying5 (by kernel_rfl) h0
  obtain ⟨a1, n1, c1, rfl⟩ := okWide_slice Try.underlying22 (hval 1 22 v1 rfl rfl)
  have k1 := h1
  have lt1 : ∀ x ∈ p1, x.block < W.heap.size := by obtain ⟨m, hm⟩ := k1; exact DataW.trod_lt m _ _ _ hm
  obtain ⟨l1, w1, y1⟩ := open_rd Try.underlying22 Try.underlying5 (by kernel_rfl) h1
  obtain ⟨a2, rfl, rfl, rfl, w2⟩ := open_int Try.underlying3 (hval 2 3 v2 rfl rfl) h2
  obtain ⟨a3, rfl, rfl, rfl, w3⟩ := open_int Try.underlying3 (hval 3 3 v3 rfl rfl) h3
  clear hA0 hval0
  refine (walk W a0 n0 c0 l0 w0 y0 a1 n1 c1 l1 w1 y1 a2 w2 a3 w3).mono fun e W' ⟨he, bel⟩ => ?_
  subst he
  exact ⟨_, rfl, _, _, _, [], _, [], hW', trodAll_mk1 (shut_bool Try.underlying4 _), (trodAll_cons_mk (Below.trod laidOut (by kernel_rfl) (of_decide_eq_true (by kernel_rfl)) k0 bel lt0) (trodAll_cons_mk (Below.trod laidOut (by kernel_rfl) (of_decide_eq_true (by kernel_rfl)) k1 bel lt1) (trodAll_cons_mk (shut_int Try.underlying3 w2) (trodAll_cons_mk (shut_int Try.underlying3 w3) trodAll_mk0)))), rfl, Below.frame bel _, fun h => by cases h⟩

theorem over_ : Rows.crcHolesRow.holds Try.pinned (OpenSpec.ofChange Rows.crcHolesSpec) :=
  OpenClaim.holds_of_wide 5 Try.f5 rfl rfl rfl rfl rfl rfl rfl ⟨rfl, rfl, rfl, rfl, rfl⟩ rfl rfl rfl rfl rfl (by kernel_rfl) Try.func5 (by kernel_rfl)
    (of_decide_eq_true (by kernel_rfl)) (by unfold Func.isWrapper; first | (rw [if_pos (by decide +kernel)]; kernel_rfl) | (rw [if_neg (by decide +kernel)]; exact ⟨rfl, rfl⟩))
    (fun os started H enc _ => lifted os started H enc)

theorem proved : Rows.CrcHolesSaid := over_
end Go.Proofs.Ytpfepajenimejaa.lawHoles
