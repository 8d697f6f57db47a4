/- WireWeighs answers true, whatever number and size it is given. No conditions. -/
import Derived.Test.YtbikncgabmgphaaKnown
import Derived.Test.YtbikncgabmgphaaHex
import Derived.Test.YtbikncgabmgphaaFrame
import Derived.Test.YtbikncgabmgphaaPlan
namespace Go.Proofs.Ytbikncgabmgphaa.lawWeighs
open Go.ChangeShapes Go.WideShapes Go.ChangeAt Go.RowKit
open Go.ChangeMaps (open_string shut_string)
set_option linter.unusedVariables false
set_option linter.unusedSimpArgs false

theorem bnum_beb (n s : Nat) (h : n < 256 ^ s) : bnum (beb n s) = n := by
  have key : ∀ k, k ≤ s → bnum ((beb n s).take k) = n / 256 ^ (s - k) := by
    intro k
    induction k with
    | zero => intro _; rw [Nat.sub_zero, Nat.div_eq_of_lt h]; rfl
    | succ k ih =>
      intro hk
      rw [beb_snoc n s k (by omega), bnum_snoc, ih (by omega), UInt8.toNat_ofNat', show s - 1 - k = s - (k + 1) by omega, show s - k = (s - (k + 1)) + 1 by omega, Nat.pow_succ, ← Nat.div_div_eq_div_mul]
      omega
  have := key s (Nat.le_refl _)
  rw [List.take_of_length_le (by rw [beb_length]; exact Nat.le_refl _), Nat.sub_self] at this
  simpa using this
theorem beb_wide (n s : Nat) (h : n < 256 ^ s) : beb n (s + 1) = 0 :: beb n s := by
  apply List.ext_getElem
  · simp [beb_length]
  · intro i h1 h2
    rw [beb_get]
    match i with
    | 0 =>
      simp [Nat.div_eq_of_lt h]
    | i + 1 =>
      rw [List.getElem_cons_succ, beb_get]
      congr 2
      simp only [beb_length] at h1
      rw [show s + 1 - 1 - (i + 1) = s - 1 - i by omega]
theorem lt64_of {n s : Nat} (h : n < 256 ^ s) (hs : s ≤ 8) : lt64 n := by
  have h1 : 256 ^ s ≤ 256 ^ 8 := Nat.pow_le_pow_right (by decide) hs
  have h2 : 256 ^ 8 = 18446744073709551616 := by decide
  show (n : Int) < _
  omega
theorem room_more {n s : Nat} (h : n < 256 ^ s) (hs : s ≤ 7) : room n ((s + 1 : Nat) : Int) = true := by
  have h1 : 256 ^ s ≤ 256 ^ (s + 1) := Nat.pow_le_pow_right (by decide) (by omega)
  have h2 : (n : Int) < 256 ^ (s + 1) := by
    have := Int.ofNat_lt.2 (Nat.lt_of_lt_of_le h h1)
    rw [Int.natCast_pow] at this
    exact this
  simp only [room, Int.toNat_natCast, Bool.and_eq_true, Bool.or_eq_true, decide_eq_true_eq]
  exact ⟨⟨by omega, by omega⟩, .inr h2⟩
theorem room_lt {n : Int} {size : Int} (h : room n size = true) (hn : 0 ≤ n) (hn' : n < 18446744073709551616) : 1 ≤ size ∧ size ≤ 8 ∧ n < 256 ^ size.toNat := by
  simp [room] at h
  refine ⟨h.1.1, h.1.2, ?_⟩
  rcases h.2 with e | e
  · subst e; exact hn'
  · exact e

set_option maxRecDepth 100000 in
set_option maxHeartbeats 800000 in
theorem walk (n : Int) (hwf : (Lit.int .u64 n).wf = true) (size : Int) (_hs : (Lit.int .i64 size).wf = true) (w : World) :
    Calls Try.prog 3 #[.int .u64 n, .int .i64 size] w fun e w' => e = .returned (.bool true) ∧ Ext w w' := by
  have hb := bounds_u64 hwf
  clear hwf _hs
  cases hr : room n size with
  | false =>
    have Hr := Lib.hid hr
    clear hr hb
    go_enter Try.func3, Try.ntmps3
    go_wp2_with fail
    refine (put_not n size _ Hr.out).mono ?_
    rintro e w1 ⟨rfl, rfl⟩
    go_wp2_with fail
    refine (room_any n size _).mono ?_
    rw [Hr.out]
    rintro e w1 ⟨rfl, rfl⟩
    go_wp2_with (go_at_call 13; refine (num_any _ _).mono ?_; rintro e w1 ⟨rfl, rfl⟩)
    refine (known_any _).mono ?_
    rintro e w1 ⟨rfl, hx⟩
    go_wp2_with fail
    go_ret
    exact ⟨rfl, hx⟩
  | true =>
    obtain ⟨h1, h8, hlt⟩ := room_lt hr hb.1 (by omega)
    obtain ⟨n, rfl⟩ := Int.eq_ofNat_of_zero_le hb.1
    obtain ⟨s, rfl⟩ := Int.eq_ofNat_of_zero_le (show 0 ≤ size by omega)
    have hlt' : n < 256 ^ s := by
      rw [Int.toNat_natCast] at hlt
      exact Int.ofNat_lt.1 (by rw [Int.natCast_pow]; exact hlt)
    have Hr := Lib.hid hr
    have HP := Lib.hid hlt'
    have HB := Lib.hid (bnum_beb n s hlt')
    have HW := Lib.hid (beb_wide n s hlt')
    clear hr hb hlt hlt'
    go_enter Try.func3, Try.ntmps3
    go_wp2_with fail
    refine (put_nat n s _ Hr.out (lt64_of HP.out (by omega))).mono ?_
    rintro e w1 ⟨A1, c1, rfl, hb1, hx1⟩
    go_wp2_with fail
    refine (room_any n s _).mono ?_
    rw [Hr.out]
    rintro e w2 ⟨rfl, rfl⟩
    go_wp2_with fail
    refine (get_any A1 s c1 _ _ _ hb1 (by omega) (by omega)).mono ?_
    rw [HB.out]
    rintro e w2 ⟨rfl, rfl⟩
    go_wp2_with fail
    refine wp_region_plan Ext [(0, true), (1, true), (2, true), (3, true), (4, false), (5, true), (6, true), (7, true), (8, true), (9, true), (10, true), (11, true), (12, true), (13, true), (15, true), (14, false), (16, false), (17, true), (18, true), (19, true)] (fun _ _ _ => Ext.trans) Ext.refl (by kernel_rfl) (by kernel_rfl) ?_
    intro K hK
    have hs1 := later_string (R := Ext) (fun _ _ h => h) (hb1.ext (Ext.refl w1).drew) c1 Try.underlying23 Try.underlying5 Try.underlying9
    iterate 4 (
      refine plan_q (v := ?_) rfl rfl ?_ ?_
      rotate_left
      · intro x
        go_simp
        first | done | rfl
      simp only [Act.put, List.getElem_toArray, List.getElem_cons_zero, List.getElem_cons_succ, List.setIfInBounds_toArray, List.set_cons_zero, List.set_cons_succ])
    refine plan_l rfl rfl ?_
    intro K2 hK2
    go_simp
    go_at_call 16
    refine (rput_nat n s _ (by omega) (by omega) HP.out).mono ?_
    rintro e w2 ⟨A2, c2, rfl, hb2, hx2⟩
    refine hK2.out _ _ hx2 ?_
    clear hK2 K2
    try simp only [Act.put, List.getElem_toArray, List.getElem_cons_zero, List.getElem_cons_succ, List.setIfInBounds_toArray, List.set_cons_zero, List.set_cons_succ]
    have hs2 := later_string (R := Ext) (fun _ _ h => h) hb2 c2 Try.underlying23 Try.underlying5 Try.underlying9
    iterate 10 (
      refine plan_q (v := ?_) rfl rfl ?_ ?_
      rotate_left
      · intro x
        go_simp
        first | done | rfl
      simp only [Act.put, List.getElem_toArray, List.getElem_cons_zero, List.getElem_cons_succ, List.setIfInBounds_toArray, List.set_cons_zero, List.set_cons_succ])
    refine plan_l rfl rfl ?_
    intro K2 hK2
    go_simp
    go_at_call 13
    refine (num_any _ _).mono ?_
    rintro e w3 ⟨rfl, rfl⟩
    refine hK2.out _ _ (Ext.refl _) ?_
    clear hK2 K2
    try simp only [Act.put, List.getElem_toArray, List.getElem_cons_zero, List.getElem_cons_succ, List.setIfInBounds_toArray, List.set_cons_zero, List.set_cons_succ]
    refine plan_l rfl rfl ?_
    intro K2 hK2
    go_simp
    go_at_call 13
    refine (num_any _ _).mono ?_
    rintro e w3 ⟨rfl, rfl⟩
    refine hK2.out _ _ (Ext.refl _) ?_
    clear hK2 K2
    try simp only [Act.put, List.getElem_toArray, List.getElem_cons_zero, List.getElem_cons_succ, List.setIfInBounds_toArray, List.set_cons_zero, List.set_cons_succ]
    iterate 3 (
      refine plan_q (v := ?_) rfl rfl ?_ ?_
      rotate_left
      · intro x
        go_simp
        first | done | rfl
      simp only [Act.put, List.getElem_toArray, List.getElem_cons_zero, List.getElem_cons_succ, List.setIfInBounds_toArray, List.set_cons_zero, List.set_cons_succ])
    refine plan_end (hK.out _ _ ?_)
    clear hK K
    have hx := ((hx1.drew).trans hx2)
    clear hs1 hs2
    have hb1 := hb1.ext ((Ext.refl w1).drew.trans hx2)
    clear hb2
    go_wp2_with fail
    by_cases h9 : s = 8
    · subst h9
      clear HW HB Hr HP
      refine (put_not n 9 _ (by simp [room])).mono ?_
      rintro e w3 ⟨rfl, rfl⟩
      go_wp2_with (go_at_call 13; refine (num_any _ _).mono ?_; rintro e w1 ⟨rfl, rfl⟩)
      refine (known_any _).mono ?_
      rintro e w4 ⟨rfl, hx4⟩
      go_wp2_with fail
      go_ret
      exact ⟨rfl, hx.trans hx4⟩
    · rw [show ((s : Int) + 1) = ((s + 1 : Nat) : Int) by omega]
      refine (put_nat n (s + 1) _ (room_more HP.out (by omega)) (lt64_of HP.out (by omega))).mono ?_
      rw [HW.out]
      rintro e w3 ⟨A3, c3, rfl, hb3, hx3⟩
      have hs3 := run_string hb3 c3 Try.underlying23 Try.underlying5 Try.underlying9
      have hs4 := run_string (hb1.ext hx3) c1 Try.underlying23 Try.underlying5 Try.underlying9
      have hcat : ByteArray.mk #[0] ++ ByteArray.mk (beb n s).toArray = ByteArray.mk (0 :: beb n s).toArray := str_append [0] _
      have hlen := beb_length n s
      have h9' : ((s : Int) == 8) = false := by simp; omega
      clear HW HB Hr HP h9
      go_wp2_with (go_at_call 13; refine (num_any _ _).mono ?_; rintro e w1 ⟨rfl, rfl⟩)
      refine (known_any _).mono ?_
      rintro e w4 ⟨rfl, hx4⟩
      go_wp2_with fail
      go_ret
      exact ⟨rfl, (hx.trans hx3).trans hx4⟩

set_option maxRecDepth 100000 in
theorem lifted (os : Os) (started : os.Started) (H : Type) (enc : TypeId × Value → H) :
    ReturnsInHanded {} Try.checked os 3 .any (Rows.wireWeighsSpec.pre6 enc Try.prog Try.f3 Rows.wireWeighsRow.domain false) (Rows.wireWeighsSpec.post enc Try.prog Try.f3 false true false false) := by
  refine returnsInHanded_of_change (C := Try.checked) own started (by kernel_rfl) Try.func3
    (ChangeSpec.witness6 (enc := enc) (C := Try.checked) false ⟨#[], #[.int .u64 0, .int .i64 0], []⟩ 8 (by kernel_rfl) (by kernel_rfl) (by kernel_rfl) (by kernel_rfl)) ?_
  intro W base args ds gs before hval0 hW hcnd _
  have hval : ∀ (j : Nat) t v, Try.f3.params[j]? = some t → args[j]? = some v → Value.okWide Try.prog W .any base t v := hval0
  have hW' := hW
  obtain ⟨p, q, hA0, hV, rfl, hfz, hnd⟩ := hW
  have hA : DataW.TrodAll enc Try.prog W 0 (fun _ => true) true Try.f3.params.toList args.toList ds p := hA0
  rw [Try.params3] at hA hval
  obtain ⟨v0, vs0, d0, ds0, p0, q0, hargs, rfl, rfl, h0, r0⟩ := trodAll_cons hA
  obtain ⟨v1, vs1, d1, ds1, p1, q1, rfl, rfl, rfl, h1, r1⟩ := trodAll_cons r0
  obtain ⟨rfl, rfl, rfl⟩ := trodAll_nil r1
  obtain rfl : args = #[v0, v1] := by cases args; simp_all
  obtain ⟨rfl, rfl⟩ := trodVars_none hV
  obtain ⟨a0, rfl, rfl, rfl, w0⟩ := open_int Try.underlying22 (hval 0 22 v0 rfl rfl) h0
  obtain ⟨a1, rfl, rfl, rfl, w1⟩ := open_int Try.underlying3 (hval 1 3 v1 rfl rfl) h1
  clear hA0 hval0
  refine (walk a0 w0 a1 w1 W).mono fun e W' ⟨he, bel⟩ => ?_
  subst he
  exact ⟨_, rfl, _, _, _, [], _, [], hW', trodAll_mk1 (shut_bool Try.underlying4 _), (trodAll_cons_mk (shut_int Try.underlying22 w0) (trodAll_cons_mk (shut_int Try.underlying3 w1) trodAll_mk0)), rfl, Below.frame bel _, fun h => by cases h⟩

theorem over_ : Rows.wireWeighsRow.holds Try.pinned (OpenSpec.ofChange Rows.wireWeighsSpec) :=
  OpenClaim.holds_of_wide 3 Try.f3 rfl rfl rfl rfl rfl rfl rfl ⟨rfl, rfl, rfl, rfl, rfl⟩ rfl rfl rfl rfl rfl (by kernel_rfl) Try.func3 (by kernel_rfl)
    (of_decide_eq_true (by kernel_rfl)) (by unfold Func.isWrapper; first | (rw [if_pos (by decide +kernel)]; kernel_rfl) | (rw [if_neg (by decide +kernel)]; exact ⟨rfl, rfl⟩))
    (fun os started H enc _ => lifted os started H enc)

theorem proved : Rows.WireWeighsSaid := over_
end Go.Proofs.Ytbikncgabmgphaa.lawWeighs
