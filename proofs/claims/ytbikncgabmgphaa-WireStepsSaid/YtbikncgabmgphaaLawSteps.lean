/- WireSteps answers true, whatever row of bytes and whatever two numbers it is given. No conditions. -/
import Derived.Test.YtbikncgabmgphaaKnown
import Derived.Test.YtbikncgabmgphaaFrame
namespace Go.Proofs.Ytbikncgabmgphaa.lawSteps
open Go.ChangeShapes Go.WideShapes Go.ChangeAt Go.RowKit
open Go.ChangeMaps (open_string shut_string)
set_option linter.unusedVariables false
set_option linter.unusedSimpArgs false

/-- what a reader does leaves another one alone -/
theorem wr_other {w w' : World} {lo lo' g g' : Nat} {st st' : Option (List UInt8)} (h : Wr w lo g st) (h' : Wr w lo' g' st') (hb : w.grownBy w' (some g)) (hne : g ≠ g') : Wr w' lo' g' st' := by
  have hn : some g' ≠ some g := fun e => hne (Option.some.inj e).symm
  refine ⟨h'.1, ?_⟩
  rcases st' with _ | l'
  · exact Blk.other h'.2 hb hn
  · obtain ⟨A, n, c, h1, h2, h3, h4⟩ := h'.2
    exact ⟨A, n, c, Blk.other h1 hb hn, h2, wr_rd h h3 hb, h4⟩
theorem wr_lt {w : World} {lo g : Nat} {st : Option (List UInt8)} (h : Wr w lo g st) : g < w.heap.size := by
  rcases st with _ | l
  · exact Blk.lt h.2
  · obtain ⟨A, n, c, h1, h2, h3, h4⟩ := h.2
    exact Blk.lt h1
theorem wr_kept {w w' : World} {lo g : Nat} {st : Option (List UInt8)} (h : Wr w lo g st) (hx : Ext w w') : Wr w' lo g st := by
  refine ⟨h.1, ?_⟩
  rcases st with _ | l
  · exact Blk.ext h.2 hx
  · obtain ⟨A, n, c, h1, h2, h3, h4⟩ := h.2
    exact ⟨A, n, c, Blk.ext h1 hx, h2, h3.ext hx, h4⟩

theorem rbytes_yes (l : List UInt8) (p : Nat) (h : p ≤ l.length) : rbytes (some l) (p : Int) = (l.take p, some (l.drop p)) := by
  simp only [rbytes, Int.toNat_natCast]
  rw [if_pos ⟨by omega, by omega⟩]
theorem rbytes_no (l : List UInt8) (p : Nat) (h : ¬ p ≤ l.length) : rbytes (some l) (p : Int) = ([], none) := by
  simp only [rbytes]
  rw [if_neg (by omega)]
theorem rbytes_two (l : List UInt8) (p q : Nat) : (rbytes (rbytes (some l) (p : Int)).2 (q : Int)).2 = (rbytes (some l) ((p + q : Nat) : Int)).2 := by
  by_cases h1 : p ≤ l.length
  · rw [rbytes_yes l p h1]
    by_cases h2 : p + q ≤ l.length
    · rw [rbytes_yes l _ h2, rbytes_yes (l.drop p) q (by simp; omega), List.drop_drop]
    · rw [rbytes_no l _ h2, rbytes_no (l.drop p) q (by simp; omega)]
  · rw [rbytes_no l p h1, rbytes_no l _ (by omega)]
    rfl
theorem rbytes_join (l : List UInt8) (p q : Nat) (h : p + q ≤ l.length) : (rbytes (some l) (p : Int)).1 ++ (rbytes (rbytes (some l) (p : Int)).2 (q : Int)).1 = l.take (p + q) := by
  rw [rbytes_yes l p (by omega), rbytes_yes (l.drop p) q (by simp; omega)]
  exact (List.take_add).symm
theorem rnumber_bad (l : List UInt8) (p : Nat) (h : p < 1 ∨ 8 < p ∨ l.length < p) : rnumber (some l) (p : Int) = (0, none) := by
  unfold rnumber
  split
  · rw [rbytes_no l p (by omega)]
    rfl
  · rfl
theorem rnumber_good (l : List UInt8) (p : Nat) (h1 : 1 ≤ p) (h8 : p ≤ 8) (h : p ≤ l.length) : rnumber (some l) (p : Int) = (bnum (l.take p), some (l.drop p)) := by
  unfold rnumber
  rw [if_pos (by omega), rbytes_yes l p h]

theorem rbytes_le (st : Option (List UInt8)) (n : Int) : (rbytes st n).1.length ≤ rleft st ∧ rleft (rbytes st n).2 ≤ rleft st := by
  unfold rbytes
  rcases st with _ | l
  · simp [rleft]
  · dsimp only
    split <;> simp [rleft]
    omega
theorem joined_le (l : List UInt8) (p q : Int) : (jn [(rbytes (some l) p).1, (rbytes (rbytes (some l) p).2 q).1]).length ≤ 2 * l.length := by
  have h1 := rbytes_le (some l) p
  have h2 := rbytes_le (rbytes (some l) p).2 q
  have h3 : rleft (some l) = l.length := rfl
  rw [jn_two, List.length_append]
  omega

set_option maxRecDepth 100000 in
set_option maxHeartbeats 1600000 in
theorem walk (w : World) (A : Option Addr) (n c : Nat) (l : List UInt8) (hr : Rd w 0 A n l) (hc : n ≤ c) (p : Int) (hpw : (Lit.int IntKind.i64 p).wf = true) (q : Int) (hqw : (Lit.int IntKind.i64 q).wf = true) :
    Calls Try.prog 9 #[.slice A n c, .int .i64 p, .int .i64 q] w fun e w' => e = .returned (.bool true) ∧ Ext w w' := by
  by_cases hA : 9000 < n
  · have hA' : (9000 : Int) < (n : Int) := by omega
    clear hA
    go_enter Try.func9, Try.ntmps9
    go_wp2_with fail
    refine (known_any _).mono ?_
    rintro e wk ⟨rfl, hxk⟩
    go_wp2_with fail
    go_ret
    exact ⟨rfl, hxk⟩
  have hA' : ¬ (9000 : Int) < (n : Int) := by omega
  clear hA
  by_cases hp : p < 0
  ·
    go_enter Try.func9, Try.ntmps9
    go_wp2_with fail
    refine (known_any _).mono ?_
    rintro e wk ⟨rfl, hxk⟩
    go_wp2_with fail
    go_ret
    exact ⟨rfl, hxk⟩
  by_cases hq : q < 0
  ·
    go_enter Try.func9, Try.ntmps9
    go_wp2_with fail
    refine (known_any _).mono ?_
    rintro e wk ⟨rfl, hxk⟩
    go_wp2_with fail
    go_ret
    exact ⟨rfl, hxk⟩
  by_cases hp9 : 9000 < p
  ·
    go_enter Try.func9, Try.ntmps9
    go_wp2_with fail
    refine (known_any _).mono ?_
    rintro e wk ⟨rfl, hxk⟩
    go_wp2_with fail
    go_ret
    exact ⟨rfl, hxk⟩
  by_cases hq9 : 9000 < q
  ·
    go_enter Try.func9, Try.ntmps9
    go_wp2_with fail
    refine (known_any _).mono ?_
    rintro e wk ⟨rfl, hxk⟩
    go_wp2_with fail
    go_ret
    exact ⟨rfl, hxk⟩
  obtain ⟨p', rfl⟩ := Int.eq_ofNat_of_zero_le (Int.not_lt.1 hp)
  obtain ⟨q', rfl⟩ := Int.eq_ofNat_of_zero_le (Int.not_lt.1 hq)
  go_enter Try.func9, Try.ntmps9
  go_wp2_with fail
  refine (read_any A n c _ l _ hr (by omega)).mono ?_
  rintro e w1 ⟨g1, rfl, hg1, hx1⟩
  go_wp2_with fail
  refine (read_any A n c _ l _ (hr.ext hx1) (by omega)).mono ?_
  rintro e w2 ⟨g2, rfl, hg2, hx2⟩
  go_wp2_with fail
  refine (read_any A n c _ l _ (hr.ext (hx1.trans hx2)) (by omega)).mono ?_
  rintro e w3 ⟨g3, rfl, hg3, hx3⟩
  go_wp2_with fail
  have hl := hr.len
  have c12 : g1 ≠ g2 := fun e => absurd (wr_lt hg1) (by have := hg2.1; omega)
  have c13 : g1 ≠ g3 := fun e => absurd (wr_lt hg1) (by have := hg3.1; have := hx2.size; omega)
  have c23 : g2 ≠ g3 := fun e => absurd (wr_lt hg2) (by have := hg3.1; omega)
  have hg13 := wr_kept hg1 (hx2.trans hx3)
  have hg23 := wr_kept hg2 hx3
  rw [← Int.natCast_add]
  refine (bytes_any g1 _ (some l) ((p' + q' : Nat) : Int) _ hg13).mono ?_
  rintro e w4 ⟨A4, m4, c4, rfl, r4, k1, b1⟩
  have hx4 := wr_ext hg13 ((hx1.trans hx2).trans hx3) b1 (Nat.le_refl _)
  have k2 := wr_other hg13 hg23 b1 c12
  have k3 := wr_other hg13 hg3 b1 c13
  clear hg1 hg2 hg3 hg13 hg23
  go_wp2_with fail
  refine (bytes_any g2 _ (some l) (p' : Int) _ k2).mono ?_
  rintro e w5 ⟨A5, m5, c5, rfl, r5, k2', b2⟩
  have hx5 := wr_ext k2 hx4 b2 hx1.size
  have k1' := wr_other k2 k1 b2 c12.symm
  have k3' := wr_other k2 k3 b2 c23
  have r45 := wr_rd k2 r4 b2
  clear k1 k2 k3
  go_wp2_with fail
  refine (bytes_any g2 _ _ (q' : Int) _ k2').mono ?_
  rintro e w6 ⟨A6, m6, c6, rfl, r6, k2, b3⟩
  have hx6 := wr_ext k2' hx5 b3 hx1.size
  have k1 := wr_other k2' k1' b3 c12.symm
  have k3 := wr_other k2' k3' b3 c23
  have r46 := wr_rd k2' r45 b3
  have r56 := wr_rd k2' r5 b3
  clear k1' k2' k3'
  go_wp2_with fail
  have hjl := joined_le l (p' : Int) (q' : Int)
  refine (join_any _ _ _ [(rbytes (some l) (p' : Int)).1, (rbytes (rbytes (some l) (p' : Int)).2 (q' : Int)).1] _ (RdL.new2 _ _ _ _ _ _ _ _ _ (r56.low (Nat.zero_le _)) (r6.low (Nat.zero_le _))) (by omega) (by omega)).mono ?_
  rintro e w7 ⟨A7, c7, rfl, r7, hx7⟩
  rw [rbytes_two] at k2
  have hx67 := ((Ext.refl w6).alloc _).trans hx7
  have hx07 := hx6.trans hx67
  have k1' := wr_kept k1 hx67
  have k2' := wr_kept k2 hx67
  have k3' := wr_kept k3 hx67
  have r4' := r46.ext hx67
  have r0 := hr.ext hx07
  clear k1 k2 k3 r46 r56 r45 r4 r5 b1 b2 b3 hx4 hx5 hjl
  have hlen7 : (jn [(rbytes (some l) (p' : Int)).1, (rbytes (rbytes (some l) (p' : Int)).2 (q' : Int)).1]).length = (jn [(rbytes (some l) (p' : Int)).1, (rbytes (rbytes (some l) (p' : Int)).2 (q' : Int)).1]).length := rfl
  generalize (jn [(rbytes (some l) (p' : Int)).1, (rbytes (rbytes (some l) (p' : Int)).2 (q' : Int)).1]).length = m7 at r7 hlen7 ⊢
  by_cases hpq : p' + q' ≤ l.length
  · rw [jn_two, rbytes_join l p' q' hpq] at r7
    rw [rbytes_yes l _ hpq] at k1' k2' r4'
    dsimp only at k1' k2' r4'
    have hpq' : ¬ (n : Int) < (p' : Int) + (q' : Int) := by omega
    have hs1 := run_string r4' c4 Try.underlying23 Try.underlying5 Try.underlying9
    have hs2 := run_string r7 c7 Try.underlying23 Try.underlying5 Try.underlying9
    go_wp2_with fail
    refine (failed_any g1 _ _ _ k1').mono ?_
    rintro e wf ⟨rfl, rfl⟩
    go_wp2_with fail
    refine (failed_any g2 _ _ _ k2').mono ?_
    rintro e wf ⟨rfl, rfl⟩
    go_wp2_with fail
    refine (failed_any g1 _ _ _ k1').mono ?_
    rintro e wf ⟨rfl, rfl⟩
    go_wp2_with fail
    refine (failed_any g1 _ _ _ k1').mono ?_
    rintro e wf ⟨rfl, rfl⟩
    go_wp2_with fail
    refine (left_any g1 _ _ _ k1').mono ?_
    rintro e wf ⟨rfl, rfl⟩
    go_wp2_with fail
    refine (left_any g2 _ _ _ k2').mono ?_
    rintro e wf ⟨rfl, rfl⟩
    go_wp2_with fail
    clear hs1 hs2
    by_cases hgood : 1 ≤ p' ∧ p' ≤ 8 ∧ p' ≤ l.length
    · obtain ⟨g1', g8', gl'⟩ := hgood
      have hnum := Lib.hid (rnumber_good l p' g1' g8' gl')
      have e1 : ¬ (p' : Int) < 1 := by omega
      have e2 : ¬ (8 : Int) < (p' : Int) := by omega
      have e3 : ¬ (n : Int) < (p' : Int) := by omega
      have e4 : (p' : Int) ≤ (c : Int) := by omega
      refine (number_any g3 _ (some l) (p' : Int) _ k3').mono ?_
      rw [hnum.out]
      rintro e w8 ⟨rfl, k8, b8⟩
      have hx8 := wr_ext k3' hx07 b8 (hx1.trans hx2).size
      have r8 := (wr_rd k3' r0 b8).take (k := p') (by omega)
      have hleft : ((rleft (some (l.drop p')) : Nat) : Int) = (n : Int) - (p' : Int) := by simp only [rleft, List.length_drop]; omega
      dsimp only at k8
      go_wp2_with fail
      refine (get_any A p' c _ _ _ r8 g1' g8').mono ?_
      rintro e wf ⟨rfl, rfl⟩
      go_wp2_with (go_at_call 13; refine (num_any _ _).mono ?_; rintro e w1 ⟨rfl, rfl⟩)
      refine (left_any g3 _ _ _ k8).mono ?_
      rw [hleft]
      rintro e wf ⟨rfl, rfl⟩
      go_wp2_with fail
      refine (known_any _).mono ?_
      rintro e wk ⟨rfl, hxk⟩
      go_wp2_with fail
      go_ret
      exact ⟨rfl, (hx8).trans hxk⟩
    · have hnum := Lib.hid (rnumber_bad l p' (by omega))
      have h3 : (p' : Int) < 1 ∨ (¬ (p' : Int) < 1 ∧ (8 : Int) < (p' : Int)) ∨ (¬ (p' : Int) < 1 ∧ ¬ (8 : Int) < (p' : Int) ∧ (n : Int) < (p' : Int)) := by omega
      clear hgood
      rcases h3 with e1 | ⟨e1, e2⟩ | ⟨e1, e2, e3⟩
      all_goals
        refine (number_any g3 _ (some l) (p' : Int) _ k3').mono ?_
        rw [hnum.out]
        rintro e w8 ⟨rfl, k8, b8⟩
        have hx8 := wr_ext k3' hx07 b8 (hx1.trans hx2).size
        dsimp only at k8
        go_wp2_with fail
        refine (failed_any g3 _ _ _ k8).mono ?_
        rintro e wf ⟨rfl, rfl⟩
        go_wp2_with fail
        refine (known_any _).mono ?_
        rintro e wk ⟨rfl, hxk⟩
        go_wp2_with fail
        go_ret
        exact ⟨rfl, (hx8).trans hxk⟩
  · rw [rbytes_no l _ hpq] at k1' k2' r4'
    dsimp only at k1' k2' r4'
    have hpq' : (n : Int) < (p' : Int) + (q' : Int) := by omega
    clear hpq
    go_wp2_with fail
    refine (failed_any g1 _ _ _ k1').mono ?_
    rintro e wf ⟨rfl, rfl⟩
    go_wp2_with fail
    refine (failed_any g2 _ _ _ k2').mono ?_
    rintro e wf ⟨rfl, rfl⟩
    go_wp2_with fail
    refine (failed_any g1 _ _ _ k1').mono ?_
    rintro e wf ⟨rfl, rfl⟩
    go_wp2_with fail
    refine (failed_any g1 _ _ _ k1').mono ?_
    rintro e wf ⟨rfl, rfl⟩
    go_wp2_with fail
    by_cases hgood : 1 ≤ p' ∧ p' ≤ 8 ∧ p' ≤ l.length
    · obtain ⟨g1', g8', gl'⟩ := hgood
      have hnum := Lib.hid (rnumber_good l p' g1' g8' gl')
      have e1 : ¬ (p' : Int) < 1 := by omega
      have e2 : ¬ (8 : Int) < (p' : Int) := by omega
      have e3 : ¬ (n : Int) < (p' : Int) := by omega
      have e4 : (p' : Int) ≤ (c : Int) := by omega
      refine (number_any g3 _ (some l) (p' : Int) _ k3').mono ?_
      rw [hnum.out]
      rintro e w8 ⟨rfl, k8, b8⟩
      have hx8 := wr_ext k3' hx07 b8 (hx1.trans hx2).size
      have r8 := (wr_rd k3' r0 b8).take (k := p') (by omega)
      have hleft : ((rleft (some (l.drop p')) : Nat) : Int) = (n : Int) - (p' : Int) := by simp only [rleft, List.length_drop]; omega
      dsimp only at k8
      go_wp2_with fail
      refine (get_any A p' c _ _ _ r8 g1' g8').mono ?_
      rintro e wf ⟨rfl, rfl⟩
      go_wp2_with (go_at_call 13; refine (num_any _ _).mono ?_; rintro e w1 ⟨rfl, rfl⟩)
      refine (left_any g3 _ _ _ k8).mono ?_
      rw [hleft]
      rintro e wf ⟨rfl, rfl⟩
      go_wp2_with fail
      refine (known_any _).mono ?_
      rintro e wk ⟨rfl, hxk⟩
      go_wp2_with fail
      go_ret
      exact ⟨rfl, (hx8).trans hxk⟩
    · have hnum := Lib.hid (rnumber_bad l p' (by omega))
      have h3 : (p' : Int) < 1 ∨ (¬ (p' : Int) < 1 ∧ (8 : Int) < (p' : Int)) ∨ (¬ (p' : Int) < 1 ∧ ¬ (8 : Int) < (p' : Int) ∧ (n : Int) < (p' : Int)) := by omega
      clear hgood
      rcases h3 with e1 | ⟨e1, e2⟩ | ⟨e1, e2, e3⟩
      all_goals
        refine (number_any g3 _ (some l) (p' : Int) _ k3').mono ?_
        rw [hnum.out]
        rintro e w8 ⟨rfl, k8, b8⟩
        have hx8 := wr_ext k3' hx07 b8 (hx1.trans hx2).size
        dsimp only at k8
        go_wp2_with fail
        refine (failed_any g3 _ _ _ k8).mono ?_
        rintro e wf ⟨rfl, rfl⟩
        go_wp2_with fail
        refine (known_any _).mono ?_
        rintro e wk ⟨rfl, hxk⟩
        go_wp2_with fail
        go_ret
        exact ⟨rfl, (hx8).trans hxk⟩

set_option maxRecDepth 100000 in
theorem lifted (os : Os) (started : os.Started) (H : Type) (enc : TypeId × Value → H) :
    ReturnsInHanded {} Try.checked os 9 .any (Rows.wireStepsSpec.pre6 enc Try.prog Try.f9 Rows.wireStepsRow.domain false) (Rows.wireStepsSpec.post enc Try.prog Try.f9 false true false false) := by
  refine returnsInHanded_of_change (C := Try.checked) own started (by kernel_rfl) Try.func9
    (ChangeSpec.witness6 (enc := enc) (C := Try.checked) false ⟨#[], #[.slice none 0 0, .int .i64 0, .int .i64 0], []⟩ 8 (by kernel_rfl) (by kernel_rfl) (by kernel_rfl) (by kernel_rfl)) ?_
  intro W base args ds gs before hval0 hW hcnd _
  have hval : ∀ (j : Nat) t v, Try.f9.params[j]? = some t → args[j]? = some v → Value.okWide Try.prog W .any base t v := hval0
  have hW' := hW
  obtain ⟨p, q, hA0, hV, rfl, hfz, hnd⟩ := hW
  have hA : DataW.TrodAll enc Try.prog W 0 (fun _ => true) true Try.f9.params.toList args.toList ds p := hA0
  rw [Try.params9] at hA hval
  obtain ⟨v0, vs0, d0, ds0, p0, q0, hargs, rfl, rfl, h0, r0⟩ := trodAll_cons hA
  obtain ⟨v1, vs1, d1, ds1, p1, q1, rfl, rfl, rfl, h1, r1⟩ := trodAll_cons r0
  obtain ⟨v2, vs2, d2, ds2, p2, q2, rfl, rfl, rfl, h2, r2⟩ := trodAll_cons r1
  obtain ⟨rfl, rfl, rfl⟩ := trodAll_nil r2
  obtain rfl : args = #[v0, v1, v2] := by cases args; simp_all
  obtain ⟨rfl, rfl⟩ := trodVars_none hV
  obtain ⟨a0, n0, c0, rfl⟩ := okWide_slice Try.underlying23 (hval 0 23 v0 rfl rfl)
  have k0 := h0
  have lt0 : ∀ x ∈ p0, x.block < W.heap.size := by obtain ⟨m, hm⟩ := k0; exact DataW.trod_lt m _ _ _ hm
  obtain ⟨l0, w0, y0⟩ := open_rd Try.underlying23 Try.underlying5 (by kernel_rfl) h0
  obtain ⟨a1, rfl, rfl, rfl, w1⟩ := open_int Try.underlying3 (hval 1 3 v1 rfl rfl) h1
  obtain ⟨a2, rfl, rfl, rfl, w2⟩ := open_int Try.underlying3 (hval 2 3 v2 rfl rfl) h2
  clear hA0 hval0
  refine (walk W a0 n0 c0 l0 w0 y0 a1 w1 a2 w2).mono fun e W' ⟨he, bel⟩ => ?_
  subst he
  exact ⟨_, rfl, _, _, _, [], _, [], hW', trodAll_mk1 (shut_bool Try.underlying4 _), (trodAll_cons_mk (Below.trod laidOut (by kernel_rfl) (of_decide_eq_true (by kernel_rfl)) k0 bel lt0) (trodAll_cons_mk (shut_int Try.underlying3 w1) (trodAll_cons_mk (shut_int Try.underlying3 w2) trodAll_mk0))), rfl, Below.frame bel _, fun h => by cases h⟩

theorem over_ : Rows.wireStepsRow.holds Try.pinned (OpenSpec.ofChange Rows.wireStepsSpec) :=
  OpenClaim.holds_of_wide 9 Try.f9 rfl rfl rfl rfl rfl rfl rfl ⟨rfl, rfl, rfl, rfl, rfl⟩ rfl rfl rfl rfl rfl (by kernel_rfl) Try.func9 (by kernel_rfl)
    (of_decide_eq_true (by kernel_rfl)) (by unfold Func.isWrapper; first | (rw [if_pos (by decide +kernel)]; kernel_rfl) | (rw [if_neg (by decide +kernel)]; exact ⟨rfl, rfl⟩))
    (fun os started H enc _ => lifted os started H enc)

theorem proved : Rows.WireStepsSaid := over_
end Go.Proofs.Ytbikncgabmgphaa.lawSteps
