/- WireOrders answers true, whatever two rows of bytes it is given. No conditions. -/
import Derived.Test.YtbikncgabmgphaaKnown
import Derived.Test.YtbikncgabmgphaaFrame
import Derived.WalkLawsBesides
namespace Go.Proofs.Ytbikncgabmgphaa.lawOrders
open Go.ChangeShapes Go.WideShapes Go.ChangeAt Go.RowKit
open Go.ChangeMaps (open_string shut_string)
set_option linter.unusedVariables false
set_option linter.unusedSimpArgs false

theorem bnum_acc (l : List UInt8) : ∀ n : Nat, l.foldl (fun n u => n * 256 + u.toNat) n = n * 256 ^ l.length + bnum l := by
  induction l with
  | nil => intro n; simp [bnum]
  | cons u l ih =>
    intro n
    have hb : bnum (u :: l) = (0 * 256 + u.toNat) * 256 ^ l.length + bnum l := ih (0 * 256 + u.toNat)
    rw [List.foldl_cons, ih, hb, List.length_cons, Nat.pow_succ, Nat.add_mul, Nat.zero_mul, Nat.zero_add, Nat.mul_assoc, Nat.mul_comm 256, Nat.add_assoc]
theorem bnum_cons (u : UInt8) (l : List UInt8) : bnum (u :: l) = u.toNat * 256 ^ l.length + bnum l := by
  rw [bnum, List.foldl_cons, bnum_acc]
  simp
theorem less_bnum : ∀ (l k : List UInt8), l.length = k.length → Op.bytesLess l k = decide (bnum l < bnum k) ∧ (l == k) = decide (bnum l = bnum k)
  | [], [], _ => by simp [Op.bytesLess]
  | [], _ :: _, h => by simp at h
  | _ :: _, [], h => by simp at h
  | u :: l, v :: k, h => by
    have hlen : l.length = k.length := by simpa using h
    obtain ⟨h1, h2⟩ := less_bnum l k hlen
    have hl := bnum_lt l
    have hk := bnum_lt k
    rw [bnum_cons, bnum_cons, hlen] at *
    generalize 256 ^ k.length = p at *
    generalize hbl : bnum l = x at *
    generalize hbk : bnum k = y at *
    rcases Nat.lt_trichotomy u.toNat v.toNat with hc | hc | hc
    · have hm : u.toNat * p + p ≤ v.toNat * p := by
        have := Nat.mul_le_mul_right p hc
        rw [Nat.succ_mul] at this
        exact this
      have hu : u < v := hc
      have hne : (u == v) = false := by simp; intro e; subst e; omega
      constructor
      · simp [Op.bytesLess, hu]; omega
      · show (u == v && l == k) = _
        rw [hne]; simp; omega
    · have hu : u = v := UInt8.toNat_inj.1 hc
      subst hu
      constructor
      · simp [Op.bytesLess, h1]
      · show (u == u && l == k) = _
        rw [h2]; simp
    · have hm : v.toNat * p + p ≤ u.toNat * p := by
        have := Nat.mul_le_mul_right p hc
        rw [Nat.succ_mul] at this
        exact this
      have hu : ¬ u < v := by intro e; exact absurd (show u.toNat < v.toNat from e) (by omega)
      have hne : (u == v) = false := by simp; intro e; subst e; omega
      constructor
      · simp [Op.bytesLess, hu, hne]; omega
      · show (u == v && l == k) = _
        rw [hne]; simp; omega

/-- what Get answers, whatever the row -/
def getN (n : Nat) (l : List UInt8) : Int := if 1 ≤ n ∧ n ≤ 8 then (bnum l : Int) else 0
def getE (n : Nat) : Int := if 1 ≤ n ∧ n ≤ 8 then 0 else 2
theorem get_gen (A : Option Addr) (n c lo : Nat) (l : List UInt8) (w : World) (hr : Rd w lo A n l) :
    Calls Try.prog 15 #[.slice A n c] w fun e w' => e = .returned (.tuple #[.int .u64 (getN n l), .int .i64 (getE n)]) ∧ w = w' := by
  by_cases h : 1 ≤ n ∧ n ≤ 8
  · simp only [getN, getE, if_pos h]
    exact get_any A n c lo l w hr h.1 h.2
  · simp only [getN, getE, if_neg h]
    exact get_not A n c w (by omega)

set_option maxRecDepth 100000 in
set_option maxHeartbeats 1600000 in
theorem walk (w : World) (A : Option Addr) (n c : Nat) (l : List UInt8) (hr : Rd w 0 A n l) (hc : n ≤ c) (B : Option Addr) (m d : Nat) (k : List UInt8) (ks : Rd w 0 B m k) (kc : m ≤ d) :
    Calls Try.prog 4 #[.slice A n c, .slice B m d] w fun e w' => e = .returned (.bool true) ∧ Ext w w' := by
  by_cases hA : 9000 < n
  · have hA' : (9000 : Int) < (n : Int) := by omega
    clear hA
    go_enter Try.func4, Try.ntmps4
    go_wp2_with fail
    refine (known_any _).mono ?_
    rintro e w4 ⟨rfl, hx4⟩
    go_wp2_with fail
    go_ret
    exact ⟨rfl, hx4⟩
  by_cases hB : 9000 < m
  · have hA' : ¬ (9000 : Int) < (n : Int) := by omega
    have hB' : (9000 : Int) < (m : Int) := by omega
    clear hA hB
    go_enter Try.func4, Try.ntmps4
    go_wp2_with fail
    refine (known_any _).mono ?_
    rintro e w4 ⟨rfl, hx4⟩
    go_wp2_with fail
    go_ret
    exact ⟨rfl, hx4⟩
  have hA' : ¬ (9000 : Int) < (n : Int) := by omega
  have hB' : ¬ (9000 : Int) < (m : Int) := by omega
  by_cases hga : 1 ≤ n ∧ n ≤ 8
  · have hva := Lib.hid (show getN n l = bnum l by unfold getN; rw [if_pos hga])
    have hea := Lib.hid (show getE n = 0 by unfold getE; rw [if_pos hga])
    have a1 : (0 : Int) < (n : Int) := by omega
    have a2 : (n : Int) ≤ 8 := by omega
    by_cases hgb : 1 ≤ m ∧ m ≤ 8
    · have hvb := Lib.hid (show getN m k = bnum k by unfold getN; rw [if_pos hgb])
      have heb := Lib.hid (show getE m = 0 by unfold getE; rw [if_pos hgb])
      have b1 : (0 : Int) < (m : Int) := by omega
      have b2 : (m : Int) ≤ 8 := by omega
      by_cases hnm : n = m
      · have hlen : l.length = k.length := by rw [hr.len, ks.len, hnm]
        obtain ⟨hless, heq⟩ := less_bnum l k hlen
        have g1 : n ≤ 8 := hga.2
        have g2 : m ≤ 8 := hgb.2
        have hnm' : ((n : Int) != (m : Int)) = false := by simp; omega
        clear hga hgb hA hB hlen hnm
        rcases Nat.lt_trichotomy (bnum l) (bnum k) with hc | hc | hc
        all_goals
          first
            | rw [decide_eq_true (show bnum l < bnum k from hc), decide_eq_false (show ¬ bnum l = bnum k by omega)] at *
              have c1 : decide (bnum l < bnum k) = true := by simp; omega
              have c2 : ((bnum l : Int) == (bnum k : Int)) = false := by simp; omega
            | rw [decide_eq_false (show ¬ bnum l < bnum k by omega), decide_eq_true (show bnum l = bnum k from hc)] at *
              have c1 : decide (bnum l < bnum k) = false := by simp; omega
              have c2 : ((bnum l : Int) == (bnum k : Int)) = true := by simp; omega
            | rw [decide_eq_false (show ¬ bnum l < bnum k by omega), decide_eq_false (show ¬ bnum l = bnum k by omega)] at *
              have c1 : decide (bnum l < bnum k) = false := by simp; omega
              have c2 : ((bnum l : Int) == (bnum k : Int)) = false := by simp; omega
          clear hc
          go_enter Try.func4, Try.ntmps4
          go_wp2_with fail
          refine (get_gen A _ c _ l _ hr).mono ?_
          rw [hva.out, hea.out]
          rintro e w1 ⟨rfl, rfl⟩
          go_wp2_with fail
          refine (get_gen B _ d _ k _ ks).mono ?_
          rw [hvb.out, heb.out]
          rintro e w1 ⟨rfl, rfl⟩
          go_wp2_with (go_at_call 13; refine (num_any _ _).mono ?_; rintro e w1 ⟨rfl, rfl⟩)
          refine (rget_any A n c _ l _ hr g1).mono ?_
          rintro e w2 ⟨rfl, hd2⟩
          go_wp2_with fail
          refine (rget_any B m d _ k _ (ks.ext hd2.ext) g2).mono ?_
          rintro e w3 ⟨rfl, hd3⟩
          have hs1 := run_string (hr.ext (hd2.trans hd3).ext) c Try.underlying23 Try.underlying5 Try.underlying9
          have hs2 := run_string (ks.ext (hd2.trans hd3).ext) d Try.underlying23 Try.underlying5 Try.underlying9
          go_wp2_with fail
          refine (known_any _).mono ?_
          rintro e w4 ⟨rfl, hx4⟩
          go_wp2_with fail
          go_ret
          exact ⟨rfl, (hd2.trans hd3).ext.trans hx4⟩
      · have hnm' : ((n : Int) != (m : Int)) = true := by simp; omega
        clear hga hgb hA hB hnm
        go_enter Try.func4, Try.ntmps4
        go_wp2_with fail
        refine (get_gen A _ c _ l _ hr).mono ?_
        rw [hva.out, hea.out]
        rintro e w1 ⟨rfl, rfl⟩
        go_wp2_with fail
        refine (get_gen B _ d _ k _ ks).mono ?_
        rw [hvb.out, heb.out]
        rintro e w1 ⟨rfl, rfl⟩
        go_wp2_with (go_at_call 13; refine (num_any _ _).mono ?_; rintro e w1 ⟨rfl, rfl⟩)
        refine (known_any _).mono ?_
        rintro e w4 ⟨rfl, hx4⟩
        go_wp2_with fail
        go_ret
        exact ⟨rfl, hx4⟩
    · have hvb := Lib.hid (show getN m k = 0 by unfold getN; rw [if_neg hgb])
      have heb := Lib.hid (show getE m = 2 by unfold getE; rw [if_neg hgb])
      rcases (show m = 0 ∨ 8 < m by omega) with ha | ha
      · subst ha
        by_cases hnm : n = 0
        · omega
        · have hnm' : ((n : Int) == 0) = false := by simp; omega
          clear hga hgb hA hB hnm
          go_enter Try.func4, Try.ntmps4
          go_wp2_with fail
          refine (get_gen A _ c _ l _ hr).mono ?_
          rw [hva.out, hea.out]
          rintro e w1 ⟨rfl, rfl⟩
          go_wp2_with fail
          refine (get_gen B _ d _ k _ ks).mono ?_
          rw [hvb.out, heb.out]
          rintro e w1 ⟨rfl, rfl⟩
          go_wp2_with (go_at_call 13; refine (num_any _ _).mono ?_; rintro e w1 ⟨rfl, rfl⟩)
          refine (known_any _).mono ?_
          rintro e w4 ⟨rfl, hx4⟩
          go_wp2_with fail
          go_ret
          exact ⟨rfl, hx4⟩
      · have b1 : (0 : Int) < (m : Int) := by omega
        have b2 : ¬ (m : Int) ≤ 8 := by omega
        have hnm' : ((n : Int) != (m : Int)) = true := by simp; omega
        clear hga hgb hA hB ha
        go_enter Try.func4, Try.ntmps4
        go_wp2_with fail
        refine (get_gen A _ c _ l _ hr).mono ?_
        rw [hva.out, hea.out]
        rintro e w1 ⟨rfl, rfl⟩
        go_wp2_with fail
        refine (get_gen B _ d _ k _ ks).mono ?_
        rw [hvb.out, heb.out]
        rintro e w1 ⟨rfl, rfl⟩
        go_wp2_with (go_at_call 13; refine (num_any _ _).mono ?_; rintro e w1 ⟨rfl, rfl⟩)
        refine (known_any _).mono ?_
        rintro e w4 ⟨rfl, hx4⟩
        go_wp2_with fail
        go_ret
        exact ⟨rfl, hx4⟩
  · have hva := Lib.hid (show getN n l = 0 by unfold getN; rw [if_neg hga])
    have hea := Lib.hid (show getE n = 2 by unfold getE; rw [if_neg hga])
    by_cases hgb : 1 ≤ m ∧ m ≤ 8
    · have hvb := Lib.hid (show getN m k = bnum k by unfold getN; rw [if_pos hgb])
      have heb := Lib.hid (show getE m = 0 by unfold getE; rw [if_pos hgb])
      have b1 : (0 : Int) < (m : Int) := by omega
      have b2 : (m : Int) ≤ 8 := by omega
      rcases (show n = 0 ∨ 8 < n by omega) with ha | ha
      · subst ha
        clear hA hB hga hgb
        go_enter Try.func4, Try.ntmps4
        go_wp2_with fail
        refine (get_gen A _ c _ l _ hr).mono ?_
        rw [hva.out, hea.out]
        rintro e w1 ⟨rfl, rfl⟩
        go_wp2_with fail
        refine (get_gen B _ d _ k _ ks).mono ?_
        rw [hvb.out, heb.out]
        rintro e w1 ⟨rfl, rfl⟩
        go_wp2_with (go_at_call 13; refine (num_any _ _).mono ?_; rintro e w1 ⟨rfl, rfl⟩)
        refine (known_any _).mono ?_
        rintro e w4 ⟨rfl, hx4⟩
        go_wp2_with fail
        go_ret
        exact ⟨rfl, hx4⟩
      · have a1 : (0 : Int) < (n : Int) := by omega
        have a2 : ¬ (n : Int) ≤ 8 := by omega
        clear hA hB hga hgb ha
        go_enter Try.func4, Try.ntmps4
        go_wp2_with fail
        refine (get_gen A _ c _ l _ hr).mono ?_
        rw [hva.out, hea.out]
        rintro e w1 ⟨rfl, rfl⟩
        go_wp2_with fail
        refine (get_gen B _ d _ k _ ks).mono ?_
        rw [hvb.out, heb.out]
        rintro e w1 ⟨rfl, rfl⟩
        go_wp2_with (go_at_call 13; refine (num_any _ _).mono ?_; rintro e w1 ⟨rfl, rfl⟩)
        refine (known_any _).mono ?_
        rintro e w4 ⟨rfl, hx4⟩
        go_wp2_with fail
        go_ret
        exact ⟨rfl, hx4⟩
    · have hvb := Lib.hid (show getN m k = 0 by unfold getN; rw [if_neg hgb])
      have heb := Lib.hid (show getE m = 2 by unfold getE; rw [if_neg hgb])
      rcases (show n = 0 ∨ 8 < n by omega) with ha | ha
      · subst ha
        rcases (show m = 0 ∨ 8 < m by omega) with hb | hb
        · subst hb
          clear hA hB hga hgb
          go_enter Try.func4, Try.ntmps4
          go_wp2_with fail
          refine (get_gen A _ c _ l _ hr).mono ?_
          rw [hva.out, hea.out]
          rintro e w1 ⟨rfl, rfl⟩
          go_wp2_with fail
          refine (get_gen B _ d _ k _ ks).mono ?_
          rw [hvb.out, heb.out]
          rintro e w1 ⟨rfl, rfl⟩
          go_wp2_with (go_at_call 13; refine (num_any _ _).mono ?_; rintro e w1 ⟨rfl, rfl⟩)
          refine (known_any _).mono ?_
          rintro e w4 ⟨rfl, hx4⟩
          go_wp2_with fail
          go_ret
          exact ⟨rfl, hx4⟩
        · have b1 : (0 : Int) < (m : Int) := by omega
          have b2 : ¬ (m : Int) ≤ 8 := by omega
          clear hA hB hga hgb hb
          go_enter Try.func4, Try.ntmps4
          go_wp2_with fail
          refine (get_gen A _ c _ l _ hr).mono ?_
          rw [hva.out, hea.out]
          rintro e w1 ⟨rfl, rfl⟩
          go_wp2_with fail
          refine (get_gen B _ d _ k _ ks).mono ?_
          rw [hvb.out, heb.out]
          rintro e w1 ⟨rfl, rfl⟩
          go_wp2_with (go_at_call 13; refine (num_any _ _).mono ?_; rintro e w1 ⟨rfl, rfl⟩)
          refine (known_any _).mono ?_
          rintro e w4 ⟨rfl, hx4⟩
          go_wp2_with fail
          go_ret
          exact ⟨rfl, hx4⟩
      · have a1 : (0 : Int) < (n : Int) := by omega
        have a2 : ¬ (n : Int) ≤ 8 := by omega
        rcases (show m = 0 ∨ 8 < m by omega) with hb | hb
        · subst hb
          clear hA hB hga hgb ha
          go_enter Try.func4, Try.ntmps4
          go_wp2_with fail
          refine (get_gen A _ c _ l _ hr).mono ?_
          rw [hva.out, hea.out]
          rintro e w1 ⟨rfl, rfl⟩
          go_wp2_with fail
          refine (get_gen B _ d _ k _ ks).mono ?_
          rw [hvb.out, heb.out]
          rintro e w1 ⟨rfl, rfl⟩
          go_wp2_with (go_at_call 13; refine (num_any _ _).mono ?_; rintro e w1 ⟨rfl, rfl⟩)
          refine (known_any _).mono ?_
          rintro e w4 ⟨rfl, hx4⟩
          go_wp2_with fail
          go_ret
          exact ⟨rfl, hx4⟩
        · have b1 : (0 : Int) < (m : Int) := by omega
          have b2 : ¬ (m : Int) ≤ 8 := by omega
          clear hA hB hga hgb ha hb
          go_enter Try.func4, Try.ntmps4
          go_wp2_with fail
          refine (get_gen A _ c _ l _ hr).mono ?_
          rw [hva.out, hea.out]
          rintro e w1 ⟨rfl, rfl⟩
          go_wp2_with fail
          refine (get_gen B _ d _ k _ ks).mono ?_
          rw [hvb.out, heb.out]
          rintro e w1 ⟨rfl, rfl⟩
          go_wp2_with (go_at_call 13; refine (num_any _ _).mono ?_; rintro e w1 ⟨rfl, rfl⟩)
          refine (known_any _).mono ?_
          rintro e w4 ⟨rfl, hx4⟩
          go_wp2_with fail
          go_ret
          exact ⟨rfl, hx4⟩

set_option maxRecDepth 100000 in
theorem lifted (os : Os) (started : os.Started) (H : Type) (enc : TypeId × Value → H) :
    ReturnsInHanded {} Try.checked os 4 .any (Rows.wireOrdersSpec.pre6 enc Try.prog Try.f4 Rows.wireOrdersRow.domain false) (Rows.wireOrdersSpec.post enc Try.prog Try.f4 false true false false) := by
  refine returnsInHanded_of_change (C := Try.checked) own started (by kernel_rfl) Try.func4
    (ChangeSpec.witness6 (enc := enc) (C := Try.checked) false ⟨#[], #[.slice none 0 0, .slice none 0 0], []⟩ 8 (by kernel_rfl) (by kernel_rfl) (by kernel_rfl) (by kernel_rfl)) ?_
  intro W base args ds gs before hval0 hW hcnd _
  have hval : ∀ (j : Nat) t v, Try.f4.params[j]? = some t → args[j]? = some v → Value.okWide Try.prog W .any base t v := hval0
  have hW' := hW
  obtain ⟨p, q, hA0, hV, rfl, hfz, hnd⟩ := hW
  have hA : DataW.TrodAll enc Try.prog W 0 (fun _ => true) true Try.f4.params.toList args.toList ds p := hA0
  rw [Try.params4] at hA hval
  obtain ⟨v0, vs0, d0, ds0, p0, q0, hargs, rfl, rfl, h0, r0⟩ := trodAll_cons hA
  obtain ⟨v1, vs1, d1, ds1, p1, q1, rfl, rfl, rfl, h1, r1⟩ := trodAll_cons r0
  obtain ⟨rfl, rfl, rfl⟩ := trodAll_nil r1
  obtain rfl : args = #[v0, v1] := by cases args; simp_all
  obtain ⟨rfl, rfl⟩ := trodVars_none hV
  obtain ⟨a0, n0, c0, rfl⟩ := okWide_slice Try.underlying23 (hval 0 23 v0 rfl rfl)
  have k0 := h0
  have lt0 : ∀ x ∈ p0, x.block < W.heap.size := by obtain ⟨m, hm⟩ := k0; exact DataW.trod_lt m _ _ _ hm
  obtain ⟨l0, w0, y0⟩ := open_rd Try.underlying23 Try.underlying5 (by kernel_rfl) h0
  obtain ⟨a1, n1, c1, rfl⟩ := okWide_slice Try.underlying23 (hval 1 23 v1 rfl rfl)
  have k1 := h1
  have lt1 : ∀ x ∈ p1, x.block < W.heap.size := by obtain ⟨m, hm⟩ := k1; exact DataW.trod_lt m _ _ _ hm
  obtain ⟨l1, w1, y1⟩ := open_rd Try.underlying23 Try.underlying5 (by kernel_rfl) h1
  clear hA0 hval0
  refine (walk W a0 n0 c0 l0 w0 y0 a1 n1 c1 l1 w1 y1).mono fun e W' ⟨he, bel⟩ => ?_
  subst he
  exact ⟨_, rfl, _, _, _, [], _, [], hW', trodAll_mk1 (shut_bool Try.underlying4 _), (trodAll_cons_mk (Below.trod laidOut (by kernel_rfl) (of_decide_eq_true (by kernel_rfl)) k0 bel lt0) (trodAll_cons_mk (Below.trod laidOut (by kernel_rfl) (of_decide_eq_true (by kernel_rfl)) k1 bel lt1) trodAll_mk0)), rfl, Below.frame bel _, fun h => by cases h⟩

theorem over_ : Rows.wireOrdersRow.holds Try.pinned (OpenSpec.ofChange Rows.wireOrdersSpec) :=
  OpenClaim.holds_of_wide 4 Try.f4 rfl rfl rfl rfl rfl rfl rfl ⟨rfl, rfl, rfl, rfl, rfl⟩ rfl rfl rfl rfl rfl (by kernel_rfl) Try.func4 (by kernel_rfl)
    (of_decide_eq_true (by kernel_rfl)) (by unfold Func.isWrapper; first | (rw [if_pos (by decide +kernel)]; kernel_rfl) | (rw [if_neg (by decide +kernel)]; exact ⟨rfl, rfl⟩))
    (fun os started H enc _ => lifted os started H enc)

theorem proved : Rows.WireOrdersSaid := over_
end Go.Proofs.Ytbikncgabmgphaa.lawOrders
