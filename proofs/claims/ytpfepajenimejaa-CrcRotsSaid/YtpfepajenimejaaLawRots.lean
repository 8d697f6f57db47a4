/- CrcRots answers true, whatever two rows of bytes, whatever three places and whatever burst it is given. No conditions. -/
import Derived.Test.YtpfepajenimejaaFlip
import Derived.Test.YtpfepajenimejaaFrame
import Derived.Test.YtpfepajenimejaaFlow
import Derived.Deep.CutRange
import Derived.Deep.CutBlock
namespace Go.Proofs.Ytpfepajenimejaa.lawRots
open Go.ChangeShapes Go.WideShapes Go.ChangeAt Go.RowKit
open Go.ChangeMaps (open_string shut_string)
set_option linter.unusedVariables false
set_option linter.unusedSimpArgs false

theorem fresh_ne {u : World} {base n : Nat} {e : TypeId} {L : List UInt8} {y : Value} (hφ : ∃ h, y = .slice (some ⟨h, 0, none⟩) n n ∧ Own u base e (some ⟨h, 0, none⟩) n n L) (hn : 0 < n) :
    ∀ h h', (Value.slice (some ⟨u.heap.size, 0, none⟩) n n) = .slice (some ⟨h, 0, none⟩) n n → y = .slice (some ⟨h', 0, none⟩) n n → h ≠ h' := by
  intro h h' e1 e2 e3
  obtain ⟨h2, rfl, o⟩ := hφ
  injection e2 with e2
  injection e2 with e2
  injection e2 with e2
  injection e1 with e1
  injection e1 with e1
  injection e1 with e1
  obtain ⟨g, e4, _, hlt⟩ := own_at o hn
  injection e4 with e4
  injection e4 with e4
  omega

theorem gTrans {a b c : World} {r : Option Nat} (h : a.grownBy b r) (k : b.grownBy c r) : a.grownBy c r := grownBy_trans h k

set_option maxRecDepth 100000 in
set_option maxHeartbeats 6400000 in
theorem walk (w : World) (A : Option Addr) (n c : Nat) (l : List UInt8) (hr : Rd w 0 A n l) (hc : n ≤ c) (B : Option Addr) (m d : Nat) (k : List UInt8) (ks : Rd w 0 B m k) (kc : m ≤ d)
    (x : Int) (hxw : (Lit.int IntKind.i64 x).wf = true) (y : Int) (hyw : (Lit.int IntKind.i64 y).wf = true) (z : Int) (hzw : (Lit.int IntKind.i64 z).wf = true) (f : Int) (hfw : (Lit.int IntKind.u32 f).wf = true) :
    Calls Try.prog 6 #[.slice A n c, .slice B m d, .int .i64 x, .int .i64 y, .int .i64 z, .int .u32 f] w fun e w' => e = .returned (.bool true) ∧ Ext w w' := by
  obtain ⟨f, rfl⟩ := word_of hfw
  clear hfw hxw hyw hzw
  go_enter Try.func6, Try.ntmps6
  go_wp2_with fail
  refine (known_any _).mono ?_
  rintro e w0 ⟨rfl, hx0⟩
  have hl := hr.len
  rcases Nat.eq_zero_or_pos n with h0 | h0
  · subst h0
    go_wp2_with fail
    go_ret
    exact ⟨rfl, hx0⟩
  have h0' : ((n : Int) == 0) = false := by simp; omega
  by_cases hA : 9000 < n
  · have hA' : (9000 : Int) < (n : Int) := by omega
    go_wp2_with fail
    go_ret
    exact ⟨rfl, hx0⟩
  have hA' : ¬ (9000 : Int) < (n : Int) := by omega
  have r0 := hr.ext hx0
  obtain ⟨s, hs⟩ : ∃ s, more 0#32 l = s := ⟨_, rfl⟩
  go_wp2_with fail
  refine (sum_any _ 1 1 [l] _ (RdL.new1 _ A n c l r0) (by decide) (by intro k hk; simp at hk; subst hk; omega)).mono ?_
  rw [show jn [l] = l by simp [jn], hs]
  rintro e w1 ⟨rfl, hx1⟩
  replace hx1 := hx0.trans (((Ext.refl w0).alloc _).trans hx1)
  go_wp2_with (at_builtin; refine wpList_append_b bytes_ty rfl _ _ rfl w1 (Ext.refl w1) _ 0 0 [] rfl (Own.nil _ _ _) A n c _ l rfl (hr.ext hx1) (by omega) ?_; rw [Nat.zero_add, List.nil_append]; intro A2 c2 w2 h2 _ hx2)
  obtain ⟨g, rfl, hg, -⟩ := own_at h2 h0
  have p1 := place_lt x n h0
  refine (flip_any x g n c2 _ l _ h2 h0 (by omega)).mono ?_
  rintro e w3 ⟨rfl, h3, b3⟩
  replace hx2 := hx2.grown b3 (by intro k hk; cases hk; exact hg)
  obtain ⟨P1, hP1⟩ : ∃ P, place x n = P := ⟨_, rfl⟩
  rw [hP1] at h3 p1
  have s1 : more 0#32 (flipAt l P1) = s ^^^ turn (8 * n - P1) := by rw [more_flip _ _ _ (by omega), hs, hl]
  have n1 : (flipAt l P1).length = n := by rw [flipAt_length, hl]
  have tw := flipAt_twice l P1
  obtain ⟨L1, hL1⟩ : ∃ L, flipAt l P1 = L := ⟨_, rfl⟩
  rw [hL1] at h3 s1 n1 tw
  have y1 := hx1.trans hx2
  go_wp2_with fail
  refine (holds_any _ n c2 L1 s _ (h3.rd.low (Nat.zero_le _)) (by omega)).mono ?_
  rw [show decide (more 0#32 L1 = s) = false by rw [s1]; exact decide_eq_false (xor_ne (turn_ne _))]
  rintro e w4 ⟨rfl, hx4⟩
  have h4 := h3.kept hx4
  have y2 := y1.trans hx4
  go_wp2_with fail
  have p2 := place_lt y n h0
  refine (flip_any y g n c2 _ L1 _ h4 h0 (by omega)).mono ?_
  rintro e w5 ⟨rfl, h5, b5⟩
  have hg0 : w.heap.size ≤ g := Nat.le_trans hx1.size hg
  have y3 := y2.grown b5 (by intro k hk; cases hk; exact hg0)
  obtain ⟨P2, hP2⟩ : ∃ P, place y n = P := ⟨_, rfl⟩
  rw [hP2] at h5 p2
  have s2 : more 0#32 (flipAt L1 P2) = s ^^^ turn (8 * n - P1) ^^^ turn (8 * n - P2) := by rw [more_flip _ _ _ (by omega), s1, n1]
  have n2 : (flipAt L1 P2).length = n := by rw [flipAt_length, n1]
  have same : P1 = P2 → flipAt L1 P2 = l := fun e => by rw [← e]; exact tw
  obtain ⟨L2, hL2⟩ : ∃ L, flipAt L1 P2 = L := ⟨_, rfl⟩
  rw [hL2] at h5 s2 n2 same
  have hs1 := run_string h5.rd c2 Try.underlying22 Try.underlying5 Try.underlying9
  have hs2 := run_string (hr.ext y3) c Try.underlying22 Try.underlying5 Try.underlying9
  clear hx2 b3 b5 h2 h3 h4 hx4 y1 y2
  go_upto_region 11 with fail
  go_cut [54] from 45 to 54 (fun b wc => b = .bool false ∧ Ext w5 wc)
  case first =>
    by_cases e12 : P1 = P2
    · have e := same e12
      rw [e] at hs1
      go_wp2_with fail
      go_meet
      exact ⟨rfl, Ext.refl _⟩
    · have hne : L2 ≠ l := by
        intro e
        rw [e, hs, BitVec.xor_assoc] at s2
        refine xor_ne (a := s) ?_ s2.symm
        intro h0
        apply e12
        have := turn_inj _ _ (by omega) (by omega) (by omega) (by omega) ((BitVec.xor_eq_zero_iff).1 h0)
        omega
      go_wp2_with fail
      refine (holds_any _ n c2 L2 s _ (h5.rd.low (Nat.zero_le _)) (by omega)).mono ?_
      rw [show decide (more 0#32 L2 = s) = false by
        rw [s2, BitVec.xor_assoc]
        refine decide_eq_false (xor_ne ?_)
        intro h0
        apply e12
        have := turn_inj _ _ (by omega) (by omega) (by omega) (by omega) ((BitVec.xor_eq_zero_iff).1 h0)
        omega]
      rintro e w6 ⟨rfl, hx6⟩
      go_wp2_with fail
      go_meet
      exact ⟨rfl, hx6⟩
  case rest =>
    obtain ⟨rfl, hx6⟩ := hcut
    have h6 := h5.kept hx6
    have y4 := y3.trans hx6
    clear hs1 hs2 same y3 h5 hx6
    have p3 := place_lt z n h0
    go_wp2_with fail
    refine (flip_any z g n c2 _ L2 _ h6 h0 (by omega)).mono ?_
    rintro e w7 ⟨rfl, h7, b7⟩
    have y5 := y4.grown b7 (by intro k hk; cases hk; exact hg0)
    obtain ⟨P3, hP3⟩ : ∃ P, place z n = P := ⟨_, rfl⟩
    rw [hP3] at h7 p3
    have s3 : more 0#32 (flipAt L2 P3) = s ^^^ (turn (8 * n - P1) ^^^ turn (8 * n - P2) ^^^ turn (8 * n - P3)) := by rw [more_flip _ _ _ (by omega), s2, n2, BitVec.xor_assoc, BitVec.xor_assoc, BitVec.xor_assoc]
    have hne : more 0#32 (flipAt L2 P3) ≠ s := by rw [s3]; exact xor_ne (turn3_ne _ _ _)
    obtain ⟨L3, hL3⟩ : ∃ L, flipAt L2 P3 = L := ⟨_, rfl⟩
    rw [hL3] at h7 hne
    have hne3 : L3 ≠ l := fun e => hne (by rw [e]; exact hs)
    have hs1 := run_string h7.rd c2 Try.underlying22 Try.underlying5 Try.underlying9
    have hs2 := run_string (hr.ext y5) c Try.underlying22 Try.underlying5 Try.underlying9
    clear y4 h6 b7 s3 s2 s1 tw hL1 hL2 hL3 n1 n2
    go_wp2_with fail
    refine (holds_any _ n c2 L3 s _ (h7.rd.low (Nat.zero_le _)) (by omega)).mono ?_
    rw [show decide (more 0#32 L3 = s) = false from decide_eq_false hne]
    rintro e w8 ⟨rfl, hx8⟩
    have y6 := y5.trans hx8
    clear hs1 hs2 h7 hne hne3 y5 hx8 p2 p3 hP2 hP3
    have hw : IntKind.i64.wrap (8 * (n : Int)) = 8 * (n : Int) := by rw [IntKind.wrap_i64]; omega
    have hne : ¬ (8 * (n : Int) = 0) := by omega
    obtain ⟨t, ht⟩ : ∃ t, x.tmod (8 * (n : Int)) = t := ⟨_, rfl⟩
    go_upto_if 74 with fail
    go_cut [15] from 75 to 79 (fun v wc => v = .int .i64 (P1 : Int) ∧ wc = w8)
    case first =>
      by_cases hneg : t < 0
      · have h1 := tmod_neg x n h0 (by rw [ht]; exact hneg)
        rw [ht, hP1] at h1
        go_wp2_with fail
        go_meet
        exact ⟨rfl, rfl⟩
      · have h1 := tmod_pos x n h0 (by rw [ht]; omega)
        rw [ht, hP1] at h1
        subst h1
        go_wp2_with fail
        go_meet
        exact ⟨rfl, rfl⟩
    case rest =>
      obtain ⟨rfl, rfl⟩ := hcut
      clear ht hne hP1
      go_upto_block 0 with (at_builtin; refine wpList_append_b bytes_ty rfl _ _ rfl w (y6) _ 0 0 [] rfl (Own.nil _ _ _) A n c _ l rfl (hr.ext y6) (by omega) ?_; rw [Nat.zero_add, List.nil_append]; intro A9 c9 w9 h9 _ hx9)
      obtain ⟨g9, rfl, hg9, -⟩ := own_at h9 h0
      obtain ⟨M, hM⟩ : ∃ M, 8 * n - P1 = M := ⟨_, rfl⟩
      go_cut [17] from 82 to 105 (fun _ wz => ∃ Y, Own wz w.heap.size 5 (some ⟨g9, 0, none⟩) n c9 Y ∧ (Y ≠ l → more 0#32 Y ≠ s) ∧ Ext w wz)
      case first =>
        go_wp2_with fail
        go_loopw [17] (fun i wr => ∃ (t : Nat) (Y : List UInt8), t ≤ 32 ∧ i = .int .i64 t ∧ P1 + t ≤ 8 * n ∧ Own wr w.heap.size 5 (some ⟨g9, 0, none⟩) n c9 Y ∧ more 0#32 Y = s ^^^ sts M (lin (fun i => 1#32 <<< i) f t) ∧ (lin (fun i => 1#32 <<< i) f t = 0#32 → Y = l) ∧ Ext w wr) (fun i _ => 32 - (intOf i).toNat)
        case atStart => exact ⟨0, l, Nat.zero_le _, rfl, by omega, h9, by rw [hs, lin, sts_zero, BitVec.xor_zero], fun _ => rfl, hx9⟩
        case round =>
          obtain ⟨t, Y, ht, rfl, hpt, hY, hsum, hzero, hx⟩ := hrel
          have hYl := hY.rd.len
          have hend : Y ≠ l → more 0#32 Y ≠ s := fun hne => by
            rw [hsum]
            exact xor_ne (sts_ne _ (fun e => hne (hzero e)))
          by_cases h32 : t < 32
          · by_cases hin : P1 + t < 8 * n
            · have h32' : (t : Int) < 32 := by omega
              have hin' : (P1 : Int) + (t : Int) < 8 * (n : Int) := by omega
              have h1 := bitk_eq f t h32
              have h2 : (((f.toNat : Int) / 2 ^ t).tmod 2 == 1) = f.getLsbD t := by
                have h0 : (0 : Int) ≤ (f.toNat : Int) / 2 ^ t := by rw [half f t]; omega
                rw [Int.tmod_eq_emod_of_nonneg h0, h1]
              have hl1 := Lib.hid (show lin (fun i => 1#32 <<< i) f (t + 1) = lin (fun i => 1#32 <<< i) f t ^^^ (if f.getLsbD t then 1#32 <<< t else 0#32) from rfl)
              have hbit := Lib.hid (show (lin (fun i => 1#32 <<< i) f (t + 1)).getLsbD t = f.getLsbD t by rw [lin_bits f (t + 1) (by omega) t]; simp)
              cases hb : f.getLsbD t
              · rw [hb] at h1 h2 hl1
                go_wp2_with fail
                go_roundw
                case rel => exact ⟨t + 1, Y, by omega, by go_num, by omega, hY, by rw [hl1.out, if_neg (by simp), BitVec.xor_zero]; exact hsum, by rw [hl1.out, if_neg (by simp), BitVec.xor_zero]; exact hzero, hx⟩
                case measure => simp [intOf]; omega
              · rw [hb] at h1 h2 hl1 hbit
                go_wp2_with fail
                have hpl : place ((P1 : Int) + (t : Int)) n = P1 + t := by
                  have := place_of ((P1 : Int) + (t : Int)) n (by omega) (by omega)
                  omega
                refine (flip_any ((P1 : Int) + (t : Int)) g9 n c9 _ Y _ hY h0 (by omega)).mono ?_
                rw [hpl]
                rintro e w10 ⟨rfl, h10, b10⟩
                have hx10 := hx.grown b10 (by intro k hk; cases hk; exact hg9)
                have hturn : turn (8 * n - (P1 + t)) = sts M (1#32 <<< t) := by
                  rw [show M = (8 * n - (P1 + t)) + t by omega, sts_add, sts_bit t h32]
                  rfl
                have hsum' : more 0#32 (flipAt Y (P1 + t)) = s ^^^ sts M (lin (fun i => 1#32 <<< i) f (t + 1)) := by
                  rw [more_flip _ _ _ (by omega), hYl, hsum, hturn, hl1.out, if_pos trivial, sts_xor, BitVec.xor_assoc]
                have hzero' : lin (fun i => 1#32 <<< i) f (t + 1) = 0#32 → flipAt Y (P1 + t) = l := by
                  intro e
                  have hb2 := hbit.out
                  rw [e] at hb2
                  simp at hb2
                go_wp2_with fail
                go_roundw
                case rel => exact ⟨t + 1, flipAt Y (P1 + t), by omega, by go_num, by omega, h10, hsum', hzero', hx10⟩
                case measure => simp [intOf]; omega
            · have h32' : (t : Int) < 32 := by omega
              have hin' : ¬ (P1 : Int) + (t : Int) < 8 * (n : Int) := by omega
              go_wp2_with fail
              go_meet
              exact ⟨Y, hY, hend, hx⟩
          · have h32' : ¬ (t : Int) < 32 := by omega
            go_wp2_with fail
            go_meet
            exact ⟨Y, hY, hend, hx⟩
      case rest =>
        obtain ⟨Y, hY, hend, hx⟩ := hcut
        clear h9 hx9 hM hw
        have hYl := hY.rd.len
        have hs1 := run_string hY.rd c9 Try.underlying22 Try.underlying5 Try.underlying9
        have hs2 := run_string (hr.ext hx) c Try.underlying22 Try.underlying5 Try.underlying9
        go_upto_region 25 with fail
        go_cut [115] from 106 to 115 (fun b wq => b = .bool false ∧ Ext wc wq)
        case first =>
          by_cases e : Y = l
          · rw [e] at hs1
            go_wp2_with fail
            go_meet
            exact ⟨rfl, Ext.refl _⟩
          · go_wp2_with fail
            refine (holds_any _ n c9 Y s _ (hY.rd.low (Nat.zero_le _)) (by omega)).mono ?_
            rw [show decide (more 0#32 Y = s) = false from decide_eq_false (hend e)]
            rintro e w10 ⟨rfl, hx10⟩
            go_wp2_with fail
            go_meet
            exact ⟨rfl, hx10⟩
        case rest =>
          obtain ⟨rfl, hx10⟩ := hcut
          replace hY := hY.kept hx10
          replace hx := hx.trans hx10
          clear hs1 hs2 hend hx10
          go_wp2_with fail
          refine wp_region_pl Ext [.q 0, .q 1, .q 3, .q 4, .seg [2, 5, 6], .q 7] (fun _ _ _ x y => Ext.trans x y) Ext.refl (by kernel_rfl) (by kernel_rfl) ?_
          intro K hK
          iterate 4 (
            refine pl_q (v := ?_) rfl rfl ?_ ?_
            rotate_left
            · intro x
              go_simp
              first | done | rfl
            simp only [Act.put, List.getElem_toArray, List.getElem_cons_zero, List.getElem_cons_succ, List.setIfInBounds_toArray, List.set_cons_zero, List.set_cons_succ])
          refine pl_seg (A := ?A) (fun j x u => ∃ h, x = .slice (some ⟨h, 0, none⟩) n n ∧ Own u wc.drew.heap.size 5 (some ⟨h, 0, none⟩) n n (List.replicate n 0)) (fun i x j y => (i = 5 ∨ j = 5) → ∀ h h', x = .slice (some ⟨h, 0, none⟩) n n → y = .slice (some ⟨h', 0, none⟩) n n → h ≠ h') ?hA ?h0 ?hput ?hmono ?hstep ?hend
          case hA =>
            intro v
            simp only [fillT, Option.bind_some, Option.bind_none, Option.bind, List.getElem?_toArray, List.getElem?_cons_zero, List.getElem?_cons_succ, List.setIfInBounds_toArray, List.set_cons_zero, List.set_cons_succ]
            exact rfl
          case h0 => exact rfl
          case hput => repeat' (first | exact trivial | refine And.intro (fun o ho v x => by obtain rfl := Option.some.inj ho; rfl) ?_)
          case hmono => exact ⟨fun x u u' hh ⟨h, e, o⟩ => ⟨h, e, o.kept hh⟩, fun x u u' hh ⟨h, e, o⟩ => ⟨h, e, o.kept hh⟩, fun x u u' hh ⟨h, e, o⟩ => ⟨h, e, o.kept hh⟩, trivial⟩
          case hstep =>
            refine And.intro ?_ (And.intro ?_ (And.intro ?_ trivial))
            ·
              intro o ho
              obtain rfl := Option.some.inj ho
              clear ho
              intro v u hR hD K2 hK2
              clear hD
              rw [if_pos (by rfl)]
              refine wp_make_b bytes_ty rfl _ _ rfl wc.drew hR _ _ _ _ n rfl rfl rfl rfl (by omega) ?_
              intro w11 o11 b11 hx11
              exact hK2.out _ _ _ ((Ext.refl _).grown b11 (by simp)) ⟨_, rfl, o11⟩ (fun j _ _ hφ _ _ => fresh_ne hφ h0) rfl
            ·
              intro o ho
              obtain rfl := Option.some.inj ho
              clear ho
              intro v u hR hD K2 hK2
              clear hD
              rw [if_pos (by rfl)]
              refine wp_make_b bytes_ty rfl _ _ rfl wc.drew hR _ _ _ _ n rfl rfl rfl rfl (by omega) ?_
              intro w11 o11 b11 hx11
              exact hK2.out _ _ _ ((Ext.refl _).grown b11 (by simp)) ⟨_, rfl, o11⟩ (fun j _ _ hφ _ _ => fresh_ne hφ h0) rfl
            ·
              intro o ho
              obtain rfl := Option.some.inj ho
              clear ho
              intro v u hR hD K2 hK2
              have d2 := hD 2 (by kernel_rfl) (by kernel_rfl)
              clear hD
              go_simp
              refine hK2.out _ (v 2) _ (Ext.refl _) d2 (fun j hj hne hφ hk h5 h h' e1 e2 => ?_) rfl
              have hj5 : j = 5 := by rcases h5 with h5 | h5; exact absurd h5 (by decide); exact h5
              subst hj5
              rcases hk 2 (by kernel_rfl) (by kernel_rfl) (by decide) with p | p
              · exact p (.inr rfl) h h' e1 e2
              · exact fun e => p (.inl rfl) h' h e2 e1 e.symm
          case hend =>
            intro v u hR hF hP
            obtain ⟨⟨gz', e2, o2⟩, ⟨gw, e5, ow⟩, ⟨gz, e6, oz⟩, -⟩ := hF
            have hne : gz ≠ gw := by
              rcases hP 6 5 (by simp) (by simp) (by decide) with p | p
              · exact p (.inr rfl) gz gw e6 e5
              · exact fun e => p (.inl rfl) gw gz e5 e6 e.symm
            clear hP
            simp only [e2, e5, e6]
            iterate 1 (
              refine pl_q (v := ?_) rfl rfl ?_ ?_
              rotate_left
              · intro x
                go_simp
                first | done | rfl
              simp only [Act.put, List.getElem_toArray, List.getElem_cons_zero, List.getElem_cons_succ, List.setIfInBounds_toArray, List.set_cons_zero, List.set_cons_succ])
            refine pl_end (hK.out _ _ ?_)
            clear hK K
            have hbase : g9 < wc.drew.heap.size := by
              obtain ⟨g', e', _, hlt⟩ := own_at hY h0
              injection e' with e'
              injection e' with e'
              rw [e']
              exact hlt
            have hgw : wc.drew.heap.size ≤ gw := by
              obtain ⟨g', e', hle, _⟩ := own_at ow h0
              injection e' with e'
              injection e' with e'
              rw [e']
              exact hle
            have hwle : w.heap.size ≤ wc.drew.heap.size := hx.drew.size
            have hY2 := hY.kept ((Ext.refl wc).drew.trans hR)
            have hx2 := hx.drew.trans hR
            clear e2 o2 e5 e6 hY hx
            obtain ⟨bs, hbs⟩ : ∃ bs, wc.drew.heap.size = bs := ⟨_, rfl⟩
            go_upto_region 28 with fail
            go_cut [] from 122 to 124 (fun wz => ∃ Z, Own wz wc.drew.heap.size 5 (some ⟨gz, 0, none⟩) n n Z ∧ u.grownBy wz (some gz))
            case first =>
              by_cases hmn : m ≤ n
              · go_wp2_with (refine wpList_copy_b bytes_ty rfl _ _ rfl wc.drew hR gz n n _ oz _ n n 0 rfl B m d 0 k rfl (ks.ext hx2) (fun _ => rfl) hmn (by omega) ?_; intro w12 o12 b12 hx12)
                go_meet
                exact ⟨_, o12, b12⟩
              · go_wp2_with (refine wpList_copy_long bytes_ty rfl _ _ rfl wc.drew hR gz n n _ oz _ n n 0 rfl B m d 0 k rfl (ks.ext hx2) (fun _ => rfl) (by omega) (by omega) ?_; intro w12 o12 b12 hx12)
                go_meet
                exact ⟨_, o12, b12⟩
            case rest =>
              obtain ⟨Z, oZ, bz⟩ := hcut
              rw [hbs] at hbase hgw hwle ow oz oZ
              have owZ : Own wc bs 5 (some ⟨gw, 0, none⟩) n n (List.replicate n 0) := by
                refine ⟨ow.1, ow.2.imp id ?_⟩
                rintro ⟨g', cap, cur, e', hb, hg', hrest⟩
                refine ⟨g', cap, cur, e', hb, ?_, hrest⟩
                injection e' with e'
                injection e' with e'
                injection e' with e'
                have hlt := (Array.getElem?_eq_some_iff.1 hg').1
                rw [bz.block g' hlt (by intro e; injection e with e; omega)]
                exact hg'
              have hxZ : Ext w wc := hx2.grown bz (by
                intro q hq
                cases hq
                obtain ⟨g', e', hle, _⟩ := own_at oz h0
                injection e' with e'
                injection e' with e'
                omega)
              have hgz : bs ≤ gz := by
                obtain ⟨g', e', hle, _⟩ := own_at oz h0
                injection e' with e'
                injection e' with e'
                omega
              have rY : Rd wc 0 (some ⟨g9, 0, none⟩) n Y := (hY2.rd.low (Nat.zero_le _)).far bz (by intro a ha; cases ha; simp; omega)
              have rL := hr.ext hxZ
              have rZ := oZ.rd.low (Nat.zero_le _)
              have hZl := rZ.len
              obtain ⟨X, hX⟩ : ∃ X, xor3 l Y Z = X := ⟨_, rfl⟩
              have hXl : X.length = n := by rw [← hX, xor3_length _ _ _ (by omega) (by omega), hl]
              have hXg : ∀ i (h : i < n), X[i]'(by omega) = l[i]'(by omega) ^^^ Y[i]'(by omega) ^^^ Z[i]'(by omega) := by
                subst hX
                intro i h
                exact xor3_get l Y Z i _ _ _ _
              have hXs : more 0#32 X = more 0#32 l ^^^ more 0#32 Y ^^^ more 0#32 Z := by rw [← hX]; exact more_xor3 _ _ _ (by omega) (by omega)
              clear hX oZ ow oz bz hY2 hx2 hR hbs
              go_wp2_with fail
              generalize hwd : wc = wd at *
              go_loopw [20] (fun i wr => ∃ (t : Nat) (W : List UInt8), t ≤ n ∧ i = .int .i64 t ∧ Own wr bs 5 (some ⟨gw, 0, none⟩) n n W ∧ (∀ i (h : i < t) (h1 : i < W.length) (h2 : i < X.length), W[i] = X[i]) ∧ wd.grownBy wr (some gw)) (fun i _ => n - (intOf i).toNat)
              case atStart => exact ⟨0, _, Nat.zero_le _, rfl, owZ, fun i h => absurd h (by omega), World.grownBy.refl _ _⟩
              case round =>
                obtain ⟨t, W, ht, rfl, oW, hW, hg⟩ := hrel
                have hWl := oW.rd.len
                have nL : ∀ a, A = some a → 0 < n → a.block ≠ gw := by
                  intro a ha hn
                  obtain ⟨b, off, hA2, _, hlt, _⟩ := hr.pos hn
                  rw [hA2] at ha
                  cases ha
                  simp only
                  omega
                have qL : Rd wr 0 A n l := rL.far hg (fun a ha => nL a ha h0)
                have qY : Rd wr 0 (some ⟨g9, 0, none⟩) n Y := rY.far hg (by intro a ha; cases ha; simp; omega)
                have qZ : Rd wr 0 (some ⟨gz, 0, none⟩) n Z := rZ.far hg (by intro a ha; cases ha; simp; omega)
                by_cases hlt : t < n
                · obtain ⟨b, off, rfl, -, hbl, hc1⟩ := qL.pos h0
                  obtain ⟨bY, oY, hAY, -, hbY, hc2⟩ := qY.pos h0
                  obtain ⟨bZ, oZ, hAZ, -, hbZ, hc3⟩ := qZ.pos h0
                  obtain ⟨rfl, rfl⟩ : g9 = bY ∧ 0 = oY := by injection hAY with e; injection e with e1 e2; exact ⟨e1, e2⟩
                  obtain ⟨rfl, rfl⟩ : gz = bZ ∧ 0 = oZ := by injection hAZ with e; injection e with e1 e2; exact ⟨e1, e2⟩
                  have nb : b ≠ gw := nL _ rfl h0
                  have h1 := hc1 t (by omega)
                  have h2 := hc2 t (by omega)
                  have h3 := hc3 t (by omega)
                  rw [Nat.zero_add] at h2 h3
                  have c1 : ∀ x : Above (fun u u' => u.grownBy u' (some gw)) wr.drew, x.1.cell? ⟨b, off + t, none⟩ = some (.int .u8 ((l[t]'(by omega)).toNat : Int)) := fun x => (World.cell?_of_block (w := wr.drew) (x.2.block b hbl (by simpa using nb))).trans h1
                  have c2 : ∀ x : Above (fun u u' => u.grownBy u' (some gw)) wr.drew, x.1.cell? ⟨g9, t, none⟩ = some (.int .u8 ((Y[t]'(by omega)).toNat : Int)) := fun x => (World.cell?_of_block (w := wr.drew) (x.2.block g9 hbY (by simp; omega))).trans h2
                  have c3 : ∀ x : Above (fun u u' => u.grownBy u' (some gw)) wr.drew, x.1.cell? ⟨gz, t, none⟩ = some (.int .u8 ((Z[t]'(by omega)).toNat : Int)) := fun x => (World.cell?_of_block (w := wr.drew) (x.2.block gz hbZ (by simpa using hne))).trans h3
                  have hval := hXg t hlt
                  have v1 := xor8 (l[t]'(by omega)) (Y[t]'(by omega))
                  have v2 := xor8 (l[t]'(by omega) ^^^ Y[t]'(by omega)) (Z[t]'(by omega))
                  rw [← hval] at v2
                  generalize l[t]'(by omega) ^^^ Y[t]'(by omega) = lY at *
                  have hti : (t : Int) < (n : Int) := by omega
                  have oWd := oW.drew
                  have hfz := oWd.free t
                  have hcw := oWd.at_ hlt
                  have hst := oWd.store t (X[t]'(by omega))
                  clear h1 h2 h3 hc1 hc2 hc3 hval
                  generalize hXt : X[t]'(by omega) = xt at *
                  go_wp2_with fail
                  refine wp_region_plan (fun u u' => u.grownBy u' (some gw)) [(0, true), (1, true), (2, true), (3, true), (4, true), (5, true), (6, true), (7, true), (8, true), (9, true), (10, true), (11, true), (12, true), (13, true), (14, true), (15, true), (16, true), (17, false)] (fun _ _ _ x y => (fun x y => gTrans x y) x y) (fun a => World.grownBy.refl a (some gw)) (by kernel_rfl) (by kernel_rfl) ?_
                  intro K hK
                  iterate 17 (
                    refine plan_q (v := ?_) rfl rfl ?_ ?_
                    rotate_left
                    · intro x
                      go_simp
                      first | done | rfl
                    simp only [Act.put, List.getElem_toArray, List.getElem_cons_zero, List.getElem_cons_succ, List.setIfInBounds_toArray, List.set_cons_zero, List.set_cons_succ])
                  refine plan_l rfl rfl ?_
                  intro K2 hK2
                  go_simp
                  refine hK2.out _ _ hst.2 ?_
                  clear hK2 K2
                  try simp only [Act.put, List.getElem_toArray, List.getElem_cons_zero, List.getElem_cons_succ, List.setIfInBounds_toArray, List.set_cons_zero, List.set_cons_succ]
                  refine plan_end (hK.out _ _ ?_)
                  clear hK K
                  go_wp2_with fail
                  go_roundw
                  case rel =>
                    refine ⟨t + 1, _, by omega, by go_num, hst.1, fun i h h1 h2 => ?_, grownBy_trans (grownBy_trans hg (drew_grownBy wr 1 _)) hst.2⟩
                    by_cases e : i = t
                    · subst e
                      rw [List.getElem_set_self]
                      exact hXt.symm
                    · rw [List.getElem_set_ne (fun h => e h.symm)]
                      exact hW i (by omega) _ _
                  case measure => simp [intOf]; omega
                · obtain rfl : t = n := by omega
                  have hWX : W = X := List.ext_getElem (by omega) fun i h1 h2 => hW i (by omega) h1 h2
                  subst hWX
                  have rW := oW.rd.low (Nat.zero_le _)
                  obtain ⟨sY, hsY⟩ : ∃ q, more 0#32 Y = q := ⟨_, rfl⟩
                  obtain ⟨sZ, hsZ⟩ : ∃ q, more 0#32 Z = q := ⟨_, rfl⟩
                  obtain ⟨sW, hsW⟩ : ∃ q, more 0#32 W = q := ⟨_, rfl⟩
                  rw [hs, hsY, hsZ, hsW] at hXs
                  have v1 := xor32 s sY
                  have v2 := xor32 (s ^^^ sY) sZ
                  rw [← hXs] at v2
                  generalize s ^^^ sY = ssY at *
                  have hxr : Ext w wr := hxZ.grown hg (by intro q hq; cases hq; omega)
                  go_wp2_with fail
                  refine (sum_any _ 1 1 [W] _ (RdL.new1 _ _ t t W rW) (by decide) (by intro k hk; simp at hk; subst hk; omega)).mono ?_
                  rw [show jn [W] = W by simp [jn], hsW]
                  rintro e w20 ⟨rfl, hx20⟩
                  replace hx20 := ((Ext.refl wr).alloc _).trans hx20
                  go_wp2_with fail
                  refine (sum_any _ 1 1 [Y] _ (RdL.new1 _ _ t c9 Y (qY.ext hx20)) (by decide) (by intro k hk; simp at hk; subst hk; omega)).mono ?_
                  rw [show jn [Y] = Y by simp [jn], hsY]
                  rintro e w21 ⟨rfl, hx21⟩
                  replace hx21 := (hx20.alloc _).trans hx21
                  go_wp2_with fail
                  refine (sum_any _ 1 1 [Z] _ (RdL.new1 _ _ t t Z (qZ.ext hx21)) (by decide) (by intro k hk; simp at hk; subst hk; omega)).mono ?_
                  rw [show jn [Z] = Z by simp [jn], hsZ]
                  rintro e w22 ⟨rfl, hx22⟩
                  replace hx22 := (hx21.alloc _).trans hx22
                  go_wp2_with fail
                  go_ret
                  exact ⟨rfl, hxr.trans hx22⟩

set_option maxRecDepth 100000 in
theorem lifted (os : Os) (started : os.Started) (H : Type) (enc : TypeId × Value → H) :
    ReturnsInHanded {} Try.checked os 6 .any (Rows.crcRotsSpec.pre6 enc Try.prog Try.f6 Rows.crcRotsRow.domain false) (Rows.crcRotsSpec.post enc Try.prog Try.f6 false true false false) := by
  refine returnsInHanded_of_change (C := Try.checked) own started (by kernel_rfl) Try.func6
    (ChangeSpec.witness6 (enc := enc) (C := Try.checked) false ⟨#[], #[.slice none 0 0, .slice none 0 0, .int .i64 0, .int .i64 0, .int .i64 0, .int .u32 0], []⟩ 8 (by kernel_rfl) (by kernel_rfl) (by kernel_rfl) (by kernel_rfl)) ?_
  intro W base args ds gs before hval0 hW hcnd _
  have hval : ∀ (j : Nat) t v, Try.f6.params[j]? = some t → args[j]? = some v → Value.okWide Try.prog W .any base t v := hval0
  have hW' := hW
  obtain ⟨p, q, hA0, hV, rfl, hfz, hnd⟩ := hW
  have hA : DataW.TrodAll enc Try.prog W 0 (fun _ => true) true Try.f6.params.toList args.toList ds p := hA0
  rw [Try.params6] at hA hval
  obtain ⟨v0, vs0, d0, ds0, p0, q0, hargs, rfl, rfl, h0, r0⟩ := trodAll_cons hA
  obtain ⟨v1, vs1, d1, ds1, p1, q1, rfl, rfl, rfl, h1, r1⟩ := trodAll_cons r0
  obtain ⟨v2, vs2, d2, ds2, p2, q2, rfl, rfl, rfl, h2, r2⟩ := trodAll_cons r1
  obtain ⟨v3, vs3, d3, ds3, p3, q3, rfl, rfl, rfl, h3, r3⟩ := trodAll_cons r2
  obtain ⟨v4, vs4, d4, ds4, p4, q4, rfl, rfl, rfl, h4, r4⟩ := trodAll_cons r3
  obtain ⟨v5, vs5, d5, ds5, p5, q5, rfl, rfl, rfl, h5, r5⟩ := trodAll_cons r4
  obtain ⟨rfl, rfl, rfl⟩ := trodAll_nil r5
  obtain rfl : args = #[v0, v1, v2, v3, v4, v5] := by cases args; simp_all
  obtain ⟨rfl, rfl⟩ := trodVars_none hV
  obtain ⟨a0, n0, c0, rfl⟩ := okWide_slice Try.underlying22 (hval 0 22 v0 rfl rfl)
  have k0 := h0
  have lt0 : ∀ x ∈ p0, x.block < W.heap.size := by obtain ⟨m, hm⟩ := k0; exact DataW.trod_lt m _ _ _ hm
  obtain ⟨l0, w0, y0⟩ := open_rd Try.underlying22 Try.underlying5 (by kernel_rfl) h0
  obtain ⟨a1, n1, c1, rfl⟩ := okWide_slice Try.underlying22 (hval 1 22 v1 rfl rfl)
  have k1 := h1
  have lt1 : ∀ x ∈ p1, x.block < W.heap.size := by obtain ⟨m, hm⟩ := k1; exact DataW.trod_lt m _ _ _ hm
  obtain ⟨l1, w1, y1⟩ := open_rd Try.underlying22 Try.underlying5 (by kernel_rfl) h1
  obtain ⟨a2, rfl, rfl, rfl, w2⟩ := open_int Try.underlying3 (hval 2 3 v2 rfl rfl) h2
  obtain ⟨a3, rfl, rfl, rfl, w3⟩ := open_int Try.underlying3 (hval 3 3 v3 rfl rfl) h3
  obtain ⟨a4, rfl, rfl, rfl, w4⟩ := open_int Try.underlying3 (hval 4 3 v4 rfl rfl) h4
  obtain ⟨a5, rfl, rfl, rfl, w5⟩ := open_int Try.underlying23 (hval 5 23 v5 rfl rfl) h5
  clear hA0 hval0
  refine (walk W a0 n0 c0 l0 w0 y0 a1 n1 c1 l1 w1 y1 a2 w2 a3 w3 a4 w4 a5 w5).mono fun e W' ⟨he, bel⟩ => ?_
  subst he
  exact ⟨_, rfl, _, _, _, [], _, [], hW', trodAll_mk1 (shut_bool Try.underlying4 _), (trodAll_cons_mk (Below.trod laidOut (by kernel_rfl) (of_decide_eq_true (by kernel_rfl)) k0 bel lt0) (trodAll_cons_mk (Below.trod laidOut (by kernel_rfl) (of_decide_eq_true (by kernel_rfl)) k1 bel lt1) (trodAll_cons_mk (shut_int Try.underlying3 w2) (trodAll_cons_mk (shut_int Try.underlying3 w3) (trodAll_cons_mk (shut_int Try.underlying3 w4) (trodAll_cons_mk (shut_int Try.underlying23 w5) trodAll_mk0)))))), rfl, Below.frame bel _, fun h => by cases h⟩

theorem over_ : Rows.crcRotsRow.holds Try.pinned (OpenSpec.ofChange Rows.crcRotsSpec) :=
  OpenClaim.holds_of_wide 6 Try.f6 rfl rfl rfl rfl rfl rfl rfl ⟨rfl, rfl, rfl, rfl, rfl⟩ rfl rfl rfl rfl rfl (by kernel_rfl) Try.func6 (by kernel_rfl)
    (of_decide_eq_true (by kernel_rfl)) (by unfold Func.isWrapper; first | (rw [if_pos (by decide +kernel)]; kernel_rfl) | (rw [if_neg (by decide +kernel)]; exact ⟨rfl, rfl⟩))
    (fun os started H enc _ => lifted os started H enc)

theorem proved : Rows.CrcRotsSaid := over_
end Go.Proofs.Ytpfepajenimejaa.lawRots
