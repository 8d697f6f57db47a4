/- NetGoes answers true, whatever number of ends and acts it is given. No conditions. -/
import Derived.Test.YtekbdpfiommmbaaRC
import Derived.Test.YtekbdpfiommmbaaNmuch
import Derived.Test.YtekbdpfiommmbaaNknown
import Derived.Test.YtekbdpfiommmbaaFrame
namespace Go.Proofs.Ytekbdpfiommmbaa.lawGoes
open Go.ChangeShapes Go.WideShapes Go.ChangeAt Go.RowKit Go.Maps Go.Shelf
open Go.ChangeMaps (open_string shut_string)
set_option linter.unusedVariables false
set_option linter.unusedSimpArgs false
attribute [local go_sem] Oper.semAt_some

set_option maxRecDepth 100000 in
set_option maxHeartbeats 6400000 in
theorem walk (w : World) (ends : Int) (wf : (Lit.int .i64 ends).wf = true) (A : Option Addr) (len c : Nat) (l : List Ac) (hl : ActsAt w A len l) (hc : len ≤ c) :
    Calls Try.prog 3 #[.int .i64 ends, .slice A len c] w fun e w' => e = .returned (.bool true) ∧ Ext w w' := by
  go_enter Try.func3, Try.ntmps3
  go_wp2_with fail
  refine (much_any w A len c l hl).mono ?_
  rintro e w2 ⟨b, rfl, hb, hx2⟩
  cases b with
  | true =>
    go_wp2_with fail
    refine (known_any _).mono ?_
    rintro e wk ⟨rfl, hxk⟩
    go_wp2_with fail
    go_ret
    exact ⟨rfl, (hx2).trans hxk⟩
  | false =>
    obtain ⟨h60, h20⟩ := hb rfl
    have hl2 := hl.ext hx2
    have hll := hl.1
    clear hb
    go_wp2_with fail
    refine (new_any w2 ends wf).mono ?_
    rintro e w3 ⟨hx3, hE | ⟨hE, rfl⟩⟩
    rotate_left
    · have hx23 := hx2.trans hx3
      by_cases h1 : ends < 1
      · go_wp2_with fail
        refine (num_any _ _).mono ?_
        rintro x w4 ⟨rfl, rfl⟩
        go_wp2_with fail
        refine (known_any _).mono ?_
        rintro e wk ⟨rfl, hxk⟩
        go_wp2_with fail
        go_ret
        exact ⟨rfl, (hx23).trans hxk⟩
      · have h5 : 5 < ends := by omega
        go_wp2_with fail
        refine (num_any _ _).mono ?_
        rintro x w4 ⟨rfl, rfl⟩
        go_wp2_with fail
        refine (known_any _).mono ?_
        rintro e wk ⟨rfl, hxk⟩
        go_wp2_with fail
        go_ret
        exact ⟨rfl, (hx23).trans hxk⟩
    · obtain ⟨g1, g5, n, O, rfl, ⟨fm, F, hN⟩, hO⟩ := hE
      have hS : NSt w2 w3 n ⟨ends, 0, fun _ _ => []⟩ [] := ⟨O, fm, F, hN, fun b hb => by
        rcases Nat.lt_or_ge b w2.heap.size with e | e
        · rw [Owned, hO b e] at hb
          cases hb
        · exact e, hx3, fun p hp => by cases hp⟩
      clear hN hO
      obtain ⟨en, rfl⟩ : ∃ en : Nat, ends = en := ⟨ends.toNat, by omega⟩
      have e1 : ¬ (en : Int) < 1 := by omega
      have e5 : ¬ 5 < (en : Int) := by omega
      have hxq := (Ext.refl w3).alloc (.cells #[.slice none 0 0, .slice none 0 0, .slice none 0 0, .slice none 0 0, .slice none 0 0, .slice none 0 0, .slice none 0 0, .slice none 0 0, .slice none 0 0, .slice none 0 0, .slice none 0 0, .slice none 0 0, .slice none 0 0, .slice none 0 0, .slice none 0 0, .slice none 0 0, .slice none 0 0, .slice none 0 0, .slice none 0 0, .slice none 0 0, .slice none 0 0, .slice none 0 0, .slice none 0 0, .slice none 0 0, .slice none 0 0, .slice none 0 0, .slice none 0 0, .slice none 0 0, .slice none 0 0, .slice none 0 0, .slice none 0 0, .slice none 0 0, .slice none 0 0, .slice none 0 0, .slice none 0 0, .slice none 0 0, .int .i64 (en : Int), .int .i64 0] 35)
      have bq := Blk.new w3 35 #[.slice none 0 0, .slice none 0 0, .slice none 0 0, .slice none 0 0, .slice none 0 0, .slice none 0 0, .slice none 0 0, .slice none 0 0, .slice none 0 0, .slice none 0 0, .slice none 0 0, .slice none 0 0, .slice none 0 0, .slice none 0 0, .slice none 0 0, .slice none 0 0, .slice none 0 0, .slice none 0 0, .slice none 0 0, .slice none 0 0, .slice none 0 0, .slice none 0 0, .slice none 0 0, .slice none 0 0, .slice none 0 0, .slice none 0 0, .slice none 0 0, .slice none 0 0, .slice none 0 0, .slice none 0 0, .slice none 0 0, .slice none 0 0, .slice none 0 0, .slice none 0 0, .slice none 0 0, .slice none 0 0, .int .i64 (en : Int), .int .i64 0]
      go_upto_region 7 with fail
      have hP : Pr w2 _ n w3.heap.size ⟨en, 0, fun _ _ => []⟩ ⟨en, 0, fun _ _ => []⟩ [] := pr_new hS hxq (by omega) bq
      generalize w3.alloc (.cells #[.slice none 0 0, .slice none 0 0, .slice none 0 0, .slice none 0 0, .slice none 0 0, .slice none 0 0, .slice none 0 0, .slice none 0 0, .slice none 0 0, .slice none 0 0, .slice none 0 0, .slice none 0 0, .slice none 0 0, .slice none 0 0, .slice none 0 0, .slice none 0 0, .slice none 0 0, .slice none 0 0, .slice none 0 0, .slice none 0 0, .slice none 0 0, .slice none 0 0, .slice none 0 0, .slice none 0 0, .slice none 0 0, .slice none 0 0, .slice none 0 0, .slice none 0 0, .slice none 0 0, .slice none 0 0, .slice none 0 0, .slice none 0 0, .slice none 0 0, .slice none 0 0, .slice none 0 0, .slice none 0 0, .int .i64 (en : Int), .int .i64 0] 35) = w4 at *
      generalize w3.heap.size = q at *
      clear hxq bq hS
      generalize (Value.agg #[.slice none 0 0, .slice none 0 0, .slice none 0 0, .slice none 0 0, .slice none 0 0, .slice none 0 0, .slice none 0 0, .slice none 0 0, .slice none 0 0, .slice none 0 0, .slice none 0 0, .slice none 0 0, .slice none 0 0, .slice none 0 0, .slice none 0 0, .slice none 0 0, .slice none 0 0, .slice none 0 0, .slice none 0 0, .slice none 0 0, .slice none 0 0, .slice none 0 0, .slice none 0 0, .slice none 0 0, .slice none 0 0, .slice none 0 0, .slice none 0 0, .slice none 0 0, .slice none 0 0, .slice none 0 0, .slice none 0 0, .slice none 0 0, .slice none 0 0, .slice none 0 0, .slice none 0 0, .slice none 0 0, .int .i64 (en : Int), .int .i64 0]) = vq at *
      go_wp2_with fail
      refine (num_any _ _).mono ?_
      rintro x w5 ⟨rfl, rfl⟩
      go_wp2_with fail
      refine (las_any hP en rfl).mono ?_
      rintro x w5 ⟨rfl, hx5⟩
      have hP5 := hP.ext hx5
      clear hP
      go_wp2_with fail
      go_loopw [8] (fun iv wr => ∃ (k : Nat) (g : NC), k ≤ len ∧ iv = .int .i64 (k : Int) ∧ g.ends = (en : Int) ∧ Pr w2 wr n q g g []) (fun iv _ => len - (nOf iv).toNat)
      case atStart => exact ⟨0, _, Nat.zero_le _, rfl, rfl, hP5⟩
      case round =>
        clear hP5 hx5
        obtain ⟨k, g, hk, rfl, he, hP⟩ := hrel
        by_cases hlt : k < len
        · have hki : (k : Int) < (len : Int) := by omega
          obtain ⟨b, off, rfl, hb, hcell⟩ := hl2.pos (by omega)
          obtain ⟨hok, hc⟩ := hcell k (by omega)
          obtain ⟨s, hs⟩ : ∃ s, l[k]'(by omega) = s := ⟨_, rfl⟩
          rw [hs] at hok hc
          have hss := h20 k s (by rw [← hs]; exact List.getElem?_eq_getElem (by omega))
          have hxr := hP.x
          have m0 := hxr.cellSome (hc 0 (by simp [Ac.vals]))
          have m1 := hxr.cellSome (hc 1 (by simp [Ac.vals]))
          have m2 := hxr.cellSome (hc 2 (by simp [Ac.vals]))
          have m3 := hxr.cellSome (hc 3 (by simp [Ac.vals]))
          simp only [Ac.vals, List.getElem_cons_zero, List.getElem_cons_succ, Nat.add_zero] at m0 m1 m2 m3
          clear hs
          go_wp2_with fail
          refine (ldo_any hP en he s hok (by omega)).mono ?_
          rintro x w6 ⟨g2, rfl, hP2, he2⟩
          have he2' := he2.trans he
          clear m0 m1 m2 m3
          go_wp2_with fail
          refine (las_any hP2 en he2').mono ?_
          rintro x w7 ⟨rfl, hx7⟩
          go_wp2_with fail
          exact ⟨⟨k + 1, g2, by omega, by simp, he2', hP2.ext hx7⟩, by simp [nOf]; omega⟩
        · obtain rfl : k = len := by omega
          have hxr := hx2.trans hP.x
          go_wp2_with fail
          refine (known_any _).mono ?_
          rintro e wk ⟨rfl, hxk⟩
          go_wp2_with fail
          go_ret
          exact ⟨rfl, (hxr).trans hxk⟩

set_option maxRecDepth 100000 in
theorem lifted (os : Os) (started : os.Started) (H : Type) (enc : TypeId × Value → H) :
    ReturnsInHanded {} Try.checked os 3 .any (Rows.netGoesSpec.pre6 enc Try.prog Try.f3 Rows.netGoesRow.domain false) (Rows.netGoesSpec.post enc Try.prog Try.f3 false true false false) := by
  refine returnsInHanded_of_change (C := Try.checked) own started (by kernel_rfl) Try.func3
    (ChangeSpec.witness6 (enc := enc) (C := Try.checked) false ⟨#[], #[.int .i64 0, .slice none 0 0], []⟩ 8 (by kernel_rfl) (by kernel_rfl) (by kernel_rfl) (by kernel_rfl)) ?_
  intro W base args ds gs before hval0 hW hcnd _
  have hval : ∀ (j : Nat) t v, Try.f3.params[j]? = some t → args[j]? = some v → Value.okWide Try.prog W .any base t v := hval0
  have hW' := hW
  obtain ⟨p, q, hA0, hV, rfl, hfz, hnd⟩ := hW
  have hA : DataW.TrodAll enc Try.prog W 0 (fun _ => true) true Try.f3.params.toList args.toList ds p := hA0
  rw [Try.params3] at hA hval
  obtain ⟨v0, vs0, d0, ds0, p0, q0, hargs, rfl, rfl, h0, r0⟩ := trodAll_cons hA
  obtain ⟨v1, vs1, d1, ds1, p1, q1, rfl, rfl, rfl, h1, r1⟩ := trodAll_cons r0
  obtain ⟨rfl, rfl, rfl⟩ := trodAll_nil r1
  obtain rfl : args = #[v0, v1] := by cases args; simp_all
  obtain ⟨rfl, rfl⟩ := trodVars_none hV
  obtain ⟨a0, rfl, rfl, rfl, w0⟩ := open_int Try.underlying3 (hval 0 3 v0 rfl rfl) h0
  obtain ⟨a1, n1, c1, rfl⟩ := okWide_slice Try.underlying22 (hval 1 22 v1 rfl rfl)
  have k1 := h1
  have lt1 : ∀ x ∈ p1, x.block < W.heap.size := by obtain ⟨m, hm⟩ := k1; exact DataW.trod_lt m _ _ _ hm
  obtain ⟨l1, w1, y1⟩ := open_acts h1
  clear hA0 hval0
  refine (walk W a0 w0 a1 n1 c1 l1 w1 y1).mono fun e W' ⟨he, bel⟩ => ?_
  subst he
  exact ⟨_, rfl, _, _, _, [], _, [], hW', trodAll_mk1 (shut_bool Try.underlying4 _), (trodAll_cons_mk (shut_int Try.underlying3 w0) (trodAll_cons_mk (Below.trod laidOut (by kernel_rfl) (of_decide_eq_true (by kernel_rfl)) k1 bel lt1) trodAll_mk0)), rfl, Below.frame bel _, fun h => by cases h⟩

theorem over_ : Rows.netGoesRow.holds Try.pinned (OpenSpec.ofChange Rows.netGoesSpec) :=
  OpenClaim.holds_of_wide 3 Try.f3 rfl rfl rfl rfl rfl rfl rfl ⟨rfl, rfl, rfl, rfl, rfl⟩ rfl rfl rfl rfl rfl (by kernel_rfl) Try.func3 (by kernel_rfl)
    (of_decide_eq_true (by kernel_rfl)) (by unfold Func.isWrapper; first | (rw [if_pos (by decide +kernel)]; kernel_rfl) | (rw [if_neg (by decide +kernel)]; exact ⟨rfl, rfl⟩))
    (fun os started H enc _ => lifted os started H enc)

theorem proved : Rows.NetGoesSaid := over_
end Go.Proofs.Ytekbdpfiommmbaa.lawGoes
