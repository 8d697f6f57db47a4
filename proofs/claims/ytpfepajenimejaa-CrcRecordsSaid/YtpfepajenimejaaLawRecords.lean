/- CrcRecords answers true, whatever records and whatever sum ahead of them it is given. No conditions. -/
import Derived.Test.YtpfepajenimejaaWords
import Derived.Test.YtpfepajenimejaaFrame
import Derived.Test.YtpfepajenimejaaMatrix
import Derived.Test.YtpfepajenimejaaFlow
namespace Go.Proofs.Ytpfepajenimejaa.lawRecords
open Go.ChangeShapes Go.WideShapes Go.ChangeAt Go.RowKit
open Go.ChangeMaps (open_string shut_string)
set_option linter.unusedVariables false
set_option linter.unusedSimpArgs false

theorem open_l {H : Type} {enc : TypeId × Value → H} {W : World} {a : Option Addr} {len cap : Nat} {d : DataW H} {p : List MemPlace} (h : DataW.Trod enc Try.prog W 0 (fun _ => true) true 30 (.slice a len cap) d p) :
    ∃ ls, RdM W a len ls ∧ len ≤ 9223372036854775807 := open_rows Try.underlying30 Try.underlying22 Try.underlying5 (by kernel_rfl) (by kernel_rfl) h
theorem row_le (ls : List (List UInt8)) (l : List UInt8) (h : l ∈ ls) : l.length ≤ (jn ls).length := by
  induction ls with
  | nil => simp at h
  | cons k ks ih =>
    simp only [jn, List.flatten_cons, List.length_append] at *
    rcases List.mem_cons.1 h with rfl | h
    · omega
    · have := ih h
      omega

set_option maxRecDepth 100000 in
set_option maxHeartbeats 3200000 in
theorem walk (w : World) (A : Option Addr) (n c : Nat) (ls : List (List UInt8)) (hr : RdM w A n ls) (hn : n ≤ 9223372036854775807) (s : Int) (hsw : (Lit.int IntKind.u32 s).wf = true) :
    Calls Try.prog 4 #[.slice A n c, .int .u32 s] w fun e w' => e = .returned (.bool true) ∧ Ext w w' := by
  obtain ⟨s, rfl⟩ := word_of hsw
  clear hsw
  have hl := hr.1
  subst hl
  go_enter Try.func4, Try.ntmps4
  go_wp2_with fail
  go_loopw [5, 6] (fun v i wr => ∃ k A2 c2, k ≤ ls.length ∧ i = .int .i64 (k : Nat) ∧ v = .slice A2 (jn (ls.take k)).length c2 ∧ Own wr w.heap.size 5 A2 (jn (ls.take k)).length c2 (jn (ls.take k)) ∧ (jn (ls.take k)).length ≤ 20000 ∧ Ext w wr) (fun _ i _ => ls.length - (intOf i).toNat)
  case atStart => exact ⟨0, none, 0, Nat.zero_le _, rfl, rfl, Own.nil _ _ _, by simp [jn], Ext.refl w⟩
  case round =>
    obtain ⟨k, A2, c2, hk, rfl, rfl, hown, h20, hx⟩ := hrel
    by_cases hlt : k < ls.length
    · obtain ⟨b, off, rfl, hbl, hcs⟩ := hr.pos (by omega)
      obtain ⟨Ai, ci, hcell, hri, hci⟩ := hcs k hlt
      have hS := Lib.hid (jn_snoc ls k hlt)
      clear hcs
      obtain ⟨L, hL⟩ : ∃ L, ls[k].length = L := ⟨_, rfl⟩
      obtain ⟨M, hM⟩ : ∃ M, (jn (ls.take k)).length = M := ⟨_, rfl⟩
      rw [hL] at hcell hri hci
      rw [hM] at hown h20 ⊢
      have hx0 := hx.drew
      have hown0 := hown.drew
      have hri0 := hri
      have hcx : ∀ x : Above (fun u u' => Ext w u → Ext w u') wr.drew, x.1.cell? ⟨b, off + k, none⟩ = some (.slice Ai L ci) := fun x => (x.2 hx0).cellSome hcell
      have hki : (k : Int) < (ls.length : Int) := by omega
      have hci' : (L : Int) ≤ (ci : Int) := by omega
      by_cases hbig : 20001 < L
      ·
        have hmin : (20001 : Int) < (L : Int) := by omega
        have hci2 : (20001 : Int) ≤ (ci : Int) := by omega
        go_wp2_with fail
        refine wp_region_plan (fun u u' => Ext w u → Ext w u') [(0, true), (1, true), (2, true), (3, true), (4, true), (5, true), (6, true), (7, true), (8, true), (9, true), (10, false), (11, true), (12, false), (13, true)] (fun _ _ _ x y => (fun x y h => y (x h)) x y) (fun a h => h) (by kernel_rfl) (by kernel_rfl) ?_
        intro K hK
        iterate 10 (
          refine plan_q (v := ?_) rfl rfl ?_ ?_
          rotate_left
          · intro x
            go_simp
            first | done | rfl
          simp only [Act.put, List.getElem_toArray, List.getElem_cons_zero, List.getElem_cons_succ, List.setIfInBounds_toArray, List.set_cons_zero, List.set_cons_succ])
        refine plan_l rfl rfl ?_
        intro K2 hK2
        go_simp
        refine hK2.out _ _ (fun h => h) ?_
        clear hK2 K2
        try simp only [Act.put, List.getElem_toArray, List.getElem_cons_zero, List.getElem_cons_succ, List.setIfInBounds_toArray, List.set_cons_zero, List.set_cons_succ]
        iterate 1 (
          refine plan_q (v := ?_) rfl rfl ?_ ?_
          rotate_left
          · intro x
            go_simp
            first | done | rfl
          simp only [Act.put, List.getElem_toArray, List.getElem_cons_zero, List.getElem_cons_succ, List.setIfInBounds_toArray, List.set_cons_zero, List.set_cons_succ])
        refine plan_l rfl rfl ?_
        intro K2 hK2
        refine wp_append_b bytes_ty _ _ rfl w hx0 A2 M c2 (jn (ls.take k)) rfl hown0 Ai 20001 ci 0 (ls[k].take 20001) rfl ((hri0.ext hx0).take (by omega)) (by omega) ?_
        intro A3 c3 w3 h3 _ hx3
        refine hK2.out _ _ (fun _ => hx3) ?_
        clear hK2 K2
        try simp only [Act.put, List.getElem_toArray, List.getElem_cons_zero, List.getElem_cons_succ, List.setIfInBounds_toArray, List.set_cons_zero, List.set_cons_succ]
        iterate 1 (
          refine plan_q (v := ?_) rfl rfl ?_ ?_
          rotate_left
          · intro x
            go_simp
            first | done | rfl
          simp only [Act.put, List.getElem_toArray, List.getElem_cons_zero, List.getElem_cons_succ, List.setIfInBounds_toArray, List.set_cons_zero, List.set_cons_succ])
        refine plan_end (hK.out _ _ ?_)
        clear hK K
        go_wp2_with fail
        refine (known_any _).mono ?_
        rintro e wk ⟨rfl, hxk⟩
        go_wp2_with fail
        go_ret
        exact ⟨rfl, (hx3).trans hxk⟩
      ·
        go_wp2_with fail
        have hmin : (if (20001 : Int) < (L : Int) then (20001 : Int) else (L : Int)) = (L : Int) := if_neg (by omega)
        refine wp_region_plan (fun u u' => Ext w u → Ext w u') [(0, true), (1, true), (2, true), (3, true), (4, true), (5, true), (6, true), (7, true), (8, true), (9, true), (10, false), (11, true), (12, false), (13, true)] (fun _ _ _ x y => (fun x y h => y (x h)) x y) (fun a h => h) (by kernel_rfl) (by kernel_rfl) ?_
        intro K hK
        iterate 10 (
          refine plan_q (v := ?_) rfl rfl ?_ ?_
          rotate_left
          · intro x
            go_simp
            first | done | rfl
          simp only [Act.put, List.getElem_toArray, List.getElem_cons_zero, List.getElem_cons_succ, List.setIfInBounds_toArray, List.set_cons_zero, List.set_cons_succ])
        refine plan_l rfl rfl ?_
        intro K2 hK2
        go_simp
        refine hK2.out _ _ (fun h => h) ?_
        clear hK2 K2
        try simp only [Act.put, List.getElem_toArray, List.getElem_cons_zero, List.getElem_cons_succ, List.setIfInBounds_toArray, List.set_cons_zero, List.set_cons_succ]
        iterate 1 (
          refine plan_q (v := ?_) rfl rfl ?_ ?_
          rotate_left
          · intro x
            go_simp
            first | done | rfl
          simp only [Act.put, List.getElem_toArray, List.getElem_cons_zero, List.getElem_cons_succ, List.setIfInBounds_toArray, List.set_cons_zero, List.set_cons_succ])
        refine plan_l rfl rfl ?_
        intro K2 hK2
        refine wp_append_b bytes_ty _ _ rfl w hx0 A2 M c2 (jn (ls.take k)) rfl hown0 Ai L ci 0 (ls[k].take L) rfl ((hri0.ext hx0).take (by omega)) (by omega) ?_
        intro A3 c3 w3 h3 _ hx3
        refine hK2.out _ _ (fun _ => hx3) ?_
        clear hK2 K2
        try simp only [Act.put, List.getElem_toArray, List.getElem_cons_zero, List.getElem_cons_succ, List.setIfInBounds_toArray, List.set_cons_zero, List.set_cons_succ]
        iterate 1 (
          refine plan_q (v := ?_) rfl rfl ?_ ?_
          rotate_left
          · intro x
            go_simp
            first | done | rfl
          simp only [Act.put, List.getElem_toArray, List.getElem_cons_zero, List.getElem_cons_succ, List.setIfInBounds_toArray, List.set_cons_zero, List.set_cons_succ])
        refine plan_end (hK.out _ _ ?_)
        clear hK K
        have htk : ls[k].take L = ls[k] := List.take_of_length_le (by omega)
        rw [htk] at h3
        by_cases hover : 20000 < M + L
        · have hover' : (20000 : Int) < ((M + L : Nat) : Int) := by omega
          go_wp2_with fail
          refine (known_any _).mono ?_
          rintro e wk ⟨rfl, hxk⟩
          go_wp2_with fail
          go_ret
          exact ⟨rfl, (hx3).trans hxk⟩
        · have hover' : ¬ (20000 : Int) < ((M + L : Nat) : Int) := by omega
          have hlen : (jn (ls.take (k + 1))).length = M + L := by rw [hS.out, List.length_append, hM, hL]
          rw [← hS.out, ← hlen] at h3
          rw [← hlen] at hover'
          rw [← hlen]
          go_wp2_with fail
          go_roundw
          case rel => exact ⟨k + 1, A3, c3, by omega, by go_num, rfl, h3, by omega, hx3⟩
          case measure => simp [intOf]; omega
    · obtain rfl : k = ls.length := by omega
      rw [jn_full] at hown h20 ⊢
      obtain ⟨T, hT⟩ : ∃ T, jn ls = T := ⟨_, rfl⟩
      have hrow := fun l (h : l ∈ ls) => row_le ls l h
      rw [hT] at hown h20 hrow ⊢
      go_wp2_with fail
      refine (sum_any none 0 0 [] _ ⟨rfl, .inl rfl⟩ (by decide) (by simp)).mono ?_
      rw [show more 0#32 (jn []) = 0#32 by decide +kernel]
      rintro e w1 ⟨rfl, hx1⟩
      have hown1 := hown.kept hx1
      replace hx1 := hx.trans hx1
      go_wp2_with fail
      clear hown
      generalize hww : w1 = wz at *
      go_loopw [7, 8, 9] (fun x y i wr => ∃ k : Nat, k ≤ ls.length ∧ i = .int .i64 k ∧ x = wv (more 0#32 (jn (ls.take k))) ∧ y = wv (more s (jn (ls.take k))) ∧ Ext wz wr) (fun _ _ i _ => ls.length - (intOf i).toNat)
      case atStart => exact ⟨0, Nat.zero_le _, rfl, by rw [jn_zero, more_nil], by rw [jn_zero, more_nil], Ext.refl _⟩
      case round =>
        obtain ⟨k, hk, rfl, rfl, rfl, hy⟩ := hrel
        by_cases hlt : k < ls.length
        · obtain ⟨b, off, rfl, hbl, hcs⟩ := hr.pos (by omega)
          obtain ⟨Ai, ci, hcell, hri, hci⟩ := hcs k hlt
          have hS1 := Lib.hid (show more 0#32 (jn (ls.take (k + 1))) = more (more 0#32 (jn (ls.take k))) ls[k] by rw [jn_snoc ls k hlt, more_append])
          have hS2 := Lib.hid (show more s (jn (ls.take (k + 1))) = more (more s (jn (ls.take k))) ls[k] by rw [jn_snoc ls k hlt, more_append])
          have hk2 := hrow ls[k] (List.getElem_mem hlt)
          clear hcs
          obtain ⟨y1, hy1⟩ : ∃ y, more 0#32 (jn (ls.take k)) = y := ⟨_, rfl⟩
          obtain ⟨y2, hy2⟩ : ∃ y, more s (jn (ls.take k)) = y := ⟨_, rfl⟩
          rw [hy1] at hS1 ⊢
          rw [hy2] at hS2 ⊢
          clear hy1 hy2
          have hx0 := (hx1.trans hy).drew
          have hcx : ∀ x : Above (fun u u' => Ext w u → Ext w u') wr.drew, x.1.cell? ⟨b, off + k, none⟩ = some (.slice Ai ls[k].length ci) := fun x => (x.2 hx0).cellSome hcell
          have hki : (k : Int) < (ls.length : Int) := by omega
          go_wp2_with fail
          refine wp_region_plan (fun u u' => Ext w u → Ext w u') [(0, true), (1, true), (2, true), (3, true), (4, true), (6, true), (7, true), (8, true), (9, true), (10, true), (5, false), (11, false), (12, true), (13, true)] (fun _ _ _ x y => (fun x y h => y (x h)) x y) (fun a h => h) (by kernel_rfl) (by kernel_rfl) ?_
          intro K hK
          iterate 10 (
            refine plan_q (v := ?_) rfl rfl ?_ ?_
            rotate_left
            · intro x
              go_simp
              first | done | rfl
            simp only [Act.put, List.getElem_toArray, List.getElem_cons_zero, List.getElem_cons_succ, List.setIfInBounds_toArray, List.set_cons_zero, List.set_cons_succ])
          refine plan_l rfl rfl ?_
          intro K2 hK2
          go_simp
          refine (more_any y1 Ai _ ci 0 ls[k] _ (hri.ext hx0) (by omega)).mono ?_
          rintro e w3 ⟨rfl, hx3⟩
          go_simp
          refine hK2.out _ _ (fun h => h.trans hx3) ?_
          clear hK2 K2
          try simp only [Act.put, List.getElem_toArray, List.getElem_cons_zero, List.getElem_cons_succ, List.setIfInBounds_toArray, List.set_cons_zero, List.set_cons_succ]
          refine plan_l rfl rfl ?_
          intro K2 hK2
          go_simp
          refine (more_any y2 Ai _ ci 0 ls[k] _ (hri.ext (hx0.trans hx3)) (by omega)).mono ?_
          rintro e w4 ⟨rfl, hx4⟩
          go_simp
          refine hK2.out _ _ (fun h => h.trans hx4) ?_
          clear hK2 K2
          try simp only [Act.put, List.getElem_toArray, List.getElem_cons_zero, List.getElem_cons_succ, List.setIfInBounds_toArray, List.set_cons_zero, List.set_cons_succ]
          iterate 2 (
            refine plan_q (v := ?_) rfl rfl ?_ ?_
            rotate_left
            · intro x
              go_simp
              first | done | rfl
            simp only [Act.put, List.getElem_toArray, List.getElem_cons_zero, List.getElem_cons_succ, List.setIfInBounds_toArray, List.set_cons_zero, List.set_cons_succ])
          refine plan_end (hK.out _ _ ?_)
          clear hK K
          have hy4 := (hy.drew.trans hx3).trans hx4
          go_wp2_with fail
          go_roundw
          case rel => exact ⟨k + 1, by omega, by go_num, by rw [hS1.out], by rw [hS2.out], hy4⟩
          case measure => simp [intOf]; omega
        · obtain rfl : k = ls.length := by omega
          rw [jn_full, hT]
          have ho := (hown1.kept hy).rd
          obtain ⟨y1, hy1⟩ : ∃ y, more 0#32 T = y := ⟨_, rfl⟩
          obtain ⟨y2, hy2⟩ : ∃ y, more s T = y := ⟨_, rfl⟩
          rw [hy1, hy2]
          have hxx := hx1.trans hy
          have hrr := (hr.ext hxx).rdl
          have hT2 : T.length < 4611686018427387904 := by omega
          go_wp2_with fail
          refine (sum_any A _ c ls _ hrr hn (fun l h => by have := hrow l h; omega)).mono ?_
          rw [hT, hy1]
          rintro e w3 ⟨rfl, hx3⟩
          go_wp2_with fail
          refine (rsum_any A2 _ c2 _ T _ (ho.ext hx3) hT2).mono ?_
          rw [hy1]
          rintro e w4 ⟨rfl, rfl⟩
          go_wp2_with fail
          refine (rsum_any A2 _ c2 _ T _ (ho.ext hx3) hT2).mono ?_
          rw [hy1]
          rintro e w5 ⟨rfl, rfl⟩
          go_wp2_with fail
          refine (rmore_any s A2 _ c2 _ T _ (ho.ext hx3) hT2).mono ?_
          rw [hy2]
          rintro e w6 ⟨rfl, rfl⟩
          go_wp2_with fail
          refine (more_any s A2 _ c2 _ T _ (ho.ext hx3) hT2).mono ?_
          rw [hy2]
          rintro e w7 ⟨rfl, hx7⟩
          go_wp2_with fail
          refine (known_any _).mono ?_
          rintro e wk ⟨rfl, hxk⟩
          go_wp2_with fail
          go_ret
          exact ⟨rfl, ((hxx.trans hx3).trans hx7).trans hxk⟩

set_option maxRecDepth 100000 in
theorem lifted (os : Os) (started : os.Started) (H : Type) (enc : TypeId × Value → H) :
    ReturnsInHanded {} Try.checked os 4 .any (Rows.crcRecordsSpec.pre6 enc Try.prog Try.f4 Rows.crcRecordsRow.domain false) (Rows.crcRecordsSpec.post enc Try.prog Try.f4 false true false false) := by
  refine returnsInHanded_of_change (C := Try.checked) own started (by kernel_rfl) Try.func4
    (ChangeSpec.witness6 (enc := enc) (C := Try.checked) false ⟨#[], #[.slice none 0 0, .int .u32 0], []⟩ 8 (by kernel_rfl) (by kernel_rfl) (by kernel_rfl) (by kernel_rfl)) ?_
  intro W base args ds gs before hval0 hW hcnd _
  have hval : ∀ (j : Nat) t v, Try.f4.params[j]? = some t → args[j]? = some v → Value.okWide Try.prog W .any base t v := hval0
  have hW' := hW
  obtain ⟨p, q, hA0, hV, rfl, hfz, hnd⟩ := hW
  have hA : DataW.TrodAll enc Try.prog W 0 (fun _ => true) true Try.f4.params.toList args.toList ds p := hA0
  rw [Try.params4] at hA hval
  obtain ⟨v0, vs0, d0, ds0, p0, q0, hargs, rfl, rfl, h0, r0⟩ := trodAll_cons hA
  obtain ⟨v1, vs1, d1, ds1, p1, q1, rfl, rfl, rfl, h1, r1⟩ := trodAll_cons r0
  obtain ⟨rfl, rfl, rfl⟩ := trodAll_nil r1
  obtain rfl : args = #[v0, v1] := by cases args; simp_all
  obtain ⟨rfl, rfl⟩ := trodVars_none hV
  obtain ⟨a0, n0, c0, rfl⟩ := okWide_slice Try.underlying30 (hval 0 30 v0 rfl rfl)
  have k0 := h0
  have lt0 : ∀ x ∈ p0, x.block < W.heap.size := by obtain ⟨m, hm⟩ := k0; exact DataW.trod_lt m _ _ _ hm
  obtain ⟨l0, w0, y0⟩ := open_l h0
  obtain ⟨a1, rfl, rfl, rfl, w1⟩ := open_int Try.underlying23 (hval 1 23 v1 rfl rfl) h1
  clear hA0 hval0
  refine (walk W a0 n0 c0 l0 w0 y0 a1 w1).mono fun e W' ⟨he, bel⟩ => ?_
  subst he
  exact ⟨_, rfl, _, _, _, [], _, [], hW', trodAll_mk1 (shut_bool Try.underlying4 _), (trodAll_cons_mk (Below.trod laidOut (by kernel_rfl) (of_decide_eq_true (by kernel_rfl)) k0 bel lt0) (trodAll_cons_mk (shut_int Try.underlying23 w1) trodAll_mk0)), rfl, Below.frame bel _, fun h => by cases h⟩

theorem over_ : Rows.crcRecordsRow.holds Try.pinned (OpenSpec.ofChange Rows.crcRecordsSpec) :=
  OpenClaim.holds_of_wide 4 Try.f4 rfl rfl rfl rfl rfl rfl rfl ⟨rfl, rfl, rfl, rfl, rfl⟩ rfl rfl rfl rfl rfl (by kernel_rfl) Try.func4 (by kernel_rfl)
    (of_decide_eq_true (by kernel_rfl)) (by unfold Func.isWrapper; first | (rw [if_pos (by decide +kernel)]; kernel_rfl) | (rw [if_neg (by decide +kernel)]; exact ⟨rfl, rfl⟩))
    (fun os started H enc _ => lifted os started H enc)

theorem proved : Rows.CrcRecordsSaid := over_
end Go.Proofs.Ytpfepajenimejaa.lawRecords
