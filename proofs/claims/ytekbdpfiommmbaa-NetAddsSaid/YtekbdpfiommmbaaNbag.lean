/- bag: two rows of flights that are the same but for their order. Conditions: the flights are in memory. -/
import Derived.Test.YtekbdpfiommmbaaNapp
import Derived.Test.YtekbdpfiommmbaaNact
namespace Go.Proofs.Ytekbdpfiommmbaa
open Go.RowKit Go.Maps
set_option linter.unusedVariables false
set_option linter.unusedSimpArgs false
attribute [local go_sem] Oper.semAt_some

set_option maxRecDepth 100000 in
set_option maxHeartbeats 3200000 in
theorem bag_any (w : World) (A A' : Option Addr) (c c' : Nat) (ts us : List (Int × Int × Row)) (ps qs : List (Option Addr × Nat)) (ha : FlA w A ts ps) (hb : FlA w A' us qs) (hn : us.length ≤ 100000) (hp : ts.Perm us) :
    Calls Try.prog 26 #[.slice A ts.length c, .slice A' us.length c'] w fun e w' => e = .returned (.bool true) ∧ Ext w w' := by
  have hl := hp.length_eq
  obtain ⟨i0, hi, hz0, hz1, hz2⟩ := info_parts info_fl
  obtain ⟨N, hN⟩ : ∃ N, us.length = N := ⟨_, rfl⟩
  have hP := Lib.hid hp
  clear hp
  have hcl : (flC us qs).length = N * 3 := by rw [flC_len _ _ hb.1.1, hN]
  have hsrc : ∀ ad, A' = some ad → ∀ j u, (flC us qs)[j]? = some u → w.cell? (ad.add j) = some u := by
    intro ad e j u hu
    rcases hb.2 with h0 | ⟨b, off, h1, h2, h3⟩
    · have := (List.getElem?_eq_some_iff.1 hu).1
      omega
    · rw [h1] at e
      cases e
      have hadd : (⟨b, off, none⟩ : Addr).add j = ⟨b, off + j, none⟩ := by unfold Addr.add; split <;> simp_all
      rw [hadd]
      exact h3 j u hu
  have hnone : A' = none → N = 0 := fun e => by
    rcases hb.2 with h0 | ⟨b, off, h1, h2, h3⟩
    · omega
    · rw [h1] at e; cases e
  rw [hl, hN]
  go_enter Try.func26, Try.ntmps26
  go_wp2_with (at_builtin; refine wpList_append_any rfl _ _ 44 rfl w.heap.size 51 i0 (.agg #[.int .i64 0, .int .i64 0, .slice none 0 0]) 3 40 Try.underlying44 hi hz0 hz1 hz2 rfl (by decide) (.slice none 0 0) 0 [] rfl (World.ownsRow_nil _ _ _ _) A' N c' (flC us qs) rfl hcl hnone hsrc (flC_one us qs) (by unfold maxLen; omega) (by omega) (Nat.le_refl _) ?_; intro v5 w5 row5 g5 _)
  rw [Nat.zero_add, List.nil_append] at row5
  have hx5 : Ext w w5 := (Ext.refl w).grown g5 (fun k e => by cases e)
  have hB5 := hb.1
  clear hsrc hcl
  go_loopw [5, 6, 7] (fun r i kk wr => ∃ (n : Nat) (rs : List (Int × Int × Row)) (os : List (Option Addr × Nat)), n ≤ N ∧ i = .int .i64 n ∧ rs.length + n = N ∧ FlB w rs os ∧ wr.ownsRow w.heap.size 51 3 r rs.length (flC rs os) ∧ Hid ((ts.drop n).Perm rs) ∧ Ext w wr) (fun _ i _ _ => N - (nOf i).toNat)
  case atStart => exact ⟨0, us, qs, Nat.zero_le _, rfl, by omega, hB5, by rw [hN]; exact row5, hP, hx5⟩
  case round =>
    obtain ⟨n, rs, os, hk, rfl, hrs, hB, row, hperm, hx⟩ := hrel
    by_cases hlt : n < N
    · have hki : (n : Int) < (N : Int) := by omega
      obtain ⟨t, ht⟩ : ∃ t, ts[n]? = some t := ⟨_, List.getElem?_eq_getElem (by omega)⟩
      obtain ⟨p, hp⟩ : ∃ p, ps[n]? = some p := ⟨_, List.getElem?_eq_getElem (by have := ha.1.1; omega)⟩
      obtain ⟨Ar, cr, rfl⟩ := own_slice row
      obtain ⟨m, hm⟩ : ∃ m, rs.length = m := ⟨_, rfl⟩
      rw [hm] at row hrs ⊢
      have hmem : t ∈ rs := by
        have h1 : ts.drop n = t :: ts.drop (n + 1) := by
          obtain ⟨hh, e⟩ := List.getElem?_eq_some_iff.1 ht
          rw [← e, List.getElem_cons_drop]
        exact (show (ts.drop n).Perm rs from hperm).subset (by rw [h1]; exact List.mem_cons_self)
      have hMem := Lib.hid hmem
      clear hmem
      go_wp2_with fail
      go_loopw [7] (fun kk wr' => ∃ k : Nat, k ≤ m ∧ kk = .int .i64 k ∧ Hid (∀ j, j < k → rs[j]? ≠ some t) ∧ wr'.ownsRow w.heap.size 51 3 (.slice Ar m cr) m (flC rs os) ∧ Ext w wr') (fun kk _ => m - (nOf kk).toNat)
      case atStart => exact ⟨0, Nat.zero_le _, rfl, Lib.hid (fun j h => by omega), row, hx⟩
      case round =>
        obtain ⟨k, hkm, rfl, hno, rowI, hxI⟩ := hrel
        by_cases hltI : k < m
        · have hkI : (k : Int) < (m : Int) := by omega
          obtain ⟨s, hs⟩ : ∃ s, rs[k]? = some s := ⟨_, List.getElem?_eq_getElem (by omega)⟩
          obtain ⟨o, ho⟩ : ∃ o, os[k]? = some o := ⟨_, List.getElem?_eq_getElem (by have := hB.1; omega)⟩
          obtain ⟨a0, a1, a2⟩ := flC_at rs os k s o hs ho
          obtain ⟨b0, b1, b2⟩ := flC_at ts ps n t p ht hp
          obtain ⟨g, eAr, hcI⟩ := row_cellsN rowI (by omega)
          obtain ⟨bA, off, eA, hbA, hcA⟩ := ha.2.resolve_left (by omega)
          obtain ⟨rt, lt⟩ := ha.1.2 n t p ht hp
          obtain ⟨ro, lo⟩ := hB.2 k s o hs ho
          have HH := Lib.hid (And.intro hs (And.intro ho (And.intro ht hp)))
          clear hs ho ht hp
          subst eAr eA
          go_wp2_with fail
          have hxd := (Ext.refl wr).drew
          refine wp_region_plan Ext [(0, true), (1, true), (2, true), (3, true), (4, true), (5, true), (6, true), (7, true), (8, true), (9, true), (10, true), (11, true), (12, true), (13, false), (14, true), (15, true)] (fun _ _ _ x y => Ext.trans x y) Ext.refl (by kernel_rfl) (by kernel_rfl) ?_
          intro K hK
          have c0 : ∀ y : Above Ext wr.drew, y.1.cell? ⟨g, k * 3, none⟩ = some (.int .i64 s.1) := fun y => (hxd.trans y.2).cellSome (hcI _ _ a0)
          have c1 : ∀ y : Above Ext wr.drew, y.1.cell? ⟨g, k * 3 + 1, none⟩ = some (.int .i64 s.2.1) := fun y => (hxd.trans y.2).cellSome (hcI _ _ a1)
          have c2 : ∀ y : Above Ext wr.drew, y.1.cell? ⟨g, k * 3 + 2, none⟩ = some (.slice o.1 s.2.2.length o.2) := fun y => (hxd.trans y.2).cellSome (hcI _ _ a2)
          have d0 : ∀ y : Above Ext wr.drew, y.1.cell? ⟨bA, off + n * 3, none⟩ = some (.int .i64 t.1) := fun y => ((hxI.trans hxd).trans y.2).cellSome (hcA _ _ b0)
          have d1 : ∀ y : Above Ext wr.drew, y.1.cell? ⟨bA, off + n * 3 + 1, none⟩ = some (.int .i64 t.2.1) := fun y => ((hxI.trans hxd).trans y.2).cellSome (hcA _ _ b1)
          have d2 : ∀ y : Above Ext wr.drew, y.1.cell? ⟨bA, off + n * 3 + 2, none⟩ = some (.slice p.1 t.2.2.length p.2) := fun y => ((hxI.trans hxd).trans y.2).cellSome (hcA _ _ b2)
          iterate 13 (
            refine plan_q (v := ?_) rfl rfl ?_ ?_
            rotate_left
            · intro x
              go_simp
              first | done | rfl
            simp only [Act.put, List.getElem_toArray, List.getElem_cons_zero, List.getElem_cons_succ, List.setIfInBounds_toArray, List.set_cons_zero, List.set_cons_succ])
          clear c0 c1 c2 d0 d1 d2
          have x0 := hxI.trans hxd
          refine plan_l rfl (by kernel_rfl) ?_
          intro K2 hK2
          go_simp
          refine (same_any wr.drew s.1 s.2.1 t.1 t.2.1 o.1 p.1 o.2 p.2 s.2.2 t.2.2 (ro.ext x0) (rt.ext x0) (by omega) (by omega)).mono ?_
          rintro x w6 ⟨rfl, hx6⟩
          have x6 := hxd.trans hx6
          have x06 := x0.trans hx6
          have row6 := ownsRow_blk rowI (w' := w6) (fun kb e => x6.blk (rowI.lt kb e).2)
          obtain ⟨q, hq⟩ : ∃ q : Bool, decide (s.1 = t.1 ∧ s.2.1 = t.2.1 ∧ s.2.2 = t.2.2) = q := ⟨_, rfl⟩
          rw [hq]
          have HQ := Lib.hid hq
          clear hq
          go_simp
          refine hK2.out _ _ hx6 ?_
          clear hK2 K2
          try simp only [Act.put, List.getElem_toArray, List.getElem_cons_zero, List.getElem_cons_succ, List.setIfInBounds_toArray, List.set_cons_zero, List.set_cons_succ]
          cases q
          ·
            iterate 2 (
              refine plan_q (v := ?_) rfl rfl ?_ ?_
              rotate_left
              · intro x
                go_simp
                first | done | rfl
              simp only [Act.put, List.getElem_toArray, List.getElem_cons_zero, List.getElem_cons_succ, List.setIfInBounds_toArray, List.set_cons_zero, List.set_cons_succ])
            refine plan_end (hK.out _ _ ?_)
            clear hK K
            go_wp2_with fail
            refine ⟨⟨k + 1, by omega, by simp, Lib.hid (fun j hj => ?_), row6, x06⟩, by simp [nOf]; omega⟩
            have hne : s ≠ t := by
              rintro rfl
              have := HQ.out
              simp at this
            obtain ⟨hs, ho, ht, hp⟩ := HH.out
            rcases Nat.lt_or_ge j k with h | h
            · exact hno.out j h
            · obtain rfl : j = k := by omega
              rw [hs]
              intro e
              exact hne (Option.some.inj e)
          ·
            iterate 2 (
              refine plan_q (v := ?_) rfl rfl ?_ ?_
              rotate_left
              · intro x
                go_simp
                first | done | rfl
              simp only [Act.put, List.getElem_toArray, List.getElem_cons_zero, List.getElem_cons_succ, List.setIfInBounds_toArray, List.set_cons_zero, List.set_cons_succ])
            refine plan_end (hK.out _ _ ?_)
            clear hK K
            have hke : ((k : Int) == (m : Int)) = false := by simp; omega
            obtain ⟨y, hy⟩ : ∃ y, rs[m - 1]? = some y := ⟨_, List.getElem?_eq_getElem (by omega)⟩
            obtain ⟨oy, hoy⟩ : ∃ oy, os[m - 1]? = some oy := ⟨_, List.getElem?_eq_getElem (by have := hB.1; omega)⟩
            obtain ⟨y0, y1, y2⟩ := flC_at rs os (m - 1) y oy hy hoy
            have HY := Lib.hid (And.intro hy hoy)
            clear hy hoy
            have e0 := x6.cellSome (hcI _ _ y0)
            have e1 := x6.cellSome (hcI _ _ y1)
            have e2 := x6.cellSome (hcI _ _ y2)
            have k0 := x6.cellSome (hcI _ _ a0)
            obtain ⟨r7, h7⟩ := row6.stored (k * 3) (.int .i64 y.1)
            obtain ⟨r8, h8⟩ := r7.stored (k * 3 + 1) (.int .i64 y.2.1)
            obtain ⟨r9, h9⟩ := r8.stored (k * 3 + 2) (.slice oy.1 y.2.2.length oy.2)
            have q0 := row6.frozenAt (k * 3)
            have q1 := r7.frozenAt (k * 3 + 1)
            have q2 := r8.frozenAt (k * 3 + 2)
            have k1 := r7.cellAt (k * 3 + 1) (by omega)
            have k2 := r8.cellAt (k * 3 + 2) (by omega)
            rw [List.getElem?_set_ne (by omega)] at k1 k2
            rw [List.getElem?_set_ne (by omega)] at k2
            rw [a1] at k1
            rw [a2] at k2
            have hcap : m ≤ cr := by
              rcases rowI.2 with ⟨_, h0⟩ | ⟨g', cap, cur, z1, z2, z3, z4, _⟩
              · omega
              · cases z1; exact z4
            rw [flC_set rs os k y oy hB.1 (by omega)] at r9
            have r10 := ownsRow_cut r9 (m := m - 1) (by omega)
            rw [flC_take _ _ _ (by simp; exact hB.1)] at r10
            clear y0 y1 y2 a0 a1 a2 r9 hcI
            have hR := Lib.hid r10
            clear r10
            go_wp2_with fail
            obtain ⟨hs, ho, ht, hp⟩ := HH.out
            obtain ⟨hy, hoy⟩ := HY.out
            have est : s = t := by
              have := HQ.out
              simp at this
              exact Prod.ext this.1 (Prod.ext this.2.1 this.2.2)
            have hgb := (row6.lt g rfl).1
            have hl1 : ((rs.set k y).take (m - 1)).length = m - 1 := by simp; omega
            refine ⟨⟨n + 1, (rs.set k y).take (m - 1), (os.set k oy).take (m - 1), by omega, by simp, by rw [hl1]; omega, ⟨by rw [List.length_take, List.length_take, List.length_set, List.length_set, hB.1], fun i tt pp z1 z2 => ?_⟩, by rw [hl1]; exact hR.out, Lib.hid ?_, ((x06.grown h7 (fun kb e => by cases e; exact hgb)).grown h8 (fun kb e => by cases e; exact hgb)).grown h9 (fun kb e => by cases e; exact hgb)⟩, by simp [nOf]; omega⟩
            · have hi1 := (List.getElem?_eq_some_iff.1 z1).1
              rw [hl1] at hi1
              rw [List.getElem?_take_of_lt hi1] at z1 z2
              by_cases hik : k = i
              · subst hik
                rw [List.getElem?_set_self (by omega)] at z1
                rw [List.getElem?_set_self (by have := hB.1; omega)] at z2
                cases z1
                cases z2
                exact hB.2 _ _ _ hy hoy
              · rw [List.getElem?_set_ne hik] at z1 z2
                exact hB.2 _ _ _ z1 z2
            · have h1 : ts.drop n = t :: ts.drop (n + 1) := by
                obtain ⟨hh, e⟩ := List.getElem?_eq_some_iff.1 ht
                rw [← e, List.getElem_cons_drop]
              have h2 := swap_out rs k (by omega)
              obtain ⟨_, e3⟩ := List.getElem?_eq_some_iff.1 hs
              obtain ⟨_, e4⟩ := List.getElem?_eq_some_iff.1 hy
              have e5 : rs[rs.length - 1]'(by omega) = y := by
                rw [← e4]
                congr 1
                omega
              rw [e3, e5, est, hm] at h2
              have h3 := hperm.out
              rw [h1] at h3
              exact (h3.trans h2).cons_inv
        · exfalso
          obtain rfl : k = m := by omega
          obtain ⟨j, hj, e⟩ := List.getElem_of_mem hMem.out
          exact hno.out j (by omega) (by rw [List.getElem?_eq_getElem hj, e])
    · obtain rfl : n = N := by omega
      go_wp2_with fail
      go_ret
      exact ⟨rfl, hx⟩
end Go.Proofs.Ytekbdpfiommmbaa
