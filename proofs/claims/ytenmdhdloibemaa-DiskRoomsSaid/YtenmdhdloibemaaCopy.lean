/- What a file's copy is. Conditions: the file is in memory as told. -/
import Derived.Test.YtenmdhdloibemaaSettle
namespace Go.Proofs.Ytenmdhdloibemaa
open Go.RowKit Go.Maps Go.Sort
set_option linter.unusedVariables false
set_option linter.unusedSimpArgs false

/-- under way: the sectors that are no longer left have their writes -/
def FC.part (c : FC) (left : Lit → Bool) : FC := { c with S := fun m => if left (ik m) = true then [] else c.S m }

theorem RowAt.conv {w w' : World} {O O' : Ow} {fb fb' : Nat} {n : Int} {v : Value} {ls : List Sc} (h : RowAt w O fb n v ls) (hk : ∀ b, O b = some (fb, n) → b < w.heap.size → w'.heap[b]? = w.heap[b]? ∧ O' b = some (fb', n)) : RowAt w' O' fb' n v ls := by
  obtain ⟨rb, cap, rfl, h1, h2, h3⟩ := h
  obtain ⟨e, hor⟩ := h2
  rcases hor with ⟨e1, _⟩ | ⟨g, cap', cur, e1, hb, hg, r⟩
  · cases e1
  · injection e1 with e1
    injection e1 with e1
    injection e1 with e1
    subst e1
    obtain ⟨k1, k2⟩ := hk rb h1 (Array.getElem?_eq_some_iff.1 hg).1
    exact ⟨rb, cap, rfl, k2, ⟨e, .inr ⟨rb, cap', cur, by simp_all, hb, k1.trans hg, r⟩⟩, h3⟩

theorem run_makeMapH {t k e : TypeId} (ht : Try.prog.underlying t = some (.map k e)) (n : Int) (w : World) : (Instr.makeMap t (some (.int .i64 n))).run Try.prog w = .ok (.map (some w.heap.size)) (w.alloc (.map #[] 0)) := by
  simp [Instr.makeMap, run_underlying ht, go_sem, Result.andThen]

/-- new blocks alone are owned anew, and by one -/
def Newly (N N' : Ow) (w w' : World) (f : Nat) : Prop := (∀ b, b < w.heap.size → N' b = N b) ∧ (∀ b, w.heap.size ≤ b → Owned N' b → b < w'.heap.size ∧ ∃ t, N' b = some (f, t)) ∧ w.heap.size ≤ f

set_option maxRecDepth 100000 in
set_option maxHeartbeats 3200000 in
theorem copy_any (w : World) (O : Ow) (fb : Nat) (c : FC) (h : FileAt w O fb c) (hO : In O w) (N : Ow) (hN : In N w) (hbig : ∀ m, (c.S m).length ≤ 1000000) :
    Calls Try.prog 52 #[fptr fb] w fun e w' => ∃ fb' N', e = .returned (fptr fb') ∧ FileAt w' N' fb' c ∧ Newly N N' w w' fb' ∧ Ext w w' := by
  obtain ⟨lb, sb, hX⟩ := h.x
  obtain ⟨DL, DS, o1, o2, o3, b1, m1, m2, hL, hS, hf⟩ := id hX
  have c1 := b1.cell 1
  have hln := m2.len Try.underlying70 3
  have hmm := run_makeMapH Try.underlying70 (Maps.size DS) w
  have mk := MapOf.made w Try.prog 3
  have hx1 := (Ext.refl w).alloc (.map #[] 0)
  have c1' := (b1.ext hx1).cell 1
  have n2 := m2.ext hx1
  have hs1 := Lib.hid (World.size_alloc w (.map #[] 0))
  go_enter Try.func52, Try.ntmps52
  generalize w.alloc (.map #[] 0) = W1 at *
  go_wp2_with (at_range; refine wpList_rng _ _ law_i Try.underlying70 rfl rfl n2 rfl ?_; intro w1 hr1 hxr hs2)
  go_frame
  have hxw := hx1.trans hxr
  have hs2 := Lib.hid hs2
  go_loopw [4] (fun _ wr => ∃ left cnt, ∃ (R : Nat → Option Int) (DN : DataW Value), Ranging Try.prog wr 3 sb W1.heap.size DS left cnt ∧ MapOf Try.prog wr 3 w.heap.size DN ∧ SinceAt wr (fun b => (R b).map fun n => (0, n)) 0 DN (c.part left) ∧ (∀ b n, R b = some n → W1.heap.size < b ∧ b < wr.heap.size ∧ c.S n ≠ []) ∧
    Ext w wr ∧ (∀ n, left (ik n) = true → c.S n ≠ [])) (fun _ wr => wr.rangeLeft sb W1.heap.size)
  case atStart =>
    refine ⟨_, _, fun _ => none, .map [], hr1, mk.ext hxr, ⟨fun n _ => val_nil _, fun n hn => ?_, fun kl hk => by simp [Maps.has] at hk⟩, fun b n h => (by cases h), hxw, fun n hn => ?_⟩
    · exfalso
      apply hn
      simp only [FC.part]
      by_cases e : c.S n = []
      · simp [e]
      · obtain ⟨_, v, hv, _⟩ := hS.2.1 n e
        rw [if_pos (by rw [m2.has_iff, hv]; rfl)]
    · intro e
      rw [m2.has_iff, hS.1 n e] at hn
      cases hn
  case round =>
    obtain ⟨left, cnt, R, DN, hrg, mN, hSN, hR, hxr2, hleft⟩ := hrel
    go_wp2_with (at_next; refine wpList_nxt (Value.int .i64) keyI_inv _ law_i W1.heap.size left cnt rfl rfl rfl hrg ?_ ?_)
    · intro hl0
      have hxr3 := hxr2.drew
      have b3 := b1.ext hxr3
      have c0 : ∀ y : Above Ext wr.drew, y.1.cell? ⟨fb, 0, none⟩ = some (.map (some lb)) := fun y => (b3.ext y.2).cell 0
      have c2 : ∀ y : Above Ext wr.drew, y.1.cell? ⟨fb, 2, none⟩ = some (.int .i64 c.fin) := fun y => (b3.ext y.2).cell 2
      go_wp2_with fail
      refine wp_region_plan Ext [(0, true), (1, true), (2, true), (3, true), (5, true), (6, true), (7, true), (8, true), (9, true), (4, false), (10, true), (11, false), (12, true)] (fun _ _ _ x y => (fun x y => Ext.trans x y) x y) Ext.refl (by kernel_rfl) (by kernel_rfl) ?_
      intro K hK
      iterate 9 (
        refine plan_q (v := ?_) rfl rfl ?_ ?_
        rotate_left
        · intro x
          go_simp
          first | done | rfl
        simp only [Act.put, List.getElem_toArray, List.getElem_cons_zero, List.getElem_cons_succ, List.setIfInBounds_toArray, List.set_cons_zero, List.set_cons_succ])
      refine plan_l rfl rfl ?_
      intro K2 hK2
      go_simp
      refine (clone_M anyR lb _ DL wr.drew (m1.ext hxr3)).mono ?_
      rintro e w5 ⟨rfl, m5, hx5⟩
      go_simp
      refine hK2.out _ _ hx5 ?_
      clear hK2 K2
      try simp only [Act.put, List.getElem_toArray, List.getElem_cons_zero, List.getElem_cons_succ, List.setIfInBounds_toArray, List.set_cons_zero, List.set_cons_succ]
      iterate 1 (
        refine plan_q (v := ?_) rfl rfl ?_ ?_
        rotate_left
        · intro x
          go_simp
          first | done | rfl
        simp only [Act.put, List.getElem_toArray, List.getElem_cons_zero, List.getElem_cons_succ, List.setIfInBounds_toArray, List.set_cons_zero, List.set_cons_succ])
      refine plan_l rfl rfl ?_
      intro K2 hK2
      go_simp
      refine hK2.out _ _ ((Ext.refl w5).alloc _) ?_
      clear hK2 K2
      try simp only [Act.put, List.getElem_toArray, List.getElem_cons_zero, List.getElem_cons_succ, List.setIfInBounds_toArray, List.set_cons_zero, List.set_cons_succ]
      iterate 1 (
        refine plan_q (v := ?_) rfl rfl ?_ ?_
        rotate_left
        · intro x
          go_simp
          first | done | rfl
        simp only [Act.put, List.getElem_toArray, List.getElem_cons_zero, List.getElem_cons_succ, List.setIfInBounds_toArray, List.set_cons_zero, List.set_cons_succ])
      refine plan_end (hK.out _ _ ?_)
      clear hK K
      go_wp2_with fail
      go_ret
      have k0 := hs1.out
      have k1 := hs2.out
      have k2 := hx5.size
      have k3 : wr.drew.heap.size = wr.heap.size := rfl
      have k7 : wr.heap.size < w5.heap.size := (MapOf.of m5).lt
      have k4 := hxr2.size
      have k5 := hrg.lt
      obtain ⟨wf, hwf⟩ : ∃ wf, w5.alloc (.cells #[.map (some wr.heap.size), .map (some w.heap.size), .int .i64 c.fin] 72) = wf := ⟨_, rfl⟩
      have bN := Blk.new w5 72 #[.map (some wr.heap.size), .map (some w.heap.size), .int .i64 c.fin]
      have hx6 : Ext w5 wf := by rw [← hwf]; exact (Ext.refl w5).alloc _
      have k6 : wf.heap.size = w5.heap.size + 1 := by rw [← hwf, World.size_alloc]
      rw [hwf] at bN ⊢
      have hxa : Ext wr wf := (((Ext.refl wr).drew).trans hx5).trans hx6
      obtain ⟨N', hN'⟩ : ∃ N' : Ow, (fun b => if b = w5.heap.size then some (w5.heap.size, -3) else if b = wr.heap.size then some (w5.heap.size, -2) else if b = w.heap.size then some (w5.heap.size, -1) else match R b with | some n => some (w5.heap.size, n) | none => N b) = N' := ⟨_, rfl⟩
      have p1 : N' w5.heap.size = some (w5.heap.size, -3) := by rw [← hN']; simp
      have p2 : N' wr.heap.size = some (w5.heap.size, -2) := by rw [← hN']; dsimp only; rw [if_neg (by omega), if_pos rfl]
      have p3 : N' w.heap.size = some (w5.heap.size, -1) := by rw [← hN']; dsimp only; rw [if_neg (by omega), if_neg (by omega), if_pos rfl]
      have p4 : ∀ b n, R b = some n → N' b = some (w5.heap.size, n) := by
        intro b n e
        obtain ⟨h1, h2, _⟩ := hR b n e
        rw [← hN']
        simp only [e]
        rw [if_neg (by omega), if_neg (by omega), if_neg (by omega)]
      have p5 : ∀ b, b ≠ w5.heap.size → b ≠ wr.heap.size → b ≠ w.heap.size → R b = none → N' b = N b := by
        intro b h1 h2 h3 h4
        rw [← hN']
        simp only [h4]
        rw [if_neg h1, if_neg h2, if_neg h3]
      refine ⟨w5.heap.size, N', rfl, FileX.at_ (lb := wr.heap.size) (sb := w.heap.size) ⟨DL, DN, p1, p2, p3, bN, (MapOf.of m5).ext hx6, mN.ext hxa, hL, ?_, hf⟩, ⟨fun b hb => p5 b (by omega) (by omega) (by omega) ?_, fun b hb ho => ?_, by omega⟩, hxr2.trans hxa⟩
      · refine ⟨fun n hn => hSN.1 n (by simp only [FC.part, hn]; split <;> rfl), fun n hn => ?_, hSN.2.2⟩
        have e : (c.part left).S n = c.S n := by simp [FC.part, hl0]
        obtain ⟨q1, v, q2, q3⟩ := hSN.2.1 n (by rw [e]; exact hn)
        rw [e] at q3
        refine ⟨q1, v, q2, q3.conv fun b hb hlt => ⟨hxa.blk hlt, p4 b n ?_⟩⟩
        cases hRb : R b with
        | none => rw [hRb] at hb; cases hb
        | some m => rw [hRb] at hb; cases hb; rfl
      · cases hRb : R b with
        | none => rfl
        | some m => have := hR b m hRb; omega
      · by_cases e1 : b = w5.heap.size
        · rw [e1]; exact ⟨by omega, _, p1⟩
        by_cases e2 : b = wr.heap.size
        · rw [e2]; exact ⟨by omega, _, p2⟩
        by_cases e3 : b = w.heap.size
        · rw [e3]; exact ⟨by omega, _, p3⟩
        cases hRb : R b with
        | none =>
          rw [Owned, p5 b e1 e2 e3 hRb] at ho
          have := hN b ho
          omega
        | some m =>
          have := hR b m hRb
          exact ⟨by omega, _, p4 b m hRb⟩
    · intro x v kl w3 cnt' hkey hlk hv hrg3 hlt hg3 hs3 hen
      obtain ⟨rfl, hwf⟩ := keyI_val hkey
      have hx0 : c.S x ≠ [] := hleft x hlk
      obtain ⟨_, v2, hv2, hrow⟩ := hS.2.1 x hx0
      obtain rfl : v = v2 := Option.some.inj (hv.symm.trans hv2)
      have hx3 : Ext w w3 := hxr2.grown hg3 (by intro k e; cases e; have := hs1.out; omega)
      have hrow3 := hrow.keep (w' := w3) (O' := O) (fun b hb hlt => ⟨hx3.blk hlt, rfl⟩)
      obtain ⟨rb, cap, rfl, ro, rown, rls⟩ := id hrow3
      have hcells : ∀ j u, (cellsOf (c.S x))[j]? = some u → w3.cell? ⟨rb, 0 + j, none⟩ = some u := by
        intro j u hu
        have := rown.cells (g := rb) rfl j u hu
        have hadd : (⟨rb, 0, none⟩ : Addr).add j = ⟨rb, 0 + j, none⟩ := by unfold Addr.add; split <;> simp_all
        rw [hadd] at this
        exact this
      have hN2 := hbig x
      go_wp2_with fail
      refine (clone_S rb 0 (c.S x).length cap (cellsOf (c.S x)) w3 (cellsOf_len _ rls) (by unfold maxLen; omega) (by omega) hcells (cellsOf_one _)).mono ?_
      rintro e w4 ⟨v', rfl, hown', hne', hx4⟩
      obtain ⟨g, cap2, rfl⟩ : ∃ g cap2, v' = .slice (some ⟨g, 0, none⟩) (c.S x).length cap2 := by
        rcases hown'.2 with ⟨h1, _⟩ | ⟨g, cap2, _, h1, _⟩
        · exact absurd h1 hne'
        · exact ⟨g, cap2, h1⟩
      have hglt := hown'.lt g rfl
      have hx34 := hx3.trans hx4
      have m4 : MapOf Try.prog w4 3 w.heap.size DN := (mN.keep (hg3.block _ mN.lt (by have := hs1.out; simp; omega))).ext hx4
      have hszN : Maps.size DN < maxLen := by
        obtain ⟨k1, k2, k3⟩ := int_keys mN law_i hSN.2.2
        have := rising_len (intKeys DN) 0 65536 k1 (fun y hy => by
          have h1 := (k2 y).1 hy
          have h2 : (c.part left).S y ≠ [] := fun e => by rw [mN.has_iff, hSN.1 y e] at h1; cases h1
          have h3 : c.S y ≠ [] := fun e => h2 (by simp only [FC.part, e]; split <;> rfl)
          have := since_pos hL hS y h3
          omega) (by omega)
        rw [k3] at this
        unfold maxLen
        omega
      go_wp2_with (refine wpList_put _ _ _ _ law_i Try.underlying70 rfl rfl m4 hszN (.int .i64 x) (.slice (some ⟨g, 0, none⟩) (c.S x).length cap2) rfl rfl rfl (key_i hwf) ?_; intro w5 m5 g5)
      have k0 := hs1.out
      have k1 := hs2.out
      have k2 := hx4.size
      have k3 := hrg3.lt
      have k4 := g5.size
      have hrg4 := hrg3.keep (w' := w4) (hx4.blk hrg3.map.lt) (hx4.blk hrg3.lt)
      have hsb : sb < w.heap.size := m2.lt
      have hrg5 := hrg4.keep (w' := w5) (g5.block sb (by omega) (by simp; omega)) (g5.block W1.heap.size (by omega) (by simp; omega))
      have hold : ∀ b n, R b = some n → w5.heap[b]? = wr.heap[b]? := by
        intro b n e
        obtain ⟨h1, h2, _⟩ := hR b n e
        rw [g5.block b (by omega) (by simp; omega), hx4.blk (by omega), hg3.block b h2 (by simp; omega)]
      have hRg : R g = none := by
        cases e : R g with
        | none => rfl
        | some m => have := hR g m e; omega
      go_frame
      go_roundw
      case measure =>
        rw [hrg5.left_eq, ← hrg3.left_eq]
        exact hlt
      case rel =>
      refine ⟨_, cnt', fun b => if b = g then some x else R b, _, hrg5, m5, ⟨fun m hm => ?_, fun m hm => ?_, fun kl hk => ?_⟩, fun b m e => ?_, hx34.grown g5 (by intro k e; cases e; omega), fun m hm => hleft m (by simp at hm; exact hm.1)⟩
      · have hmx : m ≠ x := by
          rintro rfl
          apply hx0
          simpa [FC.part, ik_same] using hm
        rw [val_put (kl := ik x) m4.isMap trivial, ik_same, if_neg (by simpa using hmx)]
        exact hSN.1 m (by simpa [FC.part, ik_same, hmx] using hm)
      · by_cases hmx : m = x
        · subst hmx
          have e : (c.part (fun z => left z && !z.sameKey (ik m))).S m = c.S m := by simp [FC.part, ik_same]
          rw [e]
          refine ⟨(hS.2.1 m hx0).1, _, by rw [val_put (kl := ik m) m4.isMap trivial, ik_same, if_pos (by simp)], g, cap2, rfl, by simp, ?_, rls⟩
          have hk := hown'.kept g5 (.inr (by simp [Value.ownBlock]; omega))
          refine ⟨hk.1, ?_⟩
          rcases hk.2 with h | ⟨g', c', cur, h1, h2, h3⟩
          · exact .inl h
          · exact .inr ⟨g', c', cur, h1, Nat.zero_le _, h3⟩
        · have e : (c.part (fun z => left z && !z.sameKey (ik x))).S m = (c.part left).S m := by simp [FC.part, ik_same, hmx]
          rw [e] at hm ⊢
          obtain ⟨q1, v, q2, q3⟩ := hSN.2.1 m hm
          refine ⟨q1, v, by rw [val_put (kl := ik x) m4.isMap trivial, ik_same, if_neg (by simpa using hmx)]; exact q2, q3.keep fun b hb hlt => ?_⟩
          cases hRb : R b with
          | none => rw [hRb] at hb; cases hb
          | some m' =>
            refine ⟨hold b m' hRb, ?_⟩
            have : b ≠ g := fun e => by rw [e, hRg] at hRb; cases hRb
            simp only [if_neg this, hRb]
      · rcases has_put hk with e | e
        · exact ⟨x, e⟩
        · exact hSN.2.2 kl e
      · by_cases eg : b = g
        · simp only [eg, if_pos, Option.some.injEq] at e
          subst e
          exact ⟨by omega, by omega, hx0⟩
        · simp only [if_neg eg] at e
          have := hR b m e
          exact ⟨this.1, by omega, this.2.2⟩
end Go.Proofs.Ytenmdhdloibemaa
