/- Send. Conditions: the net is in memory as told. -/
import Derived.Test.YtekbdpfiommmbaaNadd
namespace Go.Proofs.Ytekbdpfiommmbaa
open Go.RowKit Go.Maps
set_option linter.unusedVariables false
set_option linter.unusedSimpArgs false

theorem After.pre {w w1 w' : World} {O : Ow} {n : Nat} {g' : NC} (hx : Ext w w1) (h : After w1 w' O n g') : After w w' O n g' := by
  obtain ⟨O', h1, h2, h3⟩ := h
  exact ⟨O', h1, fun b hb => h2 b (by have := hx.size; omega), (Tu.of_ext hx).trans h3⟩
theorem AfterS.pre {w w1 w' : World} {O : Ow} {n : Nat} {g' : NC} (hx : Ext w w1) (h : AfterS w1 w' O n g') : AfterS w w' O n g' := by
  obtain ⟨O', h1, h2, h3⟩ := h
  exact ⟨O', h1, fun b hb => h2 b (by have := hx.size; omega), (Tu.of_ext hx).trans h3⟩
theorem AfterS.ext {w w' : World} {O : Ow} {n fm : Nat} {F : DataW Value} {g : NC} (h : NetX w O n fm F g) (hx : Ext w w') : AfterS w w' O n g := ⟨O, ⟨fm, F, h.ext hx⟩, fun _ _ => rfl, Tu.of_ext hx⟩
theorem After.ext {w w' : World} {O : Ow} {n fm : Nat} {F : DataW Value} {g : NC} (h : NetX w O n fm F g) (hx : Ext w w') : After w w' O n g := ⟨O, ⟨fm, F, h.ext hx⟩, fun _ _ => rfl, Tu.of_ext hx⟩
/-- the net's own block turns -/
theorem NetX.setN {w w' : World} {O : Ow} {n fm : Nat} {F : DataW Value} {g : NC} {l : Int} (h : NetX w O n fm F g) (t : Tu (fun k => k = n) w w') (hb : Blk w' n 75 #[.int .i64 g.ends, .map (some fm), .int .i64 l]) (hl : (Lit.int .i64 l).wf = true) : NetX w' O n fm F { g with lost := l } := by
  obtain ⟨o1, o2, b1, m1, hc, hf, hn, hli, h0, h32, hO⟩ := h
  have ne : ∀ k, O k ≠ some (-5, -5) → k ≠ n := fun k hk e => hk (e ▸ o1)
  refine ⟨o1, o2, hb, m1.keep (t.blk fm m1.lt (ne fm (by rw [o2]; simp))), hc, ⟨hl, hf.2⟩, hn, fun a b hab => (hli a b hab).keep t.size (fun k hk e => ⟨t.blk k hk (ne k (by rw [e]; have := hab.1; simp; omega)), rfl⟩) (fun k hk e => ⟨t.blk k hk (ne k (by rw [e]; simp)), e⟩), h0, h32, hO.ext t.size⟩
theorem wf_w64 (x : Int) : (Lit.int .i64 (wrap64 x)).wf = true := by
  have e1 : IntKind.min .i64 = -9223372036854775808 := by kernel_rfl
  have e2 : IntKind.max .i64 = 9223372036854775807 := by kernel_rfl
  simp only [Lit.wf, Bool.and_eq_true, decide_eq_true_eq, e1, e2, wrap64]
  omega
def sendOut (g : NC) (a b : Int) (row : Row) : Int × NC :=
  if ¬ g.ok a b ∨ 1048576 < row.length then (2, g) else if 32 ≤ (g.L a b).length then (5, { g with lost := wrap64 (g.lost + 1) }) else (0, g.put a b (g.L a b ++ [row]))

set_option maxRecDepth 100000 in
set_option maxHeartbeats 3200000 in
theorem send_anyS (w : World) (O : Ow) (n fm : Nat) (F : DataW Value) (g : NC) (h : NetX w O n fm F g) (a b : Int) (ha : (Lit.int .i64 a).wf = true) (hb : (Lit.int .i64 b).wf = true) (B : Option Addr) (d : Nat) (row : Row) (hB : Rd w 0 B row.length row) (hd : row.length ≤ maxLen) :
    Calls Try.prog 18 #[fptr n, .int .i64 a, .int .i64 b, .slice B row.length d] w fun e w' => e = .returned (.int .i64 (sendOut g a b row).1) ∧ AfterS w w' O n (sendOut g a b row).2 := by
  obtain ⟨x, g', ho⟩ : ∃ x g', sendOut g a b row = (x, g') := ⟨_, _, rfl⟩
  rw [ho]
  have Ho := Lib.hid ho
  clear ho
  unfold maxLen at hd
  have hx1 := (Ext.refl w).alloc (.cells #[.int .i64 a, .int .i64 b] 77)
  have b1 := Blk.new w 77 #[.int .i64 a, .int .i64 b]
  have h1 := h.ext hx1
  go_enter Try.func18, Try.ntmps18
  go_upto_region 2 with fail
  generalize w.alloc (.cells #[.int .i64 a, .int .i64 b] 77) = w1 at *
  obtain ⟨q, hq⟩ : ∃ q, w.heap.size = q := ⟨_, rfl⟩
  rw [hq] at b1 ⊢
  have c0 := b1.cell 0
  have c1 := b1.cell 1
  go_wp2_with fail
  refine (none_at w1 O n fm F g h1).mono ?_
  rintro e w2 ⟨rfl, rfl⟩
  go_wp2_with fail
  refine (has_any w1 O n fm F g h1 a b ha hb).mono ?_
  rintro e w2 ⟨rfl, hx2⟩
  have hx12 := hx1.trans hx2
  have h2 := h1.ext hx2
  by_cases hab : g.ok a b
  rotate_left
  · have e0 : sendOut g a b row = (2, g) := by rw [sendOut, if_pos (.inl hab)]
    rw [Ho.out] at e0
    obtain ⟨rfl, rfl⟩ := Prod.mk.inj e0
    rw [decide_eq_false hab]
    go_wp2_with fail
    go_ret
    exact ⟨rfl, AfterS.ext h hx12⟩
  rw [decide_eq_true hab]
  by_cases hl : 1048576 < row.length
  · have e0 : sendOut g a b row = (2, g) := by rw [sendOut, if_pos (.inr hl)]
    rw [Ho.out] at e0
    obtain ⟨rfl, rfl⟩ := Prod.mk.inj e0
    have hl' : (1048576 : Int) < (row.length : Int) := by omega
    go_wp2_with fail
    go_ret
    exact ⟨rfl, AfterS.ext h hx12⟩
  have hl' : ¬ (1048576 : Int) < (row.length : Int) := by omega
  have b2 := b1.ext hx2
  clear c0 c1
  have c0 := b2.cell 0
  have c1 := b2.cell 1
  go_wp2_with fail
  refine (full_any w2 O n fm F g h2 a b ha hb).mono ?_
  rintro e w3 ⟨rfl, hx3⟩
  have hx13 := hx12.trans hx3
  have h3 := h2.ext hx3
  by_cases hfu : (32 : Int) ≤ ((g.L a b).length : Int)
  · have e0 : sendOut g a b row = (5, { g with lost := wrap64 (g.lost + 1) }) := by rw [sendOut, if_neg (by rintro (h | h); exact h hab; exact hl h), if_pos (by omega)]
    rw [Ho.out] at e0
    obtain ⟨rfl, rfl⟩ := Prod.mk.inj e0
    rw [decide_eq_true hfu]
    have c2 := h3.blk.cell 2
    have f2 := h3.blk.free 2
    have B2 := h3.blk.set_ 2 (.int .i64 (wrap64 (g.lost + 1)))
    have T2 : Tu (fun k => k = n) w3 (w3.setCell ⟨n, 2, none⟩ (.int .i64 (wrap64 (g.lost + 1)))) := Tu.of_grown (setCell_grownBy _ _ _) (by rintro k e; cases e; rfl)
    go_wp2_with fail
    go_ret
    refine ⟨rfl, AfterS.pre hx13 ⟨O, ⟨fm, F, h3.setN T2 (by simpa using B2) (wf_w64 _)⟩, fun _ _ => rfl, T2.mono (fun k e => ⟨(-5, -5), by rw [show k = n from e]; exact h.1, by decide⟩)⟩⟩
  · have e0 : sendOut g a b row = (0, g.put a b (g.L a b ++ [row])) := by rw [sendOut, if_neg (by rintro (h | h); exact h hab; exact hl h), if_neg (by omega)]
    rw [Ho.out] at e0
    obtain ⟨rfl, rfl⟩ := Prod.mk.inj e0
    rw [decide_eq_false hfu]
    have b3 := b2.ext hx3
    clear c0 c1
    go_wp2_with fail
    have hxd := (Ext.refl w3).drew
    refine wp_region_plan (Tu (Fine O)) [(0, true), (1, true), (2, true), (3, false), (4, false)] (fun _ _ _ x y => (fun x y => Tu.trans x y) x y) (Tu.refl (Fine O)) (by kernel_rfl) (by kernel_rfl) ?_
    intro K hK
    have hOq : ¬ Fine O q := fun e => by have := h.inn q e.owned; omega
    have c0 : ∀ y : Above (Tu (Fine O)) w3.drew, y.1.cell? ⟨q, 0, none⟩ = some (.int .i64 a) := fun y => ((b3.ext hxd).tu y.2 hOq).cell 0
    have c1 : ∀ y : Above (Tu (Fine O)) w3.drew, y.1.cell? ⟨q, 1, none⟩ = some (.int .i64 b) := fun y => ((b3.ext hxd).tu y.2 hOq).cell 1
    iterate 3 (
      refine plan_q (v := ?_) rfl rfl ?_ ?_
      rotate_left
      · intro x
        go_simp
        first | done | rfl
      simp only [Act.put, List.getElem_toArray, List.getElem_cons_zero, List.getElem_cons_succ, List.setIfInBounds_toArray, List.set_cons_zero, List.set_cons_succ])
    clear c0 c1
    refine plan_l rfl (by kernel_rfl) ?_
    intro K2 hK2
    go_simp
    refine (bclone_ty B row.length d 0 row w3.drew (hB.ext (hx13.trans hxd)) (by omega)).mono ?_
    rintro e w4 ⟨A', c', rfl, r4, r5, r6, ty4, hx4⟩
    go_simp
    refine hK2.out _ _ (Tu.of_ext hx4) ?_
    clear hK2 K2
    try simp only [Act.put, List.getElem_toArray, List.getElem_cons_zero, List.getElem_cons_succ, List.setIfInBounds_toArray, List.set_cons_zero, List.set_cons_succ]
    have hs3 : w.heap.size ≤ w3.drew.heap.size := (hx13.trans hxd).size
    refine plan_l rfl (by kernel_rfl) ?_
    intro K2 hK2
    go_simp
    refine (add_anyS w4 O n fm F g ((h3.ext hxd).ext hx4) a b hab (by omega) A' c' row (r4.low (Nat.zero_le _)) r5 r6 (by omega) (fun x e hp => ⟨?_, by obtain ⟨cs, z, qz, _⟩ := ty4 x e hp; exact ⟨cs, z, qz⟩⟩)).mono ?_
    · obtain ⟨kb, off, q1, q2, q3, _⟩ := r4.pos hp
      rw [e] at q1
      cases q1
      exact h.inn.none (show w.heap.size ≤ kb by omega)
    rintro e w5 ⟨rfl, hA⟩
    go_simp
    refine hK2.out _ _ (by obtain ⟨O', _, _, t⟩ := hA; exact t) ?_
    clear hK2 K2
    try simp only [Act.put, List.getElem_toArray, List.getElem_cons_zero, List.getElem_cons_succ, List.setIfInBounds_toArray, List.set_cons_zero, List.set_cons_succ]
    refine plan_end (hK.out _ _ ?_)
    clear hK K
    go_wp2_with fail
    go_ret
    exact ⟨rfl, AfterS.pre ((hx13.trans hxd).trans hx4) hA⟩
theorem send_any (w : World) (O : Ow) (n fm : Nat) (F : DataW Value) (g : NC) (h : NetX w O n fm F g) (a b : Int) (ha : (Lit.int .i64 a).wf = true) (hb : (Lit.int .i64 b).wf = true) (B : Option Addr) (d : Nat) (row : Row) (hB : Rd w 0 B row.length row) (hd : row.length ≤ maxLen) :
    Calls Try.prog 18 #[fptr n, .int .i64 a, .int .i64 b, .slice B row.length d] w fun e w' => e = .returned (.int .i64 (sendOut g a b row).1) ∧ After w w' O n (sendOut g a b row).2 :=
  (send_anyS w O n fm F g h a b ha hb B d row hB hd).mono fun _ _ ⟨h1, h2⟩ => ⟨h1, h2.to⟩
set_option maxRecDepth 100000 in
theorem send_no (w : World) (v : Value) (a b : Int) (s : Value) (h : NoNet w v) : Calls Try.prog 18 #[v, .int .i64 a, .int .i64 b, s] w fun e w' => e = .returned (.int .i64 1) ∧ Ext w w' := by
  have hx1 := (Ext.refl w).alloc (.cells #[.int .i64 a, .int .i64 b] 77)
  go_enter Try.func18, Try.ntmps18
  go_wp2_with fail
  refine (none_no _ v (h.ext hx1)).mono ?_
  rintro e w1 ⟨rfl, rfl⟩
  go_wp2_with fail
  go_ret
  exact ⟨rfl, hx1⟩
