/- Double. Conditions: the net is in memory as told. -/
import Derived.Test.YtekbdpfiommmbaaNtake
namespace Go.Proofs.Ytekbdpfiommmbaa
open Go.RowKit Go.Maps
set_option linter.unusedVariables false
set_option linter.unusedSimpArgs false
attribute [local go_sem] Oper.semAt_some

def DblE (g : NC) (e : Nat) (p : Int) (w w' : World) (O : Ow) (n : Nat) (x : Ending) : Prop :=
  (p < 0 ∧ x = .returned (.int .i64 2) ∧ Ext w w') ∨ (0 ≤ p ∧ (cntG g e (e * e) : Int) ≤ p ∧ x = .returned (.int .i64 6) ∧ Ext w w') ∨
    ∃ (k i : Nat) (hi : i < (g.L (ordAt e k).1 (ordAt e k).2).length), Spot g e p k i ∧ ((32 ≤ (g.L (ordAt e k).1 (ordAt e k).2).length ∧ x = .returned (.int .i64 5) ∧ Ext w w') ∨
      ((g.L (ordAt e k).1 (ordAt e k).2).length < 32 ∧ x = .returned (.int .i64 0) ∧ After w w' O n (g.put (ordAt e k).1 (ordAt e k).2 (g.L (ordAt e k).1 (ordAt e k).2 ++ [(g.L (ordAt e k).1 (ordAt e k).2)[i]]))))
set_option maxRecDepth 100000 in
set_option maxHeartbeats 3200000 in
theorem double_any (w : World) (O : Ow) (n fm : Nat) (F : DataW Value) (g : NC) (h : NetX w O n fm F g) (e : Nat) (he : g.ends = (e : Int)) (p : Int) (hp : (Lit.int .i64 p).wf = true) :
    Calls Try.prog 22 #[fptr n, .int .i64 p] w fun x w' => DblE g e p w w' O n x := by
  go_enter Try.func22, Try.ntmps22
  go_wp2_with fail
  refine (find_any w O n fm F g h e he p hp).mono ?_
  rintro x w2 ⟨hf, hx2⟩
  rcases hf with ⟨hn, rfl⟩ | ⟨hn, hn2, rfl⟩ | ⟨k, i, hk, hi, hp', rfl⟩
  · have xS := (Ext.refl w2).alloc (.cells #[.int .i64 0, .int .i64 0, .int .i64 0] 82)
    go_wp2_with fail
    go_ret
    exact .inl ⟨hn, rfl, hx2.trans xS⟩
  · have xS := (Ext.refl w2).alloc (.cells #[.int .i64 0, .int .i64 0, .int .i64 0] 82)
    go_wp2_with fail
    go_ret
    exact .inr (.inl ⟨hn, hn2, rfl, hx2.trans xS⟩)
  · have xS := (Ext.refl w2).alloc (.cells #[.int .i64 (ordAt e k).1, .int .i64 (ordAt e k).2, .int .i64 i] 82)
    have hgk := ok_ord h hi
    have h3 := (h.ext hx2).ext xS
    have hx3 := hx2.trans xS
    have bS := Blk.new w2 82 #[.int .i64 (ordAt e k).1, .int .i64 (ordAt e k).2, .int .i64 i]
    go_upto_region 3 with fail
    obtain ⟨q2, hq2'⟩ : ∃ q2, w2.heap.size = q2 := ⟨_, rfl⟩
    rw [hq2'] at bS ⊢
    generalize w2.alloc (.cells #[.int .i64 (ordAt e k).1, .int .i64 (ordAt e k).2, .int .i64 i] 82) = w3 at *
    obtain ⟨la, hla⟩ : ∃ la, (ordAt e k).1 = la := ⟨_, rfl⟩
    obtain ⟨lb, hlb⟩ : ∃ lb, (ordAt e k).2 = lb := ⟨_, rfl⟩
    have HI := Lib.hid (And.intro hk (And.intro hi (And.intro hp' (And.intro hla hlb))))
    simp only [hla, hlb] at bS hgk hi ⊢
    clear hla hlb hk hp'
    obtain ⟨ha, hb⟩ := ok_wf g h.endsb.2 hgk
    have c0 := bS.cell 0
    have c1 := bS.cell 1
    go_wp2_with fail
    refine (full_any w3 O n fm F g h3 la lb ha hb).mono ?_
    rintro x w4 ⟨rfl, hx4⟩
    clear c0 c1
    have h4 := h3.ext hx4
    have bS4 := bS.ext hx4
    have hx14 := hx3.trans hx4
    by_cases hfu : (32 : Int) ≤ ((g.L la lb).length : Int)
    · rw [decide_eq_true hfu]
      go_wp2_with fail
      go_ret
      obtain ⟨hk, hi', hp', hla, hlb⟩ := HI.out
      refine .inr (.inr ⟨k, i, hi', ⟨hk, hi', hp'⟩, .inl ⟨?_, rfl, hx14⟩⟩)
      simp only [hla, hlb]
      omega
    · rw [decide_eq_false hfu]
      go_wp2_with fail
      have hxd := (Ext.refl w4).drew
      have hOq : ¬ Owned O q2 := fun e => by have := h.inn q2 e; have := hx2.size; omega
      refine wp_region_plan (Tu (Owned O)) [(0, true), (1, true), (2, true), (3, true), (4, true), (5, false), (6, false)] (fun _ _ _ x y => (fun x y => Tu.trans x y) x y) (Tu.refl (Owned O)) (by kernel_rfl) (by kernel_rfl) ?_
      intro K hK
      have s0 : ∀ y : Above (Tu (Owned O)) w4.drew, y.1.cell? ⟨q2, 0, none⟩ = some (.int .i64 la) := fun y => ((bS4.ext hxd).tu y.2 hOq).cell 0
      have s1 : ∀ y : Above (Tu (Owned O)) w4.drew, y.1.cell? ⟨q2, 1, none⟩ = some (.int .i64 lb) := fun y => ((bS4.ext hxd).tu y.2 hOq).cell 1
      have s2 : ∀ y : Above (Tu (Owned O)) w4.drew, y.1.cell? ⟨q2, 2, none⟩ = some (.int .i64 i) := fun y => ((bS4.ext hxd).tu y.2 hOq).cell 2
      iterate 5 (
        refine plan_q (v := ?_) rfl rfl ?_ ?_
        rotate_left
        · intro x
          go_simp
          first | done | rfl
        simp only [Act.put, List.getElem_toArray, List.getElem_cons_zero, List.getElem_cons_succ, List.setIfInBounds_toArray, List.set_cons_zero, List.set_cons_succ])
      clear s0 s1 s2
      have h5 := h4.ext hxd
      have hx15 := hx14.trans hxd
      generalize w4.drew = w5 at *
      refine plan_l rfl (by kernel_rfl) ?_
      intro K2 hK2
      go_simp
      refine (own_any w5 O n fm F g h5 la lb hgk i hi).mono ?_
      rintro x w6 ⟨A6, c6, rfl, ⟨r6, l20, o5, o6, o7⟩, hx6⟩
      go_simp
      refine hK2.out _ _ (Tu.of_ext hx6) ?_
      clear hK2 K2
      try simp only [Act.put, List.getElem_toArray, List.getElem_cons_zero, List.getElem_cons_succ, List.setIfInBounds_toArray, List.set_cons_zero, List.set_cons_succ]
      refine plan_l rfl (by kernel_rfl) ?_
      intro K2 hK2
      go_simp
      refine (add_any w6 O n fm F g (h5.ext hx6) la lb hgk (by omega) A6 c6 _ r6 o5 o6 l20 o7).mono ?_
      rintro x w7 ⟨rfl, hA⟩
      go_simp
      refine hK2.out _ _ hA.tuO ?_
      clear hK2 K2
      try simp only [Act.put, List.getElem_toArray, List.getElem_cons_zero, List.getElem_cons_succ, List.setIfInBounds_toArray, List.set_cons_zero, List.set_cons_succ]
      refine plan_end (hK.out _ _ ?_)
      clear hK K
      go_wp2_with fail
      go_ret
      obtain ⟨hk, hi', hp', hla, hlb⟩ := HI.out
      refine .inr (.inr ⟨k, i, hi', ⟨hk, hi', hp'⟩, .inr ⟨?_, rfl, ?_⟩⟩)
      · simp only [hla, hlb]
        omega
      · simp only [hla, hlb]
        exact After.pre (hx15.trans hx6) hA
