/- own, At, Drop, Take, Double. Conditions: the net is in memory as told. -/
import Derived.Test.YtekbdpfiommmbaaNfind
namespace Go.Proofs.Ytekbdpfiommmbaa
open Go.RowKit Go.Maps
set_option linter.unusedVariables false
set_option linter.unusedSimpArgs false
attribute [local go_sem] Oper.semAt_some

def OwnP (w : World) (O : Ow) (row : Row) (A : Option Addr) (c : Nat) : Prop := Rd w 0 A row.length row ∧ row.length ≤ 1048576 ∧ row.length ≤ c ∧ c ≤ maxLen ∧ BO w O A row.length
theorem row_cells {w : World} {t : TypeId} {A : Option Addr} {n c : Nat} {cs : List Value} (h : w.ownsRow 0 t 1 (.slice A n c) n cs) (hn : 0 < n) : ∃ rb, A = some ⟨rb, 0, none⟩ ∧ ∀ (j : Nat) (u : Value), cs[j]? = some u → w.cell? ⟨rb, j, none⟩ = some u := by
  rcases h.2 with ⟨q1, q2⟩ | ⟨gb, cap2, cur2, q1, _⟩
  · omega
  · injection q1 with q1 _ _
    refine ⟨gb, q1, fun j u hu => ?_⟩
    have := h.cells (g := gb) (by rw [q1]; rfl) j u hu
    have hadd : (⟨gb, 0, none⟩ : Addr).add j = ⟨gb, j, none⟩ := by unfold Addr.add; split <;> simp_all
    rwa [hadd] at this
set_option maxRecDepth 100000 in
set_option maxHeartbeats 3200000 in
theorem own_any (w : World) (O : Ow) (n fm : Nat) (F : DataW Value) (g : NC) (h : NetX w O n fm F g) (a b : Int) (hab : g.ok a b) (i : Nat) (hi : i < (g.L a b).length) :
    Calls Try.prog 49 #[fptr n, spotV a b i] w fun e w' => ∃ A c, e = .returned (.slice A (g.L a b)[i].length c) ∧ OwnP w' O (g.L a b)[i] A c ∧ Ext w w' := by
  obtain ⟨ha, hb⟩ := ok_wf g h.endsb.2 hab
  have hx1 := (Ext.refl w).alloc (.cells #[.int .i64 a, .int .i64 b, .int .i64 i] 82)
  have b1 := Blk.new w 82 #[.int .i64 a, .int .i64 b, .int .i64 i]
  have h1 := h.ext hx1
  go_enter Try.func49, Try.ntmps49
  go_upto_region 1 with fail
  generalize w.alloc (.cells #[.int .i64 a, .int .i64 b, .int .i64 i] 82) = w1 at *
  obtain ⟨q, hq⟩ : ∃ q, w.heap.size = q := ⟨_, rfl⟩
  rw [hq] at b1 ⊢
  have hxd := (Ext.refl w1).drew
  refine wp_region_plan Ext [(0, true), (1, true), (2, true), (3, true), (4, true), (5, true), (7, true), (8, true), (6, false), (9, true), (10, true), (11, true)] (fun _ _ _ x y => Ext.trans x y) Ext.refl (by kernel_rfl) (by kernel_rfl) ?_
  intro K hK
  have cn : ∀ y : Above Ext w1.drew, y.1.cell? ⟨n, 1, none⟩ = some (.map (some fm)) := fun y => ((h1.ext hxd).ext y.2).blk.cell 1
  have c0 : ∀ y : Above Ext w1.drew, y.1.cell? ⟨q, 0, none⟩ = some (.int .i64 a) := fun y => ((b1.ext hxd).ext y.2).cell 0
  have c1 : ∀ y : Above Ext w1.drew, y.1.cell? ⟨q, 1, none⟩ = some (.int .i64 b) := fun y => ((b1.ext hxd).ext y.2).cell 1
  have c2 : ∀ y : Above Ext w1.drew, y.1.cell? ⟨q, 2, none⟩ = some (.int .i64 i) := fun y => ((b1.ext hxd).ext y.2).cell 2
  iterate 8 (
    refine plan_q (v := ?_) rfl rfl ?_ ?_
    rotate_left
    · intro x
      go_simp
      first | done | rfl
    simp only [Act.put, List.getElem_toArray, List.getElem_cons_zero, List.getElem_cons_succ, List.setIfInBounds_toArray, List.set_cons_zero, List.set_cons_succ])
  clear cn c0 c1 c2
  have h2 := h1.ext hxd
  generalize w1.drew = w2 at *
  have hx12 := hx1.trans hxd
  obtain ⟨v, cs, hk, hrow, hR, A, c, rfl⟩ := h2.look ha hb
  obtain ⟨hl20, A', c', q1, q2, q3, q4, q5⟩ := hR.2 i hi
  refine plan_l rfl (by kernel_rfl) ?_
  intro K2 hK2
  go_simp
  refine hK2.out _ _ (Ext.refl _) ?_
  clear hK2 K2
  try simp only [Act.put, List.getElem_toArray, List.getElem_cons_zero, List.getElem_cons_succ, List.setIfInBounds_toArray, List.set_cons_zero, List.set_cons_succ]
  obtain ⟨rb, rfl, hrb⟩ := row_cells hrow (by omega)
  have dE : ∀ y : Above Ext w2, y.1.cell? ⟨rb, i, none⟩ = some (.slice A' (g.L a b)[i].length c') := fun y => y.2.cellSome (hrb i _ q1)
  obtain ⟨ln, hln⟩ : ∃ ln, (g.L a b).length = ln := ⟨_, rfl⟩
  have hii : (i : Int) < (ln : Int) := by omega
  clear hk
  iterate 3 (
    refine plan_q (v := ?_) rfl rfl ?_ ?_
    rotate_left
    · intro x
      go_simp
      first | done | rfl
    simp only [Act.put, List.getElem_toArray, List.getElem_cons_zero, List.getElem_cons_succ, List.setIfInBounds_toArray, List.set_cons_zero, List.set_cons_succ])
  refine plan_end (hK.out _ _ ?_)
  clear hK K
  go_wp2_with fail
  go_ret
  exact ⟨A', c', rfl, ⟨q2, hl20, q3, q4, q5⟩, hx12⟩

theorem results_fl2 {fn : Func} {p u : Tmp} (h : fn.results = #[.cell p 51, .tmp u]) (tmps : Array Value) (w : World) (g : Nat) {a b c : Value} (hp : tmps.getD p undef = fptr g) (hb : Blk w g 51 #[a, b, c]) :
    (results fn tmps).run Try.prog w = .ok (.tuple #[.agg #[a, b, c], tmps.getD u undef]) w := by
  have hp' : tmps[p]?.getD undef = fptr g := by simpa using hp
  have h0 := hb.cell 0
  have h1 := hb.cell 1
  have h2 := hb.cell 2
  simp [results, h, hp', asAddr, go_sem, Result.andThen, h0, h1, h2]
/-- what At answers -/
def AtE (g : NC) (e : Nat) (p : Int) (w w' : World) (x : Ending) : Prop :=
  (p < 0 ∧ x = .returned (.tuple #[.agg #[.int .i64 0, .int .i64 0, .slice none 0 0], .int .i64 2])) ∨ (0 ≤ p ∧ (cntG g e (e * e) : Int) ≤ p ∧ x = .returned (.tuple #[.agg #[.int .i64 0, .int .i64 0, .slice none 0 0], .int .i64 6])) ∨
    ∃ (k i : Nat) (hk : k < e * e) (hi : i < (g.L (ordAt e k).1 (ordAt e k).2).length) (A : Option Addr) (c : Nat), p = ((cntG g e k + i : Nat) : Int) ∧ x = .returned (.tuple #[.agg #[.int .i64 (ordAt e k).1, .int .i64 (ordAt e k).2, .slice A (g.L (ordAt e k).1 (ordAt e k).2)[i].length c], .int .i64 0]) ∧
      Rd w' w.heap.size A (g.L (ordAt e k).1 (ordAt e k).2)[i].length (g.L (ordAt e k).1 (ordAt e k).2)[i] ∧ (g.L (ordAt e k).1 (ordAt e k).2)[i].length ≤ 1048576 ∧ (g.L (ordAt e k).1 (ordAt e k).2)[i].length ≤ c ∧ c ≤ maxLen
theorem ok_ord {w : World} {O : Ow} {n fm : Nat} {F : DataW Value} {g : NC} (h : NetX w O n fm F g) {a b : Int} {i : Nat} (hi : i < (g.L a b).length) : g.ok a b := by
  by_cases hab : g.ok a b
  · exact hab
  · rw [h.2.2.2.2.2.2.2.2.1 a b hab] at hi
    simp at hi
set_option maxRecDepth 100000 in
set_option maxHeartbeats 3200000 in
theorem at_any (w : World) (O : Ow) (n fm : Nat) (F : DataW Value) (g : NC) (h : NetX w O n fm F g) (e : Nat) (he : g.ends = (e : Int)) (p : Int) (hp : (Lit.int .i64 p).wf = true) :
    Calls Try.prog 21 #[fptr n, .int .i64 p] w fun x w' => AtE g e p w w' x ∧ Ext w w' := by
  have hx1 := (Ext.refl w).alloc (.cells #[.int .i64 0, .int .i64 0, .slice none 0 0] 51)
  have b1 := Blk.new w 51 #[.int .i64 0, .int .i64 0, .slice none 0 0]
  have h1 := h.ext hx1
  go_enter Try.func21, Try.ntmps21
  go_wp2_with fail
  generalize w.alloc (.cells #[.int .i64 0, .int .i64 0, .slice none 0 0] 51) = w1 at *
  obtain ⟨q, hq⟩ : ∃ q, w.heap.size = q := ⟨_, rfl⟩
  rw [hq] at b1 ⊢
  refine (find_any w1 O n fm F g h1 e he p hp).mono ?_
  rintro x w2 ⟨hf, hx2⟩
  have hx12 := hx1.trans hx2
  have b2 := b1.ext hx2
  have hq1 := b1.lt
  have hq2 := hx2.size
  rcases hf with ⟨hn, rfl⟩ | ⟨hn, hn2, rfl⟩ | ⟨k, i, hk, hi, hp', rfl⟩
  · have xS := (Ext.refl w2).alloc (.cells #[.int .i64 0, .int .i64 0, .int .i64 0] 82)
    have b3 := b2.ext xS
    have hx13 := hx12.trans xS
    have f0 := b3.free 0
    have f1 := b3.free 1
    have f2 := b3.free 2
    have s0 := b3.cell 0
    have s1 := b3.cell 1
    have s2 := b3.cell 2
    go_wp2_with fail
    have hb5 := ((b3.set_ 0 (.int .i64 0)).set_ 1 (.int .i64 0)).set_ 2 (.slice none 0 0)
    have T1 := ((hx13.setCell (p := ⟨q, 0, none⟩) (show w.heap.size ≤ q by omega) (.int .i64 0)).setCell (p := ⟨q, 1, none⟩) (show w.heap.size ≤ q by omega) (.int .i64 0)).setCell (p := ⟨q, 2, none⟩) (show w.heap.size ≤ q by omega) (.slice none 0 0)
    exact bodyPost_ret (results_fl2 rfl _ _ q rfl hb5) rfl ⟨.inl ⟨hn, rfl⟩, T1⟩
  · have xS := (Ext.refl w2).alloc (.cells #[.int .i64 0, .int .i64 0, .int .i64 0] 82)
    have b3 := b2.ext xS
    have hx13 := hx12.trans xS
    have f0 := b3.free 0
    have f1 := b3.free 1
    have f2 := b3.free 2
    have s0 := b3.cell 0
    have s1 := b3.cell 1
    have s2 := b3.cell 2
    go_wp2_with fail
    have hb5 := ((b3.set_ 0 (.int .i64 0)).set_ 1 (.int .i64 0)).set_ 2 (.slice none 0 0)
    have T1 := ((hx13.setCell (p := ⟨q, 0, none⟩) (show w.heap.size ≤ q by omega) (.int .i64 0)).setCell (p := ⟨q, 1, none⟩) (show w.heap.size ≤ q by omega) (.int .i64 0)).setCell (p := ⟨q, 2, none⟩) (show w.heap.size ≤ q by omega) (.slice none 0 0)
    exact bodyPost_ret (results_fl2 rfl _ _ q rfl hb5) rfl ⟨.inr (.inl ⟨hn, hn2, rfl⟩), T1⟩
  · have xS := (Ext.refl w2).alloc (.cells #[.int .i64 (ordAt e k).1, .int .i64 (ordAt e k).2, .int .i64 i] 82)
    have b3 := b2.ext xS
    have hx13 := hx12.trans xS
    have hgk := ok_ord h hi
    have h3 := (h1.ext hx2).ext xS
    have bS := Blk.new w2 82 #[.int .i64 (ordAt e k).1, .int .i64 (ordAt e k).2, .int .i64 i]
    go_wp2_with fail
    obtain ⟨q2, hq2'⟩ : ∃ q2, w2.heap.size = q2 := ⟨_, rfl⟩
    rw [hq2'] at bS ⊢
    generalize w2.alloc (.cells #[.int .i64 (ordAt e k).1, .int .i64 (ordAt e k).2, .int .i64 i] 82) = w3 at *
    obtain ⟨la, hla⟩ : ∃ la, (ordAt e k).1 = la := ⟨_, rfl⟩
    obtain ⟨lb, hlb⟩ : ∃ lb, (ordAt e k).2 = lb := ⟨_, rfl⟩
    have HI := Lib.hid (And.intro hi (And.intro hla hlb))
    simp only [hla, hlb] at bS hgk hi ⊢
    clear hla hlb
    have hxd := (Ext.refl w3).drew
    have hx14 := hx13.trans hxd
    refine wp_region_plan (Tu (fun b => b = q)) [(0, true), (1, true), (2, true), (3, true), (4, true), (5, true), (6, true), (7, true), (8, false), (9, true), (10, false), (11, false), (12, true)] (fun _ _ _ x y => (fun x y => Tu.trans x y) x y) (Tu.refl (fun b => b = q)) (by kernel_rfl) (by kernel_rfl) ?_
    intro K hK
    have s0 : ∀ y : Above (Tu (fun b => b = q)) w3.drew, y.1.cell? ⟨q2, 0, none⟩ = some (.int .i64 la) := fun y => ((bS.ext hxd).tu y.2 (by omega)).cell 0
    have s1 : ∀ y : Above (Tu (fun b => b = q)) w3.drew, y.1.cell? ⟨q2, 1, none⟩ = some (.int .i64 lb) := fun y => ((bS.ext hxd).tu y.2 (by omega)).cell 1
    have s2 : ∀ y : Above (Tu (fun b => b = q)) w3.drew, y.1.cell? ⟨q2, 2, none⟩ = some (.int .i64 i) := fun y => ((bS.ext hxd).tu y.2 (by omega)).cell 2
    iterate 8 (
      refine plan_q (v := ?_) rfl rfl ?_ ?_
      rotate_left
      · intro x
        go_simp
        first | done | rfl
      simp only [Act.put, List.getElem_toArray, List.getElem_cons_zero, List.getElem_cons_succ, List.setIfInBounds_toArray, List.set_cons_zero, List.set_cons_succ])
    clear s0 s1 s2
    have h4 := h3.ext hxd
    have b4 := b3.ext hxd
    generalize w3.drew = w4 at *
    refine plan_l rfl (by kernel_rfl) ?_
    intro K2 hK2
    go_simp
    refine (own_any w4 O n fm F g h4 la lb hgk i hi).mono ?_
    rintro ee w5 ⟨A5, c5, rfl, ⟨r5, l20, o5, o6, o7⟩, hx5⟩
    go_simp
    refine hK2.out _ _ (Tu.of_ext hx5) ?_
    clear hK2 K2
    try simp only [Act.put, List.getElem_toArray, List.getElem_cons_zero, List.getElem_cons_succ, List.setIfInBounds_toArray, List.set_cons_zero, List.set_cons_succ]
    iterate 1 (
      refine plan_q (v := ?_) rfl rfl ?_ ?_
      rotate_left
      · intro x
        go_simp
        first | done | rfl
      simp only [Act.put, List.getElem_toArray, List.getElem_cons_zero, List.getElem_cons_succ, List.setIfInBounds_toArray, List.set_cons_zero, List.set_cons_succ])
    refine plan_l rfl (by kernel_rfl) ?_
    intro K2 hK2
    go_simp
    refine (told_any w5 la lb A5 (g.L la lb)[i].length c5 0 _ r5 (by omega)).mono ?_
    rintro ee w6 ⟨A6, c6, rfl, r6, o8, o9, hx6⟩
    go_simp
    refine hK2.out _ _ (Tu.of_ext hx6) ?_
    clear hK2 K2
    try simp only [Act.put, List.getElem_toArray, List.getElem_cons_zero, List.getElem_cons_succ, List.setIfInBounds_toArray, List.set_cons_zero, List.set_cons_succ]
    have b6 := (b4.ext hx5).ext hx6
    have hx16 := (hx14.trans hx5).trans hx6
    have f0 := b6.free 0
    have f1 := b6.free 1
    have f2 := b6.free 2
    have s0 := b6.cell 0
    have s1 := b6.cell 1
    have s2 := b6.cell 2
    have hb7 := ((b6.set_ 0 (.int .i64 la)).set_ 1 (.int .i64 lb)).set_ 2 (.slice A6 (g.L la lb)[i].length c6)
    have T7 : Tu (fun b => b = q) w6 (((w6.setCell ⟨q, 0, none⟩ (.int .i64 la)).setCell ⟨q, 1, none⟩ (.int .i64 lb)).setCell ⟨q, 2, none⟩ (.slice A6 (g.L la lb)[i].length c6)) :=
      ((Tu.of_grown (setCell_grownBy _ _ _) (by rintro k e; cases e; rfl)).trans (Tu.of_grown (setCell_grownBy _ _ _) (by rintro k e; cases e; rfl))).trans (Tu.of_grown (setCell_grownBy _ _ _) (by rintro k e; cases e; rfl))
    refine plan_l rfl (by kernel_rfl) ?_
    intro K2 hK2
    go_simp
    refine hK2.out _ _ T7 ?_
    clear hK2 K2
    try simp only [Act.put, List.getElem_toArray, List.getElem_cons_zero, List.getElem_cons_succ, List.setIfInBounds_toArray, List.set_cons_zero, List.set_cons_succ]
    iterate 1 (
      refine plan_q (v := ?_) rfl rfl ?_ ?_
      rotate_left
      · intro x
        go_simp
        first | done | rfl
      simp only [Act.put, List.getElem_toArray, List.getElem_cons_zero, List.getElem_cons_succ, List.setIfInBounds_toArray, List.set_cons_zero, List.set_cons_succ])
    refine plan_end (hK.out _ _ ?_)
    clear hK K
    go_wp2_with fail
    have hsz5 := ((hx14.trans hx5)).size
    have hs14 := (xS.trans hxd).size
    have hs45 := hx5.size
    have r8 := r6.farT T7 (fun j e => by omega)
    obtain ⟨hi', hla, hlb⟩ := HI.out
    refine bodyPost_ret (results_fl2 rfl _ _ q rfl hb7) rfl ⟨.inr (.inr ⟨k, i, hk, hi', A6, c6, hp', ?_, ?_⟩), T7.ext_of hx16 (fun j e => by omega)⟩
    · simp only [hla, hlb]
      rfl
    · simp only [hla, hlb]
      exact ⟨r8.low (by omega), l20, o8, o9⟩
