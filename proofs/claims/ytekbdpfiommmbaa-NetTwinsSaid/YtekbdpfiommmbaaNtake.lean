/- Take, Double. Conditions: the net is in memory as told. -/
import Derived.Test.YtekbdpfiommmbaaNdrop
namespace Go.Proofs.Ytekbdpfiommmbaa
open Go.RowKit Go.Maps
set_option linter.unusedVariables false
set_option linter.unusedSimpArgs false
attribute [local go_sem] Oper.semAt_some

theorem Spot.lt {g : NC} {e : Nat} {p : Int} {k i : Nat} (h : Spot g e p k i) : p < (cntG g e (e * e) : Int) ∧ 0 ≤ p := by
  obtain ⟨h1, h2, h3⟩ := h
  have := cntG_succ g e k
  have := cntG_mono g e (e * e) (k + 1) (by omega)
  omega
theorem Spot.one {g : NC} {e : Nat} {p : Int} {k i k' i' : Nat} (h : Spot g e p k i) (h' : Spot g e p k' i') : k = k' ∧ i = i' := by
  obtain ⟨h1, h2, h3⟩ := h
  obtain ⟨q1, q2, q3⟩ := h'
  have a1 := cntG_succ g e k
  have a2 := cntG_succ g e k'
  rcases Nat.lt_trichotomy k k' with h | h | h
  · have := cntG_mono g e k' (k + 1) (by omega)
    omega
  · subst h
    omega
  · have := cntG_mono g e k (k' + 1) (by omega)
    omega
def RowIn (w w' : World) (row : Row) (A : Option Addr) (c : Nat) : Prop := Rd w' w.heap.size A row.length row ∧ row.length ≤ 1048576 ∧ row.length ≤ c ∧ c ≤ maxLen
def TakeE (g : NC) (e : Nat) (p : Int) (w w' : World) (O : Ow) (n : Nat) (x : Ending) : Prop :=
  (p < 0 ∧ x = .returned (.tuple #[.agg #[.int .i64 0, .int .i64 0, .slice none 0 0], .int .i64 2]) ∧ Ext w w') ∨ (0 ≤ p ∧ (cntG g e (e * e) : Int) ≤ p ∧ x = .returned (.tuple #[.agg #[.int .i64 0, .int .i64 0, .slice none 0 0], .int .i64 6]) ∧ Ext w w') ∨
    ∃ (k i : Nat) (hi : i < (g.L (ordAt e k).1 (ordAt e k).2).length) (A : Option Addr) (c : Nat), Spot g e p k i ∧ x = .returned (.tuple #[.agg #[.int .i64 (ordAt e k).1, .int .i64 (ordAt e k).2, .slice A (g.L (ordAt e k).1 (ordAt e k).2)[i].length c], .int .i64 0]) ∧
      RowIn w w' (g.L (ordAt e k).1 (ordAt e k).2)[i] A c ∧ AfterO w w' O n (g.del (ordAt e k).1 (ordAt e k).2 i)
theorem After.tuO {w w' : World} {O : Ow} {n : Nat} {g' : NC} (h : After w w' O n g') : Tu (Owned O) w w' := by
  obtain ⟨_, _, _, t⟩ := h
  exact t
/-- a block that holds no bytes, and is nobody's, turns: rows, lines, nets stay -/
theorem RowsAt.aside {w w' : World} {O : Ow} {cs : List Value} {rows : List Row} {q : Nat} {t : TypeId} {cq : Array Value} (h : RowsAt w O cs rows) (hb : Blk w q t cq) (hq : ∀ (j : Nat) (x : Int), cq[j]? ≠ some (.int .u8 x)) (T : Tu (fun b => b = q) w w') : RowsAt w' O cs rows := by
  refine ⟨h.1, fun i hi => ?_⟩
  obtain ⟨h1, A, c, h2, h3, h4, h5, h6⟩ := h.2 i hi
  have h6' : BO w' O A rows[i].length := fun x e hp => by
    obtain ⟨a1, cu, z, a2⟩ := h6 x e hp
    obtain ⟨k, off, q1, q2, q3, q4⟩ := h3.2.resolve_left (by omega)
    rw [q1] at e
    cases e
    refine ⟨a1, cu, z, (T.blk k q3 (fun e => ?_)).trans a2⟩
    have := q4 0 hp
    rw [e, hb.cell] at this
    exact hq _ _ this
  refine ⟨h1, A, c, h2, ?_, h4, h5, h6'⟩
  rcases Nat.eq_zero_or_pos rows[i].length with h0 | h0
  · exact ⟨h3.1, .inl h0⟩
  · obtain ⟨k, off, q1, q2, q3, q4⟩ := h3.2.resolve_left (by omega)
    have hkq : k ≠ q := fun e => by
      have := q4 0 h0
      rw [e, hb.cell] at this
      exact hq _ _ this
    refine ⟨h3.1, .inr ⟨k, off, q1, q2, Nat.lt_of_lt_of_le q3 T.size, fun j hj => ?_⟩⟩
    rw [World.cell?_of_block (w := w) (T.blk k q3 hkq)]
    exact q4 j hj
theorem NetX.aside {w w' : World} {O : Ow} {n fm : Nat} {F : DataW Value} {g : NC} {q : Nat} {t : TypeId} {cq : Array Value} (h : NetX w O n fm F g) (hb : Blk w q t cq) (hq : ∀ (j : Nat) (x : Int), cq[j]? ≠ some (.int .u8 x)) (hO : O q = none) (T : Tu (fun b => b = q) w w') : NetX w' O n fm F g := by
  obtain ⟨o1, o2, b3, m3, hc, hf, hk3, hl3, h03, h323, hO3⟩ := h
  have ne : ∀ k, O k ≠ none → k ≠ q := fun k hk e => hk (e ▸ hO)
  refine ⟨o1, o2, b3.tu T (ne n (by rw [o1]; simp)), m3.tu T (ne fm (by rw [o2]; simp)), hc, hf, hk3, fun a b hab => ?_, h03, h323, hO3.ext T.size⟩
  refine (hl3 a b hab).imp id ?_
  rintro ⟨v, cs, e, h1, h2, h3⟩
  refine ⟨v, cs, e, h1, ownsRow_blk h2 (fun k e => T.blk k (h2.lt k e).2 (ne k (by rw [h1 k e]; simp))), h3.aside hb hq T⟩
/-- blocks that are nobody's, and of no bytes, turn -/
theorem RowsAt.off {w w' : World} {O : Ow} {cs : List Value} {rows : List Row} {S : Nat → Prop} (h : RowsAt w O cs rows) (T : Tu S w w') (hS : ∀ k, S k → ∀ cu z, w.heap[k]? ≠ some (.cells cu 5 z)) : RowsAt w' O cs rows := by
  refine ⟨h.1, fun i hi => ?_⟩
  obtain ⟨h1, A, c, h2, h3, h4, h5, h6⟩ := h.2 i hi
  have h6' : BO w' O A rows[i].length := fun x e hp => by
    obtain ⟨a1, cu, z, a2⟩ := h6 x e hp
    exact ⟨a1, cu, z, (T.blk _ (Array.getElem?_eq_some_iff.1 a2).1 (fun e => hS _ e _ _ a2)).trans a2⟩
  refine ⟨h1, A, c, h2, ?_, h4, h5, h6'⟩
  rcases Nat.eq_zero_or_pos rows[i].length with h0 | h0
  · exact ⟨h3.1, .inl h0⟩
  · obtain ⟨k, off, q1, q2, q3, q4⟩ := h3.2.resolve_left (by omega)
    obtain ⟨a1, cu, z, a2⟩ := h6 _ q1 h0
    refine ⟨h3.1, .inr ⟨k, off, q1, q2, Nat.lt_of_lt_of_le q3 T.size, fun j hj => ?_⟩⟩
    rw [World.cell?_of_block (w := w) (T.blk k q3 (fun e => hS _ e _ _ a2))]
    exact q4 j hj
theorem NetX.off {w w' : World} {O : Ow} {n fm : Nat} {F : DataW Value} {g : NC} {S : Nat → Prop} (h : NetX w O n fm F g) (T : Tu S w w') (hO : ∀ k, S k → O k = none) (hS : ∀ k, S k → ∀ cu z, w.heap[k]? ≠ some (.cells cu 5 z)) : NetX w' O n fm F g := by
  obtain ⟨o1, o2, b3, m3, hc, hf, hk3, hl3, h03, h323, hO3⟩ := h
  have ne : ∀ k, O k ≠ none → ¬ S k := fun k hk e => hk (hO k e)
  refine ⟨o1, o2, b3.tu T (ne n (by rw [o1]; simp)), m3.tu T (ne fm (by rw [o2]; simp)), hc, hf, hk3, fun a b hab => ?_, h03, h323, hO3.ext T.size⟩
  refine (hl3 a b hab).imp id ?_
  rintro ⟨v, cs, e, h1, h2, h3⟩
  exact ⟨v, cs, e, h1, ownsRow_blk h2 (fun k e => T.blk k (h2.lt k e).2 (ne k (by rw [h1 k e]; simp))), h3.off T hS⟩
theorem AfterO.aside {w w' w'' : World} {O : Ow} {n : Nat} {g' : NC} {q : Nat} {t : TypeId} {cq : Array Value} (h : AfterO w w' O n g') (hb : Blk w' q t cq) (hq : ∀ (j : Nat) (x : Int), cq[j]? ≠ some (.int .u8 x)) (hO : O q = none) (T : Tu (fun b => b = q) w' w'') : NetAt w'' O n g' := by
  obtain ⟨⟨fm, F, h1⟩, h3⟩ := h
  exact ⟨fm, F, h1.aside hb hq hO T⟩
set_option maxRecDepth 100000 in
set_option maxHeartbeats 3200000 in
theorem take_any (w : World) (O : Ow) (n fm : Nat) (F : DataW Value) (g : NC) (h : NetX w O n fm F g) (e : Nat) (he : g.ends = (e : Int)) (p : Int) (hp : (Lit.int .i64 p).wf = true) :
    Calls Try.prog 23 #[fptr n, .int .i64 p] w fun x w' => TakeE g e p w w' O n x := by
  have hx1 := (Ext.refl w).alloc (.cells #[.int .i64 0, .int .i64 0, .slice none 0 0] 51)
  have b1 := Blk.new w 51 #[.int .i64 0, .int .i64 0, .slice none 0 0]
  have h1 := h.ext hx1
  go_enter Try.func23, Try.ntmps23
  go_wp2_with fail
  generalize w.alloc (.cells #[.int .i64 0, .int .i64 0, .slice none 0 0] 51) = w1 at *
  obtain ⟨q, hq⟩ : ∃ q, w.heap.size = q := ⟨_, rfl⟩
  rw [hq] at b1 ⊢
  refine (at_any w1 O n fm F g h1 e he p hp).mono ?_
  rintro x w2 ⟨hf, hx2⟩
  have hx12 := hx1.trans hx2
  have b2 := b1.ext hx2
  have hq1 := b1.lt
  have hq2 := hx2.size
  rcases hf with ⟨hn, rfl⟩ | ⟨hn, hn2, rfl⟩ | ⟨k, i, hk, hi, A, c, hp', rfl, hrow⟩
  · have xS := (Ext.refl w2).alloc (.cells #[.int .i64 0, .int .i64 0, .slice none 0 0] 51)
    have b3 := b2.ext xS
    have hx13 := hx12.trans xS
    have f0 := b3.free 0
    have f1 := b3.free 1
    have f2 := b3.free 2
    have s0 := b3.cell 0
    have s1 := b3.cell 1
    have s2 := b3.cell 2
    go_wp2_with fail
    have hb5 := ((b3.set_ 0 (.int .i64 0)).set_ 1 (.int .i64 0)).set_ 2 (.slice none 0 0)
    have T1 := ((hx13.setCell (p := ⟨q, 0, none⟩) (show w.heap.size ≤ q by omega) (.int .i64 0)).setCell (p := ⟨q, 1, none⟩) (show w.heap.size ≤ q by omega) (.int .i64 0)).setCell (p := ⟨q, 2, none⟩) (show w.heap.size ≤ q by omega) (.slice none 0 0)
    exact bodyPost_ret (results_fl2 rfl _ _ q rfl hb5) rfl (.inl ⟨hn, rfl, T1⟩)
  · have xS := (Ext.refl w2).alloc (.cells #[.int .i64 0, .int .i64 0, .slice none 0 0] 51)
    have b3 := b2.ext xS
    have hx13 := hx12.trans xS
    have f0 := b3.free 0
    have f1 := b3.free 1
    have f2 := b3.free 2
    have s0 := b3.cell 0
    have s1 := b3.cell 1
    have s2 := b3.cell 2
    go_wp2_with fail
    have hb5 := ((b3.set_ 0 (.int .i64 0)).set_ 1 (.int .i64 0)).set_ 2 (.slice none 0 0)
    have T1 := ((hx13.setCell (p := ⟨q, 0, none⟩) (show w.heap.size ≤ q by omega) (.int .i64 0)).setCell (p := ⟨q, 1, none⟩) (show w.heap.size ≤ q by omega) (.int .i64 0)).setCell (p := ⟨q, 2, none⟩) (show w.heap.size ≤ q by omega) (.slice none 0 0)
    exact bodyPost_ret (results_fl2 rfl _ _ q rfl hb5) rfl (.inr (.inl ⟨hn, hn2, rfl, T1⟩))
  · obtain ⟨rw', hrw⟩ : ∃ rw', (g.L (ordAt e k).1 (ordAt e k).2)[i] = rw' := ⟨_, rfl⟩
    have HR := Lib.hid hrw
    rw [hrw] at hrow ⊢
    clear hrw
    obtain ⟨la, hla⟩ : ∃ la, (ordAt e k).1 = la := ⟨_, rfl⟩
    obtain ⟨lb, hlb⟩ : ∃ lb, (ordAt e k).2 = lb := ⟨_, rfl⟩
    have HI := Lib.hid (And.intro hk (And.intro hi (And.intro hp' (And.intro hla hlb))))
    simp only [hla, hlb]
    clear hla hlb hk hp'
    have xS := (Ext.refl w2).alloc (.cells #[.int .i64 la, .int .i64 lb, .slice A rw'.length c] 51)
    have bS := Blk.new w2 51 #[.int .i64 la, .int .i64 lb, .slice A rw'.length c]
    have b3 := b2.ext xS
    have hx13 := hx12.trans xS
    have r3 := hrow.1.ext xS
    go_wp2_with fail
    obtain ⟨q2, hq2'⟩ : ∃ q2, w2.heap.size = q2 := ⟨_, rfl⟩
    rw [hq2'] at bS ⊢
    generalize w2.alloc (.cells #[.int .i64 la, .int .i64 lb, .slice A rw'.length c] 51) = w3 at *
    have hxd := (Ext.refl w3).drew
    have hx14 := hx13.trans hxd
    have h4 := ((h1.ext hx2).ext xS).ext hxd
    have hO := h.inn
    have hS0 : ∀ k, Owned O k → k ≠ q ∧ k ≠ q2 := fun k hk => by have := hO k hk; omega
    have hOq : ¬ Owned O q := fun e => (hS0 q e).1 rfl
    have hOq2 : ¬ Owned O q2 := fun e => (hS0 q2 e).2 rfl
    refine wp_region_plan (Tu (fun k => Owned O k ∨ k = q)) [(0, true), (1, true), (2, true), (3, false), (4, false), (5, true)] (fun _ _ _ x y => (fun x y => Tu.trans x y) x y) (Tu.refl (fun k => Owned O k ∨ k = q)) (by kernel_rfl) (by kernel_rfl) ?_
    intro K hK
    have nq2 : ¬ (Owned O q2 ∨ q2 = q) := by rintro (e | e); exact hOq2 e; omega
    have s0 : ∀ y : Above (Tu (fun k => Owned O k ∨ k = q)) w3.drew, y.1.cell? ⟨q2, 0, none⟩ = some (.int .i64 la) := fun y => ((bS.ext hxd).tu y.2 nq2).cell 0
    have s1 : ∀ y : Above (Tu (fun k => Owned O k ∨ k = q)) w3.drew, y.1.cell? ⟨q2, 1, none⟩ = some (.int .i64 lb) := fun y => ((bS.ext hxd).tu y.2 nq2).cell 1
    have s2 : ∀ y : Above (Tu (fun k => Owned O k ∨ k = q)) w3.drew, y.1.cell? ⟨q2, 2, none⟩ = some (.slice A rw'.length c) := fun y => ((bS.ext hxd).tu y.2 nq2).cell 2
    iterate 3 (
      refine plan_q (v := ?_) rfl rfl ?_ ?_
      rotate_left
      · intro x
        go_simp
        first | done | rfl
      simp only [Act.put, List.getElem_toArray, List.getElem_cons_zero, List.getElem_cons_succ, List.setIfInBounds_toArray, List.set_cons_zero, List.set_cons_succ])
    clear s0 s1 s2
    have b4 := b3.ext hxd
    have r4 := r3.ext hxd
    generalize w3.drew = w4 at *
    refine plan_l rfl (by kernel_rfl) ?_
    intro K2 hK2
    go_simp
    refine (drop_any w4 O n fm F g h4 e he p hp).mono ?_
    rintro x w5 (⟨q1, _, _⟩ | ⟨_, q1, _, _⟩ | ⟨k', i', hsp, rfl, hA⟩)
    · exfalso
      obtain ⟨hk, hi', hp', -, -⟩ := HI.out
      have := Spot.lt (g := g) (e := e) (p := p) (k := k) (i := i) ⟨hk, hi', hp'⟩
      omega
    · exfalso
      obtain ⟨hk, hi', hp', -, -⟩ := HI.out
      have := Spot.lt (g := g) (e := e) (p := p) (k := k) (i := i) ⟨hk, hi', hp'⟩
      omega
    go_simp
    have TA := hA.2
    refine hK2.out _ _ (TA.mono (fun k e => .inl e)) ?_
    clear hK2 K2
    try simp only [Act.put, List.getElem_toArray, List.getElem_cons_zero, List.getElem_cons_succ, List.setIfInBounds_toArray, List.set_cons_zero, List.set_cons_succ]
    have b5 := b4.tu TA hOq
    have f0 := b5.free 0
    have f1 := b5.free 1
    have f2 := b5.free 2
    have s0 := b5.cell 0
    have s1 := b5.cell 1
    have s2 := b5.cell 2
    have hb7 := ((b5.set_ 0 (.int .i64 la)).set_ 1 (.int .i64 lb)).set_ 2 (.slice A rw'.length c)
    have T7 : Tu (fun b => b = q) w5 (((w5.setCell ⟨q, 0, none⟩ (.int .i64 la)).setCell ⟨q, 1, none⟩ (.int .i64 lb)).setCell ⟨q, 2, none⟩ (.slice A rw'.length c)) :=
      ((Tu.of_grown (setCell_grownBy _ _ _) (by rintro k e; cases e; rfl)).trans (Tu.of_grown (setCell_grownBy _ _ _) (by rintro k e; cases e; rfl))).trans (Tu.of_grown (setCell_grownBy _ _ _) (by rintro k e; cases e; rfl))
    refine plan_l rfl (by kernel_rfl) ?_
    intro K2 hK2
    go_simp
    refine hK2.out _ _ (T7.mono (fun k e => .inr e)) ?_
    clear hK2 K2
    try simp only [Act.put, List.getElem_toArray, List.getElem_cons_zero, List.getElem_cons_succ, List.setIfInBounds_toArray, List.set_cons_zero, List.set_cons_succ]
    iterate 1 (
      refine plan_q (v := ?_) rfl rfl ?_ ?_
      rotate_left
      · intro x
        go_simp
        first | done | rfl
      simp only [Act.put, List.getElem_toArray, List.getElem_cons_zero, List.getElem_cons_succ, List.setIfInBounds_toArray, List.set_cons_zero, List.set_cons_succ])
    refine plan_end (hK.out _ _ ?_)
    clear hK K
    go_wp2_with fail
    obtain ⟨hk, hi', hp', hla, hlb⟩ := HI.out
    have hsp0 : Spot g e p k i := ⟨hk, hi', hp'⟩
    obtain ⟨rfl, rfl⟩ := hsp0.one hsp
    refine bodyPost_ret (results_fl2 rfl _ _ q rfl hb7) rfl (.inr (.inr ⟨k, i, hi', A, c, hsp0, ?_, ?_, ?_⟩))
    · rw [HR.out]
      simp only [hla, hlb]
      rfl
    · rw [HR.out]
      have hs1 := hx1.size
      exact ⟨((r4.farT TA (fun j e => by have := hO j e; omega)).farT T7 (fun j e => by omega)).low (by omega), hrow.2.1, hrow.2.2.1, hrow.2.2.2⟩
    · have hOq' : O q = none := hO.none (by omega)
      have hq4 : q < w4.heap.size := b4.lt
      exact ⟨hA.aside b5 (by intro j x; rcases j with _ | _ | _ | j <;> simp) hOq' T7, ((Tu.of_ext hx14).trans TA).then_ T7 (fun k h1 h2 => by omega)⟩
