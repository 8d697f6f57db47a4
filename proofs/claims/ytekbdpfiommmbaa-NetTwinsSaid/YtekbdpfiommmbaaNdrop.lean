/- Drop, Take. Conditions: the net is in memory as told. -/
import Derived.Test.YtekbdpfiommmbaaNown
import Derived.Test.YtekbdpfiommmbaaNdel
namespace Go.Proofs.Ytekbdpfiommmbaa
open Go.RowKit Go.Maps
set_option linter.unusedVariables false
set_option linter.unusedSimpArgs false
attribute [local go_sem] Oper.semAt_some

theorem NetX.putL {w3 w6 : World} {O : Ow} {n fm : Nat} {F : DataW Value} {g : NC} {a b : Int} {v : Value} {rows : List Row} {cs : List Value} (h3 : NetX w3 O n fm F g) (hab : g.ok a b) (T36 : Tu (fun k => O k = some (a, b) ∨ O k = some (-4, -4)) w3 w6)
    (m6 : MapOf Try.prog w6 77 fm (F.put (lnk a b) (.held v))) (hown : ∀ k, v.ownBlock = some k → O k = some (a, b)) (row6 : w6.ownsRow 0 38 1 v rows.length cs) (hR6 : RowsAt w6 O cs rows) (h32 : rows.length ≤ 32) : NetX w6 O n fm (F.put (lnk a b) (.held v)) (g.put a b rows) := by
  have hn5 : O n = some (-5, -5) := h3.1
  have h5 : ∀ k, O k = some (-5, -5) → ¬ (O k = some (a, b) ∨ O k = some (-4, -4)) := by
    rintro k e (e' | e') <;> rw [e] at e' <;> simp at e'
    have := hab.1
    omega
  obtain ⟨o1, o2, b3, m3, hc, hf, hk3, hl3, h03, h323, hO3⟩ := h3
  obtain ⟨ha, hb⟩ := ok_wf g hc.2 hab
  refine ⟨o1, o2, b3.tu T36 (h5 n hn5), m6, hc, ⟨hf.1, hf.2.put m3 hab.1 (by have := hab.2.2.1; have := hc.2; omega) hab.2.1 (by have := hab.2.2.2.1; have := hc.2; omega) ha hb _⟩, ?_, ?_, ?_, ?_, ?_⟩
  · intro kl hk
    rcases has_put hk with e | e
    · exact ⟨a, b, e, hab⟩
    · exact hk3 kl e
  · intro c dd hcd
    obtain ⟨wc, wd⟩ := ok_wf g hc.2 hcd
    have hval := val_put (kl := lnk a b) m3.isMap trivial v (lnk c dd)
    rw [lnk_same ha hb wc wd] at hval
    by_cases e : c = a ∧ dd = b
    · obtain ⟨rfl, rfl⟩ := e
      rw [if_pos (by simp)] at hval
      rw [hval]
      refine .inr ⟨_, cs, rfl, hown, ?_, ?_⟩
      · simp only [NC.put, and_self, if_true]
        exact row6
      · simp only [NC.put, and_self, if_true]
        exact hR6
    · rw [if_neg (by simpa using e)] at hval
      rw [hval]
      simp only [NC.put, e, if_false]
      refine (hl3 c dd hcd).keep T36.size (fun k hk e' => ⟨T36.blk k hk ?_, rfl⟩) (fun k hk e' => ⟨T36.blk k hk (by rw [e']; simp), e'⟩)
      rw [e']
      simp
      have := hcd.1
      exact ⟨fun e1 e2 => e ⟨e1, e2⟩, fun e1 => by omega⟩
  · intro c dd hcd
    have : ¬ (c = a ∧ dd = b) := fun e => hcd (by rw [e.1, e.2]; exact hab)
    simp only [NC.put, this, if_false]
    exact h03 c dd hcd
  · intro c dd
    simp only [NC.put]
    split
    · exact h32
    · exact h323 c dd
  · exact hO3.ext T36.size
/-- where a place is -/
def Spot (g : NC) (e : Nat) (p : Int) (k i : Nat) : Prop := k < e * e ∧ i < (g.L (ordAt e k).1 (ordAt e k).2).length ∧ p = ((cntG g e k + i : Nat) : Int)
def NC.del (g : NC) (a b : Int) (i : Nat) : NC := g.put a b ((g.L a b).take i ++ (g.L a b).drop (i + 1))
theorem RowsAt.del {w : World} {O : Ow} {cs : List Value} {rows : List Row} (h : RowsAt w O cs rows) (i : Nat) (hi : i < rows.length) : RowsAt w O (cs.take i ++ cs.drop (i + 1)) (rows.take i ++ rows.drop (i + 1)) := by
  have hl := h.1
  refine ⟨by simp [hl], fun j hj => ?_⟩
  by_cases hji : j < i
  · have hj' : j < rows.length := by omega
    have e : (rows.take i ++ rows.drop (i + 1))[j] = rows[j] := by rw [List.getElem_append_left (by simp; omega), List.getElem_take]
    rw [e]
    obtain ⟨q1, A, c, q2, q3⟩ := h.2 j hj'
    refine ⟨q1, A, c, ?_, q3⟩
    rw [List.getElem?_append_left (by simp; omega), List.getElem?_take, if_pos hji]
    exact q2
  · have hj2 : j + 1 < rows.length := by simp at hj; omega
    have e : (rows.take i ++ rows.drop (i + 1))[j] = rows[j + 1] := by
      rw [List.getElem_append_right (by simp; omega), List.getElem_drop]
      congr 1
      simp; omega
    rw [e]
    obtain ⟨q1, A, c, q2, q3⟩ := h.2 (j + 1) hj2
    refine ⟨q1, A, c, ?_, q3⟩
    rw [List.getElem?_append_right (by simp; omega), List.getElem?_drop, List.length_take, show i + 1 + (j - min i cs.length) = j + 1 by omega]
    exact q2
/-- a change that takes no block for the net -/
def AfterO (w w' : World) (O : Ow) (n : Nat) (g' : NC) : Prop := NetAt w' O n g' ∧ Tu (Owned O) w w'
theorem AfterO.to {w w' : World} {O : Ow} {n : Nat} {g' : NC} (h : AfterO w w' O n g') : After w w' O n g' := ⟨O, h.1, fun _ _ => rfl, h.2⟩
theorem AfterO.pre {w w1 w' : World} {O : Ow} {n : Nat} {g' : NC} (hx : Ext w w1) (h : AfterO w1 w' O n g') : AfterO w w' O n g' := ⟨h.1, (Tu.of_ext hx).trans h.2⟩
def DropE (g : NC) (e : Nat) (p : Int) (w w' : World) (O : Ow) (n : Nat) (x : Ending) : Prop :=
  (p < 0 ∧ x = .returned (.int .i64 2) ∧ Ext w w') ∨ (0 ≤ p ∧ (cntG g e (e * e) : Int) ≤ p ∧ x = .returned (.int .i64 6) ∧ Ext w w') ∨
    ∃ k i, Spot g e p k i ∧ x = .returned (.int .i64 0) ∧ AfterO w w' O n (g.del (ordAt e k).1 (ordAt e k).2 i)
set_option maxRecDepth 100000 in
set_option maxHeartbeats 3200000 in
theorem drop_any (w : World) (O : Ow) (n fm : Nat) (F : DataW Value) (g : NC) (h : NetX w O n fm F g) (e : Nat) (he : g.ends = (e : Int)) (p : Int) (hp : (Lit.int .i64 p).wf = true) :
    Calls Try.prog 24 #[fptr n, .int .i64 p] w fun x w' => DropE g e p w w' O n x := by
  go_enter Try.func24, Try.ntmps24
  go_wp2_with fail
  refine (find_any w O n fm F g h e he p hp).mono ?_
  rintro x w2 ⟨hf, hx2⟩
  rcases hf with ⟨hn, rfl⟩ | ⟨hn, hn2, rfl⟩ | ⟨k, i, hk, hi, hp', rfl⟩
  · have xS := (Ext.refl w2).alloc (.cells #[.int .i64 0, .int .i64 0, .int .i64 0] 82)
    go_wp2_with fail
    go_ret
    exact .inl ⟨hn, rfl, hx2.trans xS⟩
  · have xS := (Ext.refl w2).alloc (.cells #[.int .i64 0, .int .i64 0, .int .i64 0] 82)
    go_wp2_with fail
    go_ret
    exact .inr (.inl ⟨hn, hn2, rfl, hx2.trans xS⟩)
  · have xS := (Ext.refl w2).alloc (.cells #[.int .i64 (ordAt e k).1, .int .i64 (ordAt e k).2, .int .i64 i] 82)
    have hgk := ok_ord h hi
    have h3 := (h.ext hx2).ext xS
    have hx3 := hx2.trans xS
    have bS := Blk.new w2 82 #[.int .i64 (ordAt e k).1, .int .i64 (ordAt e k).2, .int .i64 i]
    go_wp2_with fail
    obtain ⟨q2, hq2'⟩ : ∃ q2, w2.heap.size = q2 := ⟨_, rfl⟩
    rw [hq2'] at bS ⊢
    generalize w2.alloc (.cells #[.int .i64 (ordAt e k).1, .int .i64 (ordAt e k).2, .int .i64 i] 82) = w3 at *
    obtain ⟨la, hla⟩ : ∃ la, (ordAt e k).1 = la := ⟨_, rfl⟩
    obtain ⟨lb, hlb⟩ : ∃ lb, (ordAt e k).2 = lb := ⟨_, rfl⟩
    have HI := Lib.hid (And.intro hk (And.intro hi (And.intro hp' (And.intro hla hlb))))
    simp only [hla, hlb] at bS hgk hi ⊢
    clear hla hlb hk hp'
    obtain ⟨ha, hb⟩ := ok_wf g h.endsb.2 hgk
    have hxd := (Ext.refl w3).drew
    have hx4 := hx3.trans hxd
    have hO := h.inn
    have hOq : O q2 = none := hO.none (by rw [← hq2']; exact hx2.size)
    have hn5 : O n = some (-5, -5) := h.1
    have hf4 : O fm = some (-4, -4) := h.2.1
    have h5 : ∀ k, O k = some (-5, -5) → ¬ (O k = some (la, lb) ∨ O k = some (-4, -4)) := by
      rintro k e (e' | e') <;> rw [e] at e' <;> simp at e'
      have := hgk.1
      omega
    refine wp_region_plan (Tu (fun k => O k = some (la, lb) ∨ O k = some (-4, -4))) [(0, true), (1, true), (2, true), (3, true), (4, true), (5, true), (6, true), (7, true), (8, true), (9, true), (10, true), (11, true), (13, true), (14, true), (15, true), (16, true), (17, true), (12, false), (18, false), (19, false)] (fun _ _ _ x y => (fun x y => Tu.trans x y) x y) (Tu.refl (fun k => O k = some (la, lb) ∨ O k = some (-4, -4))) (by kernel_rfl) (by kernel_rfl) ?_
    intro K hK
    have cn : ∀ y : Above (Tu (fun k => O k = some (la, lb) ∨ O k = some (-4, -4))) w3.drew, y.1.cell? ⟨n, 1, none⟩ = some (.map (some fm)) := fun y => (((h3.ext hxd).blk).tu y.2 (h5 n hn5)).cell 1
    have c0 : ∀ y : Above (Tu (fun k => O k = some (la, lb) ∨ O k = some (-4, -4))) w3.drew, y.1.cell? ⟨q2, 0, none⟩ = some (.int .i64 la) := fun y => ((bS.ext hxd).tu y.2 (by rw [hOq]; simp)).cell 0
    have c1 : ∀ y : Above (Tu (fun k => O k = some (la, lb) ∨ O k = some (-4, -4))) w3.drew, y.1.cell? ⟨q2, 1, none⟩ = some (.int .i64 lb) := fun y => ((bS.ext hxd).tu y.2 (by rw [hOq]; simp)).cell 1
    have c2 : ∀ y : Above (Tu (fun k => O k = some (la, lb) ∨ O k = some (-4, -4))) w3.drew, y.1.cell? ⟨q2, 2, none⟩ = some (.int .i64 i) := fun y => ((bS.ext hxd).tu y.2 (by rw [hOq]; simp)).cell 2
    have hi20 : (i : Int) + 1 ≤ 1000 := by have := h.2.2.2.2.2.2.2.2.2.1 la lb; omega
    iterate 17 (
      refine plan_q (v := ?_) rfl rfl ?_ ?_
      rotate_left
      · intro x
        go_simp
        first | done | rfl
      simp only [Act.put, List.getElem_toArray, List.getElem_cons_zero, List.getElem_cons_succ, List.setIfInBounds_toArray, List.set_cons_zero, List.set_cons_succ])
    clear cn c0 c1 c2
    have h4 := h3.ext hxd
    generalize w3.drew = w4 at *
    have hw1 : IntKind.i64.wrap ((i : Int) + 1) = (i : Int) + 1 := by rw [IntKind.wrap_i64]; omega
    simp only [hw1]
    obtain ⟨hlk, hrow, hRows, hown, A0, c0, hv0⟩ := h4.lineK (wr := w4) rfl (fun _ _ _ => rfl) ha hb
    obtain ⟨cs, hcs⟩ : ∃ cs, rowCs w4 (lineV F la lb) (g.L la lb).length = cs := ⟨_, rfl⟩
    rw [hcs] at hrow hRows
    clear hcs
    rw [hv0] at hlk hrow hown
    clear hv0
    have hl32 : (g.L la lb).length ≤ 32 := h.2.2.2.2.2.2.2.2.2.1 la lb
    refine plan_l rfl (by kernel_rfl) ?_
    intro K2 hK2
    go_simp
    refine hK2.out _ _ (Tu.refl _ _) ?_
    clear hK2 K2
    try simp only [Act.put, List.getElem_toArray, List.getElem_cons_zero, List.getElem_cons_succ, List.setIfInBounds_toArray, List.set_cons_zero, List.set_cons_succ]
    clear hlk
    obtain ⟨rb, cap, hvs⟩ : ∃ rb cap, (Value.slice A0 (g.L la lb).length c0) = .slice (some ⟨rb, 0, none⟩) (g.L la lb).length cap := by
      obtain ⟨rb, e1, _⟩ := row_cells hrow (by omega)
      exact ⟨rb, c0, by rw [e1]⟩
    injection hvs with e1 _ e3
    subst e1 e3
    have hrb : O rb = some (la, lb) := hown rb rfl
    have h1c : ∀ u ∈ cs, u.oneCell' = true := by
      intro u hu
      obtain ⟨j, hj, rfl⟩ := List.getElem_of_mem hu
      obtain ⟨_, A, c, q1, _⟩ := hRows.2 j (by rw [← hRows.1]; exact hj)
      rw [List.getElem?_eq_getElem hj] at q1
      rw [Option.some.inj q1]
      rfl
    refine plan_l rfl (by kernel_rfl) ?_
    intro K2 hK2
    go_simp
    refine (del_any w4 rb (g.L la lb).length c0 i cs hrow hi (by omega) h1c).mono ?_
    rintro x w5 ⟨rfl, row5, T5⟩
    go_simp
    have T5' : Tu (fun k => O k = some (la, lb) ∨ O k = some (-4, -4)) w4 w5 := T5.mono (fun k e => by rw [e]; exact .inl hrb)
    refine hK2.out _ _ T5' ?_
    clear hK2 K2
    try simp only [Act.put, List.getElem_toArray, List.getElem_cons_zero, List.getElem_cons_succ, List.setIfInBounds_toArray, List.set_cons_zero, List.set_cons_succ]
    have hrbf : rb ≠ fm := fun e => by
      rw [e, hf4] at hrb
      simp at hrb
      have := hgk.1
      omega
    have m5 := h4.2.2.2.1.tu T5 (fun e => hrbf e.symm)
    have hsz := h4.2.2.2.2.2.1.2
    refine plan_l rfl rfl ?_
    intro K2 hK2
    refine wp_one rfl ?_
    refine wpList_put _ _ _ _ law_l Try.underlying73 rfl rfl m5 (by have := hsz.le; unfold maxLen; omega) (lnv la lb) (.slice (some ⟨rb, 0, none⟩) ((g.L la lb).length - 1) c0) rfl rfl rfl (key_l ha hb) ?_
    intro w6 m6 g6
    have T6 : Tu (fun k => O k = some (la, lb) ∨ O k = some (-4, -4)) w5 w6 := Tu.of_grown g6 (by rintro k e; cases e; exact .inr hf4)
    have T6' : Tu (fun k => k = fm) w5 w6 := Tu.of_grown g6 (by rintro k e; cases e; rfl)
    show K2 _ _
    refine hK2.out _ _ T6 ?_
    clear hK2 K2
    try simp only [Act.put, List.getElem_toArray, List.getElem_cons_zero, List.getElem_cons_succ, List.setIfInBounds_toArray, List.set_cons_zero, List.set_cons_succ]
    refine plan_end (hK.out _ _ ?_)
    clear hK K
    go_wp2_with fail
    go_ret
    obtain ⟨hk, hi', hp', hla, hlb⟩ := HI.out
    refine .inr (.inr ⟨k, i, ⟨hk, hi', hp'⟩, rfl, ?_⟩)
    simp only [hla, hlb]
    have T46 := T5'.trans T6
    have hlen : ((g.L la lb).take i ++ (g.L la lb).drop (i + 1)).length = (g.L la lb).length - 1 := by simp; omega
    refine AfterO.pre hx4 ⟨⟨fm, _, h4.putL (cs := cs.take i ++ cs.drop (i + 1)) hgk T46 m6 (fun k hk => ?_) ?_ ?_ (by omega)⟩, T46.mono (fun k e => by rcases e with e | e <;> rw [Owned, e] <;> rfl)⟩
    · have : k = rb := by simpa [Value.ownBlock] using hk.symm
      rw [this, hrb]
    · rw [hlen]
      exact ownsRow_blk row5 (fun k hk => T6'.blk k (row5.lt k hk).2 (fun e => by
        have h1 : k = rb := by simpa [Value.ownBlock] using hk.symm
        exact hrbf (h1 ▸ e)))
    · exact (hRows.del i hi).keep T46.size (fun k hk e => ⟨T46.blk k hk (by rw [e]; simp), e⟩)
