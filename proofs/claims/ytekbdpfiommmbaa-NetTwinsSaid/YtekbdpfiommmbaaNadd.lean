/- add: a flight more, at its line's end. Conditions: the net is in memory as told; the line has room. -/
import Derived.Test.YtekbdpfiommmbaaNlen
import Derived.Test.YtekbdpfiommmbaaNent
import Derived.Test.YtekbdpfiommmbaaFlow
import Derived.Maps.AppendAt
namespace Go.Proofs.Ytekbdpfiommmbaa
open Go.RowKit Go.Maps
set_option linter.unusedVariables false
set_option linter.unusedSimpArgs false

def NC.put (g : NC) (a b : Int) (l : List Row) : NC := { g with L := fun c d => if c = a ∧ d = b then l else g.L c d }
def Owned (O : Ow) (k : Nat) : Prop := (O k).isSome = true
/-- what a change leaves -/
def After (w w' : World) (O : Ow) (n : Nat) (g' : NC) : Prop := ∃ O', NetAt w' O' n g' ∧ (∀ b, b < w.heap.size → O' b = O b) ∧ Tu (Owned O) w w'
/-- the net's own blocks, and no block that is kept from it -/
def Fine (O : Ow) (k : Nat) : Prop := ∃ p, O k = some p ∧ p ≠ (-9, -9)
theorem Fine.owned {O : Ow} {k : Nat} (h : Fine O k) : Owned O k := by
  obtain ⟨p, e, _⟩ := h
  rw [Owned, e]
  rfl
def AfterS (w w' : World) (O : Ow) (n : Nat) (g' : NC) : Prop := ∃ O', NetAt w' O' n g' ∧ (∀ b, b < w.heap.size → O' b = O b) ∧ Tu (Fine O) w w'
theorem AfterS.to {w w' : World} {O : Ow} {n : Nat} {g' : NC} (h : AfterS w w' O n g') : After w w' O n g' := by
  obtain ⟨O', h1, h2, h3⟩ := h
  exact ⟨O', h1, h2, h3.mono fun k e => e.owned⟩
theorem wp_entry {P : Program} {o : Oper} {a : Act} {w w1 : World} {K : Act → World → Prop} {Q : Exit → Act → World → Prop} {t : TypeId} (m x : Operand) (ho : o.op = .mapEntry t m x) {vm vx v : Value} (hm : a.eval m = vm) (hx : a.eval x = vx) (hrun : (Instr.mapEntry t vm vx).run P w = .ok v w1) (h : K (a.put o.dst v) w1) : o.wp P a w K Q := by
  unfold Oper.wp execOp
  simp only [ho, hm, hx, Sem.run_bind, Sem.run_pure, Result.andThen_ok, hrun]
  exact h
theorem wp_estore {P : Program} {o : Oper} {a : Act} {w w1 : World} {K : Act → World → Prop} {Q : Exit → Act → World → Prop} {t : TypeId} (m s x : Operand) (ho : o.op = .entryStore t m s x) {vm vs vx : Value} (hm : a.eval m = vm) (hs : a.eval s = vs) (hx : a.eval x = vx) (hrun : (Instr.entryStore t vm vs vx).run P w = .ok () w1) (h : K (a.put o.dst undef) w1) : o.wp P a w K Q := by
  unfold Oper.wp execOp
  simp only [ho, hm, hs, hx, Sem.run_bind, Sem.run_pure, Result.andThen_ok, hrun]
  exact h
theorem lnk_same {a b c d : Int} (ha : (Lit.int .i64 a).wf = true) (hb : (Lit.int .i64 b).wf = true) (hc : (Lit.int .i64 c).wf = true) (hd : (Lit.int .i64 d).wf = true) : (lnk c d).sameKey (lnk a b) = decide (c = a ∧ d = b) := by
  rw [Bool.eq_iff_iff, decide_eq_true_eq]
  refine ⟨fun h => lnk_inj hc hd ha hb (WideAt.sameKey_eq h), ?_⟩
  rintro ⟨rfl, rfl⟩
  exact WideAt.sameKey_self trivial
theorem prs_wf {p : Int × Int} (h : p ∈ prs) : (Lit.int .i64 p.1).wf = true ∧ (Lit.int .i64 p.2).wf = true := by
  obtain ⟨m, hm, rfl⟩ := List.mem_map.1 h
  have := List.mem_range.1 hm
  have e1 : IntKind.min .i64 = -9223372036854775808 := by kernel_rfl
  have e2 : IntKind.max .i64 = 9223372036854775807 := by kernel_rfl
  simp only [Lit.wf, Bool.and_eq_true, decide_eq_true_eq, e1, e2]
  omega
theorem SizeOk.put {w : World} {fm : Nat} {F : DataW Value} (h : SizeOk F) (hm : MapOf Try.prog w 77 fm F) {a b : Int} (h1 : 1 ≤ a) (h2 : a ≤ 5) (h3 : 1 ≤ b) (h4 : b ≤ 5) (ha : (Lit.int .i64 a).wf = true) (hb : (Lit.int .i64 b).wf = true) (v : Value) : SizeOk (F.put (lnk a b) (.held v)) := by
  have hv : ∀ p ∈ prs, val (F.put (lnk a b) (.held v)) (lnk p.1 p.2) = if p = (a, b) then some v else val F (lnk p.1 p.2) := fun p hp => by
    obtain ⟨w1, w2⟩ := prs_wf hp
    rw [val_put (kl := lnk a b) hm.isMap trivial, lnk_same ha hb w1 w2]
    by_cases e : p = (a, b)
    · subst e; simp
    · rw [if_neg e, if_neg]
      simp only [decide_eq_true_eq]
      rintro ⟨e1, e2⟩
      exact e (Prod.ext e1 e2)
  have hs := hm.size_put (kl := lnk a b) law_l v
  rw [SizeOk, hs]
  have hmem := prs_mem h1 h2 h3 h4
  split
  · refine Nat.le_trans h (List.countP_mono_left fun p hp hq => ?_)
    rw [hv p hp]
    split
    · rfl
    · exact hq
  · rename_i hno
    refine Nat.le_trans (Nat.add_le_add_right h 1) (countP_more prs (fun p hp hq => ?_) ⟨(a, b), hmem, by simpa using hno, by rw [hv _ hmem, if_pos rfl]; rfl⟩)
    rw [hv p hp]
    split
    · rfl
    · exact hq
theorem has_put {D : DataW Value} {kl k' : Lit} {d : DataW Value} (h : Maps.has (D.put kl d) k' = true) : k' = kl ∨ Maps.has D k' = true := by
  by_cases e : k' = kl
  · exact .inl e
  · rw [has_put_other e] at h
    exact .inr h
theorem RowsAt.snoc {w : World} {O : Ow} {cs : List Value} {rows : List Row} (h : RowsAt w O cs rows) {A : Option Addr} {c : Nat} {row : Row} (h1 : row.length ≤ 1048576) (h2 : Rd w 0 A row.length row) (h3 : row.length ≤ c) (h4 : c ≤ maxLen) (h5 : BO w O A row.length) : RowsAt w O (cs ++ [.slice A row.length c]) (rows ++ [row]) := by
  refine ⟨by simp [h.1], fun i hi => ?_⟩
  by_cases he : i < rows.length
  · obtain ⟨q1, A', c', q2, q3⟩ := h.2 i he
    rw [List.getElem_append_left he]
    refine ⟨q1, A', c', ?_, q3⟩
    rw [List.getElem?_append_left (by rw [h.1]; exact he)]
    exact q2
  · obtain rfl : i = rows.length := by simp at hi; omega
    have e : (rows ++ [row])[rows.length]'hi = row := by simp
    rw [e]
    refine ⟨h1, A, c, ?_, h2, h3, h4, h5⟩
    rw [List.getElem?_append_right (by rw [h.1]; exact Nat.le_refl _), h.1]
    simp
theorem info_bs : (Try.prog.info? 38).map (fun i => (i.zero, i.size, i.bytes)) = some (some (.slice none 0 0), 1, 24) := by kernel_rfl

set_option maxRecDepth 100000 in
set_option maxHeartbeats 3200000 in
theorem add_anyS (w : World) (O : Ow) (n fm : Nat) (F : DataW Value) (g : NC) (h : NetX w O n fm F g) (a b : Int) (hab : g.ok a b) (hroom : (g.L a b).length < 32) (B : Option Addr) (d : Nat) (row : Row) (hB : Rd w 0 B row.length row) (hd : row.length ≤ d) (hd2 : d ≤ maxLen) (h20 : row.length ≤ 1048576) (hBO : BO w O B row.length) :
    Calls Try.prog 45 #[fptr n, lnv a b, .slice B row.length d] w fun e w' => e = .returned (.tuple #[]) ∧ AfterS w w' O n (g.put a b (g.L a b ++ [row])) := by
  obtain ⟨ha, hb⟩ := ok_wf g h.endsb.2 hab
  have hx1 := (Ext.refl w).alloc (.cells #[.int .i64 a, .int .i64 b] 77)
  have b1 := Blk.new w 77 #[.int .i64 a, .int .i64 b]
  have h1 := h.ext hx1
  have hO := h.inn
  go_enter Try.func45, Try.ntmps45
  go_upto_region 1 with fail
  generalize w.alloc (.cells #[.int .i64 a, .int .i64 b] 77) = w1 at *
  obtain ⟨q, hq⟩ : ∃ q, w.heap.size = q := ⟨_, rfl⟩
  rw [hq] at b1 ⊢
  have hxd := (Ext.refl w1).drew
  have hOq : O q = none := hO.none (by omega)
  have hn5 : O n = some (-5, -5) := h.1
  have hf4 : O fm = some (-4, -4) := h.2.1
  have h5 : ∀ k, O k = some (-5, -5) → ¬ (O k = some (a, b) ∨ O k = some (-4, -4)) := by
    rintro k e (e' | e') <;> rw [e] at e' <;> simp at e'
    have := hab.1
    omega
  refine wp_region_plan (Tu (fun k => O k = some (a, b) ∨ O k = some (-4, -4))) [(0, true), (1, true), (2, true), (3, true), (4, true), (5, true), (6, false), (7, false), (8, true), (10, true), (9, false), (11, false)] (fun _ _ _ x y => (fun x y => Tu.trans x y) x y) (Tu.refl (fun k => O k = some (a, b) ∨ O k = some (-4, -4))) (by kernel_rfl) (by kernel_rfl) ?_
  intro K hK
  have cn : ∀ y : Above (Tu (fun k => O k = some (a, b) ∨ O k = some (-4, -4))) w1.drew, y.1.cell? ⟨n, 1, none⟩ = some (.map (some fm)) := fun y => (((h1.ext hxd).blk).tu y.2 (h5 n hn5)).cell 1
  have c0 : ∀ y : Above (Tu (fun k => O k = some (a, b) ∨ O k = some (-4, -4))) w1.drew, y.1.cell? ⟨q, 0, none⟩ = some (.int .i64 a) := fun y => ((b1.ext hxd).tu y.2 (by rw [hOq]; simp)).cell 0
  have c1 : ∀ y : Above (Tu (fun k => O k = some (a, b) ∨ O k = some (-4, -4))) w1.drew, y.1.cell? ⟨q, 1, none⟩ = some (.int .i64 b) := fun y => ((b1.ext hxd).tu y.2 (by rw [hOq]; simp)).cell 1
  iterate 6 (
    refine plan_q (v := ?_) rfl rfl ?_ ?_
    rotate_left
    · intro x
      go_simp
      first | done | rfl
    simp only [Act.put, List.getElem_toArray, List.getElem_cons_zero, List.getElem_cons_succ, List.setIfInBounds_toArray, List.set_cons_zero, List.set_cons_succ])
  clear cn c0 c1
  have h2 := h1.ext hxd
  generalize w1.drew = w2 at *
  have hx12 := hx1.trans hxd
  have hxb := (Ext.refl w2).alloc (.cells #[.slice B row.length d] 38)
  have bb := Blk.new w2 38 #[.slice B row.length d]
  refine plan_l rfl (by kernel_rfl) ?_
  intro K2 hK2
  go_simp
  refine hK2.out _ _ (Tu.of_ext hxb) ?_
  clear hK2 K2
  try simp only [Act.put, List.getElem_toArray, List.getElem_cons_zero, List.getElem_cons_succ, List.setIfInBounds_toArray, List.set_cons_zero, List.set_cons_succ]
  have h3 := h2.ext hxb
  generalize w2.alloc (.cells #[.slice B row.length d] 38) = w3 at *
  obtain ⟨gq, hgq⟩ : ∃ gq, w2.heap.size = gq := ⟨_, rfl⟩
  rw [hgq] at bb ⊢
  have hx13 := hx12.trans hxb
  have m3 := h3.2.2.2.1
  have hsz := h3.2.2.2.2.2.1.2
  obtain ⟨st, w4, hr4, g4, hst⟩ := m3.entry law_lk Try.underlying73 zero_rows (by have := hsz.le; unfold maxLen; omega) (key_l ha hb)
  obtain ⟨_, hrow, hRows, hown, A0, c0, hv0⟩ := h3.lineK (wr := w3) rfl (fun _ _ _ => rfl) ha hb
  obtain ⟨v0, hv0'⟩ : ∃ v0, lineV F a b = v0 := ⟨_, rfl⟩
  rw [show (val F (lnk a b)).getD (.slice none 0 0) = v0 from hv0'] at hr4
  rw [hv0'] at hrow hRows hown hv0
  subst hv0
  have HV := Lib.hid hv0'
  clear hv0'
  obtain ⟨cs, hcs⟩ : ∃ cs, rowCs w3 (.slice A0 (g.L a b).length c0) (g.L a b).length = cs := ⟨_, rfl⟩
  rw [hcs] at hrow hRows
  clear hcs
  have T4 : Tu (fun k => O k = some (a, b) ∨ O k = some (-4, -4)) w3 w4 := Tu.of_grown g4 (by rintro k e; cases e; exact .inr hf4)
  refine plan_l rfl rfl ?_
  intro K2 hK2
  refine wp_entry _ _ rfl rfl rfl hr4 ?_
  refine hK2.out _ _ T4 ?_
  clear hK2 K2
  try simp only [Act.put, List.getElem_toArray, List.getElem_cons_zero, List.getElem_cons_succ, List.setIfInBounds_toArray, List.set_cons_zero, List.set_cons_succ]
  iterate 2 (
    refine plan_q (v := ?_) rfl rfl ?_ ?_
    rotate_left
    · intro x
      go_simp
      first | done | rfl
    simp only [Act.put, List.getElem_toArray, List.getElem_cons_zero, List.getElem_cons_succ, List.setIfInBounds_toArray, List.set_cons_zero, List.set_cons_succ])
  have T4' : Tu (fun k => k = fm) w3 w4 := Tu.of_grown g4 (by rintro k e; cases e; rfl)
  have nab : ∀ k, O k = some (a, b) → k ≠ fm := fun k e e' => by
    rw [e', hf4] at e
    simp at e
    have := hab.1
    omega
  have row4 : w4.ownsRow 0 38 1 (.slice A0 (g.L a b).length c0) (g.L a b).length cs := ownsRow_blk hrow (fun k hk => T4'.blk k (hrow.lt k hk).2 (nab k (hown k hk)))
  have hgfm : gq ≠ fm := fun e => by
    have := hO fm (by rw [hf4]; rfl)
    have := hx12.size
    omega
  have bb4 : Blk w4 gq 38 #[.slice B row.length d] := bb.tu T4' hgfm
  obtain ⟨i0, hi, hz0, hz1, hz2⟩ := info_parts info_bs
  refine plan_l rfl rfl ?_
  intro K2 hK2
  refine wp_one rfl ?_
  refine wpList_append_own_at _ rfl _ _ 31 rfl 0 38 i0 (.slice none 0 0) 1 24 Try.underlying31 hi hz0 hz1 hz2 rfl (by decide) (.slice A0 (g.L a b).length c0) (g.L a b).length _ rfl row4 ⟨gq, 0, none⟩ 1 1 [.slice B row.length d] rfl rfl ?_ ?_ (by unfold maxLen; omega) (by omega) (Nat.zero_le _) ?_
  · intro j u hu
    have hadd : (⟨gq, 0, none⟩ : Addr).add j = ⟨gq, j, none⟩ := by unfold Addr.add; split <;> simp_all
    rw [hadd, bb4.cell j]
    simpa using hu
  · intro u hu
    rw [List.mem_singleton.1 hu]
    rfl
  intro v5 w5 row5 g5 hnil5 hloc5
  have T5 : Tu (fun k => O k = some (a, b) ∨ O k = some (-4, -4)) w4 w5 := Tu.of_grown g5 (fun k e => .inl (hown k e))
  show K2 _ _
  refine hK2.out _ _ T5 ?_
  clear hK2 K2
  try simp only [Act.put, List.getElem_toArray, List.getElem_cons_zero, List.getElem_cons_succ, List.setIfInBounds_toArray, List.set_cons_zero, List.set_cons_succ]
  have hfm4 : fm < w4.heap.size := Nat.lt_of_lt_of_le m3.lt T4.size
  obtain ⟨w6, hr6, m6, g6⟩ := hst w5 v5 (g5.block fm hfm4 (fun e => nab _ (hown fm e.symm) rfl))
  have T6 : Tu (fun k => O k = some (a, b) ∨ O k = some (-4, -4)) w5 w6 := Tu.of_grown g6 (by rintro k e; cases e; exact .inr hf4)
  refine plan_l rfl rfl ?_
  intro K2 hK2
  refine wp_estore _ _ _ rfl rfl rfl rfl hr6 ?_
  refine hK2.out _ _ T6 ?_
  clear hK2 K2
  try simp only [Act.put, List.getElem_toArray, List.getElem_cons_zero, List.getElem_cons_succ, List.setIfInBounds_toArray, List.set_cons_zero, List.set_cons_succ]
  refine plan_end (hK.out _ _ ?_)
  clear hK K
  go_wp2_with fail
  go_end0
  obtain ⟨rb, cap5, rfl⟩ := ownsRow_succ row5
  have hrb : O rb = some (a, b) ∨ rb = w4.heap.size := by
    rcases hloc5 with e | e
    · exact .inl (hown rb e.symm)
    · exact .inr (Option.some.inj e)
  have s13 := hx13.size
  have s4 := T4.size
  have s5 := T5.size
  have s6 := T6.size
  have T36 : Tu (fun k => O k = some (a, b) ∨ O k = some (-4, -4)) w3 w6 := (T4.trans T5).trans T6
  have hrlt : rb < w5.heap.size := (row5.lt rb rfl).2
  obtain ⟨O', hO'⟩ : ∃ O' : Ow, (fun k => if k = rb then some (a, b) else O k) = O' := ⟨_, rfl⟩
  have hO'e : ∀ k, O' k = if k = rb then some (a, b) else O k := fun k => by rw [← hO']
  clear hO'
  have hsame3 : ∀ k, k < w3.heap.size → O' k = O k := fun k hk => by
    rw [hO'e]
    split
    · rename_i e
      subst e
      rcases hrb with e' | e'
      · exact e'.symm
      · omega
    · rfl
  have hrfm : rb ≠ fm := fun e => by
    rcases hrb with e' | e'
    · exact nab rb e' e
    · have := m3.lt; omega
  have hn3 : n < w3.heap.size := by have := hO n (by rw [hn5]; rfl); omega
  have hf3 : fm < w3.heap.size := m3.lt
  have hB3 := hB.ext hx13
  have hB6 : Rd w6 0 B row.length row := by
    rcases Nat.eq_zero_or_pos row.length with e0 | e0
    · exact ⟨rfl, .inl e0⟩
    · exact hB3.tu T36 (fun x e hk => by rw [(hBO x e e0).1] at hk; simp at hk)
  obtain ⟨o1, o2, b3, _, hc, hf, hk3, hl3, h03, h323, hO3⟩ := h3
  have keepN : ∀ k, k < w3.heap.size → O k = none → w6.heap[k]? = w3.heap[k]? ∧ O' k = none := fun k hk e => ⟨T36.blk k hk (by rw [e]; simp), (hsame3 k hk).trans e⟩
  refine ⟨rfl, O', ⟨fm, F.put (lnk a b) (.held (.slice (some ⟨rb, 0, none⟩) ((g.L a b).length + 1) cap5)), (hsame3 n hn3).trans o1, (hsame3 fm hf3).trans o2, b3.tu T36 (h5 n hn5), m6, hc, ⟨hf.1, hf.2.put m3 hab.1 (by have := hab.2.2.1; have := hc.2; omega) hab.2.1 (by have := hab.2.2.2.1; have := hc.2; omega) ha hb _⟩, ?_, ?_, ?_, ?_, ?_⟩, fun k hk => hsame3 k (by omega), ?_⟩
  · intro kl hk
    rcases has_put hk with e | e
    · exact ⟨a, b, e, hab⟩
    · exact hk3 kl e
  · intro c dd hcd
    obtain ⟨wc, wd⟩ := ok_wf g hc.2 hcd
    have hval := val_put (kl := lnk a b) m3.isMap trivial (.slice (some ⟨rb, 0, none⟩) ((g.L a b).length + 1) cap5) (lnk c dd)
    rw [lnk_same ha hb wc wd] at hval
    by_cases e : c = a ∧ dd = b
    · obtain ⟨rfl, rfl⟩ := e
      rw [if_pos (by simp)] at hval
      rw [hval]
      refine .inr ⟨_, cs ++ [.slice B row.length d], rfl, fun k hk => ?_, ?_, ?_⟩
      · have : k = rb := by simpa [Value.ownBlock] using hk.symm
        rw [this, hO'e, if_pos rfl]
      · simp only [NC.put, and_self, if_true, List.length_append, List.length_cons, List.length_nil]
        exact ownsRow_blk row5 (fun k hk => g6.block k (row5.lt k hk).2 (fun e => by
          have h1 : k = rb := by simpa [Value.ownBlock] using hk.symm
          have h2 : k = fm := by simpa using e
          exact hrfm (h1 ▸ h2)))
      · simp only [NC.put, and_self, if_true]
        exact (hRows.keep (by omega) keepN).snoc h20 hB6 hd hd2 ((hBO.ext hx13).keep hB3 keepN)
    · rw [if_neg (by simpa using e)] at hval
      rw [hval]
      simp only [NC.put, e, if_false]
      refine (hl3 c dd hcd).keep (by omega) (fun k hk e' => ⟨T36.blk k hk ?_, hsame3 k hk⟩) keepN
      rw [e']
      simp
      have := hcd.1
      exact ⟨fun e1 e2 => e ⟨e1, e2⟩, fun e1 => by omega⟩
  · intro c dd hcd
    have : ¬ (c = a ∧ dd = b) := fun e => hcd (by rw [e.1, e.2]; exact hab)
    simp only [NC.put, this, if_false]
    exact h03 c dd hcd
  · intro c dd
    simp only [NC.put]
    split
    · rw [List.length_append]; simp; omega
    · exact h323 c dd
  · intro k hk
    rw [hO'e] at hk
    split at hk
    · omega
    · have := hO3 k hk; omega
  · refine (Tu.of_ext hx13).trans (T36.mono (fun k e => ?_))
    rcases e with e | e
    · refine ⟨_, e, fun e' => ?_⟩
      have := hab.1
      have := congrArg Prod.fst e'
      simp only at this
      omega
    · exact ⟨_, e, by decide⟩
theorem add_any (w : World) (O : Ow) (n fm : Nat) (F : DataW Value) (g : NC) (h : NetX w O n fm F g) (a b : Int) (hab : g.ok a b) (hroom : (g.L a b).length < 32) (B : Option Addr) (d : Nat) (row : Row) (hB : Rd w 0 B row.length row) (hd : row.length ≤ d) (hd2 : d ≤ maxLen) (h20 : row.length ≤ 1048576) (hBO : BO w O B row.length) :
    Calls Try.prog 45 #[fptr n, lnv a b, .slice B row.length d] w fun e w' => e = .returned (.tuple #[]) ∧ After w w' O n (g.put a b (g.L a b ++ [row])) :=
  (add_anyS w O n fm F g h a b hab hroom B d row hB hd hd2 h20 hBO).mono fun _ _ ⟨h1, h2⟩ => ⟨h1, h2.to⟩
