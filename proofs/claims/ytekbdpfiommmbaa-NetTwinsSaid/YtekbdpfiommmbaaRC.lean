/- SameAll of the same row, only. Conditions: the rows are in memory as told. as: a net and the document's look alike. Conditions: the nets are in memory as told, and the same. Sends at both nets; how many fly to an end; the first flight of a line. Conditions: told at each. What a change of one line leaves of the others; an act that comes in by value. Conditions: as each theorem says. The document's Copy; a net's Copy and All, held. Conditions: the nets are in memory as told. A net that lies still while others turn: what must stay for it. Conditions: told at each. -/
import Derived.Test.YtekbdpfiommmbaaRB
import Derived.Lib.SmallJoins
import Derived.Laws.Rows
import Derived.Laws.Tables
namespace Go.Proofs.Ytekbdpfiommmbaa
section partRonly
open Go.RowKit Go.Maps
set_option linter.unusedVariables false
set_option linter.unusedSimpArgs false
attribute [local go_sem] Oper.semAt_some

theorem FlB.snoc {w : World} {ts : List (Int × Int × Row)} {ps : List (Option Addr × Nat)} {t : Int × Int × Row} {p : Option Addr × Nat} (h : FlB w ts ps) (ht : Rd w 0 p.1 t.2.2.length t.2.2 ∧ t.2.2.length ≤ 1048576) : FlB w (ts ++ [t]) (ps ++ [p]) := by
  refine ⟨by simp [h.1], fun i tt pp e1 e2 => ?_⟩
  rcases Nat.lt_trichotomy i ts.length with hi | hi | hi
  · rw [List.getElem?_append_left hi] at e1
    rw [List.getElem?_append_left (by rw [h.1]; exact hi)] at e2
    exact h.2 i tt pp e1 e2
  · subst hi
    rw [List.getElem?_append_right (Nat.le_refl _)] at e1
    rw [List.getElem?_append_right (by rw [h.1]; exact Nat.le_refl _), h.1] at e2
    simp at e1 e2
    subst e1 e2
    exact ht
  · have := (List.getElem?_eq_some_iff.1 e1).1
    simp at this
    omega
theorem FlA.of_row {w' : World} {A : Option Addr} {c base : Nat} {ts : List (Int × Int × Row)} {ps : List (Option Addr × Nat)} (h : w'.ownsRow base 51 3 (.slice A ts.length c) ts.length (flC ts ps)) (hb : FlB w' ts ps) : FlA w' A ts ps := by
  refine ⟨hb, ?_⟩
  rcases Nat.eq_zero_or_pos ts.length with h0 | h0
  · exact .inl h0
  · obtain ⟨rb, e1, e2⟩ := row_cellsN h h0
    exact .inr ⟨rb, 0, e1, (h.lt rb (by rw [e1]; rfl)).2, fun j u hu => by rw [Nat.zero_add]; exact e2 j u hu⟩
theorem FlA.nil (w : World) (A : Option Addr) : FlA w A [] [] := ⟨⟨rfl, fun i t p e => by simp at e⟩, .inl rfl⟩
theorem FlA.pick {w : World} {A : Option Addr} {ts : List (Int × Int × Row)} {ps : List (Option Addr × Nat)} (h : FlA w A ts ps) {i : Nat} {t : Int × Int × Row} (ht : ts[i]? = some t) :
    ∃ b off p, A = some ⟨b, off, none⟩ ∧ ps[i]? = some p ∧ (Rd w 0 p.1 t.2.2.length t.2.2 ∧ t.2.2.length ≤ 1048576) ∧ w.cell? ⟨b, off + i * 3, none⟩ = some (.int .i64 t.1) ∧ w.cell? ⟨b, off + i * 3 + 1, none⟩ = some (.int .i64 t.2.1) ∧ w.cell? ⟨b, off + i * 3 + 2, none⟩ = some (.slice p.1 t.2.2.length p.2) := by
  have hi := (List.getElem?_eq_some_iff.1 ht).1
  obtain ⟨b, off, e1, e2, e3⟩ := h.2.resolve_left (by omega)
  obtain ⟨p, hp⟩ : ∃ p, ps[i]? = some p := ⟨_, List.getElem?_eq_getElem (by rw [h.1.1]; exact hi)⟩
  obtain ⟨a0, a1, a2⟩ := flC_at ts ps i t p ht hp
  exact ⟨b, off, p, e1, hp, h.1.2 i t p ht hp, e3 _ _ a0, by rw [Nat.add_assoc]; exact e3 _ _ a1, by rw [Nat.add_assoc]; exact e3 _ _ a2⟩
set_option maxRecDepth 100000 in
set_option maxHeartbeats 3200000 in
theorem sameall_any (w : World) (A A' : Option Addr) (c c' : Nat) (ts : List (Int × Int × Row)) (ps qs : List (Option Addr × Nat)) (ha : FlA w A ts ps) (hb : FlA w A' ts qs) (hn : ts.length ≤ 100000) :
    Calls Try.prog 19 #[.slice A ts.length c, .slice A' ts.length c'] w fun x w' => x = .returned (.bool true) ∧ Ext w w' := by
  go_enter Try.func19, Try.ntmps19
  go_wp2_with fail
  go_loopw [5] (fun iv wr => ∃ k : Nat, k ≤ ts.length ∧ iv = .int .i64 (k : Int) ∧ Ext w wr) (fun iv _ => ts.length - (nOf iv).toNat)
  case atStart => exact ⟨0, Nat.zero_le _, rfl, Ext.refl _⟩
  case round =>
    obtain ⟨k, hk, rfl, hx⟩ := hrel
    by_cases hlt : k < ts.length
    · have hki : (k : Int) < (ts.length : Int) := by omega
      obtain ⟨t, ht⟩ : ∃ t, ts[k]? = some t := ⟨_, List.getElem?_eq_getElem hlt⟩
      obtain ⟨b, off, p, rfl, -, ⟨r1, l1⟩, a0, a1, a2⟩ := ha.pick ht
      obtain ⟨b', off', p', rfl, -, ⟨r2, l2⟩, b0, b1, b2⟩ := hb.pick ht
      clear ht
      go_wp2_with fail
      have hxd := hx.trans (Ext.refl wr).drew
      refine wp_region_plan Ext [(0, true), (1, true), (2, true), (3, true), (4, true), (5, true), (6, true), (7, true), (8, false), (9, true)] (fun _ _ _ x y => Ext.trans x y) Ext.refl (by kernel_rfl) (by kernel_rfl) ?_
      intro K hK
      have c0 : ∀ y : Above Ext wr.drew, y.1.cell? ⟨b, off + k * 3, none⟩ = some (.int .i64 t.1) := fun y => (hxd.trans y.2).cellSome a0
      have c1 : ∀ y : Above Ext wr.drew, y.1.cell? ⟨b, off + k * 3 + 1, none⟩ = some (.int .i64 t.2.1) := fun y => (hxd.trans y.2).cellSome a1
      have c2 : ∀ y : Above Ext wr.drew, y.1.cell? ⟨b, off + k * 3 + 2, none⟩ = some (.slice p.1 t.2.2.length p.2) := fun y => (hxd.trans y.2).cellSome a2
      have d0 : ∀ y : Above Ext wr.drew, y.1.cell? ⟨b', off' + k * 3, none⟩ = some (.int .i64 t.1) := fun y => (hxd.trans y.2).cellSome b0
      have d1 : ∀ y : Above Ext wr.drew, y.1.cell? ⟨b', off' + k * 3 + 1, none⟩ = some (.int .i64 t.2.1) := fun y => (hxd.trans y.2).cellSome b1
      have d2 : ∀ y : Above Ext wr.drew, y.1.cell? ⟨b', off' + k * 3 + 2, none⟩ = some (.slice p'.1 t.2.2.length p'.2) := fun y => (hxd.trans y.2).cellSome b2
      iterate 8 (
        refine plan_q (v := ?_) rfl rfl ?_ ?_
        rotate_left
        · intro x
          go_simp
          first | done | rfl
        simp only [Act.put, List.getElem_toArray, List.getElem_cons_zero, List.getElem_cons_succ, List.setIfInBounds_toArray, List.set_cons_zero, List.set_cons_succ])
      clear c0 c1 c2 d0 d1 d2
      refine plan_l rfl (by kernel_rfl) ?_
      intro K2 hK2
      go_simp
      refine (same_any wr.drew t.1 t.2.1 t.1 t.2.1 p.1 p'.1 p.2 p'.2 t.2.2 t.2.2 (r1.ext hxd) (r2.ext hxd) (by omega) (by omega)).mono ?_
      rintro x w6 ⟨rfl, hx6⟩
      rw [decide_eq_true (by simp)]
      go_simp
      refine hK2.out _ _ hx6 ?_
      clear hK2 K2
      try simp only [Act.put, List.getElem_toArray, List.getElem_cons_zero, List.getElem_cons_succ, List.setIfInBounds_toArray, List.set_cons_zero, List.set_cons_succ]
      iterate 1 (
        refine plan_q (v := ?_) rfl rfl ?_ ?_
        rotate_left
        · intro x
          go_simp
          first | done | rfl
        simp only [Act.put, List.getElem_toArray, List.getElem_cons_zero, List.getElem_cons_succ, List.setIfInBounds_toArray, List.set_cons_zero, List.set_cons_succ])
      refine plan_end (hK.out _ _ ?_)
      clear hK K
      go_wp2_with fail
      exact ⟨⟨k + 1, by omega, by simp, hxd.trans hx6⟩, by simp [nOf]; omega⟩
    · obtain rfl : k = ts.length := by omega
      go_wp2_with fail
      go_ret
      exact ⟨rfl, hx⟩
/-- is a flight of a line, or of another one? -/
def onl (a b : Int) (o : Bool) (t : Int × Int × Row) : Bool := (decide (t.1 = a ∧ t.2.1 = b)) != o
set_option maxRecDepth 100000 in
set_option maxHeartbeats 3200000 in
theorem only_any (w : World) (A : Option Addr) (c : Nat) (ts : List (Int × Int × Row)) (ps : List (Option Addr × Nat)) (ha : FlA w A ts ps) (hn : ts.length ≤ 100000) (a b : Int) (o : Bool) :
    Calls Try.prog 20 #[.slice A ts.length c, .int .i64 a, .int .i64 b, .bool o] w fun x w' => ∃ A' c' ps', x = .returned (.slice A' (ts.filter (onl a b o)).length c') ∧ FlA w' A' (ts.filter (onl a b o)) ps' ∧ Ext w w' := by
  obtain ⟨i0, hi, hz0, hz1, hz2⟩ := info_parts info_fl
  go_enter Try.func20, Try.ntmps20
  go_wp2_with fail
  go_loopw [9, 10] (fun vv iv wr => ∃ (k : Nat) (us : List (Int × Int × Row)) (qs : List (Option Addr × Nat)), k ≤ ts.length ∧ iv = .int .i64 (k : Int) ∧ Hid (us = (ts.take k).filter (onl a b o)) ∧ us.length ≤ k ∧ FlB w us qs ∧ wr.ownsRow w.heap.size 51 3 vv us.length (flC us qs) ∧ Ext w wr) (fun _ iv _ => ts.length - (nOf iv).toNat)
  case atStart => exact ⟨0, [], [], Nat.zero_le _, rfl, Lib.hid (by simp), Nat.le_refl _, ⟨rfl, fun i t p e => by simp at e⟩, World.ownsRow_nil _ _ _ _, Ext.refl _⟩
  case round =>
    obtain ⟨k, us, qs, hk, rfl, hus, hul, hB, row, hx⟩ := hrel
    by_cases hlt : k < ts.length
    · have hki : (k : Int) < (ts.length : Int) := by omega
      obtain ⟨t, ht⟩ : ∃ t, ts[k]? = some t := ⟨_, List.getElem?_eq_getElem hlt⟩
      have htk : ts.take (k + 1) = ts.take k ++ [t] := by rw [List.take_add_one, ht]; rfl
      obtain ⟨bb, off, p, rfl, -, ⟨r1, l1⟩, a0, a1, a2⟩ := ha.pick ht
      have HT := Lib.hid htk
      clear ht htk
      have c0 := hx.cellSome a0
      have c1 := hx.cellSome a1
      have c2 := hx.cellSome a2
      clear a0 a1 a2
      have hxt := (Ext.refl wr).alloc (.cells #[.int .i64 t.1, .int .i64 t.2.1, .slice p.1 t.2.2.length p.2] 51)
      have bt := Blk.new wr 51 #[.int .i64 t.1, .int .i64 t.2.1, .slice p.1 t.2.2.length p.2]
      have rowt := ownsRow_blk row (fun k e => hxt.blk (row.lt k e).2)
      have hsz := hx.size
      have hsz2 := hxt.size
      obtain ⟨x1, hx1⟩ : ∃ x1, (t.1 == a) = x1 := ⟨_, rfl⟩
      obtain ⟨x2, hx2⟩ : ∃ x2, (t.2.1 == b) = x2 := ⟨_, rfl⟩
      have ho : onl a b o t = ((x1 && x2) != o) := by
        rw [← hx1, ← hx2, onl, Bool.decide_and]
        rfl
      have HO := Lib.hid ho
      clear ho
      obtain ⟨z, hz⟩ : ∃ z, ((x1 && x2) != o) = z := ⟨_, rfl⟩
      rw [hz] at HO
      have HZ := Lib.hid (And.intro hx1 hx2)
      cases z with
      | true =>
        cases x1 <;> cases x2 <;> cases o <;> first | exact absurd hz (by decide) | skip
        all_goals
          clear hz
          go_wp2_with (at_builtin; go_loud (refine wpList_append_own_at _ rfl _ _ 44 rfl w.heap.size 51 i0 (.agg #[.int .i64 0, .int .i64 0, .slice none 0 0]) 3 40 Try.underlying44 hi hz0 hz1 hz2 rfl (by decide) _ us.length (flC us qs) rfl rowt ⟨wr.heap.size, 0, none⟩ 1 1 [.int .i64 t.1, .int .i64 t.2.1, .slice p.1 t.2.2.length p.2] rfl rfl (flw_news bt) (flw_one t p) (by unfold maxLen; omega) (by omega) (by omega) ?_); intro v6 w6 row6 g6 _ loc6)
          refine ⟨⟨k + 1, us ++ [t], qs ++ [p], by omega, by simp, Lib.hid ?_, by simp; omega, hB.snoc ⟨r1, l1⟩, ?_, ?_⟩, by simp [nOf]; omega⟩
          · rw [HT.out, List.filter_append, hus.out, List.filter_cons, if_pos HO.out]
            rfl
          · rw [flC_snoc _ _ _ _ hB.1, List.length_append]
            exact row6
          · exact (Tu.of_grown g6 (S := fun k => w.heap.size ≤ k) (fun k e => (rowt.lt k e).1)).ext_of (hx.trans hxt) (fun k hk => hk)
      | false =>
        cases x1 <;> cases x2 <;> cases o <;> first | exact absurd hz (by decide) | skip
        all_goals
          clear hz
          go_wp2_with fail
          refine ⟨⟨k + 1, us, qs, by omega, by simp, Lib.hid ?_, by omega, hB, row, hx⟩, by simp [nOf]; omega⟩
          rw [HT.out, List.filter_append, hus.out, List.filter_cons, if_neg (by rw [HO.out]; decide)]
          simp
    · obtain rfl : k = ts.length := by omega
      obtain ⟨A', c', rfl⟩ := own_slice row
      go_wp2_with fail
      go_ret
      have e1 := hus.out
      rw [List.take_length] at e1
      rw [← e1]
      exact ⟨A', c', qs, rfl, FlA.of_row row ⟨hB.1, fun i t p q1 q2 => ⟨(hB.2 i t p q1 q2).1.ext hx, (hB.2 i t p q1 q2).2⟩⟩, hx⟩
end partRonly
section partRas
open Go.RowKit Go.Maps
set_option linter.unusedVariables false
set_option linter.unusedSimpArgs false
attribute [local go_sem] Oper.semAt_some

section
variable {w0 w w' : World} {n q : Nat} {g g' : NC} {L : List Hk}
theorem pr_flights (h : Pr w0 w n q g g' L) (e : Nat) (he : g.ends = (e : Int)) (m : Int) (hm : (Lit.int .i64 m).wf = true) (ts : List (Int × Int × Row)) (hts : (if 0 < m ∧ m ≤ (flL g e (e * e)).length then (flL g e (e * e)).take m.toNat else flL g e (e * e)) = ts) :
    Calls Try.prog 17 #[fptr n, .int .i64 m] w fun x w' => ∃ A c ps, x = .returned (.tuple #[.slice A ts.length c, .bool true]) ∧ FlA w' A ts ps ∧ Ext w w' := by
  obtain ⟨O, fm, F, h1, h2, h3, h4, h5, h6⟩ := id h
  refine (flights_any w O n fm F g h1 e he m hm).mono ?_
  rintro x w' ⟨v, rfl, hF, hx⟩
  rw [hts] at hF
  obtain ⟨ps, f1, f2, f3⟩ := hF
  obtain ⟨A, c, rfl⟩ := own_slice f2
  exact ⟨A, c, ps, rfl, FlA.of_row f2 ⟨f1, fun i t p q1 q2 => ⟨(f3 i t p q1 q2).1.low (Nat.zero_le _), (f3 i t p q1 q2).2.2.2.1⟩⟩, hx⟩
theorem pr_all (h : Pr w0 w n q g g' L) (e : Nat) (he : g.ends = (e : Int)) :
    Calls Try.prog 17 #[fptr n, .int .i64 0] w fun x w' => ∃ A c ps, x = .returned (.tuple #[.slice A (flL g e (e * e)).length c, .bool true]) ∧ FlA w' A (flL g e (e * e)) ps ∧ Ext w w' :=
  pr_flights h e he 0 (by decide) _ (by rw [if_neg (by omega)])
theorem pr_rflights (h : Pr w0 w n q g g' L) (e : Nat) (he : g'.ends = (e : Int)) :
    Calls Try.prog 30 #[fptr q] w fun x w' => ∃ A c ps, x = .returned (.slice A (flL g' e (e * e)).length c) ∧ FlA w' A (flL g' e (e * e)) ps ∧ Ext w w' := by
  obtain ⟨O, fm, F, h1, h2, h3, h4, h5, h6⟩ := id h
  refine (rflights_any w O q g' h4 e he).mono ?_
  rintro x w' ⟨v, rfl, ⟨ps, f1, f2, f3⟩, hx⟩
  obtain ⟨A, c, rfl⟩ := own_slice f2
  exact ⟨A, c, ps, rfl, FlA.of_row f2 ⟨f1, fun i t p q1 q2 => ⟨(f3 i t p q1 q2).1, (f3 i t p q1 q2).2.1⟩⟩, hx⟩
theorem pr_len (h : Pr w0 w n q g g' L) (e : Nat) (he : g.ends = (e : Int)) : Calls Try.prog 28 #[fptr n] w fun x w' => x = .returned (.int .i64 ((flL g e (e * e)).length : Nat)) ∧ Ext w w' := by
  obtain ⟨O, fm, F, h1, h2, h3, h4, h5, h6⟩ := id h
  refine (len_any w O n fm F g h1 e he).mono ?_
  rintro x w' ⟨rfl, hx⟩
  rw [flV_len h1 he (e * e) (Nat.le_refl _), flL_len]
  exact ⟨rfl, hx⟩
theorem pr_lost (h : Pr w0 w n q g g' L) : Calls Try.prog 32 #[fptr n] w fun x w' => x = .returned (.int .i64 g.lost) ∧ w = w' := by
  obtain ⟨O, fm, F, h1, h2, h3, h4, h5, h6⟩ := id h
  exact lost_any w O n fm F g h1
theorem pr_line (h : Pr w0 w n q g g' L) (a b : Int) (ha : (Lit.int .i64 a).wf = true) (hb : (Lit.int .i64 b).wf = true) : Calls Try.prog 31 #[fptr n, .int .i64 a, .int .i64 b] w fun x w' => x = .returned (.int .i64 ((g.L a b).length : Int)) ∧ w = w' := by
  obtain ⟨O, fm, F, h1, h2, h3, h4, h5, h6⟩ := id h
  exact line_any w O n fm F g h1 a b ha hb
theorem pr_rline (h : Pr w0 w n q g g' L) (a b : Int) : Calls Try.prog 38 #[fptr q, .int .i64 a, .int .i64 b] w fun x w' => x = .returned (.int .i64 ((g'.L a b).length : Nat)) ∧ w = w' := by
  obtain ⟨O, fm, F, h1, h2, h3, h4, h5, h6⟩ := id h
  exact rline_any w O q g' h4 a b
theorem pr_rat (h : Pr w0 w n q g g' L) (e : Nat) (he : g'.ends = (e : Int)) (p er : Int) (t : Int × Int × Row) (hat : atL (flL g' e (e * e)) p = (er, t)) :
    Calls Try.prog 37 #[fptr q, .int .i64 p] w fun x w' => ∃ A c, x = .returned (.tuple #[fl t.1 t.2.1 A t.2.2.length c, .int .i64 er]) ∧ Rd w' 0 A t.2.2.length t.2.2 ∧ t.2.2.length ≤ 1048576 ∧ Ext w w' := by
  obtain ⟨O, fm, F, h1, h2, h3, h4, h5, h6⟩ := id h
  refine (rat_any w O q g' h4 e he p er t hat).mono ?_
  rintro x w' ⟨A, c, rfl, hB, hx⟩
  exact ⟨A, c, rfl, hB.1, hB.2.1, hx⟩
theorem Pr.rlost (h : Pr w0 w n q g g' L) : w.cell? ⟨q, 37, none⟩ = some (.int .i64 g'.lost) := by
  obtain ⟨O, fm, F, h1, h2, h3, h4, h5, h6⟩ := id h
  exact h4.lost
theorem Pr.le (h : Pr w0 w n q g g' L) (e : Nat) (he : g.ends = (e : Int)) : (flL g e (e * e)).length ≤ 800 ∧ e ≤ 5 ∧ 1 ≤ e ∧ (∀ a b, (g.L a b).length ≤ 32) := by
  obtain ⟨O, fm, F, h1, h2, h3, h4, h5, h6⟩ := id h
  have heb := h1.endsb
  exact ⟨flL_le h1.2.2.2.2.2.2.2.2.2.1 (by omega) (Nat.le_refl _), by omega, by omega, h1.2.2.2.2.2.2.2.2.2.1⟩
end
theorem wf_small {x : Int} (h : -1000000 ≤ x ∧ x ≤ 1000000) : (Lit.int .i64 x).wf = true := by
  have e1 : IntKind.min .i64 = -9223372036854775808 := by kernel_rfl
  have e2 : IntKind.max .i64 = 9223372036854775807 := by kernel_rfl
  simp only [Lit.wf, Bool.and_eq_true, decide_eq_true_eq, e1, e2]
  omega
set_option maxRecDepth 100000 in
set_option maxHeartbeats 6400000 in
theorem las_any {w0 w : World} {n q : Nat} {g : NC} {L : List Hk} (h : Pr w0 w n q g g L) (e : Nat) (he : g.ends = (e : Int)) :
    Calls Try.prog 14 #[fptr n, fptr q] w fun x w' => x = .returned (.bool true) ∧ Ext w w' := by
  obtain ⟨hle, he5, he1, h32⟩ := h.le e he
  obtain ⟨ts, hts⟩ : ∃ ts, flL g e (e * e) = ts := ⟨_, rfl⟩
  have HTS := Lib.hid hts
  rw [hts] at hle
  go_enter Try.func14, Try.ntmps14
  go_wp2_with fail
  refine (pr_all h e he).mono ?_
  rintro x w1 ⟨A1, c1, ps1, rfl, hF1, hx1⟩
  rw [hts] at hF1 ⊢
  have hP1 := h.ext hx1
  go_wp2_with fail
  refine (pr_rflights hP1 e he).mono ?_
  rintro x w2 ⟨A2, c2, ps2, rfl, hF2, hx2⟩
  rw [hts] at hF2 ⊢
  clear hts
  have hP2 := hP1.ext hx2
  have hF1' := hF1.ext hx2
  have hx12 := hx1.trans hx2
  clear hP1 hF1
  go_wp2_with fail
  have hxd := (Ext.refl w2).drew
  have hP3 := hP2.ext hxd
  refine wp_region_plan Ext [(0, true), (1, true), (2, true), (3, true), (4, true), (5, false), (6, true), (7, true), (8, true), (9, true), (11, true), (12, true), (10, false), (13, true), (14, true), (15, true), (16, true), (18, true), (19, true), (20, true), (21, true), (17, false), (22, true), (23, true)] (fun _ _ _ x y => Ext.trans x y) Ext.refl (by kernel_rfl) (by kernel_rfl) ?_
  intro K hK
  iterate 5 (
    refine plan_q (v := ?_) rfl rfl ?_ ?_
    rotate_left
    · intro x
      go_simp
      first | done | rfl
    simp only [Act.put, List.getElem_toArray, List.getElem_cons_zero, List.getElem_cons_succ, List.setIfInBounds_toArray, List.set_cons_zero, List.set_cons_succ])
  refine plan_l rfl (by kernel_rfl) ?_
  intro K2 hK2
  go_simp
  refine (sameall_any w2.drew A1 A2 c1 c2 ts ps1 ps2 (hF1'.ext hxd) (hF2.ext hxd) (by omega)).mono ?_
  rintro x w3 ⟨rfl, hx3⟩
  go_simp
  refine hK2.out _ _ hx3 ?_
  clear hK2 K2
  try simp only [Act.put, List.getElem_toArray, List.getElem_cons_zero, List.getElem_cons_succ, List.setIfInBounds_toArray, List.set_cons_zero, List.set_cons_succ]
  iterate 6 (
    refine plan_q (v := ?_) rfl rfl ?_ ?_
    rotate_left
    · intro x
      go_simp
      first | done | rfl
    simp only [Act.put, List.getElem_toArray, List.getElem_cons_zero, List.getElem_cons_succ, List.setIfInBounds_toArray, List.set_cons_zero, List.set_cons_succ])
  refine plan_l rfl (by kernel_rfl) ?_
  intro K2 hK2
  go_simp
  refine (pr_len (hP3.ext hx3) e he).mono ?_
  rintro x w4 ⟨rfl, hx4⟩
  rw [HTS.out]
  go_simp
  refine hK2.out _ _ hx4 ?_
  clear hK2 K2
  try simp only [Act.put, List.getElem_toArray, List.getElem_cons_zero, List.getElem_cons_succ, List.setIfInBounds_toArray, List.set_cons_zero, List.set_cons_succ]
  have hP4 := (hP3.ext hx3).ext hx4
  have t37 : ∀ y : Above Ext w4, y.1.cell? ⟨q, 37, none⟩ = some (.int .i64 g.lost) := fun y => (hP4.ext y.2).rlost
  iterate 8 (
    refine plan_q (v := ?_) rfl rfl ?_ ?_
    rotate_left
    · intro x
      go_simp
      first | done | rfl
    simp only [Act.put, List.getElem_toArray, List.getElem_cons_zero, List.getElem_cons_succ, List.setIfInBounds_toArray, List.set_cons_zero, List.set_cons_succ])
  clear t37
  refine plan_l rfl (by kernel_rfl) ?_
  intro K2 hK2
  go_simp
  refine (pr_lost hP4).mono ?_
  rintro x w5 ⟨rfl, rfl⟩
  go_simp
  refine hK2.out _ _ (Ext.refl _) ?_
  clear hK2 K2
  try simp only [Act.put, List.getElem_toArray, List.getElem_cons_zero, List.getElem_cons_succ, List.setIfInBounds_toArray, List.set_cons_zero, List.set_cons_succ]
  iterate 2 (
    refine plan_q (v := ?_) rfl rfl ?_ ?_
    rotate_left
    · intro x
      go_simp
      first | done | rfl
    simp only [Act.put, List.getElem_toArray, List.getElem_cons_zero, List.getElem_cons_succ, List.setIfInBounds_toArray, List.set_cons_zero, List.set_cons_succ])
  refine plan_end (hK.out _ _ ?_)
  clear hK K
  have hx14 := ((hx12.trans hxd).trans hx3).trans hx4
  clear hP2 hP3 hF1' hF2 hx3 hxd
  go_wp2_with fail
  go_loopw [8] (fun iv wr => ∃ k : Nat, k ≤ ts.length + 2 ∧ iv = .int .i64 ((k : Int) - 1) ∧ Ext w wr) (fun iv _ => ts.length + 2 - (nOf iv + 1).toNat)
  case atStart => exact ⟨0, by omega, by simp, hx14⟩
  case round =>
    clear hP4 hx14
    obtain ⟨k, hk, rfl, hx⟩ := hrel
    by_cases hlt : k < ts.length + 2
    · have hki : (k : Int) - 1 ≤ (ts.length : Int) := by omega
      obtain ⟨er, t, hat⟩ : ∃ er t, atL (flL g e (e * e)) ((k : Int) - 1) = (er, t) := ⟨_, _, rfl⟩
      go_wp2_with fail
      refine (pr_at (h.ext hx) e he ((k : Int) - 1) (wf_small (by omega)) er t hat).mono ?_
      rintro x w3 ⟨A3, c3, rfl, r3, l3, hx3⟩
      have hxa := (Ext.refl w3).alloc (.cells #[.int .i64 t.1, .int .i64 t.2.1, .slice A3 t.2.2.length c3] 51)
      have ba := Blk.new w3 51 #[.int .i64 t.1, .int .i64 t.2.1, .slice A3 t.2.2.length c3]
      have r4 := r3.ext hxa
      have hx4 := (hx.trans hx3).trans hxa
      go_upto_region 9 with fail
      generalize w3.alloc (.cells #[.int .i64 t.1, .int .i64 t.2.1, .slice A3 t.2.2.length c3] 51) = w4 at *
      generalize w3.heap.size = za at *
      go_wp2_with fail
      refine (pr_rat (h.ext hx4) e he ((k : Int) - 1) er t hat).mono ?_
      rintro x w5 ⟨A5, c5, rfl, r5, l5, hx5⟩
      have hxb := (Ext.refl w5).alloc (.cells #[.int .i64 t.1, .int .i64 t.2.1, .slice A5 t.2.2.length c5] 51)
      have bb := Blk.new w5 51 #[.int .i64 t.1, .int .i64 t.2.1, .slice A5 t.2.2.length c5]
      have ba6 := (ba.ext hx5).ext hxb
      have r46 := (r4.ext hx5).ext hxb
      have r56 := r5.ext hxb
      have hx6 := (hx4.trans hx5).trans hxb
      go_upto_region 10 with fail
      generalize w5.alloc (.cells #[.int .i64 t.1, .int .i64 t.2.1, .slice A5 t.2.2.length c5] 51) = w6 at *
      generalize w5.heap.size = zb at *
      have s0 := ba6.cell 0
      have s1 := ba6.cell 1
      have s2 := ba6.cell 2
      have t0 := bb.cell 0
      have t1 := bb.cell 1
      have t2 := bb.cell 2
      simp at s0 s1 s2 t0 t1 t2
      clear hat
      go_wp2_with fail
      refine (same_any w6 t.1 t.2.1 t.1 t.2.1 A3 A5 c3 c5 t.2.2 t.2.2 (r46.low (Nat.zero_le _)) r56 (by omega) (by omega)).mono ?_
      rintro x w7 ⟨rfl, hx7⟩
      rw [decide_eq_true (by simp)]
      go_wp2_with fail
      refine (num_any _ _).mono ?_
      rintro x w8 ⟨rfl, rfl⟩
      go_wp2_with fail
      exact ⟨⟨k + 1, by omega, by simp, hx6.trans hx7⟩, by simp [nOf]; omega⟩
    · obtain rfl : k = ts.length + 2 := by omega
      have hki : ¬ ((ts.length + 2 : Nat) : Int) - 1 ≤ (ts.length : Int) := by omega
      go_wp2_with fail
      go_loopw [13] (fun av wr => ∃ k : Nat, k ≤ 7 ∧ av = .int .i64 (k : Int) ∧ Ext w wr) (fun av _ => 7 - (nOf av).toNat)
      case atStart => exact ⟨0, by omega, rfl, hx⟩
      case round =>
        clear hx
        obtain ⟨k, hk, rfl, hx⟩ := hrel
        by_cases hlt : k < 7
        · have hki : (k : Int) ≤ 6 := by omega
          go_wp2_with fail
          go_loopw [14] (fun bv wr => ∃ m : Nat, m ≤ 7 ∧ bv = .int .i64 (m : Int) ∧ Ext w wr) (fun bv _ => 7 - (nOf bv).toNat)
          case atStart => exact ⟨0, by omega, rfl, hx⟩
          case round =>
            clear hx
            obtain ⟨m, hm, rfl, hx⟩ := hrel
            by_cases hlm : m < 7
            · have hmi : (m : Int) ≤ 6 := by omega
              go_wp2_with fail
              refine (pr_line (h.ext hx) (k : Int) (m : Int) (wf_small (by omega)) (wf_small (by omega))).mono ?_
              rintro x w7 ⟨rfl, rfl⟩
              go_wp2_with fail
              refine (pr_rline (h.ext hx) (k : Int) (m : Int)).mono ?_
              rintro x w7 ⟨rfl, rfl⟩
              go_wp2_with fail
              exact ⟨⟨m + 1, by omega, by simp, hx⟩, by simp [nOf]; omega⟩
            · obtain rfl : m = 7 := by omega
              go_wp2_with fail
              exact ⟨⟨k + 1, by omega, by simp, hx⟩, by simp [nOf]; omega⟩
        · obtain rfl : k = 7 := by omega
          go_wp2_with fail
          go_ret
          exact ⟨rfl, hx⟩
end partRas
section partRpu
open Go.RowKit Go.Maps
set_option linter.unusedVariables false
set_option linter.unusedSimpArgs false

section
variable {w0 w w' : World} {n q : Nat} {g g' : NC} {L : List Hk}
theorem pr_send (h : Pr w0 w n q g g' L) (a b : Int) (ha : (Lit.int .i64 a).wf = true) (hb : (Lit.int .i64 b).wf = true) (B : Option Addr) (d k : Nat) (row : Row) (hk : k = row.length) (hB : Rd w 0 B row.length row) (hd : row.length ≤ maxLen) (er : Int) (g2 : NC) (hso : sendOut g a b row = (er, g2)) :
    Calls Try.prog 18 #[fptr n, .int .i64 a, .int .i64 b, .slice B k d] w fun x w' => x = .returned (.int .i64 er) ∧ Pr w0 w' n q g2 g' L := by
  subst hk
  obtain ⟨O, fm, F, h1, h2, h3, h4, h5, h6⟩ := h
  refine (send_any w O n fm F g h1 a b ha hb B d row hB hd).mono ?_
  rintro x w' ⟨rfl, hA⟩
  rw [hso] at hA ⊢
  exact ⟨rfl, Pr.after h1 h2 h3 h4 h5 h6 hA⟩
theorem pr_rsend (h : Pr w0 w n q g g' L) (a b : Int) (B : Option Addr) (d k : Nat) (row : Row) (hk : k = row.length) (hB : Rd w 0 B row.length row) (hd : row.length ≤ maxLen) (er : Int) (g2 : NC) (hso : sendOut g' a b row = (er, g2)) :
    Calls Try.prog 33 #[fptr q, .int .i64 a, .int .i64 b, .slice B k d] w fun x w' => x = .returned (.int .i64 er) ∧ Pr w0 w' n q g g2 L := by
  subst hk
  obtain ⟨O, fm, F, h1, h2, h3, h4, h5, h6⟩ := h
  refine (rsend_any w O q g' h4 h1.inn a b B d row hB hd).mono ?_
  rintro x w' ⟨rfl, hR, T⟩
  rw [hso] at hR ⊢
  exact ⟨rfl, Pr.ref h1 h2 h3 h4 h5 h6 hR T⟩
theorem Pr.no (h : Pr w0 w n q g g' L) : ∀ a b, ¬ g.ok a b → g.L a b = [] := by
  obtain ⟨O, fm, F, h1, h2, h3, h4, h5, h6⟩ := h
  exact h1.2.2.2.2.2.2.2.2.1
theorem Pr.lostwf (h : Pr w0 w n q g g' L) : (Lit.int .i64 g.lost).wf = true := by
  obtain ⟨O, fm, F, h1, h2, h3, h4, h5, h6⟩ := h
  exact h1.2.2.2.2.2.1.1
end
/-- a row of flights that is held -/
def RowK (A : Option Addr) (ts : List (Int × Int × Row)) (ps : List (Option Addr × Nat)) (L : List Hk) : Prop :=
  ps.length = ts.length ∧ (∀ x ∈ ts.zip ps, .fb x.1 x.2 ∈ L) ∧ (ts.length = 0 ∨ ∃ rb cs, A = some ⟨rb, 0, none⟩ ∧ .blk rb 51 cs ∈ L ∧ ∀ (j : Nat) (u : Value), (flC ts ps)[j]? = some u → cs[j]? = some u)
theorem RowK.fla {w0 w : World} {n q : Nat} {g g' : NC} {L L' : List Hk} {A : Option Addr} {ts : List (Int × Int × Row)} {ps : List (Option Addr × Nat)} (hR : RowK A ts ps L') (h : Pr w0 w n q g g' L) (hs : ∀ x ∈ L', x ∈ L) : FlA w A ts ps := by
  obtain ⟨h1, h2, h3⟩ := hR
  refine ⟨⟨h1, fun i t p q1 q2 => h.rd (hs _ (h2 (t, p) (List.mem_of_getElem? (i := i) (by rw [List.getElem?_zip_eq_some]; exact ⟨q1, q2⟩))))⟩, h3.imp id ?_⟩
  rintro ⟨rb, cs, e1, e2, e3⟩
  have hb := h.blk (hs _ e2)
  exact ⟨rb, 0, e1, hb.lt, fun j u hu => by rw [Nat.zero_add, hb.cell j]; exact e3 j u hu⟩
theorem row_blkR {w : World} {lo : Nat} {A : Option Addr} {k c : Nat} {cs : List Value} (h : w.ownsRow lo 51 3 (.slice A k c) k cs) (hn : 0 < k) : ∃ rb C, A = some ⟨rb, 0, none⟩ ∧ lo ≤ rb ∧ Blk w rb 51 C ∧ ∀ (j : Nat) (u : Value), cs[j]? = some u → C[j]? = some u := by
  obtain ⟨rb, e1, e2⟩ := row_cellsN h hn
  have hlt := h.lt rb (by rw [e1]; rfl)
  rcases h.2 with ⟨q1, q2⟩ | ⟨gb, cap, cur, q1, q2, q3, q4⟩
  · rw [e1] at q1
    cases q1
  · rw [e1] at q1
    cases q1
    refine ⟨_, _, e1, hlt.1, q3, fun j u hu => ?_⟩
    have hcell := e2 j u hu
    have q3' : Blk w rb 51 cur := q3
    rw [q3'.cell j] at hcell
    exact hcell
theorem pr_keep {w0 w : World} {n q : Nat} {g g' : NC} {L : List Hk} (h : Pr w0 w n q g g' L) (e : Nat) (he : g.ends = (e : Int)) :
    Calls Try.prog 17 #[fptr n, .int .i64 0] w fun x w' => ∃ A c ps Lh, x = .returned (.tuple #[.slice A (flL g e (e * e)).length c, .bool true]) ∧ RowK A (flL g e (e * e)) ps Lh ∧ Pr w0 w' n q g g' (Lh ++ L) := by
  obtain ⟨O, fm, F, h1, h2, h3, h4, h5, h6⟩ := id h
  refine (flights_any w O n fm F g h1 e he 0 (by decide)).mono ?_
  rintro x w' ⟨v, rfl, hF, hx⟩
  rw [if_neg (by omega)] at hF
  obtain ⟨ps, f1, f2, f3⟩ := hF
  obtain ⟨ts, hts⟩ : ∃ ts, flL g e (e * e) = ts := ⟨_, rfl⟩
  rw [hts] at f1 f2 f3 ⊢
  obtain ⟨A, c, rfl⟩ := own_slice f2
  obtain ⟨cq, hcq⟩ := h4.hasB
  have hqlt := hcq.lt
  have hk : ∀ k, k < w.heap.size → O k = none → w'.heap[k]? = w.heap[k]? ∧ O k = none := fun k a b => ⟨hx.blk a, b⟩
  have hfb : ∀ x ∈ ts.zip ps, FB w' O x.1 x.2 := fun y hy => by
    obtain ⟨i, hi, e1⟩ := List.getElem_of_mem hy
    have hi2 : i < ts.length ∧ i < ps.length := by rw [List.length_zip] at hi; omega
    rw [List.getElem_zip] at e1
    obtain ⟨r1, _, _, r4, r5⟩ := f3 i _ _ (List.getElem?_eq_getElem hi2.1) (List.getElem?_eq_getElem hi2.2)
    rw [← e1]
    refine ⟨r1.low (Nat.zero_le _), r4, fun x e hp => ⟨h1.inn.none ?_, by obtain ⟨cz, z, qz, _⟩ := r5 x e hp; exact ⟨cz, z, qz⟩⟩⟩
    obtain ⟨b, off, q1, q2, _⟩ := r1.pos hp
    have q1' := q1
    rw [e] at q1'
    cases q1'
    exact q2
  have hnx := h1.ext hx
  rcases Nat.eq_zero_or_pos ts.length with h0 | h0
  · refine ⟨A, c, ps, (ts.zip ps).map fun x => .fb x.1 x.2, rfl, ⟨f1, fun x hx => List.mem_map.2 ⟨x, hx, rfl⟩, .inl h0⟩, O, fm, F, hnx, h2, h3.trans hx, h4.ext hx, h5, fun x hx' => ?_⟩
    rcases List.mem_append.1 hx' with hx' | hx'
    · obtain ⟨y, hy, rfl⟩ := List.mem_map.1 hx'
      exact hfb y hy
    · exact Hk.keep hx.size hk (h6 x hx')
  · obtain ⟨rb, C, e1, e2, e3, e4⟩ := row_blkR f2 h0
    refine ⟨A, c, ps, .blk rb 51 C :: (ts.zip ps).map fun x => .fb x.1 x.2, rfl, ⟨f1, fun x hx => List.mem_cons_of_mem _ (List.mem_map.2 ⟨x, hx, rfl⟩), .inr ⟨rb, C, e1, List.mem_cons_self, e4⟩⟩, O, fm, F, hnx, h2, h3.trans hx, h4.ext hx, h5, fun x hx' => ?_⟩
    rcases List.mem_append.1 hx' with hx' | hx'
    · rcases List.mem_cons.1 hx' with rfl | hx'
      · exact ⟨e3, h1.inn.none e2, by omega⟩
      · obtain ⟨y, hy, rfl⟩ := List.mem_map.1 hx'
        exact hfb y hy
    · exact Hk.keep hx.size hk (h6 x hx')
theorem clN_count (g : NC) (e : Nat) (k : Int) : ∀ m, ((orderL e m).map fun p => if p.2 = k then (g.L p.1 p.2).length else 0).sum = (flL g e m).countP fun t => decide (t.2.1 = k)
  | 0 => by simp [orderL, flL]
  | m + 1 => by
    have e1 : orderL e (m + 1) = orderL e m ++ [ordAt e m] := by simp [orderL, List.range_succ]
    rw [flL_succ, List.countP_append, ← clN_count g e k m, e1, List.map_append, List.sum_append]
    congr 1
    simp only [List.map_cons, List.map_nil, List.sum_cons, List.sum_nil, Nat.add_zero]
    split
    · rename_i h
      rw [List.countP_eq_length.2]
      · rw [List.length_map]
      · intro x hx
        obtain ⟨r, _, rfl⟩ := List.mem_map.1 hx
        simp [h]
    · rename_i h
      rw [List.countP_eq_zero.2]
      intro x hx
      obtain ⟨r, _, rfl⟩ := List.mem_map.1 hx
      simp [h]
theorem clN_len (g : NC) (e : Nat) (k : Int) : clN g e k + ((flL g e (e * e)).filter fun t => decide (t.2.1 ≠ k)).length = (flL g e (e * e)).length := by
  rw [clN, clN_count, ← List.countP_eq_length_filter]
  have : (fun t : Int × Int × Row => decide (t.2.1 ≠ k)) = fun t => !decide (t.2.1 = k) := by
    funext t
    by_cases h : t.2.1 = k <;> simp [h]
  rw [this]
  have := List.length_eq_countP_add_countP (l := flL g e (e * e)) (p := fun t => decide (t.2.1 = k))
  simp only [Bool.not_eq_true, Bool.decide_eq_false] at this
  omega
/-- a line that is not empty has a flight -/
theorem line_has {g : NC} {e : Nat} (he : g.ends = (e : Int)) {a b : Int} (hok : g.ok a b) (hl : 0 < (g.L a b).length) : ∃ (i : Nat) (t : Int × Int × Row), (flL g e (e * e))[i]? = some t ∧ t.1 = a ∧ t.2.1 = b := by
  obtain ⟨r, rest, hr⟩ := List.exists_cons_of_length_pos hl
  have hm : (a, b, r) ∈ flL g e (e * e) := List.mem_flatMap.2 ⟨(a, b), ok_ord' he hok, List.mem_map.2 ⟨r, by simp only; rw [hr]; exact List.mem_cons_self, rfl⟩⟩
  obtain ⟨i, hi, e1⟩ := List.getElem_of_mem hm
  exact ⟨i, _, by rw [List.getElem?_eq_getElem hi, e1], rfl, rfl⟩
/-- bytes of one number, just made -/
theorem rd_one' (w : World) (u : UInt8) {x : Int} (hx : x = (u.toNat : Int)) : Rd (w.alloc (.cells #[.int .u8 x] 5)) 0 (some ⟨w.heap.size, 0, none⟩) 1 [u] := by
  subst hx
  exact (Rd.newM w 5 [u] (0, 0)).low (Nat.zero_le _)
end partRpu
section partRap
open Go.ChangeShapes Go.WideShapes Go.ChangeAt Go.RowKit Go.Maps
set_option linter.unusedVariables false
set_option linter.unusedSimpArgs false

theorem onl_true {a b : Int} {t : Int × Int × Row} : onl a b true t = true ↔ ¬ (t.1 = a ∧ t.2.1 = b) := by
  unfold onl
  by_cases h : t.1 = a ∧ t.2.1 = b
  · rw [decide_eq_true h]
    exact ⟨(fun e => by cases e), (fun e => absurd h e)⟩
  · rw [decide_eq_false h]
    exact ⟨(fun _ => h), (fun _ => rfl)⟩
theorem put_others (g : NC) {e : Nat} {a b : Int} (hm : (a, b) ∈ orderL e (e * e)) (l : List Row) : (flL (g.put a b l) e (e * e)).filter (onl a b true) = (flL g e (e * e)).filter (onl a b true) := by
  obtain ⟨X, Y, h⟩ := flL_split g hm
  have h0 := h (g.L a b)
  rw [put_self] at h0
  have hno : ∀ m : List Row, (m.map fun r => (a, b, r)).filter (onl a b true) = [] := fun m => by
    rw [List.filter_eq_nil_iff]
    intro x hx
    obtain ⟨r, _, rfl⟩ := List.mem_map.1 hx
    rw [onl_true]
    simp
  rw [h, h0, List.filter_append, List.filter_append, List.filter_append, List.filter_append, hno, hno]
theorem send_others {g : NC} {e : Nat} (he : g.ends = (e : Int)) (a b : Int) (row : Row) : (flL (sendOut g a b row).2 e (e * e)).filter (onl a b true) = (flL g e (e * e)).filter (onl a b true) := by
  unfold sendOut
  split
  · rfl
  · rename_i h
    split
    · rfl
    · exact put_others g (ok_ord' he (Decidable.byContradiction fun h' => h (.inl h'))) _
theorem only_len {g : NC} {e : Nat} {a b : Int} (hm : (a, b) ∈ orderL e (e * e)) : ((flL g e (e * e)).filter (onl a b false)).length = (g.L a b).length := by
  have : onl a b false = ofL (a, b, []) := by
    funext t
    simp [onl, ofL]
  rw [this, flL_of g (t := (a, b, [])) hm, List.length_map]
theorem cnt_put (g : NC) {e k : Nat} (he0 : 0 < e) (l : List Row) : ∀ m, m ≤ k → cntG (g.put (ordAt e k).1 (ordAt e k).2 l) e m = cntG g e m
  | 0, _ => rfl
  | m + 1, hm => by
    rw [cntG_succ, cntG_succ, cnt_put g he0 l m (by omega)]
    congr 1
    have hne : ¬ ((ordAt e m).1 = (ordAt e k).1 ∧ (ordAt e m).2 = (ordAt e k).2) := fun h => by
      have := ordAt_inj he0 (Prod.ext h.1 h.2)
      omega
    simp only [NC.put, if_neg hne]
theorem spot_of {g : NC} {e : Nat} {p : Int} {t : Int × Int × Row} (he0 : 0 < e) (h : atL (flL g e (e * e)) p = (0, t)) : ∃ k i, Spot g e p k i ∧ (t.1, t.2.1) = ordAt e k ∧ (g.L t.1 t.2.1)[i]? = some t.2.2 := by
  obtain ⟨h0, h1⟩ := atL_zero h
  have hl := (List.getElem?_eq_some_iff.1 h1).1
  rw [flL_len] at hl
  obtain ⟨k, k1, k2, k3⟩ := place_line g e (e * e) p.toNat hl
  rw [cntG_succ] at k3
  have hs : Spot g e p k (p.toNat - cntG g e k) := ⟨k1, by omega, by omega⟩
  obtain ⟨a1, _⟩ := spot_atL he0 hs _ (List.getElem?_eq_getElem hs.2.1)
  rw [a1] at h
  cases h
  exact ⟨k, _, hs, rfl, List.getElem?_eq_getElem hs.2.1⟩
/-- a flight doubled, and taken: the other lines stay; its own has as many as before, or, if it was full, one less -/
theorem twice {g : NC} {e : Nat} (he : g.ends = (e : Int)) (he0 : 0 < e) (h0 : ∀ a b, ¬ g.ok a b → g.L a b = []) (h32 : ∀ a b, (g.L a b).length ≤ 32) {p : Int} {t : Int × Int × Row} (h : atL (flL g e (e * e)) p = (0, t)) :
    (flL (takeG (dblOut g e p).2 e p) e (e * e)).filter (onl t.1 t.2.1 true) = (flL g e (e * e)).filter (onl t.1 t.2.1 true) ∧
    (((flL (takeG (dblOut g e p).2 e p) e (e * e)).filter (onl t.1 t.2.1 false)).length = ((flL g e (e * e)).filter (onl t.1 t.2.1 false)).length ∨
      (((flL g e (e * e)).filter (onl t.1 t.2.1 false)).length = 32 ∧ ((flL (takeG (dblOut g e p).2 e p) e (e * e)).filter (onl t.1 t.2.1 false)).length + 1 = 32)) := by
  have hok := atL_ok h0 h
  have hm := ok_ord' he hok
  obtain ⟨k, i, hs, ho, hi⟩ := spot_of he0 h
  have hd : dblOut g e p = if 32 ≤ (g.L t.1 t.2.1).length then (5, g) else (0, g.put t.1 t.2.1 (g.L t.1 t.2.1 ++ [t.2.2])) := by
    rw [dblOut, h, if_neg (by simp)]
  have o1 : (ordAt e k).1 = t.1 := by rw [← ho]
  have o2 : (ordAt e k).2 = t.2.1 := by rw [← ho]
  -- the net behind Double, and its spot
  have key : ∀ (g1 : NC) (l1 : List Row), g1 = g.put t.1 t.2.1 l1 → i < l1.length → Spot g1 e p k i → takeG g1 e p = g1.del t.1 t.2.1 i := by
    intro g1 l1 hg1 hil hs1
    have hL : g1.L t.1 t.2.1 = l1 := by rw [hg1]; simp [NC.put]
    have hil' : i < (g1.L (ordAt e k).1 (ordAt e k).2).length := by rw [o1, o2, hL]; exact hil
    obtain ⟨a1, a2⟩ := spot_atL he0 hs1 _ (List.getElem?_eq_getElem hil')
    rw [takeG, a1, if_pos rfl, a2]
    simp only [o1, o2]
  have hil : i < (g.L t.1 t.2.1).length := (List.getElem?_eq_some_iff.1 hi).1
  have hl32 := h32 t.1 t.2.1
  by_cases hf : 32 ≤ (g.L t.1 t.2.1).length
  · rw [hd, if_pos hf]
    have ht := key g (g.L t.1 t.2.1) (put_self g _ _).symm hil hs
    simp only [ht]
    refine ⟨put_others g hm _, .inr ⟨by rw [only_len hm]; omega, ?_⟩⟩
    rw [only_len hm]
    simp only [NC.del, NC.put, and_self, if_true, List.length_append, List.length_take, List.length_drop]
    omega
  · rw [hd, if_neg hf]
    obtain ⟨g1, hg1⟩ : ∃ g1, g.put t.1 t.2.1 (g.L t.1 t.2.1 ++ [t.2.2]) = g1 := ⟨_, rfl⟩
    simp only [hg1]
    have hs1 : Spot g1 e p k i := by
      obtain ⟨s1, s2, s3⟩ := hs
      refine ⟨s1, ?_, ?_⟩
      · rw [o1, o2, ← hg1]
        simp only [NC.put, and_self, if_true, List.length_append]
        omega
      · rw [← hg1, ← o1, ← o2, cnt_put g he0 _ k (Nat.le_refl _)]
        exact s3
    have ht := key g1 _ hg1.symm (by rw [List.length_append]; omega) hs1
    rw [ht]
    have hL1 : (g1.L t.1 t.2.1).length = (g.L t.1 t.2.1).length + 1 := by rw [← hg1]; simp [NC.put]
    refine ⟨(put_others g1 hm _).trans (by rw [← hg1]; exact put_others g hm _), .inl ?_⟩
    rw [only_len hm, only_len hm]
    simp only [NC.del, NC.put, and_self, if_true, List.length_append, List.length_take, List.length_drop]
    omega
set_option maxRecDepth 100000 in
theorem open_act {H : Type} {enc : TypeId × Value → H} {W : World} {base : Nat} {v : Value} {d : DataW H} {p : List MemPlace} (hv : Value.okWide Try.prog W .any base 40 v) (h : DataW.Trod enc Try.prog W 0 (fun _ => true) true 40 v d p) : ∃ s : Ac, v = acV s ∧ s.ok W := by
  obtain ⟨c0, c1, c2, c3, y0, y1, y2, y3, m, rfl, rfl, rfl, g0, g1, g2, g3⟩ := Go.Joins.open_agg4 Try.underlying40 (by kernel_rfl) (by kernel_rfl) hv h
  have k2 : Try.prog.cellsOf 5 = 1 := by kernel_rfl
  obtain ⟨z0, e0, -, w0⟩ := DataW.trod_int Try.underlying3 g0
  obtain ⟨z1, e1, -, w1⟩ := DataW.trod_int Try.underlying3 g1
  obtain ⟨z2, e2, -, w2⟩ := DataW.trod_int Try.underlying3 g2
  obtain ⟨A3, n3, c3', l3, e3, r3, rc⟩ := open_rd_cells Try.underlying38 Try.underlying5 k2 g3
  simp at e0 e1 e2 e3
  subst e0 e1 e2 e3
  have hn3 := r3.len
  subst hn3
  exact ⟨⟨z0, z1, z2, A3, c3', l3⟩, rfl, w0, w1, w2, r3, rc⟩
end partRap
section partRcopy
open Go.RowKit Go.Maps
set_option linter.unusedVariables false
set_option linter.unusedSimpArgs false
attribute [local go_sem] Oper.semAt_some

theorem setRow_grown (w : World) (g : Nat) (c' : Array Value) : w.grownBy (w.setRow g c') (some g) :=
  ⟨rfl, rfl, rfl, by simp, fun k _ hk => setRow_other w g k c' (fun e => hk (by rw [e]))⟩
theorem RefX.one {w : World} {O : Ow} {g : NC} {vs : List Value} (h2 : vs.length = 36) (h4 : ∀ a b : Nat, a < 6 → b < 6 → ∃ v, vs[a * 6 + b]? = some v ∧ LineR w O v (g.L a b)) : (vs ++ [Value.int .i64 g.ends, Value.int .i64 g.lost]).toArray.all (·.oneCell') = true := by
  rw [List.all_toArray, List.all_eq_true]
  intro x hx
  rcases List.mem_append.1 hx with hx | hx
  · obtain ⟨i, hi, e⟩ := List.getElem_of_mem hx
    obtain ⟨v, e1, A, c, cs, e2, _⟩ := h4 (i / 6) (i % 6) (by omega) (by omega)
    rw [show i / 6 * 6 + i % 6 = i by omega, List.getElem?_eq_getElem hi, e] at e1
    cases e1
    rw [e2]
    rfl
  · simp at hx
    rcases hx with rfl | rfl <;> rfl
set_option maxRecDepth 100000 in
set_option maxHeartbeats 3200000 in
theorem rcopy_any (w : World) (O : Ow) (q : Nat) (g : NC) (h : RefX w O q g) (hI : In O w) :
    Calls Try.prog 35 #[fptr q] w fun x w' => x = .returned (fptr w.heap.size) ∧ RefX w' O w.heap.size g ∧ Ext w w' := by
  obtain ⟨h1, ⟨vs, h2, h3, h4⟩, h5⟩ := id h
  have hone := RefX.one h2 h4
  obtain ⟨cells, hcs⟩ : ∃ cells, (vs ++ [Value.int .i64 g.ends, Value.int .i64 g.lost]).toArray = cells := ⟨_, rfl⟩
  rw [hcs] at h3 hone
  have hsz : cells.size = 38 := by rw [← hcs]; simp [h2]
  go_enter Try.func35, Try.ntmps35
  have hinfo : (Try.prog.info? 35).map (·.size) = some cells.size := by rw [hsz]; kernel_rfl
  have hxa := (Ext.refl w).alloc (.cells #[.slice none 0 0, .slice none 0 0, .slice none 0 0, .slice none 0 0, .slice none 0 0, .slice none 0 0, .slice none 0 0, .slice none 0 0, .slice none 0 0, .slice none 0 0, .slice none 0 0, .slice none 0 0, .slice none 0 0, .slice none 0 0, .slice none 0 0, .slice none 0 0, .slice none 0 0, .slice none 0 0, .slice none 0 0, .slice none 0 0, .slice none 0 0, .slice none 0 0, .slice none 0 0, .slice none 0 0, .slice none 0 0, .slice none 0 0, .slice none 0 0, .slice none 0 0, .slice none 0 0, .slice none 0 0, .slice none 0 0, .slice none 0 0, .slice none 0 0, .slice none 0 0, .slice none 0 0, .slice none 0 0, .int .i64 0, .int .i64 0] 35)
  have ba := Blk.new w 35 #[.slice none 0 0, .slice none 0 0, .slice none 0 0, .slice none 0 0, .slice none 0 0, .slice none 0 0, .slice none 0 0, .slice none 0 0, .slice none 0 0, .slice none 0 0, .slice none 0 0, .slice none 0 0, .slice none 0 0, .slice none 0 0, .slice none 0 0, .slice none 0 0, .slice none 0 0, .slice none 0 0, .slice none 0 0, .slice none 0 0, .slice none 0 0, .slice none 0 0, .slice none 0 0, .slice none 0 0, .slice none 0 0, .slice none 0 0, .slice none 0 0, .slice none 0 0, .slice none 0 0, .slice none 0 0, .slice none 0 0, .slice none 0 0, .slice none 0 0, .slice none 0 0, .slice none 0 0, .slice none 0 0, .int .i64 0, .int .i64 0]
  go_upto_region 1 with fail
  go_wp2_with (first | (refine wpList_load_row rfl _ _ rfl q rfl 35 cells (0, 0) _ h3 Try.underlying35 rfl hinfo ?_) | (refine wpList_store_row rfl _ _ _ rfl w.heap.size cells rfl rfl 35 _ ba hinfo (by rw [hsz]; rfl) hone ?_))
  have bb : Blk ((w.alloc (.cells #[.slice none 0 0, .slice none 0 0, .slice none 0 0, .slice none 0 0, .slice none 0 0, .slice none 0 0, .slice none 0 0, .slice none 0 0, .slice none 0 0, .slice none 0 0, .slice none 0 0, .slice none 0 0, .slice none 0 0, .slice none 0 0, .slice none 0 0, .slice none 0 0, .slice none 0 0, .slice none 0 0, .slice none 0 0, .slice none 0 0, .slice none 0 0, .slice none 0 0, .slice none 0 0, .slice none 0 0, .slice none 0 0, .slice none 0 0, .slice none 0 0, .slice none 0 0, .slice none 0 0, .slice none 0 0, .slice none 0 0, .slice none 0 0, .slice none 0 0, .slice none 0 0, .slice none 0 0, .slice none 0 0, .int .i64 0, .int .i64 0] 35)).setRow w.heap.size cells) w.heap.size 35 cells := setRow_heap _ _ _ _ _ _ ba
  have hx2 : Ext w ((w.alloc (.cells #[.slice none 0 0, .slice none 0 0, .slice none 0 0, .slice none 0 0, .slice none 0 0, .slice none 0 0, .slice none 0 0, .slice none 0 0, .slice none 0 0, .slice none 0 0, .slice none 0 0, .slice none 0 0, .slice none 0 0, .slice none 0 0, .slice none 0 0, .slice none 0 0, .slice none 0 0, .slice none 0 0, .slice none 0 0, .slice none 0 0, .slice none 0 0, .slice none 0 0, .slice none 0 0, .slice none 0 0, .slice none 0 0, .slice none 0 0, .slice none 0 0, .slice none 0 0, .slice none 0 0, .slice none 0 0, .slice none 0 0, .slice none 0 0, .slice none 0 0, .slice none 0 0, .slice none 0 0, .slice none 0 0, .int .i64 0, .int .i64 0] 35)).setRow w.heap.size cells) := (Tu.of_grown (setRow_grown _ _ _) (S := fun k => w.heap.size ≤ k) (fun k e => by cases e; exact Nat.le_refl _)).ext_of hxa (fun k hk => hk)
  go_ret
  refine ⟨rfl, ⟨hI.none (Nat.le_refl _), ⟨vs, h2, ?_, fun a b ha hb => ?_⟩, h5⟩, hx2⟩
  · rw [hcs]
    exact bb
  · obtain ⟨v, q1, q2⟩ := h4 a b ha hb
    exact ⟨v, q1, q2.keep hx2.size (fun k hk e => ⟨hx2.blk hk, e⟩)⟩
end partRcopy
section partRover
open Go.RowKit Go.Maps
set_option linter.unusedVariables false
set_option linter.unusedSimpArgs false

section
variable {w0 w w' : World} {n q fm : Nat} {O J : Ow} {F : DataW Value} {g g' : NC} {L : List Hk}
theorem netx_mark (h : NetX w O n fm F g) (hx : Ext w w') : NetX w' (fun k => if w.heap.size ≤ k ∧ k < w'.heap.size then some (-9, -9) else O k) n fm F g := by
  refine h.keep hx.size (fun k hk => ⟨hx.blk hk, by rw [if_neg (by omega)]⟩) (fun k hk => ?_)
  split at hk
  · omega
  · have := h.inn k hk
    have := hx.size
    omega
theorem row_one {v : Value} {k : Nat} {xs ys : List Value} (h : w.ownsRow 0 38 1 v k xs) (h' : w.ownsRow 0 38 1 v k ys) : xs = ys := by
  obtain ⟨A, c, rfl⟩ := own_slice h
  have l1 : xs.length = k * 1 := h.1
  have l2 : ys.length = k * 1 := h'.1
  rcases Nat.eq_zero_or_pos k with h0 | h0
  · subst h0
    rw [List.eq_nil_of_length_eq_zero (by omega : xs.length = 0), List.eq_nil_of_length_eq_zero (by omega : ys.length = 0)]
  · obtain ⟨rb, e1, e2⟩ := row_cells h h0
    obtain ⟨rb', e1', e2'⟩ := row_cells h' h0
    rw [e1] at e1'
    cases e1'
    apply List.ext_getElem (by omega)
    intro i h1 h2
    have a1 := e2 i _ (List.getElem?_eq_getElem h1)
    have a2 := e2' i _ (List.getElem?_eq_getElem h2)
    rw [a1] at a2
    exact Option.some.inj a2
/-- what the net has of its own, and the bytes that it shares, stay -/
theorem NetX.move (h : NetX w O n fm F g) (hJ : NetX w J n fm F g) (hs : w.heap.size ≤ w'.heap.size) (ho : ∀ k, k < w.heap.size → (O k).isSome = true → w'.heap[k]? = w.heap[k]?) (hb : ∀ k cu z, w.heap[k]? = some (.cells cu 5 z) → J k = none → w'.heap[k]? = w.heap[k]?) : NetX w' O n fm F g := by
  obtain ⟨o1, o2, b1, m1, hc, hf, hn, hl, h0, h32, hO⟩ := h
  obtain ⟨_, _, _, _, _, _, _, hl', _, _, _⟩ := hJ
  refine ⟨o1, o2, (ho n b1.lt (by rw [o1]; rfl)).trans b1, m1.keep (ho fm m1.lt (by rw [o2]; rfl)), hc, hf, hn, fun a b hab => ?_, h0, h32, hO.ext hs⟩
  rcases hl a b hab with ⟨e1, e2⟩ | ⟨v, cs, e1, e2, e3, e4⟩
  · exact .inl ⟨e1, e2⟩
  · rcases hl' a b hab with ⟨f1, f2⟩ | ⟨v', cs', f1, f2, f3, f4⟩
    · rw [e1] at f1; cases f1
    · rw [e1] at f1
      obtain rfl := Option.some.inj f1
      obtain rfl := row_one e3 f3
      refine .inr ⟨v, cs, e1, e2, ownsRow_blk e3 (fun k hk => ho k (e3.lt k hk).2 (by rw [e2 k hk]; rfl)), e4.1, fun i hi => ?_⟩
      obtain ⟨r1, A, c, r2, r3, r4, r5, r6⟩ := e4.2 i hi
      obtain ⟨_, A', c', s2, s3, _, _, s6⟩ := f4.2 i hi
      rw [r2] at s2
      injection s2 with s2
      injection s2 with sA _ _
      subst sA
      rcases Nat.eq_zero_or_pos (g.L a b)[i].length with z | z
      · exact ⟨r1, A, c, r2, ⟨r3.1, .inl z⟩, r4, r5, fun x e hp => by omega⟩
      · obtain ⟨k, off, q1, q2, q3, q4⟩ := r3.pos z
        obtain ⟨u1, cu, cz, u2⟩ := r6 _ q1 z
        have hk := hb k cu cz u2 (s6 _ q1 z).1
        refine ⟨r1, A, c, r2, ⟨r3.1, .inr ⟨k, off, q1, q2, by omega, fun j hj => ?_⟩⟩, r4, r5, fun x e hp => ?_⟩
        · rw [World.cell?_of_block (w := w) hk]
          exact q4 j hj
        · rw [q1] at e
          cases e
          exact ⟨u1, cu, cz, hk.trans u2⟩
/-- flights that were told: their bytes may be written -/
def Told (w : World) (lo : Nat) (A : Option Addr) (ts : List (Int × Int × Row)) (ps : List (Option Addr × Nat)) : Prop :=
  ps.length = ts.length ∧ (ts.length = 0 ∨ ∃ rb C, A = some ⟨rb, 0, none⟩ ∧ lo ≤ rb ∧ Blk w rb 51 C ∧ ∀ (j : Nat) (u : Value), (flC ts ps)[j]? = some u → C[j]? = some u) ∧
    ∀ (i : Nat) (t : Int × Int × Row) (p : Option Addr × Nat), ts[i]? = some t → ps[i]? = some p → t.2.2.length ≤ 1048576 ∧ (t.2.2.length = 0 ∨ ∃ b off cs, p.1 = some ⟨b, off, none⟩ ∧ lo ≤ b ∧ Blk w b 5 cs ∧ ∀ j, j < t.2.2.length → ∃ u : UInt8, cs[off + j]? = some (.int .u8 (u.toNat : Int)))
theorem Told.ext {lo : Nat} {A : Option Addr} {ts : List (Int × Int × Row)} {ps : List (Option Addr × Nat)} (h : Told w lo A ts ps) (hx : Ext w w') : Told w' lo A ts ps := by
  obtain ⟨h1, h2, h3⟩ := h
  refine ⟨h1, h2.imp id ?_, fun i t p q1 q2 => ⟨(h3 i t p q1 q2).1, (h3 i t p q1 q2).2.imp id ?_⟩⟩
  · rintro ⟨rb, C, e1, e2, e3, e4⟩
    exact ⟨rb, C, e1, e2, e3.ext hx, e4⟩
  · rintro ⟨b, off, cs, e1, e2, e3, e4⟩
    exact ⟨b, off, cs, e1, e2, e3.ext hx, e4⟩
theorem Told.write {lo b0 : Nat} {A : Option Addr} {ts : List (Int × Int × Row)} {ps : List (Option Addr × Nat)} {cs0 : Array Value} (h : Told w lo A ts ps) (hb : Blk w b0 5 cs0) (o0 : Nat) (u0 : UInt8) : Told (w.setCell ⟨b0, o0, none⟩ (.int .u8 (u0.toNat : Int))) lo A ts ps := by
  obtain ⟨h1, h2, h3⟩ := h
  have hg := setCell_grownBy w ⟨b0, o0, none⟩ (.int .u8 (u0.toNat : Int))
  refine ⟨h1, h2.imp id ?_, fun i t p q1 q2 => ⟨(h3 i t p q1 q2).1, (h3 i t p q1 q2).2.imp id ?_⟩⟩
  · rintro ⟨rb, C, e1, e2, e3, e4⟩
    refine ⟨rb, C, e1, e2, (hg.block rb e3.lt (fun e => ?_)).trans e3, e4⟩
    obtain rfl : rb = b0 := by simpa using e
    have e3' : w.heap[rb]? = some (.cells C 51 (0, 0)) := e3
    have hb' : w.heap[rb]? = some (.cells cs0 5 (0, 0)) := hb
    rw [e3'] at hb'
    cases hb'
  · rintro ⟨b, off, cs, e1, e2, e3, e4⟩
    by_cases e : b = b0
    · subst e
      refine ⟨b, off, _, e1, e2, e3.set_ o0 _, fun j hj => ?_⟩
      obtain ⟨u, hu⟩ := e4 j hj
      have hlt := (Array.getElem?_eq_some_iff.1 hu).1
      rw [Array.getElem?_setIfInBounds]
      split
      · rw [if_pos (by omega)]
        exact ⟨u0, rfl⟩
      · exact ⟨u, hu⟩
    · exact ⟨b, off, cs, e1, e2, (hg.block b e3.lt (fun e' => e (by simpa using e'))).trans e3, e4⟩
theorem pr_told (h : Pr w0 w n q g g' L) (e : Nat) (he : g.ends = (e : Int)) (m : Int) (hm : (Lit.int .i64 m).wf = true) (ts : List (Int × Int × Row)) (hts : (if 0 < m ∧ m ≤ (flL g e (e * e)).length then (flL g e (e * e)).take m.toNat else flL g e (e * e)) = ts) :
    Calls Try.prog 17 #[fptr n, .int .i64 m] w fun x w' => ∃ A c ps, x = .returned (.tuple #[.slice A ts.length c, .bool true]) ∧ FlA w' A ts ps ∧ Told w' w.heap.size A ts ps ∧ Ext w w' := by
  obtain ⟨O, fm, F, h1, h2, h3, h4, h5, h6⟩ := id h
  refine (flights_any w O n fm F g h1 e he m hm).mono ?_
  rintro x w' ⟨v, rfl, hF, hx⟩
  rw [hts] at hF
  obtain ⟨ps, f1, f2, f3⟩ := hF
  obtain ⟨A, c, rfl⟩ := own_slice f2
  refine ⟨A, c, ps, rfl, FlA.of_row f2 ⟨f1, fun i t p q1 q2 => ⟨(f3 i t p q1 q2).1.low (Nat.zero_le _), (f3 i t p q1 q2).2.2.2.1⟩⟩, ⟨f1, ?_, fun i t p q1 q2 => ⟨(f3 i t p q1 q2).2.2.2.1, ?_⟩⟩, hx⟩
  · rcases Nat.eq_zero_or_pos ts.length with h0 | h0
    · exact .inl h0
    · obtain ⟨rb, C, e1, e2, e3, e4⟩ := row_blkR f2 h0
      exact .inr ⟨rb, C, e1, e2, e3, e4⟩
  · rcases Nat.eq_zero_or_pos t.2.2.length with h0 | h0
    · exact .inl h0
    · obtain ⟨r1, _, _, _, r5⟩ := f3 i t p q1 q2
      obtain ⟨b, off, s1, s2, s3, s4⟩ := r1.pos h0
      obtain ⟨cs, z, s5, rfl⟩ := r5 _ s1 h0
      have hb : Blk w' b 5 cs := s5
      refine .inr ⟨b, off, cs, s1, s2, hb, fun j hj => ⟨t.2.2[j], ?_⟩⟩
      have := s4 j hj
      rw [hb.cell (off + j)] at this
      exact this
theorem pr_rflightsC (h : Pr w0 w n q g g' L) (e : Nat) (he : g'.ends = (e : Int)) :
    Calls Try.prog 30 #[fptr q] w fun x w' => ∃ A c ps, x = .returned (.slice A (flL g' e (e * e)).length c) ∧ (flL g' e (e * e)).length ≤ c ∧ FlA w' A (flL g' e (e * e)) ps ∧ Ext w w' := by
  obtain ⟨O, fm, F, h1, h2, h3, h4, h5, h6⟩ := id h
  refine (rflights_any w O q g' h4 e he).mono ?_
  rintro x w' ⟨v, rfl, ⟨ps, f1, f2, f3⟩, hx⟩
  obtain ⟨A, c, rfl⟩ := own_slice f2
  refine ⟨A, c, ps, rfl, ?_, FlA.of_row f2 ⟨f1, fun i t p q1 q2 => ⟨(f3 i t p q1 q2).1, (f3 i t p q1 q2).2.1⟩⟩, hx⟩
  rcases f2.2 with ⟨q1, q2⟩ | ⟨gb, cap, cur, q1, _, _, q4, _⟩
  · omega
  · injection q1 with _ _ q1
    omega
/-- all that is nobody's -/
def nob (w : World) (O : Ow) (q : Nat) : List Hk := (List.range w.heap.size).filterMap fun k => if O k = none ∧ k ≠ q then (w.heap[k]?).map fun o => .obj k o else none
theorem nob_ok : ∀ x ∈ nob w O q, x.ok w O q := by
  intro x hx
  obtain ⟨k, hk, e⟩ := List.mem_filterMap.1 hx
  split at e
  · rename_i h
    obtain ⟨o, ho, e2⟩ := Option.map_eq_some_iff.1 e
    subst e2
    exact ⟨ho, h.1, h.2⟩
  · cases e
theorem nob_mem {k : Nat} (hk : k < w.heap.size) (h : O k = none) (hq : k ≠ q) : Hk.obj k w.heap[k] ∈ nob w O q := by
  refine List.mem_filterMap.2 ⟨k, List.mem_range.2 hk, ?_⟩
  rw [if_pos ⟨h, hq⟩, Array.getElem?_eq_getElem hk]
  rfl
end
end partRover
end Go.Proofs.Ytekbdpfiommmbaa
