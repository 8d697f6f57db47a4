/- What a step of both readers does; the contract of alike. Conditions: as each theorem says. -/
import Derived.Test.YtbikncgabmgphaaKnown
import Derived.Test.YtbikncgabmgphaaPlan
import Derived.Test.YtbikncgabmgphaaRreader
import Derived.Test.YtbikncgabmgphaaOpen
namespace Go.Proofs.Ytbikncgabmgphaa
open Go.ChangeShapes Go.WideShapes Go.ChangeAt Go.RowKit
set_option linter.unusedVariables false
set_option linter.unusedSimpArgs false

/-- The world moves on: of what there was only blocks g and h may turn. -/
structure Mv (g h : Nat) (w w' : World) : Prop where
  os : w'.os = w.os
  tape : w'.tape = w.tape
  output : w'.output = w.output
  size : w.heap.size ≤ w'.heap.size
  block : ∀ k, k < w.heap.size → k ≠ g → k ≠ h → w'.heap[k]? = w.heap[k]?
theorem Mv.refl (g h : Nat) (w : World) : Mv g h w w := ⟨rfl, rfl, rfl, Nat.le_refl _, fun _ _ _ _ => rfl⟩
theorem Mv.trans {g h : Nat} {a b c : World} (x : Mv g h a b) (y : Mv g h b c) : Mv g h a c :=
  ⟨y.os.trans x.os, y.tape.trans x.tape, y.output.trans x.output, Nat.le_trans x.size y.size, fun k h1 h2 h3 => (y.block k (Nat.lt_of_lt_of_le h1 x.size) h2 h3).trans (x.block k h1 h2 h3)⟩
theorem Mv.of_ext {g h : Nat} {w w' : World} (x : Ext w w') : Mv g h w w' := ⟨x.os, x.tape, x.output, x.size, fun k h1 _ _ => x.blk h1⟩
theorem Mv.left {g h : Nat} {w w' : World} (x : w.grownBy w' (some g)) : Mv g h w w' := ⟨x.os, x.tape, x.output, x.size, fun k h1 h2 _ => x.block k h1 (fun e => h2 (Option.some.inj e))⟩
theorem Mv.right {g h : Nat} {w w' : World} (x : w.grownBy w' (some h)) : Mv g h w w' := ⟨x.os, x.tape, x.output, x.size, fun k h1 _ h2 => x.block k h1 (fun e => h2 (Option.some.inj e))⟩
theorem Mv.ext {g h : Nat} {W w w' : World} (x : Mv g h w w') (hx : Ext W w) (hg : W.heap.size ≤ g) (hh : W.heap.size ≤ h) : Ext W w' :=
  ⟨x.os.trans hx.os, x.tape.trans hx.tape, x.output.trans hx.output, Nat.le_trans hx.size x.size, fun k hk => (x.block k (Nat.lt_of_lt_of_le hk hx.size) (by omega) (by omega)).trans (hx.blk hk)⟩
theorem Mv.cell {g h : Nat} {w w' : World} (x : Mv g h w w') {p : Addr} {v : Value} (hp : w.cell? p = some v) (hg : p.block ≠ g) (hh : p.block ≠ h) : w'.cell? p = some v :=
  (World.cell?_of_block (w := w) (x.block p.block (World.block_lt_of_cell? w _ hp) hg hh)).trans hp

/-- a block that holds no byte -/
def Plain (w : World) (g : Nat) : Prop := ∃ t cs, Blk w g t cs ∧ ∀ (i : Nat) (x : Int), cs[i]? ≠ some (Value.int .u8 x)
theorem Wr.plain {w : World} {lo g : Nat} {st : Option (List UInt8)} (h : Wr w lo g st) : Plain w g := by
  rcases st with _ | l
  · exact ⟨_, _, h.2, wr_some_cells _ _ _ _ _ (by decide)⟩
  · obtain ⟨A, n, c, h1, _⟩ := h.2
    exact ⟨_, _, h1, wr_some_cells _ _ _ _ _ (by decide)⟩
theorem Rr.plain {w : World} {lo g : Nat} {st : Option (List UInt8)} (h : Rr w lo g st) : Plain w g := by
  rcases st with _ | l
  · exact ⟨_, _, h.2, rr_cells _ _ _ _⟩
  · obtain ⟨A, n, c, h1, _⟩ := h.2
    exact ⟨_, _, h1, rr_cells _ _ _ _⟩
theorem Plain.lt {w : World} {g : Nat} (h : Plain w g) : g < w.heap.size := by
  obtain ⟨_, _, h, _⟩ := h
  exact h.lt
theorem Rd.mv {w w' : World} {lo : Nat} {A : Option Addr} {n : Nat} {l : List UInt8} {g h : Nat} (hr : Rd w lo A n l) (hg : Plain w g) (hh : Plain w h) (x : Mv g h w w') : Rd w' lo A n l := by
  rcases Nat.eq_zero_or_pos n with h0 | h0
  · subst h0
    obtain rfl := List.eq_nil_of_length_eq_zero hr.len
    exact Rd.nil _ _ _
  · obtain ⟨b, off, hA, hlo, hb, hc⟩ := hr.pos h0
    have hl := hr.len
    have far : ∀ k, Plain w k → b ≠ k := by
      rintro k ⟨t, cs, hk, hn⟩ rfl
      have := hc 0 (by omega)
      rw [hk.cell] at this
      exact hn _ _ this
    exact ⟨hl, .inr ⟨b, off, hA, hlo, Nat.lt_of_lt_of_le hb x.size, fun i hi => x.cell (hc i hi) (far g hg) (far h hh)⟩⟩
theorem Wr.mv {w w' : World} {lo g h : Nat} {st : Option (List UInt8)} (hw : Wr w lo g st) (hh : Plain w h) (x : w.grownBy w' (some h)) (hne : g ≠ h) : Wr w' lo g st := by
  have hn : some g ≠ some h := fun e => hne (Option.some.inj e)
  have hp := hw.plain
  refine ⟨hw.1, ?_⟩
  rcases st with _ | l
  · exact Blk.other hw.2 x hn
  · obtain ⟨A, n, c, h1, h2, h3, h4⟩ := hw.2
    exact ⟨A, n, c, Blk.other h1 x hn, h2, h3.mv hp hh (Mv.right x), h4⟩
theorem Rr.mv {w w' : World} {lo g h : Nat} {st : Option (List UInt8)} (hw : Rr w lo h st) (hg : Plain w g) (x : w.grownBy w' (some g)) (hne : g ≠ h) : Rr w' lo h st := by
  have hn : some h ≠ some g := fun e => hne (Option.some.inj e).symm
  have hp := hw.plain
  refine ⟨hw.1, ?_⟩
  rcases st with _ | l
  · exact Blk.other hw.2 x hn
  · obtain ⟨A, n, c, h1, h2, h3, h4⟩ := hw.2
    exact ⟨A, n, c, Blk.other h1 x hn, h2, h3.mv hg hp (Mv.left x), h4⟩
theorem Wr.kept {w w' : World} {lo g : Nat} {st : Option (List UInt8)} (h : Wr w lo g st) (hx : Ext w w') : Wr w' lo g st := by
  refine ⟨h.1, ?_⟩
  rcases st with _ | l
  · exact Blk.ext h.2 hx
  · obtain ⟨A, n, c, h1, h2, h3, h4⟩ := h.2
    exact ⟨A, n, c, Blk.ext h1 hx, h2, h3.ext hx, h4⟩
theorem Rr.kept {w w' : World} {lo g : Nat} {st : Option (List UInt8)} (h : Rr w lo g st) (hx : Ext w w') : Rr w' lo g st := by
  refine ⟨h.1, ?_⟩
  rcases st with _ | l
  · exact Blk.ext h.2 hx
  · obtain ⟨A, n, c, h1, h2, h3, h4⟩ := h.2
    exact ⟨A, n, c, Blk.ext h1 hx, h2, h3.ext hx, h4⟩

/-- string(b) in every world that both readers may move on to -/
theorem later_mv {P : Program} {g h : Nat} {w : World} {lo : Nat} {A : Option Addr} {n : Nat} {l : List UInt8} (hr : Rd w lo A n l) (hg : Plain w g) (hh : Plain w h) (c : Nat) {src e dst : TypeId}
    (hs : P.underlying src = some (.slice e)) (he : P.underlying e = some (.int .u8)) (hd : P.underlying dst = some .string) :
    ∀ x : Above (Mv g h) w, (convert src dst (.slice A n c)).run P x.1 = .ok (.string ⟨l.toArray⟩) x.1 :=
  fun x => run_string (hr.mv hg hh x.2) c hs he hd

/-- where a step leaves a reader -/
def stepS (st : Option (List UInt8)) (k n : Int) : Option (List UInt8) :=
  if k = 1 then (rnumber st n).2 else if k = 2 then (rblob st).2 else if k = 3 then (rbytes st n).2 else st

set_option maxRecDepth 100000 in
set_option maxHeartbeats 1600000 in
theorem alike_any (w : World) (g h lo lo' : Nat) (st : Option (List UInt8)) (k n : Int) (hg : Wr w lo g st) (hh : Rr w lo' h st) (hne : g ≠ h) :
    Calls Try.prog 29 #[.pointer (some ⟨g, 0, none⟩), .pointer (some ⟨h, 0, none⟩), .agg #[.int .i64 k, .int .i64 n]] w fun e w' =>
      e = .returned (.bool true) ∧ Wr w' lo g (stepS st k n) ∧ Rr w' lo' h (stepS st k n) ∧ Mv g h w w' := by
  have hgl := hg.plain.lt
  have hhl := hh.plain.lt
  by_cases h1 : k = 1
  · subst h1
    have hS := Lib.hid (show stepS st 1 n = (rnumber st n).2 from rfl)
    go_enter Try.func29, Try.ntmps29
    go_wp2_with fail
    have hb := Blk.new w 55 #[.int .i64 1, .int .i64 n]
    have hbox : ∀ x : Above (Mv g h) (w.alloc (.cells #[.int .i64 1, .int .i64 n] 55)).drew, x.1.cell? ⟨w.heap.size, 1, none⟩ = some (.int .i64 n) :=
      fun x => x.2.cell (w := (w.alloc _).drew) (hb.cell 1) (by dsimp only; omega) (by dsimp only; omega)
    have hx0 := ((Ext.refl w).alloc (.cells #[.int .i64 1, .int .i64 n] 55)).drew
    generalize (w.alloc (.cells #[.int .i64 1, .int .i64 n] 55)) = wb at *
    refine wp_region_plan (Mv g h) [(0, true), (1, true), (2, true), (4, true), (5, true), (6, true), (3, false), (7, false), (8, true), (9, true)] (fun _ _ _ x y => Mv.trans x y) (Mv.refl g h) (by kernel_rfl) (by kernel_rfl) ?_
    intro K hK
    iterate 6 (
      refine plan_q (v := ?_) rfl rfl ?_ ?_
      rotate_left
      · intro x
        go_simp
        first | done | rfl
      simp only [Act.put, List.getElem_toArray, List.getElem_cons_zero, List.getElem_cons_succ, List.setIfInBounds_toArray, List.set_cons_zero, List.set_cons_succ])
    refine plan_l rfl rfl ?_
    intro K2 hK2
    go_simp
    refine (number_any g lo st n _ (hg.kept hx0)).mono ?_
    rintro e w1 ⟨rfl, hg1, b1⟩
    go_simp
    refine hK2.out _ _ (Mv.left b1) ?_
    clear hK2 K2
    try simp only [Act.put, List.getElem_toArray, List.getElem_cons_zero, List.getElem_cons_succ, List.setIfInBounds_toArray, List.set_cons_zero, List.set_cons_succ]
    have hh1 := (hh.kept hx0).mv (hg.kept hx0).plain b1 hne
    refine plan_l rfl rfl ?_
    intro K2 hK2
    go_simp
    refine (rrnumber_any h lo' st n _ hh1).mono ?_
    rintro e w2 ⟨rfl, hh2, b2⟩
    go_simp
    refine hK2.out _ _ (Mv.right b2) ?_
    clear hK2 K2
    try simp only [Act.put, List.getElem_toArray, List.getElem_cons_zero, List.getElem_cons_succ, List.setIfInBounds_toArray, List.set_cons_zero, List.set_cons_succ]
    have hg2 := hg1.mv hh1.plain b2 hne
    iterate 2 (
      refine plan_q (v := ?_) rfl rfl ?_ ?_
      rotate_left
      · intro x
        go_simp
        first | done | rfl
      simp only [Act.put, List.getElem_toArray, List.getElem_cons_zero, List.getElem_cons_succ, List.setIfInBounds_toArray, List.set_cons_zero, List.set_cons_succ])
    refine plan_end (hK.out _ _ ?_)
    clear hK K
    go_wp2_with fail
    go_ret
    rw [hS.out]
    exact ⟨rfl, hg2, hh2, ((Mv.of_ext hx0).trans (Mv.left b1)).trans (Mv.right b2)⟩
  by_cases h2 : k = 2
  · subst h2
    have hS := Lib.hid (show stepS st 2 n = (rblob st).2 from rfl)
    go_enter Try.func29, Try.ntmps29
    go_wp2_with fail
    have hx0 := ((Ext.refl w).alloc (.cells #[.int .i64 2, .int .i64 n] 55)).drew
    generalize (w.alloc (.cells #[.int .i64 2, .int .i64 n] 55)) = wb at *
    refine wp_region_plan (Mv g h) [(0, true), (3, true), (1, false), (2, true), (4, false), (5, true), (6, true), (7, true)] (fun _ _ _ x y => Mv.trans x y) (Mv.refl g h) (by kernel_rfl) (by kernel_rfl) ?_
    intro K hK
    iterate 2 (
      refine plan_q (v := ?_) rfl rfl ?_ ?_
      rotate_left
      · intro x
        go_simp
        first | done | rfl
      simp only [Act.put, List.getElem_toArray, List.getElem_cons_zero, List.getElem_cons_succ, List.setIfInBounds_toArray, List.set_cons_zero, List.set_cons_succ])
    refine plan_l rfl rfl ?_
    intro K2 hK2
    go_simp
    refine (rdblob_any g lo st _ (hg.kept hx0)).mono ?_
    rintro e w1 ⟨A1, m1, c1, rfl, r1, hg1, b1⟩
    go_simp
    refine hK2.out _ _ (Mv.left b1) ?_
    clear hK2 K2
    try simp only [Act.put, List.getElem_toArray, List.getElem_cons_zero, List.getElem_cons_succ, List.setIfInBounds_toArray, List.set_cons_zero, List.set_cons_succ]
    have hh1 := (hh.kept hx0).mv (hg.kept hx0).plain b1 hne
    have hs1 := later_mv r1 hg1.plain hh1.plain c1 Try.underlying23 Try.underlying5 Try.underlying9
    iterate 1 (
      refine plan_q (v := ?_) rfl rfl ?_ ?_
      rotate_left
      · intro x
        go_simp
        first | done | rfl
      simp only [Act.put, List.getElem_toArray, List.getElem_cons_zero, List.getElem_cons_succ, List.setIfInBounds_toArray, List.set_cons_zero, List.set_cons_succ])
    refine plan_l rfl rfl ?_
    intro K2 hK2
    go_simp
    refine (rrblob_any h lo' st _ hh1).mono ?_
    rintro e w2 ⟨A2, m2, c2, rfl, r2, hh2, b2⟩
    go_simp
    refine hK2.out _ _ (Mv.right b2) ?_
    clear hK2 K2
    try simp only [Act.put, List.getElem_toArray, List.getElem_cons_zero, List.getElem_cons_succ, List.setIfInBounds_toArray, List.set_cons_zero, List.set_cons_succ]
    have hg2 := hg1.mv hh1.plain b2 hne
    have hs2 := later_mv r2 hg2.plain hh2.plain c2 Try.underlying23 Try.underlying5 Try.underlying9
    iterate 3 (
      refine plan_q (v := ?_) rfl rfl ?_ ?_
      rotate_left
      · intro x
        go_simp
        first | done | rfl
      simp only [Act.put, List.getElem_toArray, List.getElem_cons_zero, List.getElem_cons_succ, List.setIfInBounds_toArray, List.set_cons_zero, List.set_cons_succ])
    refine plan_end (hK.out _ _ ?_)
    clear hK K
    go_wp2_with fail
    go_ret
    rw [hS.out]
    exact ⟨rfl, hg2, hh2, ((Mv.of_ext hx0).trans (Mv.left b1)).trans (Mv.right b2)⟩
  by_cases h3 : k = 3
  · subst h3
    have hS := Lib.hid (show stepS st 3 n = (rbytes st n).2 from rfl)
    go_enter Try.func29, Try.ntmps29
    go_wp2_with fail
    have hb := Blk.new w 55 #[.int .i64 3, .int .i64 n]
    have hbox : ∀ x : Above (Mv g h) (w.alloc (.cells #[.int .i64 3, .int .i64 n] 55)).drew, x.1.cell? ⟨w.heap.size, 1, none⟩ = some (.int .i64 n) :=
      fun x => x.2.cell (w := (w.alloc _).drew) (hb.cell 1) (by dsimp only; omega) (by dsimp only; omega)
    have hx0 := ((Ext.refl w).alloc (.cells #[.int .i64 3, .int .i64 n] 55)).drew
    generalize (w.alloc (.cells #[.int .i64 3, .int .i64 n] 55)) = wb at *
    refine wp_region_plan (Mv g h) [(0, true), (1, true), (2, true), (5, true), (6, true), (7, true), (3, false), (4, true), (8, false), (9, true), (10, true), (11, true)] (fun _ _ _ x y => Mv.trans x y) (Mv.refl g h) (by kernel_rfl) (by kernel_rfl) ?_
    intro K hK
    iterate 6 (
      refine plan_q (v := ?_) rfl rfl ?_ ?_
      rotate_left
      · intro x
        go_simp
        first | done | rfl
      simp only [Act.put, List.getElem_toArray, List.getElem_cons_zero, List.getElem_cons_succ, List.setIfInBounds_toArray, List.set_cons_zero, List.set_cons_succ])
    refine plan_l rfl rfl ?_
    intro K2 hK2
    go_simp
    refine (bytes_any g lo st n _ (hg.kept hx0)).mono ?_
    rintro e w1 ⟨A1, m1, c1, rfl, r1, hg1, b1⟩
    go_simp
    refine hK2.out _ _ (Mv.left b1) ?_
    clear hK2 K2
    try simp only [Act.put, List.getElem_toArray, List.getElem_cons_zero, List.getElem_cons_succ, List.setIfInBounds_toArray, List.set_cons_zero, List.set_cons_succ]
    have hh1 := (hh.kept hx0).mv (hg.kept hx0).plain b1 hne
    have hs1 := later_mv r1 hg1.plain hh1.plain c1 Try.underlying23 Try.underlying5 Try.underlying9
    iterate 1 (
      refine plan_q (v := ?_) rfl rfl ?_ ?_
      rotate_left
      · intro x
        go_simp
        first | done | rfl
      simp only [Act.put, List.getElem_toArray, List.getElem_cons_zero, List.getElem_cons_succ, List.setIfInBounds_toArray, List.set_cons_zero, List.set_cons_succ])
    refine plan_l rfl rfl ?_
    intro K2 hK2
    go_simp
    refine (rrbytes_any h lo' st n _ hh1).mono ?_
    rintro e w2 ⟨A2, m2, c2, rfl, r2, hh2, b2⟩
    go_simp
    refine hK2.out _ _ (Mv.right b2) ?_
    clear hK2 K2
    try simp only [Act.put, List.getElem_toArray, List.getElem_cons_zero, List.getElem_cons_succ, List.setIfInBounds_toArray, List.set_cons_zero, List.set_cons_succ]
    have hg2 := hg1.mv hh1.plain b2 hne
    have hs2 := later_mv r2 hg2.plain hh2.plain c2 Try.underlying23 Try.underlying5 Try.underlying9
    iterate 3 (
      refine plan_q (v := ?_) rfl rfl ?_ ?_
      rotate_left
      · intro x
        go_simp
        first | done | rfl
      simp only [Act.put, List.getElem_toArray, List.getElem_cons_zero, List.getElem_cons_succ, List.setIfInBounds_toArray, List.set_cons_zero, List.set_cons_succ])
    refine plan_end (hK.out _ _ ?_)
    clear hK K
    go_wp2_with fail
    go_ret
    rw [hS.out]
    exact ⟨rfl, hg2, hh2, ((Mv.of_ext hx0).trans (Mv.left b1)).trans (Mv.right b2)⟩
  have hS : stepS st k n = st := by unfold stepS; rw [if_neg h1, if_neg h2, if_neg h3]
  rw [hS]
  go_enter Try.func29, Try.ntmps29
  go_wp2_with fail
  go_ret
  have hx0 := (Ext.refl w).alloc (.cells #[.int .i64 k, .int .i64 n] 55)
  exact ⟨rfl, hg.kept hx0, hh.kept hx0, Mv.of_ext hx0⟩
end Go.Proofs.Ytbikncgabmgphaa
