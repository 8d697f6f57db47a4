/- What the methods of a file answer, and what they do to it. Conditions: the file is in memory as told. -/
import Derived.Test.YtenmdhdloibemaaDk
import Derived.Test.YtenmdhdloibemaaShelf
import Derived.Deep.CutRange
import Derived.Deep.CutBlock
import Derived.RangeFuncBox
namespace Go.Proofs.Ytenmdhdloibemaa
open Go.RowKit Go.Maps
set_option linter.unusedVariables false
set_option linter.unusedSimpArgs false

theorem gTrans {a b c : World} {r : Option Nat} (h : a.grownBy b r) (k : b.grownBy c r) : a.grownBy c r := grownBy_trans h k

def FileX (w : World) (O : Ow) (fb lb sb : Nat) (c : FC) : Prop :=
  ∃ DL DS, O fb = some (fb, -3) ∧ O lb = some (fb, -2) ∧ O sb = some (fb, -1) ∧ Blk w fb 72 #[.map (some lb), .map (some sb), .int .i64 c.fin] ∧
    MapOf Try.prog w 3 lb DL ∧ MapOf Try.prog w 3 sb DS ∧ LastsAt DL c ∧ SinceAt w O fb DS c ∧ 0 ≤ c.fin ∧ c.fin ≤ 65536
def In (O : Ow) (w : World) : Prop := ∀ b, Owned O b → b < w.heap.size
abbrev Lk (O : Ow) (fb b : Nat) : Prop := O b = some (fb, -3) ∨ O b = some (fb, -2)
abbrev fptr (fb : Nat) : Value := .pointer (some ⟨fb, 0, none⟩)

section
variable {w w' : World} {O O' : Ow} {fb lb sb : Nat} {c : FC} {n : Int}
theorem FileAt.x (h : FileAt w O fb c) : ∃ lb sb, FileX w O fb lb sb c := by
  obtain ⟨lb, sb, DL, DS, r⟩ := h
  exact ⟨lb, sb, DL, DS, r⟩
theorem FileX.at_ (h : FileX w O fb lb sb c) : FileAt w O fb c := by
  obtain ⟨DL, DS, r⟩ := h
  exact ⟨lb, sb, DL, DS, r⟩
theorem FileX.keep (h : FileX w O fb lb sb c) (hk : ∀ b, Of O fb b → b < w.heap.size → w'.heap[b]? = w.heap[b]? ∧ O' b = O b) : FileX w' O' fb lb sb c := by
  obtain ⟨DL, DS, o1, o2, o3, b1, m1, m2, hL, hS, hf⟩ := h
  have k1 := hk fb ⟨_, o1⟩ b1.lt
  have k2 := hk lb ⟨_, o2⟩ m1.lt
  have k3 := hk sb ⟨_, o3⟩ m2.lt
  exact ⟨DL, DS, k1.2.trans o1, k2.2.trans o2, k3.2.trans o3, k1.1.trans b1, m1.keep k2.1, m2.keep k3.1, hL, hS.keep hk, hf⟩
theorem FileX.ext (h : FileX w O fb lb sb c) (hx : Ext w w') : FileX w' O fb lb sb c := h.keep fun b _ hb => ⟨hx.blk hb, rfl⟩
theorem In.ext (h : In O w) (hx : w.heap.size ≤ w'.heap.size) : In O w' := fun b hb => Nat.lt_of_lt_of_le (h b hb) hx

theorem key_i (hn : (Lit.int .i64 n).wf = true) : keyOf Try.prog 3 (.int .i64 n) = some (ik n) := keyOf_int_mk Try.underlying3 hn
theorem law_i : Keyed Try.prog 3 := int_keyed Try.underlying3
theorem law_s : Keyed Try.prog 9 := string_keyed Try.underlying9
theorem zero_sl (w : World) : (zeroValue 68).run Try.prog w = .ok (.slice none 0 0) w := Try.zeroValue68 w
/-- what lasts at a sector, looked up -/
theorem FileX.look (h : FileX w O fb lb sb c) (hn : (Lit.int .i64 n).wf = true) : (Instr.lookup 69 (.map (some lb)) (.int .i64 n) false).run Try.prog w = .ok (sec ((c.lasts n).getD zsec)) w := by
  obtain ⟨DL, DS, o1, o2, o3, b1, m1, m2, hL, hS, hf⟩ := h
  rw [m1.look law_i Try.underlying69 (zero_sec w) (key_i hn), hL.2.1 n, Option.getD_map]
theorem FileX.look_ok (h : FileX w O fb lb sb c) (hn : (Lit.int .i64 n).wf = true) : (Instr.lookup 69 (.map (some lb)) (.int .i64 n) true).run Try.prog w = .ok (.tuple #[sec ((c.lasts n).getD zsec), .bool (c.lasts n).isSome]) w := by
  obtain ⟨DL, DS, o1, o2, o3, b1, m1, m2, hL, hS, hf⟩ := h
  rw [m1.look_ok law_i Try.underlying69 (zero_sec w) (key_i hn), hL.2.1 n, Option.getD_map, Option.isSome_map]
theorem FileX.blk (h : FileX w O fb lb sb c) : Blk w fb 72 #[.map (some lb), .map (some sb), .int .i64 c.fin] := by
  obtain ⟨DL, DS, o1, o2, o3, b1, _⟩ := h
  exact b1
/-- a sector's writes, looked up -/
theorem FileX.since' (h : FileX w O fb lb sb c) (hn : (Lit.int .i64 n).wf = true) : ∃ v, (∀ u, Ext w u → (Instr.lookup 70 (.map (some sb)) (.int .i64 n) false).run Try.prog u = .ok v u) ∧
    (c.S n = [] ∧ v = .slice none 0 0 ∨ c.S n ≠ [] ∧ (c.lasts n).isSome = true ∧ RowAt w O fb n v (c.S n)) := by
  obtain ⟨DL, DS, o1, o2, o3, b1, m1, m2, hL, hS, hf⟩ := h
  have hl := fun u (hu : Ext w u) => (m2.ext hu).look law_i Try.underlying70 (zero_sl u) (key_i hn)
  by_cases hs : c.S n = []
  · rw [hS.1 n hs] at hl
    exact ⟨_, hl, .inl ⟨hs, rfl⟩⟩
  · obtain ⟨h1, v, h2, h3⟩ := hS.2.1 n hs
    rw [h2] at hl
    exact ⟨_, hl, .inr ⟨hs, h1, h3⟩⟩
theorem FileX.since (h : FileX w O fb lb sb c) (hn : (Lit.int .i64 n).wf = true) : ∃ v, (Instr.lookup 70 (.map (some sb)) (.int .i64 n) false).run Try.prog w = .ok v w ∧
    (c.S n = [] ∧ v = .slice none 0 0 ∨ c.S n ≠ [] ∧ (c.lasts n).isSome = true ∧ RowAt w O fb n v (c.S n)) := by
  obtain ⟨v, h1, h2⟩ := h.since' hn
  exact ⟨v, h1 w (Ext.refl w), h2⟩
theorem FileX.last_len (h : FileX w O fb lb sb c) (n : Int) : ((c.lasts n).getD zsec).length = 256 := by
  obtain ⟨DL, DS, o1, o2, o3, b1, m1, m2, hL, hS, hf⟩ := h
  cases e : c.lasts n with
  | none => exact zsec_len
  | some l => exact (hL.2.2.1 n l e).2.2.2
end

theorem has_put {D : DataW Value} {kl k' : Lit} {d : DataW Value} (h : Maps.has (D.put kl d) k' = true) : k' = kl ∨ Maps.has D k' = true := by
  by_cases e : k' = kl
  · exact .inl e
  · rw [has_put_other e] at h
    exact .inr h
theorem has_del {D : DataW Value} {kl k' : Lit} (h : Maps.has (D.del kl) k' = true) : k' ≠ kl ∧ Maps.has D k' = true := by
  by_cases e : k' = kl
  · rw [e, has_del_same] at h
    cases h
  · rw [has_del_other e] at h
    exact ⟨e, h⟩
theorem LastsAt.keep {w : World} {lb : Nat} {DL : DataW Value} {c : FC} {n : Int} {l : Sc} (m : MapOf Try.prog w 3 lb DL) (h : LastsAt DL c) (h0 : 0 ≤ n) (h1 : n < 65536) (hl : l.length = 256) : LastsAt (DL.put (ik n) (.held (sec l))) (c.keep n l) := by
  obtain ⟨a1, a2, a3, a4⟩ := h
  refine ⟨?_, fun k => ?_, fun k l' e => ?_, fun kl hk => ?_⟩
  · rw [m.size_put law_i, a2, Option.isSome_map, a1]
    rfl
  · rw [val_put (kl := ik n) m.isMap trivial, ik_same, a2]
    by_cases e : k = n
    · simp [e, FC.keep]
    · simp [e, FC.keep]
  · simp only [FC.keep] at e ⊢
    by_cases e1 : k = n
    · subst e1
      simp only [if_pos, Option.some.injEq] at e
      subst e
      exact ⟨h0, h1, by omega, hl⟩
    · rw [if_neg e1] at e
      have := a3 k l' e
      exact ⟨this.1, this.2.1, by omega, this.2.2.2⟩
  · rcases has_put hk with e | e
    · exact ⟨n, e⟩
    · exact a4 kl e
theorem SinceAt.lasts {w : World} {O : Ow} {fb : Nat} {DS : DataW Value} {c c' : FC} (h : SinceAt w O fb DS c) (hs : c'.S = c.S) (hl : ∀ n, (c.lasts n).isSome = true → (c'.lasts n).isSome = true) : SinceAt w O fb DS c' := by
  obtain ⟨a1, a2, a3⟩ := h
  refine ⟨fun n e => a1 n (by rw [← hs]; exact e), fun n e => ?_, a3⟩
  rw [hs] at e
  obtain ⟨b1, v, b2, b3⟩ := a2 n e
  refine ⟨hl n b1, v, b2, ?_⟩
  rw [hs]
  exact b3
theorem since_pos {w : World} {O : Ow} {fb : Nat} {DL DS : DataW Value} {c : FC} (hL : LastsAt DL c) (h : SinceAt w O fb DS c) (m : Int) (hm : c.S m ≠ []) : 0 ≤ m ∧ m < 65536 ∧ m < c.fin := by
  obtain ⟨y, hy⟩ := Option.isSome_iff_exists.1 (h.2.1 m hm).1
  have := hL.2.2.1 m y hy
  exact ⟨this.1, this.2.1, this.2.2.1⟩
theorem keep_some (c : FC) (n : Int) (l : Sc) (m : Int) (h : (c.lasts m).isSome = true) : ((c.keep n l).lasts m).isSome = true := by
  simp only [FC.keep]
  split
  · rfl
  · exact h

theorem blk_zero (w : World) : Blk (w.alloc (Obj.cells Try.zeroCells39 39)) w.heap.size 39 (sv zsec) := by
  rw [zero_cells]
  exact Blk.new w _ _

set_option maxRecDepth 100000 in
set_option maxHeartbeats 1600000 in
theorem counts_any (w : World) (O : Ow) (fb lb sb : Nat) (c : FC) (n : Int) (h : FileX w O fb lb sb c) (hn : (Lit.int .i64 n).wf = true) :
    Calls Try.prog 56 #[fptr fb, .int .i64 n] w fun e w' => e = .returned (.bool (c.lasts n).isSome) ∧ Ext w w' := by
  have hl := h.look_ok hn
  have c0 := h.blk.cell 0
  have hz := h.last_len n
  obtain ⟨l, hll⟩ : ∃ l, (c.lasts n).getD zsec = l := ⟨_, rfl⟩
  obtain ⟨b, hb⟩ : ∃ b, (c.lasts n).isSome = b := ⟨_, rfl⟩
  rw [hll] at hz
  rw [hll, hb] at hl
  rw [hb]
  clear hll hb h
  go_enter Try.func56, Try.ntmps56
  go_wp2_with (refine wpList_ssec rfl _ _ rfl w.heap.size rfl rfl (blk_zero w) zsec_len hz ?_)
  go_ret
  exact ⟨rfl, ((Ext.refl w).alloc _).grown (setRow_grownBy _ w.heap.size (sv l)) (by simp)⟩

set_option maxRecDepth 100000 in
set_option maxHeartbeats 1600000 in
theorem keep_any (w : World) (O : Ow) (fb lb sb : Nat) (c : FC) (n : Int) (l : Sc) (h : FileX w O fb lb sb c) (hO : In O w) (h0 : 0 ≤ n) (h1 : n < 65536) (hl : l.length = 256) :
    Calls Try.prog 55 #[fptr fb, .int .i64 n, sec l] w fun e w' => e = .returned (.tuple #[]) ∧ FileX w' O fb lb sb (c.keep n l) ∧ Tu (Lk O fb) w w' := by
  obtain ⟨DL, DS, o1, o2, o3, b1, m1, m2, hL, hS, hf⟩ := h
  have hn : (Lit.int .i64 n).wf = true := WalkArith.wf_i64 (by omega)
  have hsz : Maps.size DL < maxLen := by
    obtain ⟨k1, k2, k3⟩ := int_keys m1 law_i hL.2.2.2
    have := rising_len (intKeys DL) 0 65536 k1 (fun x hx => by
      have := (k2 x).1 hx
      rw [m1.has_iff, hL.2.1, Option.isSome_map] at this
      obtain ⟨y, hy⟩ := Option.isSome_iff_exists.1 this
      have := hL.2.2.1 x y hy
      omega) (by omega)
    rw [k3] at this
    unfold maxLen
    omega
  have e12 : fb ≠ lb := fun e => by rw [e, o2] at o1; simp at o1
  have e32 : sb ≠ lb := fun e => by rw [e, o2] at o3; simp at o3
  have e31 : sb ≠ fb := fun e => by rw [e, o1] at o3; simp at o3
  have eb : w.heap.size ≠ lb := fun e => by have := m1.lt; omega
  go_enter Try.func55, Try.ntmps55
  go_wp2_with fail
  have bx := Blk.new w 39 (sv l)
  have hx := ((Ext.refl w).alloc (.cells (sv l) 39)).drew
  have b2 := b1.ext hx
  have n1 := m1.ext hx
  generalize w.alloc (Obj.cells (sv l) 39) = W1 at *
  have c0 : ∀ x : Above (fun u u' => u.grownBy u' (some lb)) W1.drew, x.1.cell? ⟨fb, 0, none⟩ = some (.map (some lb)) := fun x => (b2.other x.2 (by simpa using e12)).cell 0
  refine wp_region_plan (fun u u' => u.grownBy u' (some lb)) [(0, true), (1, true), (2, true), (3, true), (4, true), (5, true), (6, false)] (fun _ _ _ x y => gTrans x y) (fun a => World.grownBy.refl a (some lb)) (by kernel_rfl) (by kernel_rfl) ?_
  intro K hK
  iterate 5 (
    refine plan_q (v := ?_) rfl rfl ?_ ?_
    rotate_left
    · intro x
      go_simp
      first | done | rfl
    simp only [Act.put, List.getElem_toArray, List.getElem_cons_zero, List.getElem_cons_succ, List.setIfInBounds_toArray, List.set_cons_zero, List.set_cons_succ])
  refine plan_q (v := sec l) rfl rfl (fun x => exec_lsec rfl w.heap.size rfl ((show Blk W1.drew _ _ _ from bx).other x.2 (by simpa using eb)) hl) ?_
  simp only [Act.put, List.getElem_toArray, List.getElem_cons_zero, List.getElem_cons_succ, List.setIfInBounds_toArray, List.set_cons_zero, List.set_cons_succ]
  refine plan_l rfl rfl ?_
  intro K2 hK2
  refine wp_one rfl ?_
  refine wpList_put _ _ _ _ law_i Try.underlying69 rfl rfl n1 hsz (.int .i64 n) (sec l) rfl rfl rfl (key_i hn) ?_
  intro w3 m3 g3
  show K2 _ _
  refine hK2.out _ _ g3 ?_
  clear hK2 K2
  try simp only [Act.put, List.getElem_toArray, List.getElem_cons_zero, List.getElem_cons_succ, List.setIfInBounds_toArray, List.set_cons_zero, List.set_cons_succ]
  refine plan_end (hK.out _ _ ?_)
  clear hK K
  have b3 := b2.other g3 (by simpa using e12)
  have c2 := b3.cell 2
  have f2 := b3.free 2
  go_wp2_with fail
  go_end0
  have hsx : Ext w W1.drew := hx
  have s1 := hsx.size
  have s3 := g3.size
  have t1 : Tu (Lk O fb) w W1.drew := Tu.of_ext hsx
  have t2 : Tu (Lk O fb) W1.drew w3 := Tu.of_grown g3 (by rintro k e; cases e; exact .inr o2)
  have t3 : Tu (Lk O fb) w3 (w3.setCell ⟨fb, 2, none⟩ (.int .i64 (max c.fin (n + 1)))) := Tu.of_grown (setCell_grownBy _ _ _) (by rintro k e; cases e; exact .inl o1)
  have t := (t1.trans t2).trans t3
  refine ⟨rfl, ⟨DL.put (ik n) (.held (sec l)), DS, o1, o2, o3, ?_, ?_, m2.tu t (by rintro (e | e) <;> rw [o3] at e <;> simp at e), hL.keep m1 h0 h1 hl, ?_, ?_, ?_⟩, t⟩
  · have := b3.set_ 2 (.int .i64 (max c.fin (n + 1)))
    simpa [FC.keep] using this
  · exact m3.keep ((setCell_grownBy _ _ _).block lb m3.lt (by simpa using fun e => e12 e.symm))
  · refine (hS.lasts (c' := c.keep n l) rfl (keep_some c n l)).keepR fun b m hm hb hlt => ⟨t.blk b hlt ?_, rfl⟩
    have := since_pos hL hS m hm
    rintro (e | e) <;> rw [hb] at e <;> simp at e <;> omega
  · simp only [FC.keep]; omega
  · simp only [FC.keep]; omega

theorem row_cell (ls : List Sc) (h : ∀ l ∈ ls, l.length = 256) (k : Nat) (hk : k < ls.length) : ∀ j v, (bvs ls[k])[j]? = some v → (cellsOf ls)[k * 256 + j]? = some v := by
  induction ls generalizing k with
  | nil => simp at hk
  | cons a r ih =>
    intro j v hv
    have h1 := h a (by simp)
    have e : cellsOf (a :: r) = bvs a ++ cellsOf r := rfl
    rw [e]
    cases k with
    | zero =>
      have hj : j < 256 := by
        have := (List.getElem?_eq_some_iff.1 hv).1
        simp only [List.getElem_cons_zero, bvs_length] at this
        omega
      rw [List.getElem?_append_left (by rw [bvs_length]; omega)]
      simpa using hv
    | succ k =>
      rw [List.getElem?_append_right (by rw [bvs_length]; omega), bvs_length, h1]
      have := ih (fun l hl => h l (by simp [hl])) k (by simpa using hk) j v (by simpa using hv)
      rw [show (k + 1) * 256 + j - 256 = k * 256 + j by omega]
      exact this
theorem RowAt.bnd {w : World} {O : Ow} {fb : Nat} {n : Int} {ls : List Sc} {rb len cap : Nat} (h : RowAt w O fb n (.slice (some ⟨rb, 0, none⟩) len cap) ls) : len = ls.length ∧ len ≤ cap ∧ cap ≤ 9223372036854775807 := by
  obtain ⟨rb', cap', e, h1, h2, h3⟩ := h
  injection e with _ e2 e3
  subst e2 e3
  rcases h2.2 with ⟨e, _⟩ | ⟨g, c2, cur, e, _, _, h4, h5, _⟩
  · cases e
  · injection e with _ _ e
    subst e
    exact ⟨rfl, h4, by unfold maxLen at h5; omega⟩
theorem RowAt.cell {w : World} {O : Ow} {fb : Nat} {n : Int} {ls : List Sc} {rb len cap : Nat} (h : RowAt w O fb n (.slice (some ⟨rb, 0, none⟩) len cap) ls) (k : Nat) (hk : k < ls.length) : ∀ j v, (bvs ls[k])[j]? = some v → w.cell? ⟨rb, k * 256 + j, none⟩ = some v := by
  obtain ⟨rb', cap', e, h1, h2, h3⟩ := h
  intro j v hv
  have := h2.cells (g := rb) rfl (k * 256 + j) v (row_cell ls h3 k hk j v hv)
  have hadd : (⟨rb, 0, none⟩ : Addr).add (k * 256 + j) = ⟨rb, k * 256 + j, none⟩ := by unfold Addr.add; split <;> simp_all
  rw [hadd] at this
  exact this

set_option maxRecDepth 100000 in
set_option maxHeartbeats 1600000 in
theorem has_any (w : World) (O : Ow) (fb lb sb : Nat) (c : FC) (n : Int) (h : FileX w O fb lb sb c) (hn : (Lit.int .i64 n).wf = true) :
    Calls Try.prog 36 #[fptr fb, .int .i64 n] w fun e w' => e = .returned (sec (c.has n)) ∧ Ext w w' := by
  have hx := (Ext.refl w).alloc (.cells Try.zeroCells39 39)
  have h' := h.ext hx
  have hl := h'.look hn
  have c0 := h'.blk.cell 0
  have c1 := h'.blk.cell 1
  have hz := h'.last_len n
  obtain ⟨v, hv, hcase⟩ := h'.since hn
  go_enter Try.func36, Try.ntmps36
  rcases hcase with ⟨hs, rfl⟩ | ⟨hs, hi, hr⟩
  · have e : (c.lasts n).getD zsec = c.has n := by simp [FC.has, hs]
    rw [e] at hl hz
    generalize c.has n = l at *
    clear h h' hs e
    go_wp2_with (refine wpList_ssec rfl _ _ rfl w.heap.size rfl rfl (blk_zero w) zsec_len hz ?_)
    refine bodyPost_ret (v := sec l) (results_sec rfl _ _ w.heap.size rfl ((blk_zero w).setRow (sv l)) hz) rfl ⟨rfl, hx.grown (setRow_grownBy _ w.heap.size (sv l)) (by simp)⟩
  · obtain ⟨rb, cap, rfl, o1, hown, hls⟩ := id hr
    have hpos : 0 < (c.S n).length := List.length_pos_iff.2 hs
    obtain ⟨l, hlast⟩ : ∃ l, (c.S n)[(c.S n).length - 1]? = some l := ⟨_, List.getElem?_eq_getElem (by omega)⟩
    have e : c.has n = l := by
      rw [FC.has, List.getLast?_eq_getElem?, hlast]
      rfl
    obtain ⟨hk, hget⟩ := List.getElem?_eq_some_iff.1 hlast
    have hl256 := hls l (by rw [← hget]; exact List.getElem_mem hk)
    have hcell := hr.cell _ hk
    rw [hget] at hcell
    rw [e]
    have hcap := hr.bnd.2
    clear hlast hget hk hr hown hls e hs h h' hl hz
    generalize (c.S n).length = N at *
    obtain ⟨k, rfl⟩ : ∃ k, N = k + 1 := ⟨N - 1, by omega⟩
    rw [Nat.add_sub_cancel] at hcell
    have hk63 : (k : Int) < 9223372036854775807 := by omega
    go_wp2_with (first | refine wpList_lsecAt rfl _ rfl rb (k * 256) rfl hcell hl256 ?_ | refine wpList_ssec rfl _ _ rfl w.heap.size rfl rfl (blk_zero w) zsec_len hl256 ?_)
    refine bodyPost_ret (v := sec l) (results_sec rfl _ _ w.heap.size rfl ((blk_zero w).setRow (sv l)) hl256) rfl ⟨rfl, hx.grown (setRow_grownBy _ w.heap.size (sv l)) (by simp)⟩

/-- a byte array's type, for append -/
theorem info_sec : ∃ i0, Try.prog.info? 39 = some i0 ∧ i0.zero = some (sec zsec) ∧ i0.size = 256 ∧ i0.bytes = 256 :=
  info_parts (show (Try.prog.info? 39).map (fun i => (i.zero, i.size, i.bytes)) = some (some (sec zsec), 256, 256) by kernel_rfl)

set_option maxRecDepth 100000 in
set_option maxHeartbeats 1600000 in
theorem write_any (w : World) (O : Ow) (fb : Nat) (c : FC) (n : Int) (l : Sc) (h : FileAt w O fb c) (hO : In O w) (h0 : 0 ≤ n) (h1 : n < 65536) (hl : l.length = 256) (hbig : (c.S n).length < 1000000) :
    Calls Try.prog 44 #[fptr fb, .int .i64 n, sec l] w fun e w' => e = .returned (.tuple #[]) ∧ ∃ O', FileAt w' O' fb (c.write n l) ∧ In O' w' ∧ Og O O' w ∧ Tu (Of O fb) w w' := by
  obtain ⟨lb, sb, hX⟩ := h.x
  have hn : (Lit.int .i64 n).wf = true := WalkArith.wf_i64 (by omega)
  have hx1 := (Ext.refl w).alloc (.cells (sv l) 39)
  have bx := Blk.new w 39 (sv l)
  go_enter Try.func44, Try.ntmps44
  go_wp2_with fail
  generalize w.alloc (Obj.cells (sv l) 39) = W1 at *
  refine (counts_any W1 O fb lb sb c n (hX.ext hx1) hn).mono ?_
  obtain ⟨b, hc⟩ : ∃ b, (c.lasts n).isSome = b := ⟨_, rfl⟩
  rw [hc]
  rintro e w2 ⟨rfl, hx2⟩
  obtain ⟨c1, hc1⟩ : ∃ c1, (if (c.lasts n).isSome then c else c.keep n zsec) = c1 := ⟨_, rfl⟩
  have hn1 : c.write n l = c1.add n l := by rw [FC.write, hc1]
  have hS1 : c1.S n = c.S n := by rw [← hc1]; split <;> rfl
  have hl1 : (c1.lasts n).isSome = true := by
    rw [← hc1]
    split
    · assumption
    · simp [FC.keep]
  have hx12 := hx1.trans hx2
  have hX2 := hX.ext hx12
  have hO2 := hO.ext hx12.size
  have bx2 := bx.ext hx2
  have nb : ¬ Lk O fb w.heap.size := by
    rintro (e | e)
    · exact absurd (hO w.heap.size (by simp [Owned, e])) (by omega)
    · exact absurd (hO w.heap.size (by simp [Owned, e])) (by omega)
  rw [hc] at hc1
  go_simp
  go_upto_if 9 with fail
  go_cut [] from 10 to 13 (fun wc => FileX wc O fb lb sb c1 ∧ Tu (Lk O fb) w wc ∧ Blk wc w.heap.size 39 (sv l))
  case first =>
    cases b with
    | false =>
      go_wp2_with fail
      rw [zero_cells]
      refine (keep_any w2 O fb lb sb c n zsec hX2 hO2 h0 h1 zsec_len).mono ?_
      rintro e w3 ⟨rfl, hX3, t3⟩
      go_wp2_with fail
      go_meet
      subst hc1
      exact ⟨hX3, (Tu.of_ext hx12).trans t3, bx2.tu t3 nb⟩
    | true =>
      go_wp2_with fail
      go_meet
      subst hc1
      exact ⟨hX2, Tu.of_ext hx12, bx2⟩
  case rest =>
    obtain ⟨hX3, t3, bx3⟩ := hcut
    clear hX2 bx2 bx hX
    have nb2 : ¬ Of O fb w.heap.size := fun e => absurd (hO w.heap.size e.owned) (by omega)
    obtain ⟨v0, hv, hcase⟩ := hX3.since' hn
    obtain ⟨DL, DS, o1, o2, o3, b3, m1, m2, hL, hS, hf⟩ := hX3
    have hrow : wc.ownsRow 0 39 256 v0 (c1.S n).length (cellsOf (c1.S n)) ∧ (∀ k, v0.ownBlock = some k → O k = some (fb, n)) ∧ ∀ l ∈ c1.S n, l.length = 256 := by
      rcases hcase with ⟨e1, rfl⟩ | ⟨_, _, rb, cap, rfl, k1, k2, k3⟩
      · rw [e1]
        exact ⟨World.ownsRow_nil _ _ _ _, ⟨fun k e => (by cases e), fun l h => (by cases h)⟩⟩
      · exact ⟨k2, ⟨fun k e => (by cases e; exact k1), k3⟩⟩
    obtain ⟨hrow, hown, hlen⟩ := hrow
    have hszS : Maps.size DS < maxLen := by
      obtain ⟨k1, k2, k3⟩ := int_keys m2 law_i hS.2.2
      have := rising_len (intKeys DS) 0 65536 k1 (fun x hx => by
        have := (k2 x).1 hx
        have := since_pos hL hS x (fun e => by rw [m2.has_iff, hS.1 x e] at this; cases this)
        omega) (by omega)
      rw [k3] at this
      unfold maxLen
      omega
    go_wp2_with fail
    have c1a : ∀ x : Above (Tu (fun b => O b = some (fb, n) ∨ O b = some (fb, -1))) wc.drew, x.1.cell? ⟨fb, 1, none⟩ = some (.map (some sb)) := fun x => (Blk.tu (w := wc.drew) b3 x.2 (by
      rintro (e | e) <;> rw [o1] at e <;> simp at e
      omega)).cell 1
    refine wp_region_tl (Tu (fun b => O b = some (fb, n) ∨ O b = some (fb, -1))) Ext [.q 0, .q 1, .q 2, .q 3, .q 4, .q 5, .q 6, .q 7, .q 8, .q 9, .q 11, .seg [10, 12], .f 13, .f 14] (fun _ _ _ x y => x.trans y) (fun a => Tu.refl _ a) (fun _ _ _ x y => x.trans y) (fun _ _ x => Tu.of_ext x) (fun a => Ext.refl a) (by kernel_rfl) (by kernel_rfl) ?_
    intro K hK
    iterate 10 (
      refine tl_q (v := ?_) rfl rfl ?_ ?_
      rotate_left
      · intro x
        go_simp
        first | done | rfl
      simp only [Act.put, List.getElem_toArray, List.getElem_cons_zero, List.getElem_cons_succ, List.setIfInBounds_toArray, List.set_cons_zero, List.set_cons_succ])
    refine tl_q (v := sec l) rfl rfl (fun x => exec_lsec rfl w.heap.size rfl (Blk.tu (w := wc.drew) bx3 x.2 (by rintro (e | e) <;> exact nb2 ⟨_, e⟩)) hl) ?_
    simp only [Act.put, List.getElem_toArray, List.getElem_cons_zero, List.getElem_cons_succ, List.setIfInBounds_toArray, List.set_cons_zero, List.set_cons_succ]
    refine tl_seg (A := ?A) (fun j x u => match j with | 10 => x = v0 | _ => ∃ g, x = .slice (some ⟨g, 0, none⟩) 1 1 ∧ Blk u g 39 (sv l) ∧ wc.heap.size ≤ g) ?hA ?h0 ?hput ?hmono ?hstep ?hend
    case hA =>
      intro v
      simp only [fillT, Option.bind_some, Option.bind_none, Option.bind, List.getElem?_toArray, List.getElem?_cons_zero, List.getElem?_cons_succ, List.setIfInBounds_toArray, List.set_cons_zero, List.set_cons_succ]
      exact rfl
    case h0 => exact rfl
    case hput => repeat' (first | exact trivial | refine And.intro (fun o ho v x => by obtain rfl := Option.some.inj ho; rfl) ?_)
    case hmono => exact ⟨fun x u u' hh e => e, fun x u u' hh ⟨g, e, o, p⟩ => ⟨g, e, o.ext hh, p⟩, trivial⟩
    case hstep =>
      refine And.intro ?_ (And.intro ?_ trivial)
      ·
        intro o ho
        obtain rfl := Option.some.inj ho
        clear ho
        intro v u hR hD K2 hK2
        clear hD
        rw [if_pos (by rfl)]
        have hvu := hv u (((Ext.refl wc).drew).trans hR)
        go_simp
        exact hK2.out _ _ _ (Ext.refl _) rfl rfl
      ·
        intro o ho
        obtain rfl := Option.some.inj ho
        clear ho
        intro v u hR hD K2 hK2
        clear hD
        rw [if_pos (by rfl)]
        refine wp_slice1 _ rfl rfl hl ?_
        exact hK2.out _ _ _ ((Ext.refl u).alloc _) ⟨_, rfl, Blk.new u _ _, by have := hR.size; simpa using this⟩ rfl
    case hend =>
      intro v u hR hF
      have d10 : v 10 = v0 := hF.1
      obtain ⟨g, d12, bg, hg⟩ : ∃ g, v 12 = .slice (some ⟨g, 0, none⟩) 1 1 ∧ Blk u g 39 (sv l) ∧ wc.heap.size ≤ g := hF.2.1
      have hRu : Ext wc u := ((Ext.refl wc).drew).trans hR
      simp only [d10, d12]
      clear hF c1a
      obtain ⟨i0, hi, hz0, hz1, hz2⟩ := info_sec
      refine tl_l rfl rfl ?_
      intro K2 hK2
      refine wp_one rfl ?_
      refine wpList_append_own_at _ rfl _ _ 68 rfl 0 39 i0 (sec zsec) 256 256 Try.underlying68 hi hz0 hz1 hz2 ((sv_size zsec).trans zsec_len) (by decide) v0 (c1.S n).length _ rfl
        (hrow.kept (hRu.grownBy none) (by cases h : v0.ownBlock with | none => exact .inl rfl | some k => exact .inr (by simp))) ⟨g, 0, none⟩ 1 1 (bvs l) rfl (by rw [bvs_length, hl]) ?_ (bvs_one l) (by rw [hS1]; unfold maxLen; omega) (by rw [hS1]; omega) (Nat.zero_le _) ?_
      · intro j x hx
        have hadd : (⟨g, 0, none⟩ : Addr).add j = ⟨g, j, none⟩ := by unfold Addr.add; split <;> simp_all
        rw [hadd, bg.cell j]
        simpa [sv] using hx
      intro v' w4 hown4 hgrow4 hnil4 hloc4
      show K2 _ _
      refine hK2.out _ _ (Tu.of_grown hgrow4 (fun k e => .inl (hown k e))) ?_
      clear hK2 K2
      try simp only [Act.put, List.getElem_toArray, List.getElem_cons_zero, List.getElem_cons_succ, List.setIfInBounds_toArray, List.set_cons_zero, List.set_cons_succ]
      have m4 : MapOf Try.prog w4 3 sb DS := (m2.ext hRu).keep (hgrow4.block sb (m2.ext hRu).lt (fun e => by have := hown _ e.symm; rw [o3] at this; simp at this; omega))
      refine tl_l rfl rfl ?_
      intro K2 hK2
      refine wp_one rfl ?_
      refine wpList_put _ _ _ _ law_i Try.underlying70 rfl rfl m4 hszS (.int .i64 n) v' rfl rfl rfl (key_i hn) ?_
      intro w5 m5 g5
      show K2 _ _
      refine hK2.out _ _ (Tu.of_grown g5 (fun k e => by cases e; exact .inr o3)) ?_
      clear hK2 K2
      try simp only [Act.put, List.getElem_toArray, List.getElem_cons_zero, List.getElem_cons_succ, List.setIfInBounds_toArray, List.set_cons_zero, List.set_cons_succ]
      refine tl_end (hK.out _ _ ?_)
      clear hK K
      go_end0
      have s1 := hRu.size
      have s2 := hgrow4.size
      have s3 := g5.size
      obtain ⟨rb, cap, rfl⟩ := ownsRow_succ hown4
      have hrb : O rb = some (fb, n) ∨ rb = u.heap.size := by
        rcases hloc4 with e | e
        · exact .inl (hown rb e.symm)
        · exact .inr (Option.some.inj e)
      have hrlt : rb < w4.heap.size := (hown4.lt rb rfl).2
      have hrsb : rb ≠ sb := fun e => by
        rcases hrb with h | h
        · rw [e, o3] at h; simp at h; omega
        · have := m2.lt; omega
      have tS : Tu (fun b => O b = some (fb, n) ∨ O b = some (fb, -1)) wc w5 :=
        ((Tu.of_ext hRu).trans (Tu.of_grown hgrow4 (fun k e => .inl (hown k e)))).trans (Tu.of_grown g5 (fun k e => by cases e; exact .inr o3))
      have tA : Tu (Of O fb) w w5 := (t3.mono (by rintro k (e | e) <;> exact ⟨_, e⟩)).trans (tS.mono (by rintro k (e | e) <;> exact ⟨_, e⟩))
      have hws : w.heap.size ≤ wc.heap.size := t3.size
      obtain ⟨O', hO'⟩ : ∃ O' : Ow, (fun b => if b = rb then some (fb, n) else O b) = O' := ⟨_, rfl⟩
      have hsame : ∀ b, b < wc.heap.size → O' b = O b := by
        intro b hb
        rw [← hO']
        by_cases e : b = rb
        · rcases hrb with h | h
          · simp only [e, if_pos, h]
          · omega
        · simp only [if_neg e]
      have hrO : O' rb = some (fb, n) := by rw [← hO']; simp
      rw [hn1]
      refine ⟨rfl, O', FileX.at_ (lb := lb) (sb := sb) ⟨DL, _, (hsame fb b3.lt).trans o1, (hsame lb m1.lt).trans o2, (hsame sb m2.lt).trans o3, b3.tu tS (by rintro (e | e) <;> rw [o1] at e <;> simp at e; omega), m1.tu tS (by rintro (e | e) <;> rw [o2] at e <;> simp at e; omega), m5, hL, ?_, hf⟩, ?_, fun b hb => hsame b (by omega), tA⟩
      · refine ⟨fun m hm => ?_, fun m hm => ?_, fun kl hk => ?_⟩
        · have hmn : m ≠ n := by
            rintro rfl
            simp [FC.add] at hm
          rw [val_put (kl := ik n) m4.isMap trivial, ik_same, if_neg (by simpa using hmn)]
          exact hS.1 m (by simpa [FC.add, hmn] using hm)
        · by_cases hmn : m = n
          · subst hmn
            refine ⟨hl1, _, by rw [val_put (kl := ik m) m4.isMap trivial, ik_same, if_pos (by simp)], rb, cap, ?_, hrO, ?_, ?_⟩
            · simp [FC.add]
            · have e1 : (c1.add m l).S m = c1.S m ++ [l] := by simp [FC.add]
              have e2 : cellsOf (c1.S m ++ [l]) = cellsOf (c1.S m) ++ bvs l := by simp [cellsOf]
              rw [e1, e2, List.length_append]
              exact hown4.kept g5 (.inr (by simpa [Value.ownBlock] using hrsb))
            · have e1 : (c1.add m l).S m = c1.S m ++ [l] := by simp [FC.add]
              rw [e1]
              intro l' hl'
              rcases List.mem_append.1 hl' with h | h
              · exact hlen l' h
              · rw [List.mem_singleton.1 h]; exact hl
          · have e1 : (c1.add n l).S m = c1.S m := by simp [FC.add, hmn]
            rw [e1] at hm
            obtain ⟨k1, v1, k2, k3⟩ := hS.2.1 m hm
            refine ⟨k1, v1, by rw [val_put (kl := ik n) m4.isMap trivial, ik_same, if_neg (by simpa using hmn)]; exact k2, ?_⟩
            rw [e1]
            have := since_pos hL hS m hm
            refine k3.keep fun b hb hlt => ⟨tS.blk b hlt ?_, hsame b hlt⟩
            rintro (e | e) <;> rw [hb] at e <;> simp at e <;> omega
        · rcases has_put hk with e | e
          · exact ⟨n, e⟩
          · exact hS.2.2 kl e
      · intro b hb
        by_cases e : b = rb
        · omega
        · rw [Owned, ← hO'] at hb
          simp only [if_neg e] at hb
          have := hO b hb
          omega
end Go.Proofs.Ytenmdhdloibemaa
