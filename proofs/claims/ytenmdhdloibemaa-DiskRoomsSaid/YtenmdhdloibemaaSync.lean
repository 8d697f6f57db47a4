/- What Sync and Spoil do to a file. Conditions: the file is in memory as told. -/
import Derived.Test.YtenmdhdloibemaaFile
namespace Go.Proofs.Ytenmdhdloibemaa
open Go.RowKit Go.Maps
set_option linter.unusedVariables false
set_option linter.unusedSimpArgs false

/-- under way: the sectors that are no longer left have what was written last -/
def FC.mix (c : FC) (left : Lit → Bool) : FC := { c with lasts := fun m => if c.S m ≠ [] ∧ left (ik m) = false then some (c.has m) else c.lasts m }

theorem mix_has (c : FC) (left : Lit → Bool) (n : Int) (h : c.S n ≠ []) : (c.mix left).has n = c.has n := by
  simp only [FC.has, FC.mix]
  cases e : (c.S n).getLast? with
  | none => rw [List.getLast?_eq_none_iff] at e; exact absurd e h
  | some l => rfl
theorem mix_some (c : FC) (left : Lit → Bool) (n : Int) (h : (c.lasts n).isSome = true) : ((c.mix left).lasts n).isSome = true := by
  simp only [FC.mix]
  split
  · rfl
  · exact h
theorem mix_step (c : FC) (left : Lit → Bool) (n : Int) (h : c.S n ≠ []) (hs : (c.lasts n).isSome = true) (hf : n < c.fin) : (c.mix left).keep n (c.has n) = c.mix (fun z => left z && !z.sameKey (ik n)) := by
  have e1 : ((c.mix left).lasts n).isSome = true := mix_some c left n hs
  simp only [FC.keep, e1, if_true]
  simp only [FC.mix, FC.mk.injEq, true_and, and_true]
  refine ⟨?_, by omega⟩
  funext m
  by_cases e : m = n
  · subst e
    simp [h, ik_same]
  · simp [e, ik_same]

theorem keyI_inv : ∀ key kl, keyOf Try.prog 3 key = some kl → ∃ x : Int, key = .int .i64 x := fun key kl h => by
  obtain ⟨x, h1, _⟩ := Maps.keyOf_int_inv Try.underlying3 h
  exact ⟨x, h1⟩
theorem keyI_val {x : Int} {kl : Lit} (h : keyOf Try.prog 3 (.int .i64 x) = some kl) : kl = ik x ∧ (Lit.int .i64 x).wf = true := by
  obtain ⟨y, h1, h2, h3⟩ := Maps.keyOf_int_inv Try.underlying3 h
  injection h1 with _ h1
  subst h1
  exact ⟨h2, h3⟩

set_option maxRecDepth 100000 in
set_option maxHeartbeats 1600000 in
theorem sync_any (w : World) (O : Ow) (fb : Nat) (c : FC) (h : FileAt w O fb c) (hO : In O w) :
    Calls Try.prog 49 #[fptr fb] w fun e w' => e = .returned (.tuple #[]) ∧ FileAt w' O fb c.sync ∧ Tu (Of O fb) w w' := by
  obtain ⟨lb, sb, hX⟩ := h.x
  obtain ⟨DL, DS, o1, o2, o3, b1, m1, m2, hL, hS, hf⟩ := id hX
  have c1 := b1.cell 1
  go_enter Try.func49, Try.ntmps49
  go_wp2_with (at_range; refine wpList_rng _ _ law_i Try.underlying70 rfl rfl m2 rfl ?_; intro w1 hr1 hx1 hs1)
  go_frame
  have nr : ∀ t, O w.heap.size ≠ some t := fun t e => absurd (hO w.heap.size (by simp [Owned, e])) (by omega)
  go_loopw [2] (fun _ wr => ∃ left cnt, Ranging Try.prog wr 3 sb w.heap.size DS left cnt ∧ FileX wr O fb lb sb (c.mix left) ∧ Tu (Of O fb) w wr) (fun _ wr => wr.rangeLeft sb w.heap.size)
  case atStart =>
    refine ⟨_, _, hr1, ?_, Tu.of_ext hx1⟩
    have e : c.mix (Maps.has DS) = c := by
      simp only [FC.mix]
      congr 1
      funext m
      split
      · rename_i hh
        have := (hS.2.1 m hh.1).2
        obtain ⟨v, hv, _⟩ := this
        rw [m2.has_iff, hv] at hh
        simp at hh
      · rfl
    rw [e]
    exact hX.ext hx1
  case round =>
    obtain ⟨left, cnt, hrg, hXr, hT⟩ := hrel
    have c1r := hXr.blk.cell 1
    go_wp2_with (at_next; refine wpList_nxt (Value.int .i64) keyI_inv _ law_i w.heap.size left cnt rfl rfl rfl hrg ?_ ?_)
    · intro hl0
      have mr := hrg.map
      obtain ⟨w5, hclr, m5, g5⟩ := mr.clear Try.underlying70 0
      go_wp2_with fail
      go_end0
      have e : c.mix left = { c.sync with S := c.S } := by
        simp only [FC.mix, FC.sync, hl0, and_true, FC.mk.injEq]
        funext m
        by_cases e : c.S m = [] <;> simp [e]
      have tC : Tu (fun b => b = sb) wr w5 := Tu.of_grown g5 (fun k e => by cases e; rfl)
      obtain ⟨DL', DS', p1, p2, p3, b2, n1, n2, hL2, hS2, hf2⟩ := hXr
      refine ⟨rfl, FileX.at_ (lb := lb) (sb := sb) ⟨DL', _, p1, p2, p3, ?_, n1.tu tC (fun e => by rw [e, p3] at p2; simp at p2), m5, ?_, ⟨fun n _ => val_nil _, fun n hn => absurd rfl hn, fun kl hk => by simp [Maps.has] at hk⟩, hf⟩, hT.trans (tC.mono (by rintro k rfl; exact ⟨_, o3⟩))⟩
      · exact b2.tu tC (fun e => by rw [e, p3] at p1; simp at p1)
      · rw [e] at hL2
        exact hL2
    · intro x v kl w3 cnt' hkey hlk hv hrg3 hlt hg3 hs3 hen
      obtain ⟨rfl, hwf⟩ := keyI_val hkey
      have hx0 : c.S x ≠ [] := fun e => by rw [hS.1 x e] at hv; cases hv
      obtain ⟨q1, q2, q3⟩ := since_pos hL hS x hx0
      have hT3 : Tu (fun b => b = w.heap.size) wr w3 := Tu.of_grown hg3 (fun k e => by cases e; rfl)
      have hX3 : FileX w3 O fb lb sb (c.mix left) := hXr.keep fun b ⟨t, e⟩ hb => ⟨hT3.blk b hb (fun e2 => nr _ (e2 ▸ e)), rfl⟩
      have hO3 : In O w3 := hO.ext (by have := hT.size; omega)
      go_wp2_with fail
      refine (has_any w3 O fb lb sb (c.mix left) x hX3 hwf).mono ?_
      rw [mix_has c left x hx0]
      rintro e w4 ⟨rfl, hx4⟩
      have hX4 := hX3.ext hx4
      have hlen : (c.has x).length = 256 := by
        obtain ⟨_, v, _, rb, cap, rfl, _, _, hl⟩ := hS.2.1 x hx0
        simp only [FC.has]
        cases e : (c.S x).getLast? with
        | none => rw [List.getLast?_eq_none_iff] at e; exact absurd e hx0
        | some l => exact hl l (List.mem_of_getLast? e)
      go_wp2_with fail
      refine (keep_any w4 O fb lb sb (c.mix left) x (c.has x) hX4 (hO3.ext hx4.size) q1 q2 hlen).mono ?_
      rw [mix_step c left x hx0 (hS.2.1 x hx0).1 q3]
      rintro e w5 ⟨rfl, hX5, hT5⟩
      go_wp2_with fail
      have nsb : ¬ Lk O fb sb := by rintro (e | e) <;> rw [o3] at e <;> simp at e
      have nrb : ¬ Lk O fb w.heap.size := by rintro (e | e) <;> exact nr _ e
      have hsb4 : sb < w4.heap.size := by have := hrg3.map.lt; have := hx4.size; omega
      have hr4 : w.heap.size < w4.heap.size := by have := hrg3.lt; have := hx4.size; omega
      have hrg4 := hrg3.keep (w' := w4) (hx4.blk hrg3.map.lt) (hx4.blk hrg3.lt)
      have hrg5 := hrg4.keep (w' := w5) (hT5.blk sb hsb4 nsb) (hT5.blk w.heap.size hr4 nrb)
      go_roundw
      case rel =>
        refine ⟨_, _, hrg5, hX5, ?_⟩
        have t1 : Tu (Of O fb) w w3 := hT.then_ hT3 (fun k hk e => by omega)
        exact (t1.trans (Tu.of_ext hx4)).trans (hT5.mono (by rintro k (e | e) <;> exact ⟨_, e⟩))
      case measure =>
        rw [hrg5.left_eq, ← hrg3.left_eq]
        exact hlt

set_option maxRecDepth 100000 in
set_option maxHeartbeats 1600000 in
theorem spoil_any (w : World) (O : Ow) (fb : Nat) (c : FC) (n : Int) (l : Sc) (h : FileAt w O fb c) (hO : In O w) (h0 : 0 ≤ n) (h1 : n < 65536) (hl : l.length = 256) :
    Calls Try.prog 51 #[fptr fb, .int .i64 n, sec l] w fun e w' => e = .returned (.tuple #[]) ∧ FileAt w' O fb (c.spoil n l) ∧ Tu (Of O fb) w w' := by
  obtain ⟨lb, sb, hX⟩ := h.x
  have hn : (Lit.int .i64 n).wf = true := WalkArith.wf_i64 (by omega)
  have hx1 := (Ext.refl w).alloc (.cells (sv l) 39)
  have bx := Blk.new w 39 (sv l)
  go_enter Try.func51, Try.ntmps51
  go_wp2_with (refine wpList_lsec rfl _ rfl w.heap.size rfl bx hl ?_)
  generalize w.alloc (Obj.cells (sv l) 39) = W1 at *
  refine (keep_any W1 O fb lb sb c n l (hX.ext hx1) (hO.ext hx1.size) h0 h1 hl).mono ?_
  rintro e w2 ⟨rfl, hX2, hT2⟩
  obtain ⟨DL, DS, o1, o2, o3, b1, m1, m2, hL, hS, hf⟩ := hX2
  have c1 := b1.cell 1
  go_wp2_with (refine wpList_del _ _ _ law_i Try.underlying70 rfl rfl m2 (.int .i64 n) rfl rfl (key_i hn) ?_; intro w3 m3 g3)
  go_end0
  have tC : Tu (fun b => b = sb) w2 w3 := Tu.of_grown g3 (fun k e => by cases e; rfl)
  refine ⟨rfl, FileX.at_ (lb := lb) (sb := sb) ⟨DL, _, o1, o2, o3, b1.tu tC (fun e => by rw [e, o3] at o1; simp at o1), m1.tu tC (fun e => by rw [e, o3] at o2; simp at o2), m3, hL, ?_, hf⟩, ?_⟩
  · refine ⟨fun m hm => ?_, fun m hm => ?_, fun kl hk => hS.2.2 kl (has_del hk).2⟩
    · rw [val_del (kl := ik n) _ trivial, ik_same]
      by_cases e : m = n
      · simp [e]
      · simp only [decide_eq_true_eq, if_neg e]
        exact hS.1 m (by simpa [FC.spoil, FC.keep, e] using hm)
    · have e : m ≠ n := by
        rintro rfl
        simp [FC.spoil] at hm
      have e1 : (c.spoil n l).S m = c.S m := by simp [FC.spoil, e]
      rw [e1] at hm ⊢
      obtain ⟨k1, v, k2, k3⟩ := hS.2.1 m hm
      refine ⟨k1, v, by rw [val_del (kl := ik n) _ trivial, ik_same, if_neg (by simpa using e)]; exact k2, ?_⟩
      have := since_pos hL hS m hm
      exact k3.keep fun b hb hlt => ⟨tC.blk b hlt (fun e => by rw [e, o3] at hb; simp at hb; omega), rfl⟩
  · exact ((Tu.of_ext hx1).trans (hT2.mono (by rintro k (e | e) <;> exact ⟨_, e⟩))).trans (tC.mono (by rintro k rfl; exact ⟨_, o3⟩))
end Go.Proofs.Ytenmdhdloibemaa
