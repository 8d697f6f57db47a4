/- New, and what a change does. Conditions: as told. -/
import Derived.Test.YtenmdhdloibemaaLooks
import Derived.OpenShut
namespace Go.Proofs.Ytenmdhdloibemaa
open Go.RowKit Go.Maps Go.Sort
set_option linter.unusedVariables false
set_option linter.unusedSimpArgs false

def freshDC (cap : Int) : DC := ⟨cap, -1, false, 0, fun _ => none⟩

/-- what New answers -/
def NewEnd (w w' : World) (cap : Int) (e : Ending) : Prop := (1 ≤ cap ∧ cap ≤ 1048576 ∧ ∃ d O, e = .returned (.tuple #[fptr d, .int .i64 0]) ∧ DiskAt w' O d (freshDC cap) ∧ (∀ b, b < w.heap.size → O b = none) ∧ w.heap.size ≤ d) ∨
      (¬ (1 ≤ cap ∧ cap ≤ 1048576) ∧ e = .returned (.tuple #[.pointer none, .int .i64 2]))

set_option maxRecDepth 100000 in
theorem new_any (w : World) (cap : Int) (hw : (Lit.int .i64 cap).wf = true) :
    Calls Try.prog 8 #[.int .i64 cap] w fun e w' => Ext w w' ∧ NewEnd w w' cap e := by
  go_enter Try.func8, Try.ntmps8
  have hmm := @run_makeMap Try.prog
  by_cases h1 : cap < 1
  · go_wp2_with fail
    go_ret2
    exact ⟨Ext.refl _, .inr ⟨by omega, rfl⟩⟩
  by_cases h2 : 1048576 < cap
  · go_wp2_with fail
    go_ret2
    exact ⟨Ext.refl _, .inr ⟨by omega, rfl⟩⟩
  go_wp2_with fail
  go_ret2
  have hx1 := (Ext.refl w).alloc (.map #[] 0)
  have m1 := MapOf.made w Try.prog 9
  have s1 : (w.alloc (.map #[] 0)).heap.size = w.heap.size + 1 := World.size_alloc _ _
  generalize w.alloc (.map #[] 0) = W1 at *
  have b2 := Blk.new W1 53 #[.int .i64 cap, .map (some w.heap.size), .int .i64 (-1), .bool false, .int .i64 0]
  have hx2 := (Ext.refl W1).alloc (.cells #[.int .i64 cap, .map (some w.heap.size), .int .i64 (-1), .bool false, .int .i64 0] 53)
  obtain ⟨O, hO⟩ : ∃ O : Ow, (fun b => if b = W1.heap.size then some (W1.heap.size, -5) else if b = w.heap.size then some (W1.heap.size, -4) else none) = O := ⟨_, rfl⟩
  have p1 : O W1.heap.size = some (W1.heap.size, -5) := by rw [← hO]; dsimp only; rw [if_pos rfl]
  have p2 : O w.heap.size = some (W1.heap.size, -4) := by rw [← hO]; dsimp only; rw [if_neg (by omega), if_pos rfl]
  have p3 : ∀ b, b ≠ W1.heap.size → b ≠ w.heap.size → O b = none := by intro b q1 q2; rw [← hO]; dsimp only; rw [if_neg q1, if_neg q2]
  have hIn : In O (W1.alloc (.cells #[.int .i64 cap, .map (some w.heap.size), .int .i64 (-1), .bool false, .int .i64 0] 53)) := by
    intro b hb
    rw [World.size_alloc]
    by_cases q1 : b = W1.heap.size
    · omega
    · by_cases q2 : b = w.heap.size
      · omega
      · rw [Owned, p3 b q1 q2] at hb
        cases hb
  have hD : DiskX (W1.alloc (.cells #[.int .i64 cap, .map (some w.heap.size), .int .i64 (-1), .bool false, .int .i64 0] 53)) O W1.heap.size w.heap.size (.map []) (freshDC cap) := by
    refine ⟨p1, p2, b2, m1.ext hx2, ?_, ⟨?_, ?_⟩, ?_, ?_, ?_, ?_, ?_, ?_, hIn⟩
    · simp [Maps.size]
    · show 1 ≤ cap; omega
    · show cap ≤ 1048576; omega
    · show (Lit.int .i64 (-1)).wf = true; decide
    · show (Lit.int .i64 0).wf = true; decide
    · intro kl hk; simp [Maps.has] at hk
    · intro n _; exact val_nil _
    · intro n c e; cases e
    · intro n m fb e; rw [val_nil] at e; cases e
  exact ⟨hx1.trans hx2, .inl ⟨by omega, by omega, W1.heap.size, O, by rw [s1]; rfl, ⟨_, _, hD⟩, fun b hb => p3 b (by omega) (by omega), by omega⟩⟩

theorem DiskX.setD {w w' : World} {O : Ow} {d fm : Nat} {F : DataW Value} {g g' : DC} (h : DiskX w O d fm F g) (t : Tu (fun b => b = d) w w') (hb : Blk w' d 53 #[.int .i64 g.cap, .map (some fm), .int .i64 g'.fuse, .bool g'.dead, .int .i64 g'.chg])
    (hc : g'.cap = g.cap) (hf : g'.file = g.file) (h1 : (Lit.int .i64 g'.fuse).wf = true) (h2 : (Lit.int .i64 g'.chg).wf = true) : DiskX w' O d fm F g' := by
  obtain ⟨o1, o2, b1, m1, hsz, hcb, hfu, hg, hnm, q0, q1, q2, hO⟩ := h
  have hne : ∀ b f t, O b = some (f, t) → t ≠ -5 → b ≠ d := by
    rintro b f t e ht rfl
    rw [o1] at e
    simp at e
    exact ht e.2.symm
  refine ⟨o1, o2, by rw [hc]; exact hb, m1.tu t (hne fm d (-4) o2 (by decide)), hsz, by rw [hc]; exact hcb, h1, h2, hnm, by rw [hf]; exact q0, fun n c e => ?_, q2, hO.ext t.size⟩
  rw [hf] at e
  obtain ⟨fb, r1, r2⟩ := q1 n c e
  refine ⟨fb, r1, r2.far t (Og.refl O w) ?_⟩
  rintro b ⟨x, e⟩ rfl
  rw [o1] at e
  simp at e
  have := r2.own
  rw [← e.1, o1] at this
  simp at this

def fuseNext (f : Int) : Int := if 0 < f then f - 1 else f
def DC.met (g : DC) : DC := { g with chg := wrap64 (g.chg + 1), dead := true }
def DC.next (g : DC) : DC := { g with chg := wrap64 (g.chg + 1), fuse := fuseNext g.fuse }

set_option maxRecDepth 100000 in
set_option maxHeartbeats 1600000 in
theorem change_any (w : World) (O : Ow) (d fm : Nat) (F : DataW Value) (g : DC) (h : DiskX w O d fm F g) (f1 f2 : Nat) (b1 c1 b2 c2 : Array Value)
    (e1 : ∀ args w, (callFunc f1 args).run Try.prog w = .ok (.enter f1 args) w) (e2 : ∀ args w, (callFunc f2 args).run Try.prog w = .ok (.enter f2 args) w) (Q : Int → World → Prop)
    (hdead : g.dead = true → Q 8 w)
    (hend : g.dead = false → g.fuse = 0 → ∀ w1, DiskX w1 O d fm F g.met → Tu (fun b => b = d) w w1 → Calls Try.prog f2 (b2 ++ c2) w1 fun e w2 => e = .returned (.tuple #[]) ∧ Q 8 w2)
    (hdo : g.dead = false → g.fuse ≠ 0 → ∀ w1, DiskX w1 O d fm F g.next → Tu (fun b => b = d) w w1 → Calls Try.prog f1 (b1 ++ c1) w1 fun e w2 => e = .returned (.tuple #[]) ∧ Q 0 w2) :
    Calls Try.prog 37 #[fptr d, .func (.func f1) b1 c1, .func (.func f2) b2 c2] w fun e w' => ∃ E, e = .returned (.int .i64 E) ∧ Q E w' := by
  have k3 := h.blk.cell 3
  have hfw : (Lit.int .i64 g.fuse).wf = true := by obtain ⟨_, _, _, _, _, _, hfu, _⟩ := h; exact hfu
  go_enter Try.func37, Try.ntmps37
  cases hd : g.dead with
  | true =>
    rw [hd] at k3
    go_wp2_with fail
    go_ret
    exact ⟨8, rfl, hdead hd⟩
  | false =>
    rw [hd] at k3
    have k4 := h.blk.cell 4
    have f4 := h.blk.free 4
    have bA := h.blk.set_ 4 (.int .i64 (wrap64 (g.chg + 1)))
    have tA : Tu (fun b => b = d) w (w.setCell ⟨d, 4, none⟩ (.int .i64 (wrap64 (g.chg + 1)))) := Tu.of_grown (setCell_grownBy _ _ _) (by rintro k e; cases e; rfl)
    have k2 := bA.cell 2
    have f2' := bA.free 2
    have f3' := bA.free 3
    by_cases h0 : g.fuse = 0
    · have hX : DiskX ((w.setCell ⟨d, 4, none⟩ (.int .i64 (wrap64 (g.chg + 1)))).setCell ⟨d, 3, none⟩ (.bool true)) O d fm F g.met :=
        h.setD (tA.trans (Tu.of_grown (setCell_grownBy _ _ _) (by rintro k e; cases e; rfl))) (bA.set_ 3 (.bool true)) rfl rfl hfw (wrap64_wf _)
      have hT : Tu (fun b => b = d) w ((w.setCell ⟨d, 4, none⟩ (.int .i64 (wrap64 (g.chg + 1)))).setCell ⟨d, 3, none⟩ (.bool true)) := tA.trans (Tu.of_grown (setCell_grownBy _ _ _) (by rintro k e; cases e; rfl))
      go_wp2_with fail
      refine (hend hd h0 _ hX hT).mono ?_
      rintro e w2 ⟨rfl, hQ⟩
      go_wp2_with fail
      go_ret
      exact ⟨8, rfl, hQ⟩
    · have h0' : (g.fuse == 0) = false := by simpa using h0
      by_cases h1 : 0 < g.fuse
      · have hb := bounds_i64 hfw
        have hw1 : wrap64 (g.fuse - 1) = g.fuse - 1 := by unfold wrap64; omega
        have hnx : g.next = { g with chg := wrap64 (g.chg + 1), fuse := g.fuse - 1 } := by simp [DC.next, fuseNext, h1]
        have hT : Tu (fun b => b = d) w ((w.setCell ⟨d, 4, none⟩ (.int .i64 (wrap64 (g.chg + 1)))).setCell ⟨d, 2, none⟩ (.int .i64 (g.fuse - 1))) := tA.trans (Tu.of_grown (setCell_grownBy _ _ _) (by rintro k e; cases e; rfl))
        have hX : DiskX ((w.setCell ⟨d, 4, none⟩ (.int .i64 (wrap64 (g.chg + 1)))).setCell ⟨d, 2, none⟩ (.int .i64 (g.fuse - 1))) O d fm F g.next := by
          rw [hnx]
          exact h.setD hT (bA.set_ 2 (.int .i64 (g.fuse - 1))) rfl rfl (WalkArith.wf_i64 (by simp only; omega)) (wrap64_wf _)
        go_wp2_with fail
        refine (hdo hd h0 _ hX hT).mono ?_
        rintro e w2 ⟨rfl, hQ⟩
        go_wp2_with fail
        go_ret
        exact ⟨0, rfl, hQ⟩
      · have hnx : g.next = { g with chg := wrap64 (g.chg + 1) } := by simp [DC.next, fuseNext, h1]
        have hX : DiskX (w.setCell ⟨d, 4, none⟩ (.int .i64 (wrap64 (g.chg + 1)))) O d fm F g.next := by
          rw [hnx]
          exact h.setD tA bA rfl rfl hfw (wrap64_wf _)
        go_wp2_with fail
        refine (hdo hd h0 _ hX tA).mono ?_
        rintro e w2 ⟨rfl, hQ⟩
        go_wp2_with fail
        go_ret
        exact ⟨0, rfl, hQ⟩
end Go.Proofs.Ytenmdhdloibemaa
