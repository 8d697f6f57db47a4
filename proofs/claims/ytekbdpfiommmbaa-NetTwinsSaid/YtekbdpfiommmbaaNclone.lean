/- slices.Clone of slices of slices of bytes. Conditions: told at it. -/
import Derived.Test.YtekbdpfiommmbaaNall
namespace Go.Proofs.Ytekbdpfiommmbaa
open Go.RowKit Go.Maps Go.Lib
set_option linter.unusedVariables false
set_option linter.unusedSimpArgs false
attribute [local go_sem] Oper.semAt_some

theorem clone_any (w : World) (v : Value) (n : Nat) (xs : List Value) (h : w.ownsRow 0 38 1 v n xs) (hn : n ≤ 1000) (h1c : ∀ u ∈ xs, u.oneCell' = true) :
    Calls Try.prog 53 #[v] w fun e w' => ∃ v', e = .returned v' ∧ w'.ownsRow w.heap.size 38 1 v' n xs ∧ Ext w w' := by
  rcases h.2 with ⟨rfl, rfl⟩ | ⟨gb, cap, cur, rfl, q2, q3, q4, q5, q6, q7⟩
  · have hxs : xs = [] := List.length_eq_zero_iff.1 (by simpa using h.1)
    subst hxs
    have hnil := Lib.run_eql_slice_nil (P := Try.prog) w 31 38 none 0 0 0 0 Try.underlying31
    go_enter Try.func53, Try.ntmps53
    go_wp2_with fail
    go_ret
    exact ⟨_, rfl, World.ownsRow_nil _ _ _ _, Ext.refl _⟩
  · have hnil := Lib.run_eql_slice_nil (P := Try.prog) w 31 38 (some ⟨gb, 0, none⟩) n cap 0 0 Try.underlying31
    obtain ⟨i0, hi, hz0, hz1, hz2⟩ := info_parts info_bs
    go_enter Try.func53, Try.ntmps53
    have hx1 := (Ext.refl w).alloc (.cells #[] 38)
    have b1 := Blk.new w 38 #[]
    have row0 : (w.alloc (.cells #[] 38)).ownsRow w.heap.size 38 1 (.slice (some ⟨w.heap.size, 0, none⟩) 0 0) 0 [] := ⟨rfl, .inr ⟨_, 0, #[], rfl, Nat.le_refl _, b1, Nat.le_refl _, by unfold maxLen; omega, rfl, rfl⟩⟩
    have hsrc : ∀ j u, xs[j]? = some u → (w.alloc (.cells #[] 38)).cell? ((⟨gb, 0, none⟩ : Addr).add j) = some u := fun j u hu => by
      have hj := (List.getElem?_eq_some_iff.1 hu).1
      have hl := h.1
      obtain ⟨rb, e1, e2⟩ := row_cells h (by omega)
      cases e1
      have hadd : (⟨gb, 0, none⟩ : Addr).add j = ⟨gb, j, none⟩ := by unfold Addr.add; split <;> simp_all
      rw [hadd]
      exact hx1.cellSome (e2 j u hu)
    go_wp2_with (at_builtin; refine wpList_append_own_at _ rfl _ _ 31 rfl w.heap.size 38 i0 (.slice none 0 0) 1 24 Try.underlying31 hi hz0 hz1 hz2 rfl (by decide) (.slice (some ⟨w.heap.size, 0, none⟩) 0 0) 0 _ rfl row0 ⟨gb, 0, none⟩ n cap xs rfl (by have := h.1; omega) hsrc h1c (by unfold maxLen; omega) (by omega) (by simp) ?_; intro v5 w5 row5 g5 hnil5 hloc5)
    have hx5 := hx1.grown g5 (fun k e => by cases e; exact Nat.le_refl _)
    go_ret
    rw [Nat.zero_add, List.nil_append] at row5
    exact ⟨v5, rfl, row5, hx5⟩
