/- bytes.Clone, told, New, all. Conditions: told at each. -/
import Derived.Test.YtekbdpfiommmbaaNhas
import Derived.Test.YtekbdpfiommmbaaBytes
namespace Go.Proofs.Ytekbdpfiommmbaa
open Go.RowKit Go.Maps
set_option linter.unusedVariables false
set_option linter.unusedSimpArgs false

theorem Rd.farT {S : Nat → Prop} {w w' : World} {lo : Nat} {A : Option Addr} {n : Nat} {l : List UInt8} (h : Rd w lo A n l) (x : Tu S w w') (hS : ∀ k, S k → k < lo) : Rd w' lo A n l := by
  refine ⟨h.1, ?_⟩
  rcases Nat.eq_zero_or_pos n with h0 | h0
  · exact .inl h0
  · obtain ⟨b, off, rfl, h1, h2, h3⟩ := h.pos h0
    refine .inr ⟨b, off, rfl, h1, by have := x.size; omega, fun i hi => ?_⟩
    rw [World.cell?_of_block (w := w) (x.blk b h2 (fun hb => by have := hS b hb; omega))]
    exact h3 i hi
theorem own_max {w : World} {base : Nat} {e : TypeId} {A : Option Addr} {n c : Nat} {l : List UInt8} (h : Own w base e A n c l) : c ≤ maxLen := by
  rcases h.2 with ⟨q, _⟩ | ⟨g, cap, cur, q, _, _, _, h3, _⟩
  · injection q with _ _ q3
    rw [q3]; exact Nat.zero_le _
  · injection q with _ _ q3
    rw [q3]; exact h3
/-- bytes lie in a block of bytes -/
def TyB (w : World) (A : Option Addr) (n : Nat) : Prop := ∀ a, A = some a → 0 < n → ∃ cs z, w.heap[a.block]? = some (.cells cs 5 z) ∧ z = (0, 0)
theorem TyB.of_own {w : World} {lo n c : Nat} {A : Option Addr} {l : List UInt8} (h : Own w lo 5 A n c l) : TyB w A n := by
  intro a e hn
  have h' : w.ownsRow lo 5 1 (.slice A n c) n (bvs l) := h
  rcases h'.2 with ⟨q1, q2⟩ | ⟨g, cap, cur, q1, _, q3, _⟩
  · omega
  · injection q1 with q1 _ _
    rw [q1] at e
    cases e
    exact ⟨_, _, q3, rfl⟩
theorem bclone_ty (A : Option Addr) (n c lo : Nat) (l : List UInt8) (w : World) (hr : Rd w lo A n l) (h : n ≤ 1000000000) :
    Calls Try.prog 46 #[.slice A n c] w fun e w' => ∃ A' c', e = .returned (.slice A' n c') ∧ Rd w' w.heap.size A' n l ∧ n ≤ c' ∧ c' ≤ maxLen ∧ TyB w' A' n ∧ Ext w w' := by
  cases A with
  | none =>
    have hn : n = 0 := by
      rcases hr.2 with q | ⟨_, _, q, _⟩
      · exact q
      · cases q
    subst hn
    have hl : l = [] := List.eq_nil_of_length_eq_zero hr.1
    subst hl
    have hnil := Lib.run_eql_slice_nil (P := Try.prog) w 38 5 none 0 c 0 0 Try.underlying38
    go_enter Try.func46, Try.ntmps46
    go_wp2_with fail
    go_ret
    exact ⟨none, 0, rfl, Rd.nil _ _ _, Nat.le_refl _, Nat.zero_le _, (fun _ e => by cases e), Ext.refl _⟩
  | some a =>
    have hnil := Lib.run_eql_slice_nil (P := Try.prog) w 38 5 (some a) n c 0 0 Try.underlying38
    go_enter Try.func46, Try.ntmps46
    go_wp2_with (at_builtin; go_loud (refine wpList_append_b bytes_ty rfl _ _ rfl w ((Ext.refl w).alloc _) _ 0 0 [] rfl (World.ownsRow_made w _ _ (Nat.le_refl _) (Nat.zero_le _) rfl) (some a) n c _ _ rfl (hr.ext ((Ext.refl w).alloc _)) (by omega) ?_); intro A2 c2 w2 hr2 _ hx2)
    go_ret
    have hr3 : Own w2 w.heap.size 5 A2 n c2 l := by simpa using hr2
    exact ⟨A2, c2, by simp, hr3.rd, hr3.cap, own_max hr3, TyB.of_own hr3, hx2⟩

theorem bclone_any (A : Option Addr) (n c lo : Nat) (l : List UInt8) (w : World) (hr : Rd w lo A n l) (h : n ≤ 1000000000) :
    Calls Try.prog 46 #[.slice A n c] w fun e w' => ∃ A' c', e = .returned (.slice A' n c') ∧ Rd w' w.heap.size A' n l ∧ n ≤ c' ∧ c' ≤ maxLen ∧ Ext w w' := by
  cases A with
  | none =>
    have hn : n = 0 := by
      rcases hr.2 with q | ⟨_, _, q, _⟩
      · exact q
      · cases q
    subst hn
    have hl : l = [] := List.eq_nil_of_length_eq_zero hr.1
    subst hl
    have hnil := Lib.run_eql_slice_nil (P := Try.prog) w 38 5 none 0 c 0 0 Try.underlying38
    go_enter Try.func46, Try.ntmps46
    go_wp2_with fail
    go_ret
    exact ⟨none, 0, rfl, Rd.nil _ _ _, Nat.le_refl _, Nat.zero_le _, Ext.refl _⟩
  | some a =>
    have hnil := Lib.run_eql_slice_nil (P := Try.prog) w 38 5 (some a) n c 0 0 Try.underlying38
    go_enter Try.func46, Try.ntmps46
    go_wp2_with (at_builtin; go_loud (refine wpList_append_b bytes_ty rfl _ _ rfl w ((Ext.refl w).alloc _) _ 0 0 [] rfl (World.ownsRow_made w _ _ (Nat.le_refl _) (Nat.zero_le _) rfl) (some a) n c _ _ rfl (hr.ext ((Ext.refl w).alloc _)) (by omega) ?_); intro A2 c2 w2 hr2 _ hx2)
    go_ret
    have hr3 : Own w2 w.heap.size 5 A2 n c2 l := by simpa using hr2
    exact ⟨A2, c2, by simp, hr3.rd, hr3.cap, own_max hr3, hx2⟩

set_option maxRecDepth 100000 in
theorem told_any (w : World) (a b : Int) (A : Option Addr) (n c lo : Nat) (l : List UInt8) (hr : Rd w lo A n l) (h : n ≤ 1000000000) :
    Calls Try.prog 48 #[.agg #[.int .i64 a, .int .i64 b, .slice A n c]] w fun e w' => ∃ A' c', e = .returned (.agg #[.int .i64 a, .int .i64 b, .slice A' n c']) ∧ Rd w' w.heap.size A' n l ∧ n ≤ c' ∧ c' ≤ maxLen ∧ Ext w w' := by
  have hx1 := ((Ext.refl w).alloc (.cells #[.int .i64 a, .int .i64 b, .slice A n c] 51)).alloc (.cells #[.int .i64 0, .int .i64 0, .slice none 0 0] 51)
  have z1 := Lib.hid (World.size_alloc w (.cells #[.int .i64 a, .int .i64 b, .slice A n c] 51))
  have b1 := (Blk.new w 51 #[.int .i64 a, .int .i64 b, .slice A n c]).ext ((Ext.refl _).alloc (.cells #[.int .i64 0, .int .i64 0, .slice none 0 0] 51))
  have b2 := Blk.new (w.alloc (.cells #[.int .i64 a, .int .i64 b, .slice A n c] 51)) 51 #[.int .i64 0, .int .i64 0, .slice none 0 0]
  rw [z1.out] at b2
  go_enter Try.func48, Try.ntmps48
  go_wp2_with fail
  generalize (w.alloc (.cells #[.int .i64 a, .int .i64 b, .slice A n c] 51)).alloc (.cells #[.int .i64 0, .int .i64 0, .slice none 0 0] 51) = w1 at *
  refine (bclone_any A n c lo l w1 (hr.ext hx1) h).mono ?_
  rintro e w2 ⟨A', c', rfl, h1, h2, h3, hx2⟩
  have B1 := b1.ext hx2
  have B2 := b2.ext hx2
  have f1 := B1.free 2
  have e1 := B1.cell 2
  have B1' := B1.set_ 2 (.slice A' n c')
  have T1 : Tu (fun k => k = w.heap.size) w2 (w2.setCell ⟨w.heap.size, 2, none⟩ (.slice A' n c')) := Tu.of_grown (setCell_grownBy _ _ _) (by rintro k e; cases e; rfl)
  have hx12 := hx1.trans hx2
  have hx3 : Ext w (w2.setCell ⟨w.heap.size, 2, none⟩ (.slice A' n c')) := T1.ext_of hx12 (fun k e => by omega)
  have hlo : w.heap.size < w1.heap.size := b1.lt
  have B2' := B2.tu T1 (by omega)
  go_upto_region 2 with fail
  generalize w2.setCell ⟨w.heap.size, 2, none⟩ (.slice A' n c') = w3 at *
  have d0 := B1'.cell 0
  have d1 := B1'.cell 1
  have d2 := B1'.cell 2
  simp at d0 d1 d2
  have g0 := B2'.free 0
  have g1 := B2'.free 1
  have g2 := B2'.free 2
  have s0 := B2'.cell 0
  have s1 := B2'.cell 1
  have s2 := B2'.cell 2
  have B3 := ((B2'.set_ 0 (.int .i64 a)).set_ 1 (.int .i64 b)).set_ 2 (.slice A' n c')
  have T3 : Tu (fun k => k = w.heap.size + 1) w3 (((w3.setCell ⟨w.heap.size + 1, 0, none⟩ (.int .i64 a)).setCell ⟨w.heap.size + 1, 1, none⟩ (.int .i64 b)).setCell ⟨w.heap.size + 1, 2, none⟩ (.slice A' n c')) :=
    ((Tu.of_grown (setCell_grownBy _ _ _) (by rintro k e; cases e; rfl)).trans (Tu.of_grown (setCell_grownBy _ _ _) (by rintro k e; cases e; rfl))).trans (Tu.of_grown (setCell_grownBy _ _ _) (by rintro k e; cases e; rfl))
  have hx4 := T3.ext_of hx3 (fun k e => by omega)
  have hlo2 : w.heap.size + 1 < w1.heap.size := b2.lt
  have r1 := (h1.farT T1 (fun k e => by omega)).farT T3 (fun k e => by omega)
  go_wp2_with fail
  generalize (((w3.setCell ⟨w.heap.size + 1, 0, none⟩ (.int .i64 a)).setCell ⟨w.heap.size + 1, 1, none⟩ (.int .i64 b)).setCell ⟨w.heap.size + 1, 2, none⟩ (.slice A' n c')) = w6 at *
  have k0 := B3.cell 0
  have k1 := B3.cell 1
  have k2 := B3.cell 2
  simp at k0 k1 k2
  refine bodyPost_ret (v := .agg #[.int .i64 a, .int .i64 b, .slice A' n c']) (by simp [results, Try.results48, go_sem, asAddr, Result.andThen, k0, k1, k2]) rfl ⟨A', c', rfl, r1.low hx1.size, h2, h3, hx4⟩

/-- what New answers -/
def NewEnd (w w' : World) (k : Int) (e : Ending) : Prop :=
  (1 ≤ k ∧ k ≤ 5 ∧ ∃ n O, e = .returned (.tuple #[fptr n, .int .i64 0]) ∧ NetAt w' O n ⟨k, 0, fun _ _ => []⟩ ∧ ∀ b, b < w.heap.size → O b = none) ∨ (¬ (1 ≤ k ∧ k ≤ 5) ∧ e = .returned (.tuple #[.pointer none, .int .i64 2]))
set_option maxRecDepth 100000 in
theorem new_any (w : World) (k : Int) (hw : (Lit.int .i64 k).wf = true) :
    Calls Try.prog 12 #[.int .i64 k] w fun e w' => Ext w w' ∧ NewEnd w w' k e := by
  go_enter Try.func12, Try.ntmps12
  have hmm := @run_makeMap Try.prog
  by_cases h1 : k < 1
  · go_wp2_with fail
    go_ret2
    exact ⟨Ext.refl _, .inr ⟨by omega, rfl⟩⟩
  by_cases h2 : 5 < k
  · go_wp2_with fail
    go_ret2
    exact ⟨Ext.refl _, .inr ⟨by omega, rfl⟩⟩
  have z1 := Lib.hid (World.size_alloc w (.map #[] 0))
  have hx1 := (Ext.refl w).alloc (.map #[] 0)
  have m1 := MapOf.made w Try.prog 77
  have b2 := Blk.new (w.alloc (.map #[] 0)) 75 #[.int .i64 k, .map (some w.heap.size), .int .i64 0]
  have hx2 := (Ext.refl (w.alloc (.map #[] 0))).alloc (.cells #[.int .i64 k, .map (some w.heap.size), .int .i64 0] 75)
  have m2 := m1.ext hx2
  rw [z1.out] at b2
  go_wp2_with fail
  go_ret2
  refine ⟨hx1.trans hx2, .inl ⟨by omega, by omega, w.heap.size + 1, fun b => if b = w.heap.size + 1 then some (-5, -5) else if b = w.heap.size then some (-4, -4) else none, rfl, ⟨w.heap.size, .map [], by simp, by simp, b2, m2, ⟨by omega, by omega⟩, ⟨(show (Lit.int .i64 0).wf = true by decide), Nat.zero_le _⟩, ?_, ?_, fun _ _ _ => rfl, by simp, ?_⟩, ?_⟩⟩
  · intro kl h
    simp [Maps.has] at h
  · intro a b _
    exact .inl ⟨by simp [val, Maps.has], rfl⟩
  · intro b h
    have := b2.lt
    dsimp only at h
    split at h
    · omega
    · split at h
      · omega
      · simp at h
  · intro b hb
    show (if b = w.heap.size + 1 then _ else if b = w.heap.size then _ else none) = none
    rw [if_neg (by omega), if_neg (by omega)]

theorem all_any (w : World) (p : Option Addr) :
    Calls Try.prog 51 #[.pointer p] w fun e w' => e = .returned (.func (.func 55) #[] #[fptr w.heap.size]) ∧ w' = w.alloc (.cells #[.pointer p] 25) := by
  go_enter Try.func51, Try.ntmps51
  go_wp2_with fail
  go_ret
  exact ⟨rfl, rfl⟩
