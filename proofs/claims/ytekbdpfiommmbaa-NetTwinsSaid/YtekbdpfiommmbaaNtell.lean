/- What told answers, its bytes in a block of bytes. Conditions: the bytes are in memory. -/
import Derived.Test.YtekbdpfiommmbaaNseg
namespace Go.Proofs.Ytekbdpfiommmbaa
open Go.RowKit Go.Maps
set_option linter.unusedVariables false
set_option linter.unusedSimpArgs false

theorem TyB.tu {S : Nat → Prop} {w w' : World} {lo n : Nat} {A : Option Addr} {l : List UInt8} (h : TyB w A n) (x : Tu S w w') (hr : Rd w lo A n l) (hS : ∀ k, S k → k < lo) : TyB w' A n := by
  intro a e hn
  obtain ⟨cs, z, h1, hz⟩ := h a e hn
  obtain ⟨b, off, q1, q2, q3, _⟩ := hr.pos hn
  rw [e] at q1
  cases q1
  exact ⟨cs, z, (x.blk b q3 (fun hs => by have := hS b hs; omega)).trans h1, hz⟩
theorem TyB.kc {lo n : Nat} {A : Option Addr} {w w' : World} (h : TyB w A n) (k : Kc lo w w') : TyB w' A n := fun a e hn => by
  obtain ⟨cs, z, h1, hz⟩ := h a e hn
  exact ⟨cs, z, k.blk _ _ h1 (.inr rfl), hz⟩
set_option maxRecDepth 100000 in
theorem told_ty (w : World) (a b : Int) (A : Option Addr) (n c lo : Nat) (l : List UInt8) (hr : Rd w lo A n l) (h : n ≤ 1000000000) :
    Calls Try.prog 48 #[.agg #[.int .i64 a, .int .i64 b, .slice A n c]] w fun e w' => ∃ A' c', e = .returned (.agg #[.int .i64 a, .int .i64 b, .slice A' n c']) ∧ Rd w' w.heap.size A' n l ∧ n ≤ c' ∧ c' ≤ maxLen ∧ TyB w' A' n ∧ Ext w w' := by
  have hx1 := ((Ext.refl w).alloc (.cells #[.int .i64 a, .int .i64 b, .slice A n c] 51)).alloc (.cells #[.int .i64 0, .int .i64 0, .slice none 0 0] 51)
  have z1 := Lib.hid (World.size_alloc w (.cells #[.int .i64 a, .int .i64 b, .slice A n c] 51))
  have b1 := (Blk.new w 51 #[.int .i64 a, .int .i64 b, .slice A n c]).ext ((Ext.refl _).alloc (.cells #[.int .i64 0, .int .i64 0, .slice none 0 0] 51))
  have b2 := Blk.new (w.alloc (.cells #[.int .i64 a, .int .i64 b, .slice A n c] 51)) 51 #[.int .i64 0, .int .i64 0, .slice none 0 0]
  rw [z1.out] at b2
  go_enter Try.func48, Try.ntmps48
  go_wp2_with fail
  generalize (w.alloc (.cells #[.int .i64 a, .int .i64 b, .slice A n c] 51)).alloc (.cells #[.int .i64 0, .int .i64 0, .slice none 0 0] 51) = w1 at *
  refine (bclone_ty A n c lo l w1 (hr.ext hx1) h).mono ?_
  rintro e w2 ⟨A', c', rfl, h1, h2, h3, hty, hx2⟩
  have B1 := b1.ext hx2
  have B2 := b2.ext hx2
  have f1 := B1.free 2
  have e1 := B1.cell 2
  have B1' := B1.set_ 2 (.slice A' n c')
  have T1 : Tu (fun k => k = w.heap.size) w2 (w2.setCell ⟨w.heap.size, 2, none⟩ (.slice A' n c')) := Tu.of_grown (setCell_grownBy _ _ _) (by rintro k e; cases e; rfl)
  have hx12 := hx1.trans hx2
  have hx3 : Ext w (w2.setCell ⟨w.heap.size, 2, none⟩ (.slice A' n c')) := T1.ext_of hx12 (fun k e => by omega)
  have hlo : w.heap.size < w1.heap.size := b1.lt
  have B2' := B2.tu T1 (by omega)
  go_upto_region 2 with fail
  generalize w2.setCell ⟨w.heap.size, 2, none⟩ (.slice A' n c') = w3 at *
  have d0 := B1'.cell 0
  have d1 := B1'.cell 1
  have d2 := B1'.cell 2
  simp at d0 d1 d2
  have g0 := B2'.free 0
  have g1 := B2'.free 1
  have g2 := B2'.free 2
  have s0 := B2'.cell 0
  have s1 := B2'.cell 1
  have s2 := B2'.cell 2
  have B3 := ((B2'.set_ 0 (.int .i64 a)).set_ 1 (.int .i64 b)).set_ 2 (.slice A' n c')
  have T3 : Tu (fun k => k = w.heap.size + 1) w3 (((w3.setCell ⟨w.heap.size + 1, 0, none⟩ (.int .i64 a)).setCell ⟨w.heap.size + 1, 1, none⟩ (.int .i64 b)).setCell ⟨w.heap.size + 1, 2, none⟩ (.slice A' n c')) :=
    ((Tu.of_grown (setCell_grownBy _ _ _) (by rintro k e; cases e; rfl)).trans (Tu.of_grown (setCell_grownBy _ _ _) (by rintro k e; cases e; rfl))).trans (Tu.of_grown (setCell_grownBy _ _ _) (by rintro k e; cases e; rfl))
  have hx4 := T3.ext_of hx3 (fun k e => by omega)
  have hlo2 : w.heap.size + 1 < w1.heap.size := b2.lt
  have r1 := (h1.farT T1 (fun k e => by omega)).farT T3 (fun k e => by omega)
  go_wp2_with fail
  generalize (((w3.setCell ⟨w.heap.size + 1, 0, none⟩ (.int .i64 a)).setCell ⟨w.heap.size + 1, 1, none⟩ (.int .i64 b)).setCell ⟨w.heap.size + 1, 2, none⟩ (.slice A' n c')) = w6 at *
  have k0 := B3.cell 0
  have k1 := B3.cell 1
  have k2 := B3.cell 2
  simp at k0 k1 k2
  refine bodyPost_ret (v := .agg #[.int .i64 a, .int .i64 b, .slice A' n c']) (by simp [results, Try.results48, go_sem, asAddr, Result.andThen, k0, k1, k2]) rfl ⟨A', c', rfl, r1.low hx1.size, h2, h3, (hty.tu T1 h1 (fun k e => by omega)).tu T3 (h1.farT T1 (fun k e => by omega)) (fun k e => by omega), hx4⟩
