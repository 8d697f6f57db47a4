/- What is asked of no net (a nil one, a zero one). Conditions: there is none. -/
import Derived.Test.YtekbdpfiommmbaaNdbl
namespace Go.Proofs.Ytekbdpfiommmbaa
open Go.RowKit Go.Maps
set_option linter.unusedVariables false
set_option linter.unusedSimpArgs false
attribute [local go_sem] Oper.semAt_some

theorem order_no (w : World) (v : Value) (h : NoNet w v) : Calls Try.prog 56 #[v] w fun e w' => e = .returned (.slice none 0 0) ∧ w = w' := by
  go_enter Try.func56, Try.ntmps56
  go_wp2_with fail
  refine (none_no w v h).mono ?_
  rintro ee w1 ⟨rfl, rfl⟩
  go_wp2_with fail
  go_ret
  exact ⟨rfl, rfl⟩
theorem NoNet.form {w : World} {v : Value} (h : NoNet w v) : ∃ p, v = .pointer p := by
  rcases h with rfl | ⟨b, rfl, _⟩
  · exact ⟨_, rfl⟩
  · exact ⟨_, rfl⟩
set_option maxRecDepth 100000 in
set_option maxHeartbeats 3200000 in
theorem allNo (m : Nat) (w : World) (q : Nat) (p : Option Addr) (hv : NoNet w (.pointer p)) (hq : Blk w q 25 #[.pointer p]) (S : Nat → Prop) :
    SeqStopsK Fence.wide m Try.prog 55 #[fptr q] (encA ([] : List Value)) (KpN (fun _ => False) S) (fun xs => Upto xs 0) (fun pre => ∃ k, k ≤ 0 ∧ Upto pre k) 0 w := by
  intro l J Jx W hbl hJ hJx hY h0
  have hro : Fence.wide.round = none := rfl
  refine callsIn_of_wp Try.func55 rfl trivial ?_ hro
  have cq := (hq.ext hbl).cell 0
  simp only [Try.ntmps55, List.size_toArray, List.length_cons, List.length_nil, Nat.reduceAdd, Nat.reduceSub, Array.replicate_succ, Array.replicate_zero, List.push_toArray, List.append_toArray, List.nil_append, List.cons_append]
  gi_wp2_with fail
  refine ⟨trivial, fun h => (by cases h), ?_⟩
  refine (callsIn_wide.2 (order_no W (.pointer p) (hv.ext hbl))).mono ?_
  rintro ee Wo ⟨rfl, rfl⟩
  clear cq
  gi_wp2_with fail
  gi_loopw [11] (fun kv wr => kv = .int .i64 0 ∧ J [] wr) (fun _ _ => 0)
  case atStart => exact ⟨rfl, h0⟩
  case round =>
    obtain ⟨rfl, hJs⟩ := hrel
    gi_wp2_with fail
    go_end0
    exact ⟨⟨_, rfl⟩, .inl ⟨[], rfl, hJs⟩⟩
/-- a range over no net's flights has no round -/
theorem range_no {p1 p2 : Tmp} {assign body : Code} {Q : Exit → Act → World → Prop} {a : Act} {w : World} {og : Operand} {q : Nat} {p : Option Addr}
    (hv : NoNet w (.pointer p)) (hq : Blk w q 25 #[.pointer p]) (hg : a.eval og = .func (.func 55) #[] #[fptr q])
    (hdone : ∀ (D : Nat) (W : World), w.heap.size ≤ D → Ext w W → W.heap[D]? = some (.deferred (some [])) → Q .normal { a with defers := { target := .collected D, args := #[] } :: a.defers } W) :
    (Code.rangeFunc og #[p1, p2] assign body).wp Try.prog Q a w := by
  refine wpIn_wide.1 (wpIn_rangeFunc_ownG (n := 1) (α := Ix 0) rfl (Nat.le_refl _) (gf := 55) (lb := #[fptr q]) (by rw [hg]) trivial (enters_of Try.func55 (by kernel_rfl) rfl)
    (allNo (1 - 1) w q p hv hq (fun _ => False)) KpN.trans ?_ (Ext.refl _) (fun _ => rfl) (fun _ W => Ext w W) (fun _ _ _ => False) ?_ ?_ (Ext.refl _) (fun _ => a) ?_ ?_ ?_ ?_)
  · intro W l o o' hl' ho hc _
    have g' := grownBy_putObj' W l o'
    refine ⟨g'.size, fun b x hb hn hx => ?_⟩
    have hne : b ≠ l := by
      rintro rfl
      rw [ho] at hb
      cases hb
      rcases hx with hx | hx
      · exact hx.elim
      · rw [hc] at hx; cases hx.1
    exact (g'.block b (Array.getElem?_eq_some_iff.1 hb).1 (by simp; exact hne)).trans hb
  · intro s A B row hs hgr hr
    exact (Tu.of_from hgr hr).ext_of hs (fun k hk => hk)
  · intro c s A B row hs hgr hr
    exact hs
  · intro l x
    exact absurd x.2 (by omega)
  · intro l pre x
    exact absurd x.2 (by omega)
  · intro D xs W hD _ hi hK
    exact hdone D W hD hi hK
  · intro D c pre W hD hs hx hk
    exact hx.elim
set_option maxRecDepth 100000 in
set_option maxHeartbeats 3200000 in
theorem len_no (w : World) (p : Option Addr) (hv : NoNet w (.pointer p)) : Calls Try.prog 28 #[.pointer p] w fun e w' => e = .returned (.int .i64 0) ∧ Ext w w' := by
  have hx1 := (Ext.refl w).alloc (.cells #[.int .i64 0] 3)
  have b1 := Blk.new w 3 #[.int .i64 0]
  refine calls_of_marks Try.func28 rfl ?_
  simp only [Try.ntmps28, List.size_toArray, List.length_cons, List.length_nil, Nat.reduceAdd, Nat.reduceSub, Array.replicate_succ, Array.replicate_zero, List.push_toArray, List.append_toArray, List.nil_append, List.cons_append]
  go_upto_region 2 with fail
  generalize w.alloc (.cells #[.int .i64 0] 3) = w1 at *
  obtain ⟨z, hz⟩ : ∃ z, w.heap.size = z := ⟨_, rfl⟩
  rw [hz] at b1 ⊢
  go_wp2_with fail
  refine (all_any w1 p).mono ?_
  rintro ee w2 ⟨rfl, rfl⟩
  have hx2 := (Ext.refl w1).alloc (.cells #[.pointer p] 25)
  have bq := Blk.new w1 25 #[.pointer p]
  have b12 := b1.ext hx2
  go_wp2_with fail
  have hx12 := hx1.trans hx2
  refine range_no (hv.ext hx12) bq rfl ?_
  generalize w1.alloc (.cells #[.pointer p] 25) = w2 at *
  intro D W hD hx hK
  have c0 := (b12.ext hx).cell 0
  go_wp2_with fail
  refine ⟨by simp, .inl ⟨_, _, rfl, run_takeDeferred hK, ?_⟩⟩
  have t8 : Tu (fun b => b = D) W (W.putObj D (.deferred none)) := Tu.of_grown (grownBy_putObj' W D (.deferred none)) (by rintro k e; cases e; rfl)
  exact ⟨_, results_tmp rfl _ _ _, rfl, t8.ext_of (hx12.trans hx) (fun k hk => by have := hx12.size; omega)⟩

set_option maxRecDepth 100000 in
set_option maxHeartbeats 3200000 in
theorem find_no (w : World) (pn : Option Addr) (hv : NoNet w (.pointer pn)) (p : Int) : Calls Try.prog 47 #[.pointer pn, .int .i64 p] w fun e w' => e = .returned (.tuple #[spotV 0 0 0, .int .i64 1]) ∧ Ext w w' := by
  have hx1 := ((Ext.refl w).alloc (.cells #[.int .i64 p] 3)).alloc (.cells #[.int .i64 0, .int .i64 0, .int .i64 0] 82)
  have z1 := Lib.hid (World.size_alloc w (.cells #[.int .i64 p] 3))
  have b4 := Blk.new (w.alloc (.cells #[.int .i64 p] 3)) 82 #[.int .i64 0, .int .i64 0, .int .i64 0]
  rw [z1.out] at b4
  have h1 := hv.ext hx1
  refine calls_of_marks Try.func47 rfl ?_
  simp only [Try.ntmps47, List.size_toArray, List.length_cons, List.length_nil, Nat.reduceAdd, Nat.reduceSub, Array.replicate_succ, Array.replicate_zero, List.push_toArray, List.append_toArray, List.nil_append, List.cons_append]
  go_upto_region 1 with fail
  generalize (w.alloc (.cells #[.int .i64 p] 3)).alloc (.cells #[.int .i64 0, .int .i64 0, .int .i64 0] 82) = w1 at *
  obtain ⟨q3, hq3⟩ : ∃ q3, w.heap.size = q3 := ⟨_, rfl⟩
  rw [hq3] at b4 z1 ⊢
  go_step3
  go_wp2_with fail
  refine (none_no w1 _ h1).mono ?_
  rintro x w2 ⟨rfl, rfl⟩
  have f0 := b4.free 0
  have f1 := b4.free 1
  have f2 := b4.free 2
  have s0 := b4.cell 0
  have s1 := b4.cell 1
  have s2 := b4.cell 2
  go_wp2_with fail
  have hq4 : w.heap.size ≤ q3 + 1 := by omega
  have T1 := ((hx1.setCell (p := ⟨q3 + 1, 0, none⟩) hq4 (.int .i64 0)).setCell (p := ⟨q3 + 1, 1, none⟩) hq4 (.int .i64 0)).setCell (p := ⟨q3 + 1, 2, none⟩) hq4 (.int .i64 0)
  rw [Exit.noGoto_ret]
  have hb4 := ((b4.set_ 0 (.int .i64 0)).set_ 1 (.int .i64 0)).set_ 2 (.int .i64 0)
  exact ⟨_, results_spot2 rfl _ _ (q3 + 1) rfl hb4, rfl, T1⟩
abbrev flZ : Value := .agg #[.int .i64 0, .int .i64 0, .slice none 0 0]
set_option maxRecDepth 100000 in
set_option maxHeartbeats 3200000 in
theorem at_no (w : World) (pn : Option Addr) (hv : NoNet w (.pointer pn)) (p : Int) : Calls Try.prog 21 #[.pointer pn, .int .i64 p] w fun e w' => e = .returned (.tuple #[flZ, .int .i64 1]) ∧ Ext w w' := by
  have hx1 := (Ext.refl w).alloc (.cells #[.int .i64 0, .int .i64 0, .slice none 0 0] 51)
  have b1 := Blk.new w 51 #[.int .i64 0, .int .i64 0, .slice none 0 0]
  have h1 := hv.ext hx1
  go_enter Try.func21, Try.ntmps21
  go_wp2_with fail
  generalize w.alloc (.cells #[.int .i64 0, .int .i64 0, .slice none 0 0] 51) = w1 at *
  obtain ⟨q, hq⟩ : ∃ q, w.heap.size = q := ⟨_, rfl⟩
  rw [hq] at b1 ⊢
  refine (find_no w1 pn h1 p).mono ?_
  rintro x w2 ⟨rfl, hx2⟩
  have hx12 := hx1.trans hx2
  have b2 := b1.ext hx2
  have xS := (Ext.refl w2).alloc (.cells #[.int .i64 0, .int .i64 0, .int .i64 0] 82)
  have b3 := b2.ext xS
  have hx13 := hx12.trans xS
  have f0 := b3.free 0
  have f1 := b3.free 1
  have f2 := b3.free 2
  have s0 := b3.cell 0
  have s1 := b3.cell 1
  have s2 := b3.cell 2
  go_wp2_with fail
  have hb5 := ((b3.set_ 0 (.int .i64 0)).set_ 1 (.int .i64 0)).set_ 2 (.slice none 0 0)
  have T1 := ((hx13.setCell (p := ⟨q, 0, none⟩) (show w.heap.size ≤ q by omega) (.int .i64 0)).setCell (p := ⟨q, 1, none⟩) (show w.heap.size ≤ q by omega) (.int .i64 0)).setCell (p := ⟨q, 2, none⟩) (show w.heap.size ≤ q by omega) (.slice none 0 0)
  exact bodyPost_ret (results_fl2 rfl _ _ q rfl hb5) rfl ⟨rfl, T1⟩
set_option maxRecDepth 100000 in
set_option maxHeartbeats 3200000 in
theorem take_no (w : World) (pn : Option Addr) (hv : NoNet w (.pointer pn)) (p : Int) : Calls Try.prog 23 #[.pointer pn, .int .i64 p] w fun e w' => e = .returned (.tuple #[flZ, .int .i64 1]) ∧ Ext w w' := by
  have hx1 := (Ext.refl w).alloc (.cells #[.int .i64 0, .int .i64 0, .slice none 0 0] 51)
  have b1 := Blk.new w 51 #[.int .i64 0, .int .i64 0, .slice none 0 0]
  have h1 := hv.ext hx1
  go_enter Try.func23, Try.ntmps23
  go_wp2_with fail
  generalize w.alloc (.cells #[.int .i64 0, .int .i64 0, .slice none 0 0] 51) = w1 at *
  obtain ⟨q, hq⟩ : ∃ q, w.heap.size = q := ⟨_, rfl⟩
  rw [hq] at b1 ⊢
  refine (at_no w1 pn h1 p).mono ?_
  rintro x w2 ⟨rfl, hx2⟩
  have hx12 := hx1.trans hx2
  have b2 := b1.ext hx2
  have xS := (Ext.refl w2).alloc (.cells #[.int .i64 0, .int .i64 0, .slice none 0 0] 51)
  have b3 := b2.ext xS
  have hx13 := hx12.trans xS
  have f0 := b3.free 0
  have f1 := b3.free 1
  have f2 := b3.free 2
  have s0 := b3.cell 0
  have s1 := b3.cell 1
  have s2 := b3.cell 2
  go_wp2_with fail
  have hb5 := ((b3.set_ 0 (.int .i64 0)).set_ 1 (.int .i64 0)).set_ 2 (.slice none 0 0)
  have T1 := ((hx13.setCell (p := ⟨q, 0, none⟩) (show w.heap.size ≤ q by omega) (.int .i64 0)).setCell (p := ⟨q, 1, none⟩) (show w.heap.size ≤ q by omega) (.int .i64 0)).setCell (p := ⟨q, 2, none⟩) (show w.heap.size ≤ q by omega) (.slice none 0 0)
  exact bodyPost_ret (results_fl2 rfl _ _ q rfl hb5) rfl ⟨rfl, T1⟩
theorem drop_no (w : World) (pn : Option Addr) (hv : NoNet w (.pointer pn)) (p : Int) : Calls Try.prog 24 #[.pointer pn, .int .i64 p] w fun e w' => e = .returned (.int .i64 1) ∧ Ext w w' := by
  go_enter Try.func24, Try.ntmps24
  go_wp2_with fail
  refine (find_no w pn hv p).mono ?_
  rintro x w2 ⟨rfl, hx2⟩
  have xS := (Ext.refl w2).alloc (.cells #[.int .i64 0, .int .i64 0, .int .i64 0] 82)
  go_wp2_with fail
  go_ret
  exact ⟨rfl, hx2.trans xS⟩
theorem double_no (w : World) (pn : Option Addr) (hv : NoNet w (.pointer pn)) (p : Int) : Calls Try.prog 22 #[.pointer pn, .int .i64 p] w fun e w' => e = .returned (.int .i64 1) ∧ Ext w w' := by
  go_enter Try.func22, Try.ntmps22
  go_wp2_with fail
  refine (find_no w pn hv p).mono ?_
  rintro x w2 ⟨rfl, hx2⟩
  have xS := (Ext.refl w2).alloc (.cells #[.int .i64 0, .int .i64 0, .int .i64 0] 82)
  go_wp2_with fail
  go_ret
  exact ⟨rfl, hx2.trans xS⟩
theorem clear_no (w : World) (pn : Option Addr) (hv : NoNet w (.pointer pn)) (k : Int) : Calls Try.prog 25 #[.pointer pn, .int .i64 k] w fun e w' => e = .returned (.int .i64 0) ∧ Ext w w' := by
  go_enter Try.func25, Try.ntmps25
  go_wp2_with fail
  refine (none_no w _ hv).mono ?_
  rintro x w2 ⟨rfl, rfl⟩
  go_wp2_with fail
  go_ret
  exact ⟨rfl, Ext.refl _⟩
theorem copy_no (w : World) (pn : Option Addr) (hv : NoNet w (.pointer pn)) : Calls Try.prog 34 #[.pointer pn] w fun e w' => e = .returned (.pointer none) ∧ Ext w w' := by
  go_enter Try.func34, Try.ntmps34
  go_wp2_with fail
  refine (none_no w _ hv).mono ?_
  rintro x w2 ⟨rfl, rfl⟩
  go_wp2_with fail
  go_ret
  exact ⟨rfl, Ext.refl _⟩
