/- All of no net, and what goes over it. Conditions: there is none. -/
import Derived.Test.YtekbdpfiommmbaaNno
namespace Go.Proofs.Ytekbdpfiommmbaa
open Go.RowKit Go.Maps
set_option linter.unusedVariables false
set_option linter.unusedSimpArgs false
attribute [local go_sem] Oper.semAt_some

theorem run_equalIn_fn {t : TypeId} {a b : Array TypeId} {v : Bool} (ht : Try.prog.underlying t = some (.func a b v)) (d : Nat) (f : Fn) (x y : Array Value) (w : World) : (Op.equalIn (d + 1) t (.func f x y) .nilFunc).run Try.prog w = .ok false w := by
  simp [Op.equalIn, run_underlying ht]
theorem run_eql_fn {t : TypeId} {a b : Array TypeId} {v : Bool} (ht : Try.prog.underlying t = some (.func a b v)) (f : Fn) (x y : Array Value) (w : World) : (binOp .eql t (.func f x y) .nilFunc).run Try.prog w = .ok (.bool false) w := by
  simp only [binOp]
  simp only [show Op.equal t (.func f x y) .nilFunc = Op.equalIn (9999 + 1) t (.func f x y) .nilFunc from rfl, Sem.run_bind, run_equalIn_fn ht 9999 f x y w, Result.andThen_ok, Sem.run_pure]
theorem allc_no (w : World) (pn : Option Addr) (hv : NoNet w (.pointer pn)) : Calls Try.prog 36 #[.pointer pn] w fun e w' => ∃ q, e = .returned (.func (.func 54) #[] #[fptr q]) ∧ Blk w' q 25 #[.pointer none] ∧ Ext w w' := by
  go_enter Try.func36, Try.ntmps36
  go_wp2_with fail
  refine (copy_no w pn hv).mono ?_
  rintro x w2 ⟨rfl, hx2⟩
  have bq := Blk.new w2 25 #[.pointer none]
  have xq := (Ext.refl w2).alloc (.cells #[.pointer none] 25)
  go_wp2_with fail
  go_ret
  exact ⟨_, rfl, bq, hx2.trans xq⟩
set_option maxRecDepth 100000 in
set_option maxHeartbeats 3200000 in
theorem allcIt (w : World) (q : Nat) (hq : Blk w q 25 #[.pointer none]) (S : Nat → Prop) :
    SeqStopsK Fence.wide 1 Try.prog 54 #[fptr q] (encA ([] : List Value)) (KpN (fun _ => False) S) (fun xs => Upto xs 0) (fun pre => ∃ k, k ≤ 0 ∧ Upto pre k) 0 w := by
  intro l J Jx W hbl hJ hJx hY h0
  refine callsIn_wide.2 ?_
  have hxw : Ext w W := hbl
  have xY := (Ext.refl W).alloc (.cells #[.func (.yield l) #[] #[]] 90)
  have cq := ((hq.ext hxw).ext xY).cell 0
  have hs1 := World.size_alloc W (.cells #[.func (.yield l) #[] #[]] 90)
  refine calls_of_marks Try.func54 rfl ?_
  simp only [Try.ntmps54, List.size_toArray, List.length_cons, List.length_nil, Nat.reduceAdd, Nat.reduceSub, Array.replicate_succ, Array.replicate_zero, List.push_toArray, List.append_toArray, List.nil_append, List.cons_append]
  go_upto_region 1 with fail
  generalize W.alloc (.cells #[.func (.yield l) #[] #[]] 90) = W1 at *
  obtain ⟨yb, hyb⟩ : ∃ yb, W.heap.size = yb := ⟨_, rfl⟩
  rw [hyb] at hs1 ⊢
  go_wp2_with fail
  refine (all_any W1 none).mono ?_
  rintro x w2 ⟨rfl, rfl⟩
  have xq := (Ext.refl W1).alloc (.cells #[.pointer none] 25)
  have bq := Blk.new W1 25 #[.pointer none]
  rw [hs1] at bq
  go_wp2_with fail
  have hx12 := xY.trans xq
  refine range_no (.inl rfl) bq rfl ?_
  generalize W1.alloc (.cells #[.pointer none] 25) = W2 at *
  intro D W3 hD hx hK
  go_wp2_with fail
  refine ⟨by simp, .inl ⟨_, _, rfl, run_takeDeferred hK, ?_⟩⟩
  have t8 : Tu (fun b => b = D) W3 (W3.putObj D (.deferred none)) := Tu.of_grown (grownBy_putObj' W3 D (.deferred none)) (by rintro k e; cases e; rfl)
  have hx3 := t8.ext_of (hx12.trans hx) (fun k hk => by have := hx12.size; omega)
  exact ⟨_, results_none rfl _ _ _, ⟨_, rfl⟩, .inl ⟨[], rfl, hJ _ _ _ none h0 (hx3.grownBy none) (by simp)⟩⟩
/-- a range over All of no net has no round -/
theorem range_noc {p1 p2 : Tmp} {assign body : Code} {Q : Exit → Act → World → Prop} {a : Act} {w : World} {og : Operand} {q : Nat}
    (hq : Blk w q 25 #[.pointer none]) (hg : a.eval og = .func (.func 54) #[] #[fptr q])
    (hdone : ∀ (D : Nat) (W : World), w.heap.size ≤ D → Ext w W → W.heap[D]? = some (.deferred (some [])) → Q .normal { a with defers := { target := .collected D, args := #[] } :: a.defers } W) :
    (Code.rangeFunc og #[p1, p2] assign body).wp Try.prog Q a w := by
  refine wpIn_wide.1 (wpIn_rangeFunc_ownG (n := 2) (α := Ix 0) rfl (by omega) (gf := 54) (lb := #[fptr q]) (by rw [hg]) trivial (enters_of Try.func54 (by kernel_rfl) rfl)
    (allcIt w q hq (fun _ => False)) KpN.trans ?_ (Ext.refl _) (fun _ => rfl) (fun _ W => Ext w W) (fun _ _ _ => False) ?_ ?_ (Ext.refl _) (fun _ => a) ?_ ?_ ?_ ?_)
  · intro W l o o' hl' ho hc _
    have g' := grownBy_putObj' W l o'
    refine ⟨g'.size, fun b x hb hn hx => ?_⟩
    have hne : b ≠ l := by
      rintro rfl
      rw [ho] at hb
      cases hb
      rcases hx with hx | hx
      · exact hx.elim
      · rw [hc] at hx; cases hx.1
    exact (g'.block b (Array.getElem?_eq_some_iff.1 hb).1 (by simp; exact hne)).trans hb
  · intro s A B row hs hgr hr
    exact (Tu.of_from hgr hr).ext_of hs (fun k hk => hk)
  · intro c s A B row hs hgr hr
    exact hs
  · intro l x
    exact absurd x.2 (by omega)
  · intro l pre x
    exact absurd x.2 (by omega)
  · intro D xs W hD _ hi hK
    exact hdone D W hD hi hK
  · intro D c pre W hD hs hx hk
    exact hx.elim
theorem Four (w : World) (m : Int) : ∃ w4 z, w.heap.size = z ∧ ((((w.alloc (.cells #[.int .i64 m] 3)).alloc (.cells #[.slice none 0 0] 44)).alloc (.cells #[.bool false] 4)).alloc (.cells #[.slice none 0 0] 44)) = w4 ∧ w4.heap.size = z + 4 ∧ Ext w w4 ∧ Blk w4 z 3 #[.int .i64 m] ∧ Blk w4 (z + 1) 44 #[.slice none 0 0] ∧ Blk w4 (z + 1 + 1) 4 #[.bool false] ∧ Blk w4 (z + 1 + 1 + 1) 44 #[.slice none 0 0] := by
  refine ⟨_, _, rfl, rfl, ?_, ?_, ?_⟩
  · simp only [World.size_alloc]
  · exact ((((Ext.refl w).alloc _).alloc _).alloc _).alloc _
  · have b0 := Blk.new w 3 #[.int .i64 m]
    obtain ⟨wa, hwa⟩ : ∃ wa, w.alloc (.cells #[.int .i64 m] 3) = wa := ⟨_, rfl⟩
    have sa := World.size_alloc w (.cells #[.int .i64 m] 3)
    rw [hwa] at b0 sa ⊢
    have b1 := Blk.new wa 44 #[.slice none 0 0]
    have x1 := (Ext.refl wa).alloc (.cells #[.slice none 0 0] 44)
    obtain ⟨wb, hwb⟩ : ∃ wb, wa.alloc (.cells #[.slice none 0 0] 44) = wb := ⟨_, rfl⟩
    have sb := World.size_alloc wa (.cells #[.slice none 0 0] 44)
    rw [hwb] at b1 sb x1 ⊢
    have b2 := Blk.new wb 4 #[.bool false]
    have x2 := (Ext.refl wb).alloc (.cells #[.bool false] 4)
    obtain ⟨wc, hwc⟩ : ∃ wc, wb.alloc (.cells #[.bool false] 4) = wc := ⟨_, rfl⟩
    have sc := World.size_alloc wb (.cells #[.bool false] 4)
    rw [hwc] at b2 sc x2 ⊢
    have b3 := Blk.new wc 44 #[.slice none 0 0]
    have x3 := (Ext.refl wc).alloc (.cells #[.slice none 0 0] 44)
    rw [sa] at b1
    rw [sb, sa] at b2
    rw [sc, sb, sa] at b3
    exact ⟨((b0.ext x1).ext x2).ext x3, (b1.ext x2).ext x3, b2.ext x3, b3⟩
theorem results_fls {fn : Func} {p u : Tmp} (h : fn.results = #[.cell p 44, .cell u 4]) (tmps : Array Value) (w : World) (g r : Nat) {a b : Value} (hp : tmps.getD p undef = fptr g) (hu : tmps.getD u undef = fptr r) (hb : Blk w g 44 #[a]) (hr : Blk w r 4 #[b]) :
    (results fn tmps).run Try.prog w = .ok (.tuple #[a, b]) w := by
  have hp' : tmps[p]?.getD undef = fptr g := by simpa using hp
  have hu' : tmps[u]?.getD undef = fptr r := by simpa using hu
  have h0 := hb.cell 0
  have h1 := hr.cell 0
  simp [results, h, hp', hu', asAddr, go_sem, Result.andThen, h0, h1]
theorem flights_no (w : World) (pn : Option Addr) (hv : NoNet w (.pointer pn)) (m : Int) : Calls Try.prog 17 #[.pointer pn, .int .i64 m] w fun e w' => e = .returned (.tuple #[.slice none 0 0, .bool true]) ∧ Ext w w' := by
  obtain ⟨w4, z, hz, hw4, s4, x4, b0, b1, b2, b3⟩ := Four w m
  refine calls_of_marks Try.func17 rfl ?_
  simp only [Try.ntmps17, List.size_toArray, List.length_cons, List.length_nil, Nat.reduceAdd, Nat.reduceSub, Array.replicate_succ, Array.replicate_zero, List.push_toArray, List.append_toArray, List.nil_append, List.cons_append]
  go_wp2_with fail
  clear hw4
  refine (allc_no w4 pn (hv.ext x4)).mono ?_
  rintro x w5 ⟨q, rfl, bq, hx5⟩
  have heq := run_eql_fn (w := w5) Try.underlying68 (.func 54) #[] #[fptr q]
  go_wp2_with fail
  have hx15 := x4.trans hx5
  refine range_noc bq rfl ?_
  intro D W hD hx hK
  have B1 := (b1.ext hx5).ext hx
  have B2 := (b2.ext hx5).ext hx
  have B3 := (b3.ext hx5).ext hx
  have c3 := B3.cell 0
  have c1 := B1.cell 0
  have f1 := B1.free 0
  have c2 := B2.cell 0
  have f2 := B2.free 0
  have hx16 := hx15.trans hx
  go_wp2_with fail
  have sx := hx15.size
  have s5 := hx5.size
  have T6 : Tu (fun b => b = z + 1) W (W.setCell ⟨z + 1, 0, none⟩ (.slice none 0 0)) := Tu.of_grown (setCell_grownBy _ _ _) (by rintro k e; cases e; rfl)
  have C1 := B1.set_ 0 (.slice none 0 0)
  have C2 := B2.tu T6 (by omega)
  generalize W.setCell ⟨z + 1, 0, none⟩ (.slice none 0 0) = W6 at *
  have T7 : Tu (fun b => b = z + 1 + 1) W6 (W6.setCell ⟨z + 1 + 1, 0, none⟩ (.bool true)) := Tu.of_grown (setCell_grownBy _ _ _) (by rintro k e; cases e; rfl)
  have D1 := C1.tu T7 (by omega)
  have D2 := C2.set_ 0 (.bool true)
  have hK6 := (T6.blk D (Array.getElem?_eq_some_iff.1 hK).1 (by omega)).trans hK
  have hK7 := (T7.blk D (Array.getElem?_eq_some_iff.1 hK6).1 (by omega)).trans hK6
  have hx17 := T7.ext_of (T6.ext_of hx16 (fun k e => by omega)) (fun k e => by omega)
  generalize W6.setCell ⟨z + 1 + 1, 0, none⟩ (.bool true) = W7 at *
  refine ⟨by simp, .inl ⟨_, _, rfl, run_takeDeferred hK7, ?_⟩⟩
  have t8 : Tu (fun b => b = D) W7 (W7.putObj D (.deferred none)) := Tu.of_grown (grownBy_putObj' W7 D (.deferred none)) (by rintro k e; cases e; rfl)
  exact ⟨_, results_fls rfl _ _ (z + 1) (z + 1 + 1) rfl rfl (D1.tu t8 (by omega)) (D2.tu t8 (by omega)), rfl, t8.ext_of hx17 (fun k hk => by omega)⟩
