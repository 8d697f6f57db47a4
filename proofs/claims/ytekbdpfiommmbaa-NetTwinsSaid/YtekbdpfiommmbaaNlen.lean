/- Len, order and all of no net. Conditions: told at each. -/
import Derived.Test.YtekbdpfiommmbaaNrange
namespace Go.Proofs.Ytekbdpfiommmbaa
open Go.RowKit Go.Maps
set_option linter.unusedVariables false
set_option linter.unusedSimpArgs false
attribute [local go_sem] Oper.semAt_some

theorem flV_keep {w w' : World} {O : Ow} {n fm : Nat} {F : DataW Value} {g : NC} (h : NetX w O n fm F g) {e : Nat} (he : g.ends = (e : Int)) (hk : ∀ k, k < w.heap.size → (O k).isSome = true → w'.heap[k]? = w.heap[k]?) : ∀ m, m ≤ e * e → flV w' F g e m = flV w F g e m
  | 0, _ => by simp [flV, orderL]
  | m + 1, hm => by
    have heb := h.endsb
    obtain ⟨_, wa, wb⟩ := ordAt_wf (e := e) (m := m) (by omega) (by omega)
    obtain ⟨_, hrow, _⟩ := h.lineK (wr := w') (hk fm (h.inn fm (by rw [h.2.1]; rfl)) (by rw [h.2.1]; rfl)) (fun k hlt ho => hk k hlt (by rw [ho]; rfl)) wa wb
    rw [flV_succ, flV_succ, flV_keep h he hk m (by omega), rowCs_of hrow]
theorem flV_ext {w w' : World} {O : Ow} {n fm : Nat} {F : DataW Value} {g : NC} (h : NetX w O n fm F g) {e : Nat} (he : g.ends = (e : Int)) (hx : Ext w w') : flV w' F g e (e * e) = flV w F g e (e * e) := flV_keep h he (fun k hk _ => hx.blk hk) _ (Nat.le_refl _)
/-- how many flights a net has -/
def NC.total (g : NC) (e : Nat) : Nat := ((orderL e (e * e)).map fun p => (g.L p.1 p.2).length).sum
def LenI (w2 : World) (z : Nat) (N : Nat) (pre : List (Ix N)) (W : World) : Prop := Tu (fun b => b = z) w2 W ∧ Blk W z 3 #[.int .i64 (pre.length : Int)]

set_option maxRecDepth 100000 in
set_option maxHeartbeats 3200000 in
theorem len_any (w : World) (O : Ow) (n fm : Nat) (F : DataW Value) (g : NC) (h : NetX w O n fm F g) (e : Nat) (he : g.ends = (e : Int)) :
    Calls Try.prog 28 #[fptr n] w fun ee w' => ee = .returned (.int .i64 ((flV w F g e (e * e)).length : Int)) ∧ Ext w w' := by
  have heb := h.endsb
  have hx1 := (Ext.refl w).alloc (.cells #[.int .i64 0] 3)
  have b1 := Blk.new w 3 #[.int .i64 0]
  have z1 := Lib.hid (World.size_alloc w (.cells #[.int .i64 0] 3))
  have h1 := h.ext hx1
  have hle := flV_le h he (e * e) (Nat.le_refl _)
  obtain ⟨vs, hvs⟩ : ∃ vs, flV w F g e (e * e) = vs := ⟨_, rfl⟩
  rw [hvs] at hle ⊢
  have hk25 : e * e ≤ 25 := Nat.le_trans (Nat.mul_le_mul (show e ≤ 5 by omega) (show e ≤ 5 by omega)) (by omega)
  refine calls_of_marks Try.func28 rfl ?_
  simp only [Try.ntmps28, List.size_toArray, List.length_cons, List.length_nil, Nat.reduceAdd, Nat.reduceSub, Array.replicate_succ, Array.replicate_zero, List.push_toArray, List.append_toArray, List.nil_append, List.cons_append]
  go_upto_region 2 with fail
  generalize w.alloc (.cells #[.int .i64 0] 3) = w1 at *
  obtain ⟨z, hz⟩ : ∃ z, w.heap.size = z := ⟨_, rfl⟩
  rw [hz] at b1 z1 ⊢
  go_wp2_with fail
  refine (all_any w1 (some ⟨n, 0, none⟩)).mono ?_
  rintro ee w2 ⟨rfl, rfl⟩
  have hx2 := (Ext.refl w1).alloc (.cells #[fptr n] 25)
  have bq := Blk.new w1 25 #[fptr n]
  have zq : w1.heap.size = z + 1 := z1.out
  have b12 := b1.ext hx2
  go_wp2_with fail
  rw [show w1.alloc (.cells #[.pointer (some ⟨n, 0, none⟩)] 25) = w1.alloc (.cells #[fptr n] 25) from rfl]
  have h2 := h1.ext hx2
  have hv2 : flV (w1.alloc (.cells #[fptr n] 25)) F g e (e * e) = vs := (flV_ext h he (hx1.trans hx2)).trans hvs
  have hb2 := b12
  rw [zq] at bq
  generalize w1.alloc (.cells #[fptr n] 25) = w2 at *
  have hOz : O z = none := h.inn.none (by omega)
  have hz2 := b12.lt
  have hx12 := hx1.trans hx2
  refine' range_all (fun b => b = z) h2 bq he (fun b hb => by subst hb; exact ⟨by omega, hOz, hz2⟩) hv2 (Ext.refl _) rfl (LenI w2 z vs.length) (fun _ _ _ => False) ?hw ?hI ?hIx ?h0 _ ?assign ?body ?done ?stop
  case hw => exact fun pre W h => h.1.size
  case hI =>
    rintro pre W W' ⟨t, b⟩ t'
    exact ⟨t.then_ t' (fun k h1 h2 => by omega), b.tu t' (by omega)⟩
  case hIx => exact fun _ _ _ _ h _ => h
  case h0 => exact ⟨Tu.refl _ _, b12⟩
  case assign =>
    intro l x W K hK
    gi_wp2
    exact hK
  case stop => exact fun D c pre W _ _ h _ => h.elim
  case body =>
    rintro l pre x W ⟨t, b⟩ hlt
    have c0 := b.cell 0
    have f0 := b.free 0
    have hp : (pre.length : Int) + 1 ≤ 100000 := by omega
    have B1 := b.set_ 0 (.int .i64 ((pre.length : Int) + 1))
    have T1 : Tu (fun b => b = z) W (W.setCell ⟨z, 0, none⟩ (.int .i64 ((pre.length : Int) + 1))) := Tu.of_grown (setCell_grownBy _ _ _) (by rintro k e; cases e; rfl)
    gi_wp2_with fail
    refine ⟨T1, t.trans T1, ?_⟩
    rw [List.length_append]
    simpa using B1
  case done =>
    rintro D xs W hD hup ⟨t, b⟩ hK
    rw [hup.len] at b
    have c0 := b.cell 0
    have hxe : Ext w W := t.ext_of hx12 (fun k e => by omega)
    go_wp2_with fail
    refine ⟨by simp, .inl ⟨_, _, rfl, run_takeDeferred hK, ?_⟩⟩
    have t8 : Tu (fun b => b = D) W (W.putObj D (.deferred none)) := Tu.of_grown (grownBy_putObj' W D (.deferred none)) (by rintro k e; cases e; rfl)
    exact ⟨_, results_tmp rfl _ _ _, rfl, t8.ext_of hxe (fun k hk => by have := hx12.size; omega)⟩
