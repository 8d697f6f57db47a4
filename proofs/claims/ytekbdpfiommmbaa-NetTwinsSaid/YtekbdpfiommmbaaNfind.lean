/- find: where a flight stands. Conditions: the net is in memory as told. -/
import Derived.Test.YtekbdpfiommmbaaNsend
import Derived.Test.YtekbdpfiommmbaaTail
import Derived.Test.YtekbdpfiommmbaaNranH
import Derived.Test.YtekbdpfiommmbaaNbump
import Derived.Test.YtekbdpfiommmbaaRound
namespace Go.Proofs.Ytekbdpfiommmbaa
open Go.RowKit Go.Maps
set_option linter.unusedVariables false
set_option linter.unusedSimpArgs false
attribute [local go_sem] Oper.semAt_some

def cntG (g : NC) (e k : Nat) : Nat := ((orderL e k).map fun p => (g.L p.1 p.2).length).sum
theorem cntG_succ (g : NC) (e k : Nat) : cntG g e (k + 1) = cntG g e k + (g.L (ordAt e k).1 (ordAt e k).2).length := by
  simp [cntG, orderL, List.range_succ]
theorem cntG_mono (g : NC) (e : Nat) : ∀ (m k : Nat), k ≤ m → cntG g e k ≤ cntG g e m
  | 0, k, h => by rw [show k = 0 by omega]; exact Nat.le_refl _
  | m + 1, k, h => by
    by_cases e' : k = m + 1
    · rw [e']; exact Nat.le_refl _
    · rw [cntG_succ]
      have := cntG_mono g e m k (by omega)
      omega
theorem flV_len {w : World} {O : Ow} {n fm : Nat} {F : DataW Value} {g : NC} (h : NetX w O n fm F g) {e : Nat} (he : g.ends = (e : Int)) : ∀ m, m ≤ e * e → (flV w F g e m).length = cntG g e m
  | 0, _ => by simp [flV, orderL, cntG]
  | m + 1, hm => by
    have heb := h.endsb
    obtain ⟨_, wa, wb⟩ := ordAt_wf (e := e) (m := m) (by omega) (by omega)
    obtain ⟨_, _, hR, _⟩ := h.lineK (wr := w) rfl (fun _ _ _ => rfl) wa wb
    rw [flV_succ, List.length_append, List.length_map, hR.1, cntG_succ, flV_len h he m (by omega)]
/-- which line a place is in -/
theorem place_line (g : NC) (e : Nat) : ∀ (m p : Nat), p < cntG g e m → ∃ k, k < m ∧ cntG g e k ≤ p ∧ p < cntG g e (k + 1)
  | 0, p, h => by simp [cntG, orderL] at h
  | m + 1, p, h => by
    by_cases h' : p < cntG g e m
    · obtain ⟨k, h1, h2⟩ := place_line g e m p h'
      exact ⟨k, by omega, h2⟩
    · exact ⟨m, by omega, by omega, h⟩
/-- how many of the first j flights are in line k -/
def inL (g : NC) (e j k : Nat) : Nat := min j (cntG g e (k + 1)) - cntG g e k
theorem inL_step {g : NC} {e j k : Nat} (h1 : cntG g e k ≤ j) (h2 : j < cntG g e (k + 1)) (k' : Nat) : inL g e (j + 1) k' = if k' = k then inL g e j k' + 1 else inL g e j k' := by
  have h3 := cntG_succ g e k'
  split
  · rename_i e'
    subst e'
    simp only [inL]
    omega
  · rename_i hne
    rcases Nat.lt_or_ge k' k with hlt | hge
    · have := cntG_mono g e k (k' + 1) (by omega)
      simp only [inL]
      omega
    · have := cntG_mono g e k' (k + 1) (by omega)
      simp only [inL]
      omega
theorem ordAt_inj {e k k' : Nat} (he : 0 < e) (h : ordAt e k = ordAt e k') : k = k' := by
  simp only [ordAt, Prod.mk.injEq] at h
  have h1 : k / e = k' / e := by omega
  have h2 : k % e = k' % e := by omega
  rw [← Nat.div_add_mod k e, ← Nat.div_add_mod k' e, h1, h2]
abbrev spotV (a b i : Int) : Value := .agg #[.int .i64 a, .int .i64 b, .int .i64 i]
def FindE (g : NC) (e : Nat) (p : Int) (x : Ending) : Prop :=
  (p < 0 ∧ x = .returned (.tuple #[spotV 0 0 0, .int .i64 2])) ∨ (0 ≤ p ∧ (cntG g e (e * e) : Int) ≤ p ∧ x = .returned (.tuple #[spotV 0 0 0, .int .i64 6])) ∨
    ∃ (k i : Nat), k < e * e ∧ i < (g.L (ordAt e k).1 (ordAt e k).2).length ∧ p = ((cntG g e k + i : Nat) : Int) ∧ x = .returned (.tuple #[spotV (ordAt e k).1 (ordAt e k).2 i, .int .i64 0])

theorem results_spot2 {fn : Func} {p u : Tmp} (h : fn.results = #[.cell p 82, .tmp u]) (tmps : Array Value) (w : World) (g : Nat) {a b c : Value} (hp : tmps.getD p undef = fptr g) (hb : Blk w g 82 #[a, b, c]) :
    (results fn tmps).run Try.prog w = .ok (.tuple #[.agg #[a, b, c], tmps.getD u undef]) w := by
  have hp' : tmps[p]?.getD undef = fptr g := by simpa using hp
  have h0 := hb.cell 0
  have h1 := hb.cell 1
  have h2 := hb.cell 2
  simp [results, h, hp', asAddr, go_sem, Result.andThen, h0, h1, h2]
theorem flV_form {w : World} {O : Ow} {n fm : Nat} {F : DataW Value} {g : NC} (h : NetX w O n fm F g) {e : Nat} (he : g.ends = (e : Int)) : ∀ m, m ≤ e * e → ∀ v, v ∈ flV w F g e m → ∃ (a b : Int) (A : Option Addr) (k c : Nat), v = .agg #[.int .i64 a, .int .i64 b, .slice A k c]
  | 0, _, v, hv => by simp [flV, orderL] at hv
  | m + 1, hm, v, hv => by
    have heb := h.endsb
    obtain ⟨_, wa, wb⟩ := ordAt_wf (e := e) (m := m) (by omega) (by omega)
    obtain ⟨_, _, hR, _⟩ := h.lineK (wr := w) rfl (fun _ _ _ => rfl) wa wb
    rw [flV_succ, List.mem_append] at hv
    rcases hv with hv | hv
    · exact flV_form h he m (by omega) v hv
    · obtain ⟨c, hc, rfl⟩ := List.mem_map.1 hv
      obtain ⟨i, hi, rfl⟩ := List.getElem_of_mem hc
      obtain ⟨_, A, k, h2, _⟩ := hR.2 i (by rw [← hR.1]; exact hi)
      rw [List.getElem?_eq_getElem hi] at h2
      rw [Option.some.inj h2]
      exact ⟨_, _, _, _, _, rfl⟩
/-- where a flight stands, and in which line -/
theorem flV_at {w : World} {O : Ow} {n fm : Nat} {F : DataW Value} {g : NC} (h : NetX w O n fm F g) {e : Nat} (he : g.ends = (e : Int)) : ∀ m, m ≤ e * e → ∀ j v, (flV w F g e m)[j]? = some v → ∃ k i, k < m ∧ i < (g.L (ordAt e k).1 (ordAt e k).2).length ∧ j = cntG g e k + i ∧ ∃ (A : Option Addr) (l c : Nat), v = .agg #[.int .i64 (ordAt e k).1, .int .i64 (ordAt e k).2, .slice A l c]
  | 0, _, j, v, hv => by simp [flV, orderL] at hv
  | m + 1, hm, j, v, hv => by
    have heb := h.endsb
    obtain ⟨_, wa, wb⟩ := ordAt_wf (e := e) (m := m) (by omega) (by omega)
    obtain ⟨_, _, hR, _⟩ := h.lineK (wr := w) rfl (fun _ _ _ => rfl) wa wb
    have hl := flV_len h he m (by omega)
    rw [flV_succ] at hv
    by_cases hj : j < cntG g e m
    · rw [List.getElem?_append_left (by omega)] at hv
      obtain ⟨k, i, h1, h2⟩ := flV_at h he m (by omega) j v hv
      exact ⟨k, i, by omega, h2⟩
    · rw [List.getElem?_append_right (by omega), List.getElem?_map, hl] at hv
      obtain ⟨c, hc, rfl⟩ := Option.map_eq_some_iff.1 hv
      obtain ⟨hi, rfl⟩ := List.getElem?_eq_some_iff.1 hc
      obtain ⟨_, A, k, h2, _⟩ := hR.2 (j - cntG g e m) (by rw [← hR.1]; exact hi)
      rw [List.getElem?_eq_getElem hi] at h2
      rw [Option.some.inj h2]
      exact ⟨m, j - cntG g e m, by omega, by rw [← hR.1]; exact hi, by omega, _, _, _, rfl⟩
/-- under way -/
def FI (w2 : World) (s6 : Nat) (g : NC) (e N : Nat) (p : Int) (pre : List (Ix N)) (W : World) : Prop :=
  (∀ j, Upto pre j → (j : Int) ≤ p) ∧
  Tu (fun b => b = s6 ∨ b = s6 + 1 ∨ b = s6 + 2) w2 W ∧ Blk W s6 82 #[.int .i64 0, .int .i64 0, .int .i64 0] ∧ Blk W (s6 + 1) 26 #[.int .i64 6] ∧
    ∃ D, MapOf Try.prog W 77 (s6 + 2) D ∧ SizeOk D ∧ (∀ kl v, val D kl = some v → ∃ c : Nat, v = .int .i64 c ∧ c ≤ pre.length) ∧ ∀ j, Upto pre j → ∀ k, k < e * e → (val D (lnk (ordAt e k).1 (ordAt e k).2)).getD (.int .i64 0) = .int .i64 (inL g e j k : Nat)
theorem FI_tu {w2 : World} {s6 : Nat} {g : NC} {e N : Nat} {p : Int} {pre : List (Ix N)} {W W' : World} {S : Nat → Prop} (h : FI w2 s6 g e N p pre W) (t' : Tu S W W') (hS : ∀ k, S k → w2.heap.size ≤ k ∧ s6 + 2 < k) : FI w2 s6 g e N p pre W' := by
  obtain ⟨hp, t, b1, b2, D, m, h1, h2, h3⟩ := h
  exact ⟨hp, t.then_ t' (fun k a b => by have := (hS k b).1; omega), b1.tu t' (fun h => by have := (hS _ h).2; omega), b2.tu t' (fun h => by have := (hS _ h).2; omega), D, m.tu t' (fun h => by have := (hS _ h).2; omega), h1, h2, h3⟩
def FX (w2 : World) (s6 : Nat) (g : NC) (e N : Nat) (p : Int) (c : Code) (pre : List (Ix N)) (W : World) : Prop :=
  Tu (fun b => b = s6 ∨ b = s6 + 1 ∨ b = s6 + 2) w2 W ∧ c = .exit 1 ∧ ∀ j, Upto pre j → ∃ (k i : Nat), k < e * e ∧ i < (g.L (ordAt e k).1 (ordAt e k).2).length ∧ p = ((cntG g e k + i : Nat) : Int) ∧ Blk W s6 82 #[.int .i64 (ordAt e k).1, .int .i64 (ordAt e k).2, .int .i64 i] ∧ Blk W (s6 + 1) 26 #[.int .i64 0]
theorem FX_tu {w2 : World} {s6 : Nat} {g : NC} {e N : Nat} {p : Int} {c : Code} {pre : List (Ix N)} {W W' : World} {S : Nat → Prop} (h : FX w2 s6 g e N p c pre W) (t' : Tu S W W') (hS : ∀ k, S k → w2.heap.size ≤ k ∧ s6 + 2 < k) : FX w2 s6 g e N p c pre W' := by
  obtain ⟨t, hc, h1⟩ := h
  refine ⟨t.then_ t' (fun k a b => by have := (hS k b).1; omega), hc, fun j hj => ?_⟩
  obtain ⟨k, i, q1, q2, q3, b1, b2⟩ := h1 j hj
  exact ⟨k, i, q1, q2, q3, b1.tu t' (fun h => by have := (hS _ h).2; omega), b2.tu t' (fun h => by have := (hS _ h).2; omega)⟩
set_option maxRecDepth 100000 in
set_option maxHeartbeats 6400000 in
theorem find_any (w : World) (O : Ow) (n fm : Nat) (F : DataW Value) (g : NC) (h : NetX w O n fm F g) (e : Nat) (he : g.ends = (e : Int)) (p : Int) (hp : (Lit.int .i64 p).wf = true) :
    Calls Try.prog 47 #[fptr n, .int .i64 p] w fun x w' => FindE g e p x ∧ Ext w w' := by
  have heb := h.endsb
  have hx1 := ((Ext.refl w).alloc (.cells #[.int .i64 p] 3)).alloc (.cells #[.int .i64 0, .int .i64 0, .int .i64 0] 82)
  have z1 := Lib.hid (World.size_alloc w (.cells #[.int .i64 p] 3))
  have b3 := (Blk.new w 3 #[.int .i64 p]).ext ((Ext.refl _).alloc (.cells #[.int .i64 0, .int .i64 0, .int .i64 0] 82))
  have b4 := Blk.new (w.alloc (.cells #[.int .i64 p] 3)) 82 #[.int .i64 0, .int .i64 0, .int .i64 0]
  rw [z1.out] at b4
  have h1 := h.ext hx1
  have hmm := @run_makeMap Try.prog
  refine calls_of_marks Try.func47 rfl ?_
  simp only [Try.ntmps47, List.size_toArray, List.length_cons, List.length_nil, Nat.reduceAdd, Nat.reduceSub, Array.replicate_succ, Array.replicate_zero, List.push_toArray, List.append_toArray, List.nil_append, List.cons_append]
  go_upto_region 1 with fail
  generalize (w.alloc (.cells #[.int .i64 p] 3)).alloc (.cells #[.int .i64 0, .int .i64 0, .int .i64 0] 82) = w1 at *
  obtain ⟨q3, hq3⟩ : ∃ q3, w.heap.size = q3 := ⟨_, rfl⟩
  rw [hq3] at b3 b4 z1 ⊢
  have c3 := b3.cell 0
  go_step3
  go_wp2_with fail
  refine (none_at w1 O n fm F g h1).mono ?_
  rintro x w2 ⟨rfl, rfl⟩
  by_cases hneg : p < 0
  · have f0 := b4.free 0
    have f1 := b4.free 1
    have f2 := b4.free 2
    have s0 := b4.cell 0
    have s1 := b4.cell 1
    have s2 := b4.cell 2
    go_wp2_with fail
    have hq4 : w.heap.size ≤ q3 + 1 := by omega
    have T1 := ((hx1.setCell (p := ⟨q3 + 1, 0, none⟩) hq4 (.int .i64 0)).setCell (p := ⟨q3 + 1, 1, none⟩) hq4 (.int .i64 0)).setCell (p := ⟨q3 + 1, 2, none⟩) hq4 (.int .i64 0)
    rw [Exit.noGoto_ret]
    have hb4 := ((b4.set_ 0 (.int .i64 0)).set_ 1 (.int .i64 0)).set_ 2 (.int .i64 0)
    exact ⟨_, results_spot2 rfl _ _ (q3 + 1) rfl hb4, .inl ⟨hneg, rfl⟩, T1⟩
  obtain ⟨s6, hs6⟩ : ∃ s6, w1.heap.size = s6 := ⟨_, rfl⟩
  have hs6w : w.heap.size ≤ s6 := hs6 ▸ hx1.size
  have hq6 : q3 + 1 < s6 := hs6 ▸ b4.lt
  have xA := (Ext.refl w1).alloc (.cells #[.int .i64 0, .int .i64 0, .int .i64 0] 82)
  have bA := Blk.new w1 82 #[.int .i64 0, .int .i64 0, .int .i64 0]
  have sA := World.size_alloc w1 (.cells #[.int .i64 0, .int .i64 0, .int .i64 0] 82)
  obtain ⟨wA, hwA⟩ : ∃ wA, w1.alloc (.cells #[.int .i64 0, .int .i64 0, .int .i64 0] 82) = wA := ⟨_, rfl⟩
  rw [hwA] at xA bA sA
  have xB := (Ext.refl wA).alloc (.cells #[.int .i64 6] 26)
  have bB := Blk.new wA 26 #[.int .i64 6]
  have sB := World.size_alloc wA (.cells #[.int .i64 6] 26)
  obtain ⟨wB, hwB⟩ : ∃ wB, wA.alloc (.cells #[.int .i64 6] 26) = wB := ⟨_, rfl⟩
  rw [hwB] at xB bB sB
  have xM := (Ext.refl wB).alloc (.map #[] 0)
  have mM := MapOf.made wB Try.prog 77
  have sM := World.size_alloc wB (.map #[] 0)
  obtain ⟨wM, hwM⟩ : ∃ wM, wB.alloc (.map #[] 0) = wM := ⟨_, rfl⟩
  rw [hwM] at xM mM sM
  have eB : wB.heap.size = s6 + 1 + 1 := by omega
  have eM : wM.heap.size = s6 + 1 + 1 + 1 := by omega
  rw [show wA.heap.size = s6 + 1 by omega] at bB
  rw [eB] at mM
  rw [hs6] at bA
  have xC := (Ext.refl wM).alloc (.cells #[.map (some (s6 + 1 + 1))] 91)
  have bC := Blk.new wM 91 #[.map (some (s6 + 1 + 1))]
  rw [eM] at bC
  have hHs := Lib.hid (And.intro hs6 (And.intro hwA (And.intro hwB hwM)))
  clear hs6 hwA hwB hwM sA sB sM
  have c3' := c3
  go_wp2_with fail
  obtain ⟨hs6, hwA, hwB, hwM⟩ := hHs.out
  rw [hwA, hwB, hwM, hs6]
  clear hs6 hwA hwB hwM hHs
  obtain ⟨wC, hwC⟩ : ∃ wC, wM.alloc (.cells #[.map (some (s6 + 1 + 1))] 91) = wC := ⟨_, rfl⟩
  have sC := World.size_alloc wM (.cells #[.map (some (s6 + 1 + 1))] 91)
  rw [hwC] at xC bC sC ⊢
  clear hwC
  go_step3
  go_wp2_with fail
  refine (all_any wC (some ⟨n, 0, none⟩)).mono ?_
  rintro ee w2 ⟨rfl, rfl⟩
  have bq := Blk.new wC 25 #[fptr n]
  have hx2 := (Ext.refl wC).alloc (.cells #[fptr n] 25)
  have zq : wC.heap.size = s6 + 1 + 1 + 1 + 1 := by omega
  go_wp2_with fail
  rw [show wC.alloc (.cells #[.pointer (some ⟨n, 0, none⟩)] 25) = wC.alloc (.cells #[fptr n] 25) from rfl]
  rw [zq] at bq
  have xAB := (xA.trans xB).trans (xM.trans (xC.trans hx2))
  have sp := (((bA.ext xB).ext xM).ext xC).ext hx2
  have er := ((bB.ext xM).ext xC).ext hx2
  have mp := (mM.ext xC).ext hx2
  have bh := bC.ext hx2
  have hxw := hx1.trans xAB
  have h2 := h1.ext xAB
  obtain ⟨wq, hwq⟩ : ∃ wq, wC.alloc (.cells #[fptr n] 25) = wq := ⟨_, rfl⟩
  rw [hwq] at bq hx2 xAB sp er mp bh hxw h2 ⊢
  obtain ⟨vs, hvs⟩ : ∃ vs, flV wq F g e (e * e) = vs := ⟨_, rfl⟩
  have hOs : ∀ b, (b = s6 ∨ b = s6 + 1 ∨ b = s6 + 2) → O b = none := fun b hb => h.inn.none (by omega)
  have hlt3 := mp.lt
  refine' range_allH (fun b => b = s6 ∨ b = s6 + 1 ∨ b = s6 + 2) h2 bq he (fun b hb => ⟨by omega, hOs b hb, by omega⟩) hvs (Ext.refl _) rfl (FI wq s6 g e vs.length p) (FX wq s6 g e vs.length p) ?hw ?hI ?hIx ?h0 (fun x a' W => ∃ (fr tt : Int) (r : Nat) (c : Value), vs[x.1] = .agg #[.int .i64 fr, .int .i64 tt, c] ∧ Blk W r 51 #[.int .i64 fr, .int .i64 tt, c] ∧ s6 + 1 + 1 + 1 + 1 ≤ r ∧ a' = { tmps := #[fptr n, .int .i64 p, undef, fptr q3, fptr (q3 + 1), .int .i64 0, fptr s6, fptr (s6 + 1), fptr (s6 + 1 + 1 + 1), .int .i64 (x.1 : Int), fptr r, undef, .bool false, fptr n, .bool false, undef, .bool (decide (p < 0)), .int .i64 p, .bool (decide (p < 0)), undef, .agg #[.int .i64 0, .int .i64 0, .int .i64 0], .map (some (s6 + 1 + 1)), fptr n, .func (.func 55) #[] #[fptr (s6 + 1 + 1 + 1 + 1)], .int .i64 (x.1 : Int), .agg #[.int .i64 fr, .int .i64 tt, c], undef, undef, undef, undef, undef, undef, undef, undef, undef, undef, undef, undef, undef, undef, undef, undef, undef, undef, undef, undef, undef, undef], defers := [] }) ?ax ?assign ?body ?done ?stop
  case hw => exact fun pre W h => h.2.1.size
  case ax =>
    rintro x a' W W' row ⟨fr, tt, r, c, h1, h2, h3, h4⟩ hg hr
    exact ⟨fr, tt, r, c, h1, h2.own hg hr, h3, h4⟩
  case assign =>
    intro l pre x W K hi hK
    obtain ⟨fr, tt, A, k, c, hv⟩ := flV_form h2 he (e * e) (Nat.le_refl _) vs[x.1] (by rw [hvs]; exact List.getElem_mem _)
    have hxW := (Ext.refl W).alloc (.cells #[.int .i64 fr, .int .i64 tt, .slice A k c] 51)
    have bW := Blk.new W 51 #[.int .i64 fr, .int .i64 tt, .slice A k c]
    rw [hv]
    gi_wp2
    refine hK _ _ hxW (FI_tu hi (Tu.of_ext hxW (S := fun _ => False)) (fun _ h => h.elim)) ⟨fr, tt, W.heap.size, _, hv, bW, ?_, rfl⟩
    have := hi.2.1.size
    have := hx2.size
    omega
  case done =>
    rintro D xs W hD hup ⟨hpj, t, sp', er', D', mp', hsz, hint, hall⟩ hK
    have hxe : Ext w W := t.ext_of hxw (fun k e => by omega)
    have b4W := (b4.ext xAB).tu t (by omega)
    go_wp2_with fail
    have hxd := (Ext.refl W).drew
    refine wp_region_plan (Tu (fun b => b = q3 + 1)) [(0, true), (1, true), (2, false), (3, true)] (fun _ _ _ x y => (fun x y => Tu.trans x y) x y) (Tu.refl (fun b => b = q3 + 1)) (by kernel_rfl) (by kernel_rfl) ?_
    intro K hK
    have s0 : ∀ y : Above (Tu (fun b => b = q3 + 1)) W.drew, y.1.cell? ⟨s6, 0, none⟩ = some (.int .i64 0) := fun y => ((sp'.ext hxd).tu y.2 (by omega)).cell 0
    have s1 : ∀ y : Above (Tu (fun b => b = q3 + 1)) W.drew, y.1.cell? ⟨s6, 1, none⟩ = some (.int .i64 0) := fun y => ((sp'.ext hxd).tu y.2 (by omega)).cell 1
    have s2 : ∀ y : Above (Tu (fun b => b = q3 + 1)) W.drew, y.1.cell? ⟨s6, 2, none⟩ = some (.int .i64 0) := fun y => ((sp'.ext hxd).tu y.2 (by omega)).cell 2
    have e0 : ∀ y : Above (Tu (fun b => b = q3 + 1)) W.drew, y.1.cell? ⟨s6 + 1, 0, none⟩ = some (.int .i64 6) := fun y => ((er'.ext hxd).tu y.2 (by omega)).cell 0
    iterate 2 (
      refine plan_q (v := ?_) rfl rfl ?_ ?_
      rotate_left
      · intro x
        go_simp
        first | done | rfl
      simp only [Act.put, List.getElem_toArray, List.getElem_cons_zero, List.getElem_cons_succ, List.setIfInBounds_toArray, List.set_cons_zero, List.set_cons_succ])
    clear s0 s1 s2 e0
    have b4d := b4W.ext hxd
    generalize W.drew = Wd at *
    have f0 := b4d.free 0
    have f1 := b4d.free 1
    have f2 := b4d.free 2
    have g0 := b4d.cell 0
    have g1 := b4d.cell 1
    have g2 := b4d.cell 2
    have hb5 := ((b4d.set_ 0 (.int .i64 0)).set_ 1 (.int .i64 0)).set_ 2 (.int .i64 0)
    have T5 : Tu (fun b => b = q3 + 1) Wd (((Wd.setCell ⟨q3 + 1, 0, none⟩ (.int .i64 0)).setCell ⟨q3 + 1, 1, none⟩ (.int .i64 0)).setCell ⟨q3 + 1, 2, none⟩ (.int .i64 0)) :=
      ((Tu.of_grown (setCell_grownBy _ _ _) (by rintro k e; cases e; rfl)).trans (Tu.of_grown (setCell_grownBy _ _ _) (by rintro k e; cases e; rfl))).trans (Tu.of_grown (setCell_grownBy _ _ _) (by rintro k e; cases e; rfl))
    refine plan_l rfl (by kernel_rfl) ?_
    intro K2 hK2
    go_simp
    refine hK2.out _ _ T5 ?_
    clear hK2 K2
    try simp only [Act.put, List.getElem_toArray, List.getElem_cons_zero, List.getElem_cons_succ, List.setIfInBounds_toArray, List.set_cons_zero, List.set_cons_succ]
    iterate 1 (
      refine plan_q (v := ?_) rfl rfl ?_ ?_
      rotate_left
      · intro x
        go_simp
        first | done | rfl
      simp only [Act.put, List.getElem_toArray, List.getElem_cons_zero, List.getElem_cons_succ, List.setIfInBounds_toArray, List.set_cons_zero, List.set_cons_succ])
    refine plan_end (hK.out _ _ ?_)
    clear hK K
    go_wp2_with fail
    rw [Exit.noGoto_ret]
    have hKd : Wd.heap[D]? = some (.deferred (some [])) := (hxd.blk (Array.getElem?_eq_some_iff.1 hK).1).trans hK
    have hDq : D ≠ q3 + 1 := by have := hx2.size; omega
    have hK5 := (T5.blk D (Array.getElem?_eq_some_iff.1 hKd).1 hDq).trans hKd
    have hl5 := flV_len h2 he (e * e) (Nat.le_refl _)
    rw [hvs] at hl5
    have hple := hpj _ hup
    rw [hl5] at hple
    have hxe5 := T5.ext_of (hxe.trans hxd) (fun k e => by have := z1.out; omega)
    generalize ((Wd.setCell ⟨q3 + 1, 0, none⟩ (.int .i64 0)).setCell ⟨q3 + 1, 1, none⟩ (.int .i64 0)).setCell ⟨q3 + 1, 2, none⟩ (.int .i64 0) = W5 at *
    refine ⟨by simp, .inl ⟨_, _, rfl, run_takeDeferred hK5, ?_⟩⟩
    have t8 : Tu (fun b => b = D) W5 (W5.putObj D (.deferred none)) := Tu.of_grown (grownBy_putObj' W5 D (.deferred none)) (by rintro k e; cases e; rfl)
    exact ⟨_, results_spot2 rfl _ _ (q3 + 1) rfl (hb5.tu t8 (fun e => hDq e.symm)), .inr (.inl ⟨by omega, hple, rfl⟩), t8.ext_of hxe5 (fun k hk => by have := hxw.size; omega)⟩
  case stop =>
    rintro D c pre W hD ⟨k0, hk0, hup⟩ ⟨t, rfl, hf⟩ hK
    obtain ⟨k1, i1, hk1, hi1, hp1, sp', er'⟩ := hf _ hup
    have hxe : Ext w W := t.ext_of hxw (fun k e => by omega)
    have b4W := (b4.ext xAB).tu t (by omega)
    go_wp2_with fail
    have hxd := (Ext.refl W).drew
    refine wp_region_plan (Tu (fun b => b = q3 + 1)) [(0, true), (1, true), (2, false), (3, true)] (fun _ _ _ x y => (fun x y => Tu.trans x y) x y) (Tu.refl (fun b => b = q3 + 1)) (by kernel_rfl) (by kernel_rfl) ?_
    intro K hK
    have s0 : ∀ y : Above (Tu (fun b => b = q3 + 1)) W.drew, y.1.cell? ⟨s6, 0, none⟩ = some (.int .i64 (ordAt e k1).1) := fun y => ((sp'.ext hxd).tu y.2 (by omega)).cell 0
    have s1 : ∀ y : Above (Tu (fun b => b = q3 + 1)) W.drew, y.1.cell? ⟨s6, 1, none⟩ = some (.int .i64 (ordAt e k1).2) := fun y => ((sp'.ext hxd).tu y.2 (by omega)).cell 1
    have s2 : ∀ y : Above (Tu (fun b => b = q3 + 1)) W.drew, y.1.cell? ⟨s6, 2, none⟩ = some (.int .i64 i1) := fun y => ((sp'.ext hxd).tu y.2 (by omega)).cell 2
    have e0 : ∀ y : Above (Tu (fun b => b = q3 + 1)) W.drew, y.1.cell? ⟨s6 + 1, 0, none⟩ = some (.int .i64 0) := fun y => ((er'.ext hxd).tu y.2 (by omega)).cell 0
    iterate 2 (
      refine plan_q (v := ?_) rfl rfl ?_ ?_
      rotate_left
      · intro x
        go_simp
        first | done | rfl
      simp only [Act.put, List.getElem_toArray, List.getElem_cons_zero, List.getElem_cons_succ, List.setIfInBounds_toArray, List.set_cons_zero, List.set_cons_succ])
    clear s0 s1 s2 e0
    have b4d := b4W.ext hxd
    generalize W.drew = Wd at *
    have f0 := b4d.free 0
    have f1 := b4d.free 1
    have f2 := b4d.free 2
    have g0 := b4d.cell 0
    have g1 := b4d.cell 1
    have g2 := b4d.cell 2
    have hb5 := ((b4d.set_ 0 (.int .i64 (ordAt e k1).1)).set_ 1 (.int .i64 (ordAt e k1).2)).set_ 2 (.int .i64 i1)
    have T5 : Tu (fun b => b = q3 + 1) Wd (((Wd.setCell ⟨q3 + 1, 0, none⟩ (.int .i64 (ordAt e k1).1)).setCell ⟨q3 + 1, 1, none⟩ (.int .i64 (ordAt e k1).2)).setCell ⟨q3 + 1, 2, none⟩ (.int .i64 i1)) :=
      ((Tu.of_grown (setCell_grownBy _ _ _) (by rintro k e; cases e; rfl)).trans (Tu.of_grown (setCell_grownBy _ _ _) (by rintro k e; cases e; rfl))).trans (Tu.of_grown (setCell_grownBy _ _ _) (by rintro k e; cases e; rfl))
    refine plan_l rfl (by kernel_rfl) ?_
    intro K2 hK2
    go_simp
    refine hK2.out _ _ T5 ?_
    clear hK2 K2
    try simp only [Act.put, List.getElem_toArray, List.getElem_cons_zero, List.getElem_cons_succ, List.setIfInBounds_toArray, List.set_cons_zero, List.set_cons_succ]
    iterate 1 (
      refine plan_q (v := ?_) rfl rfl ?_ ?_
      rotate_left
      · intro x
        go_simp
        first | done | rfl
      simp only [Act.put, List.getElem_toArray, List.getElem_cons_zero, List.getElem_cons_succ, List.setIfInBounds_toArray, List.set_cons_zero, List.set_cons_succ])
    refine plan_end (hK.out _ _ ?_)
    clear hK K
    go_wp2_with fail
    rw [Exit.noGoto_ret]
    have hKd : Wd.heap[D]? = some (.deferred (some [])) := (hxd.blk (Array.getElem?_eq_some_iff.1 hK).1).trans hK
    have hDq : D ≠ q3 + 1 := by have := hx2.size; omega
    have hK5 := (T5.blk D (Array.getElem?_eq_some_iff.1 hKd).1 hDq).trans hKd
    have hxe5 := T5.ext_of (hxe.trans hxd) (fun k e => by have := z1.out; omega)
    generalize ((Wd.setCell ⟨q3 + 1, 0, none⟩ (.int .i64 (ordAt e k1).1)).setCell ⟨q3 + 1, 1, none⟩ (.int .i64 (ordAt e k1).2)).setCell ⟨q3 + 1, 2, none⟩ (.int .i64 i1) = W5 at *
    refine ⟨by simp, .inl ⟨_, _, rfl, run_takeDeferred hK5, ?_⟩⟩
    have t8 : Tu (fun b => b = D) W5 (W5.putObj D (.deferred none)) := Tu.of_grown (grownBy_putObj' W5 D (.deferred none)) (by rintro k e; cases e; rfl)
    exact ⟨_, results_spot2 rfl _ _ (q3 + 1) rfl (hb5.tu t8 (fun e => hDq e.symm)), .inr (.inr ⟨k1, i1, hk1, hi1, hp1, rfl⟩), t8.ext_of hxe5 (fun k hk => by have := hxw.size; omega)⟩
  case hI => exact fun pre W W' h t => FI_tu h t (fun k hk => ⟨hk, by have := hx2.size; omega⟩)
  case hIx => exact fun c pre W W' h t => FX_tu h t (fun k hk => ⟨hk, by have := hx2.size; omega⟩)
  case h0 =>
    refine ⟨fun j hj => by have := hj.len; simp only [List.length_nil] at this; omega, Tu.refl _ _, sp, er, DataW.map [], mp, ?_, ?_, ?_⟩
    · simp [SizeOk, Maps.size]
    · intro kl v hv; simp [val_nil] at hv
    · intro j hj k hk
      have := hj.len
      simp only [List.length_nil] at this
      subst this
      simp [val_nil, inL]
  case body =>
    rintro l pre x a' W ⟨hpj, t, sp', er', D', mp', hsz, hint, hall⟩ ⟨fr, tt, r, c, hv, bf, hr, rfl⟩ hlt
    have hvx : (flV wq F g e (e * e))[x.1]? = some vs[x.1] := by rw [hvs]; exact List.getElem?_eq_getElem _
    obtain ⟨k1, i1, hk1, hi1, hj1, A1, l1, d1, hv1⟩ := flV_at h2 he (e * e) (Nat.le_refl _) x.1 _ hvx
    rw [hv] at hv1
    simp only [Value.agg.injEq, Array.mk.injEq, List.cons.injEq, Value.int.injEq, true_and, and_true] at hv1
    obtain ⟨hfr, htt, -⟩ := hv1
    obtain ⟨h0, wa, wb⟩ := ordAt_wf (e := e) (m := k1) (by omega) hk1
    have c0 := bf.cell 0
    have c1 := bf.cell 1
    have hxA1 := (Ext.refl W).alloc (.cells #[.int .i64 fr, .int .i64 tt] 77)
    have bl := Blk.new W 77 #[.int .i64 fr, .int .i64 tt]
    have b3W := ((b3.ext xAB).tu t (by omega)).ext hxA1
    have bhW := (bh.tu t (by omega)).ext hxA1
    have c3W := b3W.cell 0
    have hWs := t.size
    have hq5 := hx2.size
    have HM := Lib.hid (And.intro hj1 (And.intro hv (And.intro hvx (And.intro hall (And.intro hint hpj)))))
    clear hj1 hv hvx hall hint hpj
    subst hfr htt
    have hHid : ∀ {P : Prop}, P → Hid P := fun h => Lib.hid h
    obtain ⟨xv, hxv⟩ : ∃ xv : Int, (x.1 : Int) = xv := ⟨_, rfl⟩
    rw [hxv]
    have HX := Lib.hid hxv
    clear hxv
    by_cases hxp : xv = p
    · subst hxp
      gi_wp2_with fail
      have hxp := HX.out
      obtain ⟨hj1, hv, hvx, hall, hint, hpj⟩ := HM.out
      clear HM
      obtain ⟨lb, hlb⟩ : ∃ lb, W.heap.size = lb := ⟨_, rfl⟩
      have m1 := mp'.ext hxA1
      have s1 := sp'.ext hxA1
      have r1 := er'.ext hxA1
      generalize W.alloc (.cells #[.int .i64 (ordAt e k1).1, .int .i64 (ordAt e k1).2] 77) = W1 at *
      rw [hlb] at bl ⊢
      have hxd := (Ext.refl W1).drew
      refine round_region_plan (Tu (fun b => b = s6 ∨ b = s6 + 1)) [(0, true), (1, true), (2, true), (3, false), (4, true), (5, false), (6, false)] (fun _ _ _ x y => (fun x y => Tu.trans x y) x y) (Tu.refl (fun b => b = s6 ∨ b = s6 + 1)) (by kernel_rfl) (by kernel_rfl) (by kernel_rfl) ?_
      intro K hK
      have q0 : ∀ y : Above (Tu (fun b => b = s6 ∨ b = s6 + 1)) W1.drew, y.1.cell? ⟨lb, 0, none⟩ = some (.int .i64 (ordAt e k1).1) := fun y => ((bl.ext hxd).tu y.2 (by omega)).cell 0
      have q1 : ∀ y : Above (Tu (fun b => b = s6 ∨ b = s6 + 1)) W1.drew, y.1.cell? ⟨lb, 1, none⟩ = some (.int .i64 (ordAt e k1).2) := fun y => ((bl.ext hxd).tu y.2 (by omega)).cell 1
      have q2 : ∀ y : Above (Tu (fun b => b = s6 ∨ b = s6 + 1)) W1.drew, y.1.cell? ⟨s6 + 1 + 1 + 1, 0, none⟩ = some (.map (some (s6 + 1 + 1))) := fun y => ((bhW.ext hxd).tu y.2 (by omega)).cell 0
      iterate 3 (
        refine plan_q (v := ?_) rfl rfl ?_ ?_
        rotate_left
        · intro x
          go_simp
          first | done | rfl
        simp only [Act.put, List.getElem_toArray, List.getElem_cons_zero, List.getElem_cons_succ, List.setIfInBounds_toArray, List.set_cons_zero, List.set_cons_succ])
      clear q0 q1 q2
      have m2 := m1.ext hxd
      have s2 := s1.ext hxd
      have r2 := r1.ext hxd
      have hx2d := hxA1.trans hxd
      generalize W1.drew = Wd at *
      have hlk := m2.look law_l Try.underlying91 (Try.zeroValue3 Wd) (key_l wa wb)
      obtain ⟨bc, hbc, -⟩ : ∃ bc : Nat, (val D' (lnk (ordAt e k1).1 (ordAt e k1).2)).getD (.int .i64 0) = .int .i64 bc ∧ bc ≤ pre.length := by
        cases hv' : val D' (lnk (ordAt e k1).1 (ordAt e k1).2) with
        | none => exact ⟨0, rfl, Nat.zero_le _⟩
        | some v => obtain ⟨c, rfl, hc⟩ := hint _ _ hv'; exact ⟨c, rfl, hc⟩
      rw [hbc] at hlk
      refine plan_l rfl (by kernel_rfl) ?_
      intro K2 hK2
      go_simp
      refine hK2.out _ _ (Tu.refl _ _) ?_
      clear hK2 K2
      try simp only [Act.put, List.getElem_toArray, List.getElem_cons_zero, List.getElem_cons_succ, List.setIfInBounds_toArray, List.set_cons_zero, List.set_cons_succ]
      clear hlk
      iterate 1 (
        refine plan_q (v := ?_) rfl rfl ?_ ?_
        rotate_left
        · intro x
          go_simp
          first | done | rfl
        simp only [Act.put, List.getElem_toArray, List.getElem_cons_zero, List.getElem_cons_succ, List.setIfInBounds_toArray, List.set_cons_zero, List.set_cons_succ])
      have f0 := s2.free 0
      have f1 := s2.free 1
      have f2 := s2.free 2
      have g0 := s2.cell 0
      have g1 := s2.cell 1
      have g2 := s2.cell 2
      have S3 := ((s2.set_ 0 (.int .i64 (ordAt e k1).1)).set_ 1 (.int .i64 (ordAt e k1).2)).set_ 2 (.int .i64 bc)
      have T3 : Tu (fun b => b = s6 ∨ b = s6 + 1) Wd (((Wd.setCell ⟨s6, 0, none⟩ (.int .i64 (ordAt e k1).1)).setCell ⟨s6, 1, none⟩ (.int .i64 (ordAt e k1).2)).setCell ⟨s6, 2, none⟩ (.int .i64 bc)) :=
        ((Tu.of_grown (setCell_grownBy _ _ _) (by rintro k e; cases e; exact .inl rfl)).trans (Tu.of_grown (setCell_grownBy _ _ _) (by rintro k e; cases e; exact .inl rfl))).trans (Tu.of_grown (setCell_grownBy _ _ _) (by rintro k e; cases e; exact .inl rfl))
      have T3' : Tu (fun b => b = s6) Wd (((Wd.setCell ⟨s6, 0, none⟩ (.int .i64 (ordAt e k1).1)).setCell ⟨s6, 1, none⟩ (.int .i64 (ordAt e k1).2)).setCell ⟨s6, 2, none⟩ (.int .i64 bc)) :=
        ((Tu.of_grown (setCell_grownBy _ _ _) (by rintro k e; cases e; rfl)).trans (Tu.of_grown (setCell_grownBy _ _ _) (by rintro k e; cases e; rfl))).trans (Tu.of_grown (setCell_grownBy _ _ _) (by rintro k e; cases e; rfl))
      refine plan_l rfl (by kernel_rfl) ?_
      intro K2 hK2
      go_simp
      refine hK2.out _ _ T3 ?_
      clear hK2 K2
      try simp only [Act.put, List.getElem_toArray, List.getElem_cons_zero, List.getElem_cons_succ, List.setIfInBounds_toArray, List.set_cons_zero, List.set_cons_succ]
      clear f0 f1 f2 g0 g1 g2
      have r3 := r2.tu T3' (by omega)
      generalize ((Wd.setCell ⟨s6, 0, none⟩ (.int .i64 (ordAt e k1).1)).setCell ⟨s6, 1, none⟩ (.int .i64 (ordAt e k1).2)).setCell ⟨s6, 2, none⟩ (.int .i64 bc) = W3 at *
      have f0 := r3.free 0
      have g0 := r3.cell 0
      have R4 := r3.set_ 0 (.int .i64 0)
      have T4 : Tu (fun b => b = s6 ∨ b = s6 + 1) W3 (W3.setCell ⟨s6 + 1, 0, none⟩ (.int .i64 0)) := Tu.of_grown (setCell_grownBy _ _ _) (by rintro k e; cases e; exact .inr rfl)
      have T4' : Tu (fun b => b = s6 + 1) W3 (W3.setCell ⟨s6 + 1, 0, none⟩ (.int .i64 0)) := Tu.of_grown (setCell_grownBy _ _ _) (by rintro k e; cases e; rfl)
      refine plan_l rfl (by kernel_rfl) ?_
      intro K2 hK2
      go_simp
      refine hK2.out _ _ T4 ?_
      clear hK2 K2
      try simp only [Act.put, List.getElem_toArray, List.getElem_cons_zero, List.getElem_cons_succ, List.setIfInBounds_toArray, List.set_cons_zero, List.set_cons_succ]
      refine plan_end (hK.out _ _ ?_)
      clear hK K
      clear f0 g0
      have S4 := S3.tu T4' (by omega)
      generalize W3.setCell ⟨s6 + 1, 0, none⟩ (.int .i64 0) = W4 at *
      gi_wp2_with fail
      have T5 : Tu (fun b => b = s6 ∨ b = s6 + 1 ∨ b = s6 + 2) W W4 := (Tu.of_ext hx2d).trans ((T3.trans T4).mono (fun b hb => hb.imp id .inl))
      refine ⟨T5, t.trans T5, rfl, fun j hj => ⟨k1, i1, hk1, hi1, by omega, ?_, R4⟩⟩
      obtain ⟨u1, u2, u3⟩ := hj.back
      have hb := hall _ u1 k1 hk1
      rw [hbc] at hb
      have hbi : bc = i1 := by
        have := cntG_succ g e k1
        simp only [Value.int.injEq, true_and, inL] at hb
        omega
      rw [← hbi]
      exact S4
    · have hbe : (xv == p) = false := by simpa using hxp
      have hdd : decide (xv = p) = false := by simpa using hxp
      have hxpH := Lib.hid hxp
      clear hxp
      gi_wp2_with fail
      obtain ⟨hj1, hv, hvx, hall, hint, hpj⟩ := HM.out
      clear HM
      have hxp := hxpH.out
      have hxv := HX.out
      clear hxpH HX hdd hbe
      obtain ⟨lb, hlb⟩ : ∃ lb, W.heap.size = lb := ⟨_, rfl⟩
      have m1 := mp'.ext hxA1
      have s1 := sp'.ext hxA1
      have r1 := er'.ext hxA1
      generalize W.alloc (.cells #[.int .i64 (ordAt e k1).1, .int .i64 (ordAt e k1).2] 77) = W1 at *
      rw [hlb] at bl ⊢
      have hxd := (Ext.refl W1).drew
      obtain ⟨bc, hbc, hbl⟩ : ∃ bc : Nat, (val D' (lnk (ordAt e k1).1 (ordAt e k1).2)).getD (.int .i64 0) = .int .i64 bc ∧ bc ≤ pre.length := by
        cases hv' : val D' (lnk (ordAt e k1).1 (ordAt e k1).2) with
        | none => exact ⟨0, rfl, Nat.zero_le _⟩
        | some v => obtain ⟨c, rfl, hc⟩ := hint _ _ hv'; exact ⟨c, rfl, hc⟩
      have hle := flV_le h2 he (e * e) (Nat.le_refl _)
      have hk25 : e * e ≤ 25 := Nat.le_trans (Nat.mul_le_mul (show e ≤ 5 by omega) (show e ≤ 5 by omega)) (by omega)
      rw [hvs] at hle
      have hbb : (0 : Int) ≤ bc ∧ (bc : Int) + 1 ≤ 100000 := by omega
      clear hle hk25
      refine round_region_tl (Tu (fun b => b = s6 + 1 + 1)) (BumpR (s6 + 1 + 1) D' (lnk (ordAt e k1).1 (ordAt e k1).2)) [.q 0, .q 1, .seg [2, 4, 3, 5], .f 6] (fun _ _ _ x y => x.trans y) (fun a => Tu.refl _ a) (fun _ _ _ x y => BumpR.trans x y) (fun _ _ x => BumpR.toTu x) (fun a => BumpR.refl (s6 + 1 + 1) D' (lnk (ordAt e k1).1 (ordAt e k1).2) a) (by kernel_rfl) (by kernel_rfl) (by kernel_rfl) ?_
      intro K hK
      have q0 : ∀ y : Above (Tu (fun b => b = s6 + 1 + 1)) W1.drew, y.1.cell? ⟨lb, 0, none⟩ = some (.int .i64 (ordAt e k1).1) := fun y => ((bl.ext hxd).tu y.2 (by omega)).cell 0
      have q1 : ∀ y : Above (Tu (fun b => b = s6 + 1 + 1)) W1.drew, y.1.cell? ⟨lb, 1, none⟩ = some (.int .i64 (ordAt e k1).2) := fun y => ((bl.ext hxd).tu y.2 (by omega)).cell 1
      have q2 : ∀ y : Above (Tu (fun b => b = s6 + 1 + 1)) W1.drew, y.1.cell? ⟨s6 + 1 + 1 + 1, 0, none⟩ = some (.map (some (s6 + 1 + 1))) := fun y => ((bhW.ext hxd).tu y.2 (by omega)).cell 0
      iterate 2 (
        refine tl_q (v := ?_) rfl rfl ?_ ?_
        rotate_left
        · intro x
          go_simp
          first | done | rfl
        simp only [Act.put, List.getElem_toArray, List.getElem_cons_zero, List.getElem_cons_succ, List.setIfInBounds_toArray, List.set_cons_zero, List.set_cons_succ])
      clear q0 q1 q2
      have m2 := m1.ext hxd
      have s2 := s1.ext hxd
      have r2 := r1.ext hxd
      have hx2d := hxA1.trans hxd
      generalize W1.drew = Wd at *
      refine tl_seg (A := ?A) (fun j x u => match j with | 2 => x = .int .i64 bc | 4 => ∃ st, x = .tuple #[.int .i64 bc, goInt st] ∧ StoreI (s6 + 1 + 1) D' (lnk (ordAt e k1).1 (ordAt e k1).2) st u ∧ BumpH (s6 + 1 + 1) (lnk (ordAt e k1).1 (ordAt e k1).2) u | 3 => x = .int .i64 ((bc : Int) + 1) | 5 => ∃ st, x = goInt st ∧ StoreI (s6 + 1 + 1) D' (lnk (ordAt e k1).1 (ordAt e k1).2) st u ∧ BumpH (s6 + 1 + 1) (lnk (ordAt e k1).1 (ordAt e k1).2) u | _ => True) ?hA ?h0 ?hput ?hmono ?hstep ?hend
      case hA =>
        intro v
        simp only [fillT, Option.bind_some, Option.bind_none, Option.bind, List.getElem?_toArray, List.getElem?_cons_zero, List.getElem?_cons_succ, List.setIfInBounds_toArray, List.set_cons_zero, List.set_cons_succ]
        exact rfl
      case h0 => exact rfl
      case hput => repeat' (first | exact trivial | refine And.intro (fun o ho v x => by obtain rfl := Option.some.inj ho; rfl) ?_)
      case hmono => exact ⟨fun x u u' h e => e, fun x u u' h ⟨st, e, r⟩ => ⟨st, e, h.mono r⟩, fun x u u' h e => e, fun x u u' h ⟨st, e, r⟩ => ⟨st, e, h.mono r⟩, trivial⟩
      case hstep =>
        refine And.intro ?_ (And.intro ?_ (And.intro ?_ (And.intro ?_ trivial)))
        ·
          intro o ho
          obtain rfl := Option.some.inj ho
          clear ho
          intro v u hR hD K2 hK2
          clear hD
          rw [if_pos (by rfl)]
          have hlk := bump_look wa wb m2 (hR.2.1 (.inl m2))
          rw [hbc] at hlk
          go_simp
          exact hK2.out _ _ _ (BumpR.refl _ _ _ _) rfl rfl
        ·
          intro o ho
          obtain rfl := Option.some.inj ho
          clear ho
          intro v u hR hD K2 hK2
          clear hD
          rw [if_pos (by rfl)]
          obtain ⟨st, w9, hr9, k1', k2', k3'⟩ := bump_entry h0.1 (by omega) h0.2.2.1 (by omega) wa wb m2 hsz (hR.2.1 (.inl m2))
          rw [hbc] at hr9
          refine wp_entry _ _ rfl rfl rfl hr9 ?_
          exact hK2.out _ _ _ k1' ⟨st, rfl, k2', k3'⟩ rfl
        ·
          intro o ho
          obtain rfl := Option.some.inj ho
          clear ho
          intro v u hR hD K2 hK2
          have d2 : v 2 = .int .i64 bc := hD 2 (by kernel_rfl) (by kernel_rfl)
          clear hD
          rw [if_pos (by rfl)]
          simp only [d2]
          have hw1 : IntKind.i64.wrap ((bc : Int) + 1) = (bc : Int) + 1 := by rw [IntKind.wrap_i64]; omega
          go_simp
          refine hK2.out _ _ _ (BumpR.refl _ _ _ _) rfl ?_
          simp only [d2, hw1]
          rfl
        ·
          intro o ho
          obtain rfl := Option.some.inj ho
          clear ho
          intro v u hR hD K2 hK2
          have d4 : ∃ st, v 4 = .tuple #[.int .i64 bc, goInt st] ∧ StoreI (s6 + 1 + 1) D' (lnk (ordAt e k1).1 (ordAt e k1).2) st u ∧ BumpH (s6 + 1 + 1) (lnk (ordAt e k1).1 (ordAt e k1).2) u := hD 4 (by kernel_rfl) (by kernel_rfl)
          clear hD
          obtain ⟨st, d4, k2', k3'⟩ := d4
          rw [if_pos (by rfl)]
          simp only [d4]
          go_simp
          refine hK2.out _ _ _ (BumpR.refl _ _ _ _) ⟨st, rfl, k2', k3'⟩ ?_
          simp only [d4]
          rfl
      case hend =>
        intro v u hR hF
        obtain ⟨e2, ⟨st4, e4, -⟩, e3, ⟨st, e5, hst, -⟩, -⟩ := hF
        have e2 : v 2 = .int .i64 bc := e2
        have e3 : v 3 = .int .i64 ((bc : Int) + 1) := e3
        have e4 : v 4 = _ := e4
        have e5 : v 5 = goInt st := e5
        simp only [e2, e3, e4, e5]
        clear e2 e3 e4 e5
        obtain ⟨w9, D2, hr9, m9, hput, g9⟩ := hst u (.int .i64 ((bc : Int) + 1)) rfl
        have T9 : Tu (fun b => b = s6 + 1 + 1) u w9 := Tu.of_grown g9 (by rintro k e; cases e; rfl)
        refine tl_l rfl rfl ?_
        intro K2 hK2
        refine wp_estore _ _ _ rfl rfl rfl rfl hr9 ?_
        refine hK2.out _ _ T9 ?_
        clear hK2 K2
        try simp only [Act.put, List.getElem_toArray, List.getElem_cons_zero, List.getElem_cons_succ, List.setIfInBounds_toArray, List.set_cons_zero, List.set_cons_succ]
        refine tl_end (hK.out _ _ ?_)
        clear hK K
        gi_wp2_with fail
        have Tu9 := hR.1
        have T5 : Tu (fun b => b = s6 ∨ b = s6 + 1 ∨ b = s6 + 2) W w9 := (Tu.of_ext hx2d).trans ((Tu9.trans T9).mono (fun b hb => .inr (.inr hb)))
        refine ⟨T5, fun j hj => ?_, t.trans T5, (s2.tu Tu9 (by omega)).tu T9 (by omega), (r2.tu Tu9 (by omega)).tu T9 (by omega), D2, m9, hput.2, fun kl v' hv' => ?_, fun j hj k hk => ?_⟩
        · obtain ⟨u1, u2, u3⟩ := hj.back
          have := hpj _ u1
          omega
        · rw [hput.1] at hv'
          rw [List.length_append]
          split at hv'
          · cases hv'
            exact ⟨bc + 1, rfl, by simp; omega⟩
          · obtain ⟨c', q1, q2⟩ := hint _ _ hv'
            exact ⟨c', q1, by omega⟩
        · obtain ⟨u1, u2, u3⟩ := hj.back
          obtain ⟨_, wa', wb'⟩ := ordAt_wf (e := e) (m := k) (by omega) hk
          have hall' := hall _ u1 k hk
          have hall1 := hall _ u1 k1 hk1
          have hs := cntG_succ g e k1
          rw [hput.1, lnk_same wa wb wa' wb', u3, ← u2, hj1, inL_step (k := k1) (by omega) (by omega)]
          rw [← u2, hj1] at hall' hall1
          by_cases hkk : k = k1
          · subst hkk
            rw [if_pos (by simp), if_pos rfl]
            rw [hbc] at hall1
            simp only [Value.int.injEq, true_and] at hall1
            simp only [Option.getD_some, Value.int.injEq, true_and]
            omega
          · rw [if_neg (by
              simp only [decide_eq_true_eq]
              rintro ⟨q1, q2⟩
              exact hkk (ordAt_inj (by omega) (Prod.ext q1 q2))), if_neg hkk]
            exact hall'
