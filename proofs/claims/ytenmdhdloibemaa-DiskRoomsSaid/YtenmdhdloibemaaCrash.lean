/- A loss of power. Conditions: the disk and the picks are in memory as told. -/
import Derived.Test.YtenmdhdloibemaaRange
namespace Go.Proofs.Ytenmdhdloibemaa
open Go.RowKit Go.Maps Go.Sort Go.Shelf
set_option linter.unusedVariables false
set_option linter.unusedSimpArgs false
attribute [local go_sem] Oper.semAt_some

/-- a loss of power, file by file -/
def Crashed : List Nm → List Int → DC → DC → List Int → Prop
  | [], picks, g, g', rest => g' = g ∧ rest = picks
  | n :: ns, picks, g, g', rest => ∃ c c' r, g.file n = some c ∧ c.Settles picks c' r ∧ Crashed ns r (g.set n (some c')) g' rest
theorem Crashed.snoc {n : Nm} {c c' : FC} {r2 : List Int} : ∀ {ns : List Nm} {picks : List Int} {g g' : DC} {rest : List Int}, Crashed ns picks g g' rest → g'.file n = some c → c.Settles rest c' r2 → Crashed (ns ++ [n]) picks g (g'.set n (some c')) r2
  | [], picks, g, g', rest, h, h1, h2 => by
    obtain ⟨rfl, rfl⟩ := h
    exact ⟨c, c', r2, h1, h2, rfl, rfl⟩
  | m :: ns, picks, g, g', rest, ⟨x, x', r, e1, e2, e3⟩, h1, h2 => ⟨x, x', r, e1, e2, e3.snoc h1 h2⟩
/-- under way -/
def Cra (w : World) (g : DC) (ns : List Nm) (picks : List Int) (wb : Nat) (N : Ow) (d' fm' bP bC : Nat) (F' : DataW Value) (pre : List (Ix ns.length)) (W : World) : Prop :=
  ∃ g'' A' n' cap' rest, DiskX W N d' fm' F' g'' ∧ (g''.cap = g.cap ∧ ∀ n, (g''.file n).isSome = (g.file n).isSome) ∧ (∀ n c, g''.file n = some c → ∀ m, (c.S m).length ≤ 1000000) ∧ Blk W bP 23 #[.slice A' n' cap'] ∧ Blk W bC 26 #[fptr d'] ∧
    RdI W A' n' rest ∧ n' ≤ cap' ∧ (0 < n' → ∀ a, A' = some a → N a.block = none ∧ a.block < bP) ∧ (wb ≤ W.heap.size ∧ Ext w W) ∧ ∀ k, Upto pre k → Crashed (ns.take k) picks g g'' rest

set_option maxRecDepth 100000 in
set_option maxHeartbeats 3200000 in
theorem crash_any (w : World) (O : Ow) (d fm : Nat) (F : DataW Value) (g : DC) (h : DiskX w O d fm F g) (hbig : ∀ n c, g.file n = some c → ∀ m, (c.S m).length ≤ 1000000) (A : Option Addr) (n cap : Nat) (picks : List Int) (hr : RdI w A n picks) (hc : n ≤ cap) (hA : 0 < n → ∀ a, A = some a → a.block < w.heap.size) :
    Calls Try.prog 11 #[fptr d, .slice A n cap] w fun e w' => ∃ d' O' g' ns rest, e = .returned (fptr d') ∧ IsNames g ns ∧ Crashed ns picks g g' rest ∧ DiskAt w' O' d' { g' with fuse := -1, dead := false, chg := 0 } ∧ (∀ b, b < w.heap.size → O' b = none) ∧ Ext w w' := by
  have hx0 := (Ext.refl w).alloc (.cells #[.slice A n cap] 23)
  have bP := Blk.new w 23 #[.slice A n cap]
  have s0 := Lib.hid (World.size_alloc w (.cells #[.slice A n cap] 23))
  refine calls_of_marks Try.func11 rfl ?_
  simp only [Try.ntmps11, List.size_toArray, List.length_cons, List.length_nil, Nat.reduceAdd, Nat.reduceSub, Array.replicate_succ, Array.replicate_zero, List.push_toArray, List.append_toArray, List.nil_append, List.cons_append]
  go_wp2_with fail
  generalize w.alloc (Obj.cells #[.slice A n cap] 23) = W0 at *
  refine (copy__any W0 O d fm F g (h.ext hx0) hbig).mono ?_
  rintro e w1 ⟨d', N, rfl, ⟨fm', F', hX⟩, hNo, hx1⟩
  have bP1 := bP.ext hx1
  have hx2 := (Ext.refl w1).alloc (.cells #[fptr d'] 26)
  have bC := Blk.new w1 26 #[fptr d']
  have s2 := Lib.hid (World.size_alloc w1 (.cells #[fptr d'] 26))
  go_wp2_with fail
  have hX2 := hX.ext hx2
  generalize w1.alloc (.cells #[fptr d'] 26) = W2 at *
  refine (files_any W2 N d' fm' F' g hX2).mono ?_
  rintro e w3 ⟨bn, bc, ns, rfl, hns, hso, hFn, hx3⟩
  have hX3 := hX2.ext hx3
  have bP3 := (bP1.ext hx2).ext hx3
  have bC3 := bC.ext hx3
  have hlen : ns.length ≤ 32 := by rw [(hns.perm hX3.names.1).length_eq]; exact hX3.names.2
  go_wp2_with fail
  have z0 := s0.out
  have z2 := s2.out
  have z3 := hx1.size
  have z4 := hx3.size
  have hdge : W0.heap.size ≤ d' := Nat.le_of_not_lt fun h => by have := hNo d' h; rw [hX.1] at this; cases this
  have hx13 : Ext W0 w3 := (hx1.trans hx2).trans hx3
  have hx03 : Ext w w3 := hx0.trans hx13
  refine range_files (w0 := w3) (lo := W2.heap.size) hFn (by simp) hlen (Ext.refl _) z4 ?hg (Cra w g ns picks w3.heap.size N d' fm' w.heap.size w1.heap.size F') (fun _ _ _ => False) ?hw ?hI ?hIx ?h0
    (fun x => { tmps := #[fptr d, .slice A n cap, undef, fptr w.heap.size, .pointer none, fptr w1.heap.size, nv ns[x.1], fptr d, fptr d', fptr d', .bool false, fptr d', filesV bn bc, nv ns[x.1], .int .i64 (((ns.map (cntOf g)).getD x.1 0 : Nat) : Int), undef, undef, undef, undef, undef, undef, undef, undef, undef, undef, undef, undef, undef, undef, undef, undef, undef, undef], defers := [] }) ?assign ?body ?done ?stop
  case hg => rfl
  case hw =>
    rintro pre W ⟨g'', A', n', cap', rest, q1, q2, q3, q4, q5, q6, q7, q8, q9, q10⟩
    exact q9.1
  case hI =>
    rintro pre W W' ⟨g'', A', n', cap', rest, q1, q2, q3, q4, q5, q6, q7, q8, q9, q10⟩ t
    have ht := t.size
    refine ⟨g'', A', n', cap', rest, q1.keep (fun b hb => ⟨t.blk b (q1.inn b hb) (by have := hX3.inn b hb; omega), rfl⟩) (q1.inn.ext ht), q2, q3, q4.tu t (by omega), q5.tu t (by omega), q6.tuP t (fun hn a e => by have := (q8 hn a e).2; omega), q7, q8, ⟨by omega, t.ext_of q9.2 (fun k hk => by have := hx03.size; omega)⟩, q10⟩
  case hIx => exact fun c pre W W' h _ => h
  case h0 =>
    refine ⟨g, A, n, cap, picks, hX3, ⟨rfl, fun _ => rfl⟩, hbig, bP3, bC3, ⟨hr.1.ext hx03, hr.2⟩, hc, fun hn a e => ⟨hNo _ (by have := hA hn a e; omega), hA hn a e⟩, ⟨Nat.le_refl _, hx03⟩, fun k hk => ?_⟩
    have := hk.len
    obtain rfl : k = 0 := by simpa using this.symm
    exact ⟨rfl, rfl⟩
  case stop => exact fun D c pre W _ _ h _ => h.elim
  case assign =>
    intro l x W K hK
    generalize (((ns.map (cntOf g)).getD x.1 0 : Nat) : Int) = cv at *
    gi_wp2
    exact hK
  case done =>
    rintro D xs W hD hup ⟨g'', A', n', cap', rest, q1, q2, q3, q4, q5, q6, q7, q8, q9, q10⟩ hK
    go_wp2_with fail
    have hxd := (Ext.refl W).drew
    have bD := q1.blk.ext hxd
    have hXd := q1.ext hxd
    have b5 := q5.ext hxd
    have hne : ¬ w1.heap.size = d' := by have := hX.blk.lt; omega
    refine wp_region_tl (Tu (fun b => b = d')) Ext [.q 0, .q 1, .q 2, .q 3, .q 4, .f 5, .q 6, .q 7, .f 8, .q 9, .q 10, .f 11] (fun _ _ _ x y => x.trans y) (fun a => Tu.refl _ a) (fun _ _ _ x y => x.trans y) (fun _ _ x => Tu.of_ext x) (fun a => Ext.refl a) (by kernel_rfl) (by kernel_rfl) ?_
    intro K hK
    generalize W.drew = W4 at *
    have c5 : ∀ y : Above (Tu (fun b => b = d')) W4, y.1.cell? ⟨w1.heap.size, 0, none⟩ = some (fptr d') := fun y => (b5.tu y.2 hne).cell 0
    iterate 5 (
      refine tl_q (v := ?_) rfl rfl ?_ ?_
      rotate_left
      · intro x
        go_simp
        first | done | rfl
      simp only [Act.put, List.getElem_toArray, List.getElem_cons_zero, List.getElem_cons_succ, List.setIfInBounds_toArray, List.set_cons_zero, List.set_cons_succ])
    have f1 := bD.free 2
    have e1 := bD.cell 2
    have t1 : Tu (fun b => b = d') W4 (W4.setCell ⟨d', 2, none⟩ (.int .i64 (-1))) := Tu.of_grown (setCell_grownBy _ _ _) (by rintro k e; cases e; rfl)
    have bD1 := bD.set_ 2 (.int .i64 (-1))
    refine tl_l rfl rfl ?_
    intro K2 hK2
    go_simp
    refine hK2.out _ _ t1 ?_
    clear hK2 K2
    try simp only [Act.put, List.getElem_toArray, List.getElem_cons_zero, List.getElem_cons_succ, List.setIfInBounds_toArray, List.set_cons_zero, List.set_cons_succ]
    have c6 : ∀ y : Above (Tu (fun b => b = d')) (W4.setCell ⟨d', 2, none⟩ (.int .i64 (-1))), y.1.cell? ⟨w1.heap.size, 0, none⟩ = some (fptr d') := fun y => c5 ⟨y.1, t1.trans y.2⟩
    generalize W4.setCell ⟨d', 2, none⟩ (.int .i64 (-1)) = W5 at *
    iterate 2 (
      refine tl_q (v := ?_) rfl rfl ?_ ?_
      rotate_left
      · intro x
        go_simp
        first | done | rfl
      simp only [Act.put, List.getElem_toArray, List.getElem_cons_zero, List.getElem_cons_succ, List.setIfInBounds_toArray, List.set_cons_zero, List.set_cons_succ])
    have f2 := bD1.free 3
    have e2 := bD1.cell 3
    have t2 : Tu (fun b => b = d') W5 (W5.setCell ⟨d', 3, none⟩ (.bool false)) := Tu.of_grown (setCell_grownBy _ _ _) (by rintro k e; cases e; rfl)
    have bD2 := bD1.set_ 3 (.bool false)
    refine tl_l rfl rfl ?_
    intro K2 hK2
    go_simp
    refine hK2.out _ _ t2 ?_
    clear hK2 K2
    try simp only [Act.put, List.getElem_toArray, List.getElem_cons_zero, List.getElem_cons_succ, List.setIfInBounds_toArray, List.set_cons_zero, List.set_cons_succ]
    generalize W5.setCell ⟨d', 3, none⟩ (.bool false) = W6 at *
    iterate 2 (
      refine tl_q (v := ?_) rfl rfl ?_ ?_
      rotate_left
      · intro x
        go_simp
        first | done | rfl
      simp only [Act.put, List.getElem_toArray, List.getElem_cons_zero, List.getElem_cons_succ, List.setIfInBounds_toArray, List.set_cons_zero, List.set_cons_succ])
    have f3 := bD2.free 4
    have e3 := bD2.cell 4
    have t3 : Tu (fun b => b = d') W6 (W6.setCell ⟨d', 4, none⟩ (.int .i64 0)) := Tu.of_grown (setCell_grownBy _ _ _) (by rintro k e; cases e; rfl)
    have bD3 := bD2.set_ 4 (.int .i64 0)
    refine tl_l rfl rfl ?_
    intro K2 hK2
    go_simp
    refine hK2.out _ _ t3 ?_
    clear hK2 K2
    try simp only [Act.put, List.getElem_toArray, List.getElem_cons_zero, List.getElem_cons_succ, List.setIfInBounds_toArray, List.set_cons_zero, List.set_cons_succ]
    generalize W6.setCell ⟨d', 4, none⟩ (.int .i64 0) = W7 at *
    refine tl_end (hK.out _ _ ?_)
    clear hK K
    have tt : Tu (fun b => b = d') W4 W7 := (t1.trans t2).trans t3
    have hXe : DiskX W7 N d' fm' F' { g'' with fuse := -1, dead := false, chg := 0 } := hXd.setD tt (by simpa using bD3) rfl rfl (show (Lit.int .i64 (-1)).wf = true by decide) (show (Lit.int .i64 0).wf = true by decide)
    have c7 := (b5.tu tt hne).cell 0
    clear c5 c6 f1 e1 f2 e2 f3 e3
    go_wp2_with fail
    have zD := (Array.getElem?_eq_some_iff.1 hK).1
    have zd := hX.blk.lt
    have hK7 : W7.heap[D]? = some (.deferred (some [])) := (tt.blk D (by have := hxd.size; omega) (by omega)).trans ((hxd.blk zD).trans hK)
    refine ⟨by simp, .inl ⟨_, _, rfl, run_takeDeferred hK7, ?_⟩⟩
    have g8 := grownBy_putObj' W7 D (.deferred none)
    have t8 : Tu (fun b => b = D) W7 (W7.putObj D (.deferred none)) := Tu.of_grown g8 (by rintro k e; cases e; rfl)
    refine ⟨_, results_tmp rfl _ _ _, d', N, g'', ns, rest, rfl, hns, ?_, ?_, fun b hb => hNo b (by omega), ?_⟩
    · have := q10 _ hup
      rwa [List.take_of_length_le (Nat.le_refl _)] at this
    · exact ⟨fm', F', hXe.keep (fun b hb => ⟨t8.blk b (hXe.inn b hb) (by have := hX3.inn b hb; omega), rfl⟩) (hXe.inn.ext t8.size)⟩
    · have hxw : Ext w W7 := tt.ext_of (q9.2.trans hxd) (fun k hk => by omega)
      exact t8.ext_of hxw (fun k hk => by have := hx03.size; omega)
  case body =>
    rintro l pre x W ⟨g'', A', n', cap', rest, q1, q2, hbg, q4, q5, q6, q7, q8, q9, q10⟩ hlt
    obtain ⟨x, hx⟩ := x
    obtain ⟨m, hm⟩ : ∃ m, ns[x] = m := ⟨_, rfl⟩
    have hmem : m ∈ ns := by rw [← hm]; exact List.getElem_mem hx
    dsimp only
    rw [hm]
    generalize (((ns.map (cntOf g)).getD x 0 : Nat) : Int) = cv
    obtain ⟨c, hcf⟩ := Option.isSome_iff_exists.1 ((q2.2 m).trans ((hns.2 m).1 hmem))
    obtain ⟨_, _, b1, m1, hsz, hcp, hfu, hch, hnm', p0, p1, p2, hO⟩ := id q1
    obtain ⟨fb, r1, r2⟩ := p1 m c hcf
    have hnl : m.length ≤ maxLen := by
      obtain ⟨n', en, hmn⟩ := hnm' (sk m) (by rw [m1.has_iff, r1]; rfl)
      have e3 : m = n' := by simpa [sk] using en
      rw [← e3] at hmn
      simp [mayName] at hmn
      unfold maxLen
      omega
    have hfO := r2.own
    have hnf : ∀ b, b < W0.heap.size → ¬ Of N fb b := by
      rintro b hb ⟨t, e⟩
      rw [hNo b hb] at e
      cases e
    have hnd : ¬ Of N fb d' := by
      rintro ⟨t, e⟩
      rw [q1.1] at e
      have : d' = fb := by simpa using congrArg (fun o => (o.getD (0, 0)).1) e
      subst this
      rw [q1.1] at hfO
      simp at hfO
    have hnC : N w1.heap.size = none := hX.inn.none (Nat.le_refl _)
    have hnC' : ¬ Of N fb w1.heap.size := by
      rintro ⟨t, e⟩
      rw [hnC] at e
      cases e
    have zx := hx03.size
    have zn : ∀ b, Of N fb b → b < w1.heap.size := fun b hb => hX.inn b hb.owned
    gi_wp2_with fail
    have hxd := (Ext.refl W).drew
    refine round_region_tl (Tu (fun b => Of N fb b ∨ b = w.heap.size)) Ext [.q 0, .q 1, .q 2, .q 3, .q 4, .seg [5, 6], .f 7, .f 8] (fun _ _ _ x y => x.trans y) (fun a => Tu.refl _ a) (fun _ _ _ x y => x.trans y) (fun _ _ x => Tu.of_ext x) (fun a => Ext.refl a) (by kernel_rfl) (by kernel_rfl) (by kernel_rfl) ?_
    intro K hK
    have c5 : ∀ y : Above (Tu (fun b => Of N fb b ∨ b = w.heap.size)) W.drew, y.1.cell? ⟨w1.heap.size, 0, none⟩ = some (fptr d') := fun y => ((q5.ext hxd).tu y.2 (by rintro (e | e); exact hnC' e; omega)).cell 0
    have c6 : ∀ y : Above (Tu (fun b => Of N fb b ∨ b = w.heap.size)) W.drew, y.1.cell? ⟨d', 1, none⟩ = some (.map (some fm')) := fun y => ((b1.ext hxd).tu y.2 (by rintro (e | e); exact hnd e; omega)).cell 1
    iterate 5 (
      refine tl_q (v := ?_) rfl rfl ?_ ?_
      rotate_left
      · intro x
        go_simp
        first | done | rfl
      simp only [Act.put, List.getElem_toArray, List.getElem_cons_zero, List.getElem_cons_succ, List.setIfInBounds_toArray, List.set_cons_zero, List.set_cons_succ])
    refine tl_seg (A := ?A) (fun j x u => match j with | 5 => x = fptr fb | _ => x = .slice A' n' cap') ?hA ?h0 ?hput ?hmono ?hstep ?hend
    case hA =>
      intro v
      simp only [fillT, Option.bind_some, Option.bind_none, Option.bind, List.getElem?_toArray, List.getElem?_cons_zero, List.getElem?_cons_succ, List.setIfInBounds_toArray, List.set_cons_zero, List.set_cons_succ]
      exact rfl
    case h0 => exact rfl
    case hput => repeat' (first | exact trivial | refine And.intro (fun o ho v x => by obtain rfl := Option.some.inj ho; rfl) ?_)
    case hmono => exact ⟨fun x u u' hh e => e, fun x u u' hh e => e, trivial⟩
    case hstep =>
      refine And.intro ?_ (And.intro ?_ trivial)
      ·
        intro o ho
        obtain rfl := Option.some.inj ho
        clear ho
        intro v u hR hD K2 hK2
        clear hD
        rw [if_pos (by rfl)]
        have hu := (q1.ext (hxd.trans hR)).look hnl
        rw [r1, Option.getD_some] at hu
        go_simp
        exact hK2.out _ _ _ (Ext.refl _) rfl rfl
      ·
        intro o ho
        obtain rfl := Option.some.inj ho
        clear ho
        intro v u hR hD K2 hK2
        clear hD
        rw [if_pos (by rfl)]
        have hu := (q4.ext (hxd.trans hR)).cell 0
        go_simp
        exact hK2.out _ _ _ (Ext.refl _) rfl rfl
    case hend =>
      intro v u hR hF
      have d5 : v 5 = fptr fb := hF.1
      have d6 : v 6 = .slice A' n' cap' := hF.2.1
      simp only [d5, d6]
      clear hF d5 d6
      have hru : Ext W u := hxd.trans hR
      refine tl_l rfl rfl ?_
      intro K2 hK2
      go_simp
      refine (settle_any (fun b => b < w.heap.size) u N fb c (r2.ext hru) (hO.ext hru.size) A' n' cap' rest ⟨q6.1.ext hru, q6.2⟩ q7 q8 (hbg m c hcf)).mono ?_
      rintro e w5 ⟨A2, n2, cap2, rfl, c', rest2, s1, s2, s3, s4, s5, s6⟩
      go_simp
      refine hK2.out _ _ (s6.mono (fun b hb => Or.inl hb)) ?_
      clear hK2 K2
      try simp only [Act.put, List.getElem_toArray, List.getElem_cons_zero, List.getElem_cons_succ, List.setIfInBounds_toArray, List.set_cons_zero, List.set_cons_succ]
      have B5 := (q4.ext hru).tu s6 (hnf _ (by omega))
      have B5c := (q5.ext hru).tu s6 hnC'
      have f5 := B5.free 0
      have e5 := B5.cell 0
      have B6 := B5.set_ 0 (.slice A2 n2 cap2)
      have T6 : Tu (fun b => b = w.heap.size) w5 (w5.setCell ⟨w.heap.size, 0, none⟩ (.slice A2 n2 cap2)) := Tu.of_grown (setCell_grownBy _ _ _) (by rintro k e; cases e; rfl)
      refine tl_l rfl rfl ?_
      intro K2 hK2
      go_simp
      refine hK2.out _ _ (T6.mono (fun b e => Or.inr e)) ?_
      clear hK2 K2
      try simp only [Act.put, List.getElem_toArray, List.getElem_cons_zero, List.getElem_cons_succ, List.setIfInBounds_toArray, List.set_cons_zero, List.set_cons_succ]
      generalize w5.setCell ⟨w.heap.size, 0, none⟩ (.slice A2 n2 cap2) = w6 at *
      refine tl_end (hK.out _ _ ?_)
      clear hK K
      have hXu := q1.ext hru
      have hX5 : DiskX w5 N d' fm' F' (g''.set m (some c')) := hXu.setF r1 (r2.ext hru) s6 (Og.refl _ _) (hO.ext (by have := hru.size; have := s6.size; omega)) s1
      have hX6 : DiskX w6 N d' fm' F' (g''.set m (some c')) := hX5.keep (fun b hb => ⟨T6.blk b (hX5.inn b hb) (fun e => by rw [Owned, e, hNo _ (by omega)] at hb; cases hb), rfl⟩) (hX5.inn.ext T6.size)
      have T56 : Tu (fun b => Of N fb b ∨ b = w.heap.size) u w6 := (s6.mono (fun b hb => Or.inl hb)).trans (T6.mono (fun b e => Or.inr e))
      have zu := hru.size
      have z56 := T56.size
      gi_wp2_with fail
      refine ⟨(Tu.of_ext hru).trans (T56.mono ?_), g''.set m (some c'), A2, n2, cap2, rest2, hX6, ⟨q2.1, fun m' => ?_⟩, fun m' c2 e => ?_, by simpa using B6, B5c.tu T6 (by omega), s3.tuP T6 (fun hn a e => by have := (s5 hn a e).2; omega), s4, s5, ⟨by omega, ?_⟩, fun k hk => ?_⟩
      · rintro b (e | e)
        · have := zn b e; omega
        · omega
      · simp only [DC.set]
        split
        · rename_i e
          rw [e, ← q2.2 m, hcf]
          rfl
        · exact q2.2 m'
      · simp only [DC.set] at e
        split at e
        · obtain ⟨ks, _, rfl, _⟩ := s2
          cases e
          simp
        · exact hbg m' c2 e
      · exact (T56.ext_of (q9.2.trans hru) (by
          rintro b (e | e)
          · refine Nat.le_of_not_lt fun h => hnf b (by omega) e
          · omega))
      · obtain ⟨k1, k2, k3⟩ := hk.back
        subst k3
        have h7 := q10 _ k1
        rw [List.take_add_one, List.getElem?_eq_getElem (by rw [← k2]; exact hx)]
        have : ns[pre.length]'(by rw [← k2]; exact hx) = m := by simp only [← k2]; exact hm
        rw [this]
        exact h7.snoc hcf s2
end Go.Proofs.Ytenmdhdloibemaa
