/- All's function over a net that is there: what it tells, flight by flight. Conditions: the net is in memory as told. -/
import Derived.Test.YtekbdpfiommmbaaNtell
import Derived.Test.YtekbdpfiommmbaaNsame
namespace Go.Proofs.Ytekbdpfiommmbaa
open Go.RowKit Go.Maps
set_option linter.unusedVariables false
set_option linter.unusedSimpArgs false
attribute [local go_sem] Oper.semAt_some

/-- a net's flights: from, to, bytes -/
def flL (g : NC) (e m : Nat) : List (Int × Int × Row) := (orderL e m).flatMap fun p => (g.L p.1 p.2).map fun r => (p.1, p.2, r)
theorem flL_succ (g : NC) (e m : Nat) : flL g e (m + 1) = flL g e m ++ (g.L (ordAt e m).1 (ordAt e m).2).map fun r => ((ordAt e m).1, (ordAt e m).2, r) := by
  simp [flL, orderL, List.range_succ, List.flatMap_append]
theorem flL_len (g : NC) (e : Nat) : ∀ m, (flL g e m).length = cntG g e m
  | 0 => by simp [flL, orderL, cntG]
  | m + 1 => by rw [flL_succ, List.length_append, List.length_map, cntG_succ, flL_len g e m]
theorem flV_row {w : World} {O : Ow} {n fm : Nat} {F : DataW Value} {g : NC} (h : NetX w O n fm F g) {e : Nat} (he : g.ends = (e : Int)) : ∀ m, m ≤ e * e → ∀ (i : Nat) (t : Int × Int × Row), (flL g e m)[i]? = some t → ∃ (A : Option Addr) (c : Nat), (flV w F g e m)[i]? = some (fl t.1 t.2.1 A t.2.2.length c) ∧ Rd w 0 A t.2.2.length t.2.2 ∧ t.2.2.length ≤ 1048576
  | 0, _, i, t, ht => by simp [flL, orderL] at ht
  | m + 1, hm, i, t, ht => by
    have heb := h.endsb
    obtain ⟨_, wa, wb⟩ := ordAt_wf (e := e) (m := m) (by omega) (by omega)
    obtain ⟨_, _, hR, _⟩ := h.lineK (wr := w) rfl (fun _ _ _ => rfl) wa wb
    have hl := flV_len h he m (by omega)
    have hl2 := flL_len g e m
    rw [flV_succ]
    rw [flL_succ] at ht
    by_cases hi : i < cntG g e m
    · rw [List.getElem?_append_left (by omega)] at ht ⊢
      exact flV_row h he m (by omega) i t ht
    · rw [List.getElem?_append_right (by omega), List.getElem?_map] at ht ⊢
      rw [hl2] at ht
      rw [hl]
      obtain ⟨r, hr, rfl⟩ := Option.map_eq_some_iff.1 ht
      obtain ⟨hj, rfl⟩ := List.getElem?_eq_some_iff.1 hr
      obtain ⟨h1, A, c, h2, h3, _⟩ := hR.2 (i - cntG g e m) hj
      exact ⟨A, c, by rw [h2]; rfl, h3, h1⟩
/-- cells of flights that were made from lo on -/
def FlO (lo b : Nat) (o : Obj) : Prop := lo ≤ b ∧ ∃ cs z, o = .cells cs 51 z
/-- what a round keeps -/
def PT (M S : Nat → Prop) (lo B : Nat) (A A' : World) : Prop := A.heap.size ≤ A'.heap.size ∧ ∀ b o, A.heap[b]? = some o → ¬ S b → (M b ∨ (o.isCells = true ∧ ¬ FlO lo b o) ∨ (B ≤ b ∧ o.isCells = false)) → A'.heap[b]? = some o
theorem PT.trans {M S : Nat → Prop} {lo B : Nat} {A A' A'' : World} (h : PT M S lo B A A') (k : PT M S lo B A' A'') : PT M S lo B A A'' := ⟨Nat.le_trans h.1 k.1, fun b o h1 h2 h3 => k.2 b o (h.2 b o h1 h2 h3) h2 h3⟩
theorem PT.of_ext {M S : Nat → Prop} {lo B : Nat} {A A' : World} (h : Ext A A') : PT M S lo B A A' := ⟨h.size, fun b o h1 _ _ => (h.blk (Array.getElem?_eq_some_iff.1 h1).1).trans h1⟩
/-- cells that are no flights' stay, but for S -/
def Kr (S : Nat → Prop) (lo : Nat) (A A' : World) : Prop := A.heap.size ≤ A'.heap.size ∧ ∀ b o, A.heap[b]? = some o → ¬ S b → o.isCells = true → ¬ FlO lo b o → A'.heap[b]? = some o
theorem Kr.refl (S : Nat → Prop) (lo : Nat) (A : World) : Kr S lo A A := ⟨Nat.le_refl _, fun _ _ h _ _ _ => h⟩
theorem Kr.trans {S : Nat → Prop} {lo : Nat} {A A' A'' : World} (h : Kr S lo A A') (k : Kr S lo A' A'') : Kr S lo A A'' := ⟨Nat.le_trans h.1 k.1, fun b o h1 h2 h3 h4 => k.2 b o (h.2 b o h1 h2 h3 h4) h2 h3 h4⟩
theorem Kr.of_kc {S : Nat → Prop} {lo l : Nat} {A A' : World} (h : Kc l A A') : Kr S lo A A' := ⟨h.size, fun b o h1 _ h3 _ => h.blk b o h1 (.inr h3)⟩
theorem Kr.of_pt {M S : Nat → Prop} {lo B : Nat} {A A' : World} (h : PT M S lo B A A') : Kr S lo A A' := ⟨h.1, fun b o h1 h2 h3 h4 => h.2 b o h1 h2 (.inr (.inl ⟨h3, h4⟩))⟩
theorem Blk.kr {S : Nat → Prop} {lo : Nat} {A A' : World} {b : Nat} {t : TypeId} {cs : Array Value} (h : Blk A b t cs) (k : Kr S lo A A') (hS : ¬ S b) (ht : t ≠ 51) : Blk A' b t cs := k.2 b _ h hS rfl (by rintro ⟨_, cs', z, e⟩; cases e; exact ht rfl)
theorem Rd.kr {S : Nat → Prop} {lo lo' : Nat} {w A B : World} {a : Option Addr} {n : Nat} {l : List UInt8} (h : Rd w lo' a n l) (hw : w.heap.size = lo) (hx : Ext w A) (k : Kr S lo A B) (hS : ∀ b, S b → ∀ (j : Nat) (x : Int), w.cell? ⟨b, j, none⟩ ≠ some (.int .u8 x)) : Rd B lo' a n l := by
  refine ⟨h.1, ?_⟩
  rcases Nat.eq_zero_or_pos n with h0 | h0
  · exact .inl h0
  · obtain ⟨b, off, rfl, h1, h2, h3⟩ := h.pos h0
    have h2' : b < B.heap.size := by have := hx.size; have := k.1; omega
    refine .inr ⟨b, off, rfl, h1, h2', fun i hi => ?_⟩
    have hc := h3 i hi
    cases e : w.heap[b]? with
    | none => simp [World.cell?, e] at hc
    | some o =>
      have ho : o.isCells = true := by
        cases o <;> simp [World.cell?, e, Obj.isCells] at hc ⊢
      have hb := k.2 b o ((hx.blk h2).trans e) (fun hs => hS b hs _ _ hc) ho (by
        rintro ⟨hl, _⟩
        omega)
      rw [World.cell?_of_block (w := w) (hb.trans e.symm)]
      exact hc
abbrev Tx (ts : List (Int × Int × Row)) := Ix ts.length × Option Addr × Nat
def encT (ts : List (Int × Int × Row)) (x : Tx ts) : Array Value := #[.int .i64 (x.1.1 : Int), fl (ts[x.1.1]'x.1.2).1 (ts[x.1.1]'x.1.2).2.1 x.2.1 (ts[x.1.1]'x.1.2).2.2.length x.2.2]
def GT (lo : Nat) (ts : List (Int × Int × Row)) (x : Tx ts) (W : World) : Prop := Rd W lo x.2.1 (ts[x.1.1]'x.1.2).2.2.length (ts[x.1.1]'x.1.2).2.2 ∧ (ts[x.1.1]'x.1.2).2.2.length ≤ x.2.2 ∧ x.2.2 ≤ maxLen ∧ (ts[x.1.1]'x.1.2).2.2.length ≤ 1048576 ∧ TyB W x.2.1 (ts[x.1.1]'x.1.2).2.2.length
def UpT {ts : List (Int × Int × Row)} (pre : List (Tx ts)) (k : Nat) : Prop := pre.map (fun x => x.1.1) = List.range k
set_option maxRecDepth 100000 in
set_option maxHeartbeats 3200000 in
theorem allcT (w : World) (O : Ow) (n fm : Nat) (F : DataW Value) (g : NC) (h : NetX w O n fm F g) (q : Nat) (hq : Blk w q 25 #[fptr n]) (e : Nat) (he : g.ends = (e : Int)) (S : Nat → Prop) (hS : ∀ b, S b → O b = none ∧ b < w.heap.size ∧ b ≠ q)
    (hS8 : ∀ b, S b → ∀ (j : Nat) (x : Int), w.cell? ⟨b, j, none⟩ ≠ some (.int .u8 x)) (ts : List (Int × Int × Row)) (hts : flL g e (e * e) = ts) :
    SeqStopsG 1 Try.prog 54 #[fptr q] (encT ts) (PT (Mo O) S w.heap.size) (GT w.heap.size ts) (fun xs => UpT xs ts.length) (fun pre => ∃ k, k ≤ ts.length ∧ UpT pre k) ts.length w := by
  intro l J Jx W hxw hl hJ hJx hY h0
  refine callsIn_wide.2 ?_
  have xY := (Ext.refl W).alloc (.cells #[.func (.yield l) #[] #[]] 90)
  have bY := Blk.new W 90 #[.func (.yield l) #[] #[]]
  have cq := ((hq.ext hxw).ext xY).cell 0
  have hs1 := World.size_alloc W (.cells #[.func (.yield l) #[] #[]] 90)
  refine calls_of_marks Try.func54 rfl ?_
  simp only [Try.ntmps54, List.size_toArray, List.length_cons, List.length_nil, Nat.reduceAdd, Nat.reduceSub, Array.replicate_succ, Array.replicate_zero, List.push_toArray, List.append_toArray, List.nil_append, List.cons_append]
  go_upto_region 1 with fail
  generalize W.alloc (.cells #[.func (.yield l) #[] #[]] 90) = W1 at *
  obtain ⟨yb, hyb⟩ : ∃ yb, W.heap.size = yb := ⟨_, rfl⟩
  have hybH := Lib.hid hyb
  rw [hyb] at hs1 bY ⊢
  clear hyb
  go_wp2_with fail
  refine (all_any W1 (some ⟨n, 0, none⟩)).mono ?_
  rintro x w2 ⟨rfl, rfl⟩
  have xq := (Ext.refl W1).alloc (.cells #[fptr n] 25)
  have bq := Blk.new W1 25 #[fptr n]
  have bY2 := bY.ext xq
  rw [hs1] at bq
  go_wp2_with fail
  rw [show W1.alloc (.cells #[.pointer (some ⟨n, 0, none⟩)] 25) = W1.alloc (.cells #[fptr n] 25) from rfl]
  have hx02 := (hxw.trans xY).trans xq
  have hxW2 := xY.trans xq
  have hz2 : (W1.alloc (.cells #[fptr n] 25)).heap.size = yb + 1 + 1 := by rw [World.size_alloc, hs1]
  generalize W1.alloc (.cells #[fptr n] 25) = W2 at *
  have h2 := h.ext hx02
  obtain ⟨vs, hvs⟩ : ∃ vs, flV W2 F g e (e * e) = vs := ⟨_, rfl⟩
  have hlen : vs.length = ts.length := by rw [← hvs, ← hts, flV_len h2 he _ (Nat.le_refl _), flL_len]
  have hwW : w.heap.size ≤ yb := by have := hxw.size; have := hybH.out; omega
  have hSy : ∀ b, S b → b < yb := fun b hb => by have := (hS b hb).2.1; omega
  refine range_allK S h2 bq he (fun b hb => ⟨by have := hSy b hb; omega, (hS b hb).1, by have := hSy b hb; omega⟩) hvs (Ext.refl _) rfl
    (fun pre' A => ∃ pre : List (Tx ts), pre.map (fun x => x.1.1) = pre'.map (·.1) ∧ J pre A ∧ Kr S w.heap.size W2 A) (fun c pre' A => c = .ret ∧ ∃ pre : List (Tx ts), pre.map (fun x => x.1.1) = pre'.map (·.1) ∧ Jx pre A) ?hI ?hIx ?h0 ?Ax ?hAx ?assign ?body ?done ?stop
  case Ax => exact fun x a' A => ∃ (r : Nat) (t : Int × Int × Row) (Av : Option Addr) (c : Nat), ts[x.1]? = some t ∧ vs[x.1] = fl t.1 t.2.1 Av t.2.2.length c ∧ Rd w 0 Av t.2.2.length t.2.2 ∧ t.2.2.length ≤ 1048576 ∧ Blk A r 51 #[.int .i64 t.1, .int .i64 t.2.1, .slice Av t.2.2.length c] ∧ a' = { tmps := #[.func (.yield l) #[] #[], fptr q, fptr yb, .int .i64 (x.1 : Int), fptr r, fptr n, .func (.func 55) #[] #[fptr (yb + 1)], .int .i64 (x.1 : Int), fl t.1 t.2.1 Av t.2.2.length c, undef, undef, undef, undef, undef, undef, undef, undef, undef, undef], defers := [] }
  case hI =>
    rintro pre' A B ⟨pre, e1, e2, e3⟩ k
    exact ⟨pre, e1, hJ pre A B e2 (k.low (by have := hxW2.size; omega)), e3.trans (Kr.of_kc k)⟩
  case hIx =>
    rintro c pre' A B ⟨rfl, pre, e1, e2⟩ k
    exact ⟨rfl, pre, e1, hJx pre A B e2 (k.low (by have := hxW2.size; omega))⟩
  case h0 => exact ⟨[], rfl, hJ [] _ _ h0 (Kc.of_ext hxW2), Kr.refl _ _ _⟩
  case hAx =>
    rintro x a' A B ⟨r, t, Av, c, q1, q2, q3, q4, q5, q6⟩ k
    exact ⟨r, t, Av, c, q1, q2, q3, q4, q5.kc k, q6⟩
  case assign =>
    intro l' pre x A K hi hK
    have hxt : x.1 < ts.length := by have := x.2; omega
    obtain ⟨Av, c, e1, e2, e3⟩ := flV_row h he (e * e) (Nat.le_refl _) x.1 ts[x.1] (by rw [hts]; exact List.getElem?_eq_getElem hxt)
    rw [← flV_ext h he hx02, hvs, List.getElem?_eq_getElem x.2] at e1
    have e1' := Option.some.inj e1
    obtain ⟨t, ht⟩ : ∃ t, ts[x.1] = t := ⟨_, rfl⟩
    rw [ht] at e1' e2 e3
    have hxA := (Ext.refl A).alloc (.cells #[.int .i64 t.1, .int .i64 t.2.1, .slice Av t.2.2.length c] 51)
    have bA := Blk.new A 51 #[.int .i64 t.1, .int .i64 t.2.1, .slice Av t.2.2.length c]
    rw [e1']
    gi_wp2
    exact hK _ _ hxA ⟨_, t, Av, c, by rw [List.getElem?_eq_getElem hxt, ht], e1', e2, e3, bA, rfl⟩
  case body =>
    rintro l' pre' x a' A hzA ⟨pre, e1, hJ1, hKr⟩ ⟨r, t, Av, c, q1, q2, q3, q4, q5, rfl⟩ hlt
    have bYA := bY2.kr hKr (fun hs => by have := hSy _ hs; omega) (by decide)
    have cY := bYA.cell 0
    gi_wp2_with fail
    have hxd := (Ext.refl A).drew
    have heq := run_eql_fn (w := A.drew) Try.underlying90 (.yield l) #[] #[]
    have r4 : Rd A.drew 0 Av t.2.2.length t.2.2 := (q3.kr rfl hx02 hKr hS8).ext hxd
    have hzd : w.heap.size ≤ A.drew.heap.size := by have := hxd.size; have := hxW2.size; omega
    have b5 := q5.ext hxd
    have cYd := (bYA.ext hxd).cell 0
    refine round_region_pi Ext [.f 0, .f 1, .f 2, .seg [3, 4, 5, 6], .f 7, .f 8, .f 9] (fun _ _ _ x y => Ext.trans x y) Ext.refl (by kernel_rfl) (by kernel_rfl) (by kernel_rfl) ?_
    intro K hK
    refine pi_f rfl (by kernel_rfl) ?_
    intro K2 hK2
    refine op_round _ _ (by simp) ?_
    go_simp
    refine hK2.out _ _ ?_
    clear hK2 K2
    try simp only [Act.put, List.getElem_toArray, List.getElem_cons_zero, List.getElem_cons_succ, List.setIfInBounds_toArray, List.set_cons_zero, List.set_cons_succ]
    refine pi_f rfl (by kernel_rfl) ?_
    intro K2 hK2
    refine op_round _ _ (by simp) ?_
    go_simp
    refine hK2.out _ _ ?_
    clear hK2 K2
    try simp only [Act.put, List.getElem_toArray, List.getElem_cons_zero, List.getElem_cons_succ, List.setIfInBounds_toArray, List.set_cons_zero, List.set_cons_succ]
    refine pi_f rfl (by kernel_rfl) ?_
    intro K2 hK2
    refine op_round _ _ (by simp) ?_
    go_simp
    refine hK2.out _ _ ?_
    clear hK2 K2
    try simp only [Act.put, List.getElem_toArray, List.getElem_cons_zero, List.getElem_cons_succ, List.setIfInBounds_toArray, List.set_cons_zero, List.set_cons_succ]
    clear heq cYd
    have bYd := bYA.ext hxd
    generalize A.drew = Ad at *
    refine pi_seg (A := ?A) (fun j z u => match j with | 3 => z = .func (.yield l) #[] #[] | 4 => z = .int .i64 (x.1 : Int) | 5 => z = fl t.1 t.2.1 Av t.2.2.length c | 6 => ∃ (A' : Option Addr) (c' : Nat), z = fl t.1 t.2.1 A' t.2.2.length c' ∧ Rd u w.heap.size A' t.2.2.length t.2.2 ∧ t.2.2.length ≤ c' ∧ c' ≤ maxLen ∧ TyB u A' t.2.2.length | _ => True) ?hA ?h0 ?hput ?hmono ?hstep ?hend
    case hA =>
      intro v
      simp only [fillT, Option.bind_some, Option.bind_none, Option.bind, List.getElem?_toArray, List.getElem?_cons_zero, List.getElem?_cons_succ, List.setIfInBounds_toArray, List.set_cons_zero, List.set_cons_succ]
      exact rfl
    case h0 => exact rfl
    case hput => repeat' (first | exact trivial | refine And.intro (fun o ho v x => by obtain rfl := Option.some.inj ho; rfl) ?_)
    case hmono => exact ⟨fun x u u' h e => e, fun x u u' h e => e, fun x u u' h e => e, fun x u u' h ⟨a1, a2, a3, a4, a5⟩ => ⟨a1, a2, a3, a4.ext h, a5.1, a5.2.1, a5.2.2.kc (Kc.of_ext (lo := 0) h)⟩, trivial⟩
    case hstep =>
      refine And.intro ?_ (And.intro ?_ (And.intro ?_ (And.intro ?_ trivial)))
      ·
        intro o ho
        obtain rfl := Option.some.inj ho
        clear ho
        intro v u hR hD K2 hK2
        clear hD
        rw [if_pos (by rfl)]
        have cy := (bYd.ext hR).cell 0
        go_simp
        exact hK2.out _ _ _ (Ext.refl _) rfl rfl
      ·
        intro o ho
        obtain rfl := Option.some.inj ho
        clear ho
        intro v u hR hD K2 hK2
        clear hD
        rw [if_pos (by rfl)]
        go_simp
        exact hK2.out _ _ _ (Ext.refl _) rfl rfl
      ·
        intro o ho
        obtain rfl := Option.some.inj ho
        clear ho
        intro v u hR hD K2 hK2
        clear hD
        rw [if_pos (by rfl)]
        have c0 := (b5.ext hR).cell 0
        have c1 := (b5.ext hR).cell 1
        have c2 := (b5.ext hR).cell 2
        go_simp
        exact hK2.out _ _ _ (Ext.refl _) rfl rfl
      ·
        intro o ho
        obtain rfl := Option.some.inj ho
        clear ho
        intro v u hR hD K2 hK2
        have d5 : v 5 = fl t.1 t.2.1 Av t.2.2.length c := hD 5 (by kernel_rfl) (by kernel_rfl)
        clear hD
        rw [if_pos (by rfl)]
        simp only [d5]
        go_simp
        refine (told_ty u t.1 t.2.1 Av t.2.2.length c 0 t.2.2 (r4.ext hR) (by omega)).mono ?_
        rintro ee w6 ⟨A', c', rfl, r6, o8, o9, o10, hx6⟩
        go_simp
        refine hK2.out _ _ _ hx6 ⟨A', c', rfl, r6.low (by have := hR.size; omega), o8, o9, o10⟩ ?_
        simp only [d5]
        rfl
    case hend =>
      intro v u hR hF
      obtain ⟨e3, e4, e5, ⟨A', c', e6, r6, o8, o9, o10⟩, -⟩ := hF
      have e3 : v 3 = .func (.yield l) #[] #[] := e3
      have e4 : v 4 = .int .i64 (x.1 : Int) := e4
      have e5 : v 5 = fl t.1 t.2.1 Av t.2.2.length c := e5
      have e6 : v 6 = fl t.1 t.2.1 A' t.2.2.length c' := e6
      simp only [e3, e4, e5, e6]
      clear e3 e4 e5 e6
      have hxt : x.1 < ts.length := by have := x.2; omega
      have htx : ts[x.1] = t := by
        rw [List.getElem?_eq_getElem hxt] at q1
        exact Option.some.inj q1
      have hxu := hxd.trans hR
      have hpl : pre.length < ts.length := by
        have := congrArg List.length e1
        simp only [List.length_map] at this
        omega
      obtain ⟨fn, tmps, assign, body, hy, hRR⟩ := hY pre (⟨x.1, hxt⟩, A', c') u (by have := hxW2.size; have := hxu.size; omega) (hJ _ _ _ hJ1 (Kc.of_ext hxu)) ⟨by rw [htx]; exact r6, by rw [htx]; exact o8, o9, by rw [htx]; exact q4, by rw [htx]; exact o10⟩ hpl
      simp only [encT, htx] at hy
      refine pi_f rfl (by kernel_rfl) ?_
      intro K2 hK2
      refine ⟨fun _ _ => trivial, ?_⟩
      go_simp
      refine ⟨rfl, RoundIn.mono (show RoundIn (Rd_ l') 0 _ _ _ _ _ _ _ _ from hRR) ?_⟩
      clear hy hRR
      have fin : ∀ W', PT (Mo O) S w.heap.size W.heap.size u W' → KeepsFrom W2.heap.size A W' ∧ KpN (Mo O) S A W' ∧ Kr S w.heap.size W2 W' := fun W' hp => by
        have hpa := (PT.of_ext hxu).trans hp
        refine ⟨⟨hpa.1, fun k o hk1 hk2 hk3 => hpa.2 k o hk2 (fun hs => by have := hSy k hs; omega) (.inr (.inr ⟨by have := hxW2.size; omega, hk3⟩))⟩, ⟨hpa.1, fun b o h1 h2 h3 => hpa.2 b o h1 h2 (h3.imp id (fun h4 => .inl ⟨h4.1, by rintro ⟨_, cs, z, e⟩; exact h4.2 cs z e⟩))⟩, hKr.trans (Kr.of_pt hpa)⟩
      rintro ee W' (⟨rfl, hJ2, hp⟩ | ⟨rfl, hJ2, hp⟩)
      ·
        refine hK2.out _ _ ?_
        clear hK2 K2
        try simp only [Act.put, List.getElem_toArray, List.getElem_cons_zero, List.getElem_cons_succ, List.setIfInBounds_toArray, List.set_cons_zero, List.set_cons_succ]
        refine pi_f rfl (by kernel_rfl) ?_
        intro K2 hK2
        refine op_round _ _ (by simp) ?_
        go_simp
        refine hK2.out _ _ ?_
        clear hK2 K2
        try simp only [Act.put, List.getElem_toArray, List.getElem_cons_zero, List.getElem_cons_succ, List.setIfInBounds_toArray, List.set_cons_zero, List.set_cons_succ]
        refine pi_f rfl (by kernel_rfl) ?_
        intro K2 hK2
        refine op_round _ _ (by simp) ?_
        go_simp
        refine hK2.out _ _ ?_
        clear hK2 K2
        try simp only [Act.put, List.getElem_toArray, List.getElem_cons_zero, List.getElem_cons_succ, List.setIfInBounds_toArray, List.set_cons_zero, List.set_cons_succ]
        refine pi_end (hK.out _ _ ?_)
        clear hK K
        gi_wp2_with fail
        obtain ⟨f1, f2, f3⟩ := fin W' hp
        exact ⟨hz2 ▸ f1, f2, _, by simp [e1], hJ2, f3⟩
      ·
        refine hK2.out _ _ ?_
        clear hK2 K2
        try simp only [Act.put, List.getElem_toArray, List.getElem_cons_zero, List.getElem_cons_succ, List.setIfInBounds_toArray, List.set_cons_zero, List.set_cons_succ]
        refine pi_f rfl (by kernel_rfl) ?_
        intro K2 hK2
        refine op_round _ _ (by simp) ?_
        go_simp
        refine hK2.out _ _ ?_
        clear hK2 K2
        try simp only [Act.put, List.getElem_toArray, List.getElem_cons_zero, List.getElem_cons_succ, List.setIfInBounds_toArray, List.set_cons_zero, List.set_cons_succ]
        refine pi_f rfl (by kernel_rfl) ?_
        intro K2 hK2
        refine op_round _ _ (by simp) ?_
        go_simp
        refine hK2.out _ _ ?_
        clear hK2 K2
        try simp only [Act.put, List.getElem_toArray, List.getElem_cons_zero, List.getElem_cons_succ, List.setIfInBounds_toArray, List.set_cons_zero, List.set_cons_succ]
        refine pi_end (hK.out _ _ ?_)
        clear hK K
        gi_wp2_with fail
        obtain ⟨f1, f2, f3⟩ := fin W' hp
        exact ⟨hz2 ▸ f1, f2, rfl, _, by simp [e1], hJ2⟩
  case done =>
    rintro D xs A hD hup ⟨pre, e1, hJ1, hKr⟩ hK
    go_wp2_with fail
    refine ⟨by simp, .inl ⟨_, _, rfl, run_takeDeferred hK, ?_⟩⟩
    have k8 : Kc W.heap.size A (A.putObj D (.deferred none)) := Kc.of_put hK rfl (by have := hxW2.size; omega)
    refine ⟨_, results_none rfl _ _ _, ⟨_, rfl⟩, .inl ⟨pre, ?_, hJ _ _ _ hJ1 k8⟩⟩
    rw [UpT, e1, show xs.map (·.1) = List.range vs.length from hup, hlen]
  case stop =>
    rintro D c xs A hD ⟨k, hk, hup⟩ ⟨rfl, pre, e1, hJ1⟩ hK
    go_wp2_with fail
    refine ⟨by simp, .inl ⟨_, _, rfl, run_takeDeferred hK, ?_⟩⟩
    have k8 : Kc W.heap.size A (A.putObj D (.deferred none)) := Kc.of_put hK rfl (by have := hxW2.size; omega)
    refine ⟨_, results_none rfl _ _ _, ⟨_, rfl⟩, .inr ⟨pre, ⟨k, by omega, ?_⟩, hJx _ _ _ hJ1 k8⟩⟩
    rw [UpT, e1]
    exact hup
