/- All of a net, and flights: what goes over it. Conditions: the net is in memory as told. -/
import Derived.Test.YtekbdpfiommmbaaNallT
namespace Go.Proofs.Ytekbdpfiommmbaa
open Go.RowKit Go.Maps
set_option linter.unusedVariables false
set_option linter.unusedSimpArgs false
attribute [local go_sem] Oper.semAt_some

theorem allcN_any (w : World) (O : Ow) (n fm : Nat) (F : DataW Value) (g : NC) (h : NetX w O n fm F g) :
    Calls Try.prog 36 #[fptr n] w fun x w' => ∃ q n' O' fm' F', x = .returned (.func (.func 54) #[] #[fptr q]) ∧ Blk w' q 25 #[fptr n'] ∧ NetX w' O' n' fm' F' g ∧ NetX w' (Jn w.heap.size O O') n' fm' F' g ∧ (∀ b, b < w.heap.size → O' b = none) ∧ w.heap.size ≤ q ∧ O' q = none ∧ Ext w w' := by
  go_enter Try.func36, Try.ntmps36
  go_wp2_with fail
  refine (copyN_any w O n fm F g h).mono ?_
  rintro x w2 ⟨n', O', rfl, ⟨fm', F', h2, hJ⟩, hO', hx2⟩
  have bq := Blk.new w2 25 #[fptr n']
  have xq := (Ext.refl w2).alloc (.cells #[fptr n'] 25)
  go_wp2_with fail
  go_ret
  exact ⟨_, n', O', fm', F', rfl, bq, h2.ext xq, hJ.ext xq, hO', hx2.size, h2.inn.none (Nat.le_refl _), hx2.trans xq⟩
/-- flights in memory: their cells -/
def flC : List (Int × Int × Row) → List (Option Addr × Nat) → List Value
  | t :: ts, p :: ps => .int .i64 t.1 :: .int .i64 t.2.1 :: .slice p.1 t.2.2.length p.2 :: flC ts ps
  | _, _ => []
theorem flC_len : ∀ (ts : List (Int × Int × Row)) (ps : List (Option Addr × Nat)), ps.length = ts.length → (flC ts ps).length = ts.length * 3
  | [], _, _ => rfl
  | t :: ts, [], h => by simp at h
  | t :: ts, p :: ps, h => by
    simp only [List.length_cons, Nat.add_right_cancel_iff] at h
    simp only [flC, List.length_cons, flC_len ts ps h]
    omega
theorem flC_snoc : ∀ (ts : List (Int × Int × Row)) (ps : List (Option Addr × Nat)) (t : Int × Int × Row) (p : Option Addr × Nat), ps.length = ts.length → flC (ts ++ [t]) (ps ++ [p]) = flC ts ps ++ [.int .i64 t.1, .int .i64 t.2.1, .slice p.1 t.2.2.length p.2]
  | [], [], t, p, _ => rfl
  | [], q :: ps, t, p, h => by simp at h
  | s :: ts, [], t, p, h => by simp at h
  | s :: ts, q :: ps, t, p, h => by
    simp only [List.length_cons, Nat.add_right_cancel_iff] at h
    simp only [List.cons_append, flC, flC_snoc ts ps t p h]
theorem flC_one : ∀ (ts : List (Int × Int × Row)) (ps : List (Option Addr × Nat)), ∀ u ∈ flC ts ps, u.oneCell' = true
  | [], _, u, h => by simp [flC] at h
  | t :: ts, [], u, h => by simp [flC] at h
  | t :: ts, p :: ps, u, h => by
    simp only [flC, List.mem_cons] at h
    rcases h with rfl | rfl | rfl | h
    · rfl
    · rfl
    · rfl
    · exact flC_one ts ps u h
/-- told bytes -/
def TB (lo : Nat) (W : World) (t : Int × Int × Row) (p : Option Addr × Nat) : Prop := Rd W lo p.1 t.2.2.length t.2.2 ∧ t.2.2.length ≤ p.2 ∧ p.2 ≤ maxLen ∧ t.2.2.length ≤ 1048576 ∧ TyB W p.1 t.2.2.length
theorem TB.kc {lo lo' : Nat} {A B : World} {t : Int × Int × Row} {p : Option Addr × Nat} (h : TB lo A t p) (k : Kc lo' A B) : TB lo B t p := ⟨h.1.kc k, h.2.1, h.2.2.1, h.2.2.2.1, h.2.2.2.2.kc k⟩
/-- what flights answers: a slice, and its flights' bytes -/
def FlR (lo base : Nat) (w : World) (v : Value) (ts : List (Int × Int × Row)) : Prop := ∃ ps : List (Option Addr × Nat), ps.length = ts.length ∧ w.ownsRow base 51 3 v ts.length (flC ts ps) ∧ ∀ (i : Nat) (t : Int × Int × Row) (p : Option Addr × Nat), ts[i]? = some t → ps[i]? = some p → TB lo w t p
theorem FlR.kc {lo base lo' : Nat} {A B : World} {v : Value} {l : List (Int × Int × Row)} (h : FlR lo base A v l) (k : Kc lo' A B) : FlR lo base B v l := by
  obtain ⟨ps, h1, h2, h3⟩ := h
  refine ⟨ps, h1, ⟨h2.1, h2.2.imp id ?_⟩, fun i t p q1 q2 => (h3 i t p q1 q2).kc k⟩
  rintro ⟨gb, cap, cur, e1, e2, e3, e4⟩
  exact ⟨gb, cap, cur, e1, e2, k.blk _ _ e3 (.inr rfl), e4⟩
theorem FlR.low {lo base lo' : Nat} {A : World} {v : Value} {l : List (Int × Int × Row)} (h : FlR lo base A v l) (hl : lo' ≤ lo ∧ lo' ≤ base) : FlR lo' lo' A v l := by
  obtain ⟨ps, h1, h2, h3⟩ := h
  refine ⟨ps, h1, ⟨h2.1, h2.2.imp id (fun ⟨gb, cap, cur, e1, e2, e3⟩ => ⟨gb, cap, cur, e1, by omega, e3⟩)⟩, fun i t p q1 q2 => ?_⟩
  obtain ⟨a1, a2⟩ := h3 i t p q1 q2
  exact ⟨a1.low hl.1, a2⟩
theorem Tu.kc {S : Nat → Prop} {lo : Nat} {w A B : World} (h : Tu S w A) (k : Kc lo A B) (hlo : w.heap.size ≤ lo) : Tu S w B := by
  refine ⟨k.os.trans h.os, k.tape.trans h.tape, k.output.trans h.output, Nat.le_trans h.size k.size, fun b hb hn => ?_⟩
  have e : w.heap[b]? = some w.heap[b] := Array.getElem?_eq_getElem hb
  rw [e]
  exact k.blk b _ ((h.blk b hb hn).trans e) (.inl (by omega))
theorem PT.of_tu {M S : Nat → Prop} {lo B : Nat} {A A' : World} (t : Tu S A A') : PT M S lo B A A' := ⟨t.size, fun b o h hn _ => (t.blk b (Array.getElem?_eq_some_iff.1 h).1 hn).trans h⟩
theorem TB.grown {lo : Nat} {A B : World} {t : Int × Int × Row} {p : Option Addr × Nat} {row : Option Nat} (h : TB lo A t p) (g : A.grownBy B row) (hr : ∀ r, row = some r → ∃ cs ty z, A.heap[r]? = some (.cells cs ty z) ∧ ty ≠ 5) : TB lo B t p := by
  have hne : ∀ a, p.1 = some a → 0 < t.2.2.length → row ≠ some a.block := fun a e hl e2 => by
    obtain ⟨cs, z, q1, -⟩ := h.2.2.2.2 a e hl
    obtain ⟨cs', ty, z', q2, q3⟩ := hr _ e2
    rw [q1] at q2
    cases q2
    exact q3 rfl
  refine ⟨?_, h.2.1, h.2.2.1, h.2.2.2.1, fun a e hl => ?_⟩
  · refine ⟨h.1.1, ?_⟩
    rcases Nat.eq_zero_or_pos t.2.2.length with h0 | h0
    · exact .inl h0
    · obtain ⟨b, off, q1, q2, q3, q4⟩ := h.1.pos h0
      refine .inr ⟨b, off, q1, q2, Nat.lt_of_lt_of_le q3 g.size, fun i hi => ?_⟩
      rw [World.cell?_of_block (w := A) (g.block b q3 (fun e => hne _ q1 h0 e.symm))]
      exact q4 i hi
  · obtain ⟨cs, z, q1, qz⟩ := h.2.2.2.2 a e hl
    exact ⟨cs, z, (g.block _ (Array.getElem?_eq_some_iff.1 q1).1 (fun e2 => hne a e hl e2.symm)).trans q1, qz⟩
theorem FlR.set {lo base b : Nat} {W : World} {v u : Value} {l : List (Int × Int × Row)} {ty : TypeId} {cs : Array Value} (h : FlR lo base W v l) (hb : Blk W b ty cs) (hty : ty ≠ 5) (hlt : b < base) : FlR lo base (W.setCell ⟨b, 0, none⟩ u) v l := by
  obtain ⟨ps, h1, h2, h3⟩ := h
  refine ⟨ps, h1, ownsRow_blk h2 (fun k e => ?_), fun i t p q1 q2 => (h3 i t p q1 q2).grown (setCell_grownBy _ _ _) (by rintro r e; cases e; exact ⟨_, _, _, hb, hty⟩)⟩
  have hk := h2.lt k e
  exact (setCell_grownBy W ⟨b, 0, none⟩ u).block k hk.2 (by simp; omega)
theorem info_fl : (Try.prog.info? 51).map (fun i => (i.zero, i.size, i.bytes)) = some (some (.agg #[.int .i64 0, .int .i64 0, .slice none 0 0]), 3, 40) := by kernel_rfl
theorem UpT.len {ts : List (Int × Int × Row)} {pre : List (Tx ts)} {k : Nat} (h : UpT pre k) : pre.length = k := by
  have := congrArg List.length h
  simpa using this
theorem UpT.take {ts : List (Int × Int × Row)} {pre : List (Tx ts)} {k : Nat} (h : UpT pre k) (hk : k ≤ ts.length) : pre.map (fun x => ts[x.1.1]'x.1.2) = ts.take k := by
  apply List.ext_getElem
  · rw [List.length_map, List.length_take, h.len]; omega
  · intro i h1 h2
    rw [List.getElem_map, List.getElem_take]
    rw [List.length_map] at h1
    have hi : (pre[i]).1.1 = i := by
      have := congrArg (fun l : List Nat => l[i]?) h
      simp only [List.getElem?_map, List.getElem?_eq_getElem h1, Option.map_some] at this
      rw [List.getElem?_range (by rw [← h.len]; exact h1)] at this
      exact Option.some.inj this
    congr 1
set_option maxRecDepth 100000 in
set_option maxHeartbeats 3200000 in
theorem flights_any (w : World) (O : Ow) (n fm : Nat) (F : DataW Value) (g : NC) (h : NetX w O n fm F g) (e : Nat) (he : g.ends = (e : Int)) (m : Int) (hm : (Lit.int .i64 m).wf = true) :
    Calls Try.prog 17 #[fptr n, .int .i64 m] w fun x w' => ∃ v, x = .returned (.tuple #[v, .bool true]) ∧ FlR w.heap.size w.heap.size w' v (if 0 < m ∧ m ≤ (flL g e (e * e)).length then (flL g e (e * e)).take m.toNat else flL g e (e * e)) ∧ Ext w w' := by
  obtain ⟨ts, hts⟩ : ∃ ts, flL g e (e * e) = ts := ⟨_, rfl⟩
  rw [hts]
  obtain ⟨rs, hrs⟩ : ∃ rs, (if 0 < m ∧ m ≤ (ts.length : Int) then ts.take m.toNat else ts) = rs := ⟨_, rfl⟩
  rw [hrs]
  have HR := Lib.hid hrs
  clear hrs
  have heb := h.endsb
  have hN : ts.length ≤ 800 := by
    have h1 := flV_le h he (e * e) (Nat.le_refl _)
    have hk25 : e * e ≤ 25 := Nat.le_trans (Nat.mul_le_mul (show e ≤ 5 by omega) (show e ≤ 5 by omega)) (by omega)
    rw [flV_len h he (e * e) (Nat.le_refl _)] at h1
    rw [← hts, flL_len]
    omega
  obtain ⟨w4, z, hz, hw4, s4, x4, b0, b1, b2, b3⟩ := Four w m
  refine calls_of_marks Try.func17 rfl ?_
  simp only [Try.ntmps17, List.size_toArray, List.length_cons, List.length_nil, Nat.reduceAdd, Nat.reduceSub, Array.replicate_succ, Array.replicate_zero, List.push_toArray, List.append_toArray, List.nil_append, List.cons_append]
  go_wp2_with fail
  clear hw4
  refine (allcN_any w4 O n fm F g (h.ext x4)).mono ?_
  rintro x w5 ⟨q, n', O', fm', F', rfl, bq, h5, -, hO', hq, hOq, hx5⟩
  have heq := run_eql_fn (w := w5) Try.underlying68 (.func 54) #[] #[fptr q]
  go_wp2_with fail
  have hx15 := x4.trans hx5
  have B0 := b0.ext hx5
  have B1 := b1.ext hx5
  have B2 := b2.ext hx5
  have B3 := b3.ext hx5
  have hs5 := hx5.size
  have hSb : ∀ b, (b = z + 1 ∨ b = z + 1 + 1 ∨ b = z + 1 + 1 + 1) → O' b = none ∧ b < w5.heap.size ∧ b ≠ q := fun b hb => ⟨hO' b (by omega), by omega, by omega⟩
  refine range_told (n := 2) (by omega) rfl (enters_of Try.func54 (by kernel_rfl) rfl)
    (allcT w5 O' n' fm' F' g h5 q bq e he (fun b => b = z + 1 ∨ b = z + 1 + 1 ∨ b = z + 1 + 1 + 1) hSb ?hS8 ts hts) (Ext.refl _) (fun _ => rfl) PT.trans ?hKb (fun B A A' x => PT.of_ext x)
    ?I ?Ix ?hI ?hIx ?hG ?h0 ?Ax ?hAx ?assign ?body ?done ?stop
  case I => exact fun pre W => Tu (fun b => b = z + 1 + 1 + 1) w5 W ∧ UpT pre pre.length ∧ (∀ k : Nat, 0 < k → k ≤ pre.length → (k : Int) ≠ m) ∧ ∃ v, Blk W (z + 1 + 1 + 1) 44 #[v] ∧ FlR w5.heap.size w5.heap.size W v (pre.map fun x => ts[x.1.1]'x.1.2)
  case Ix => exact fun c pre W => c = .ret ∧ Tu (fun b => b = z + 1 ∨ b = z + 1 + 1 ∨ b = z + 1 + 1 + 1) w5 W ∧ (UpT pre pre.length → (pre.length : Int) = m ∧ 0 < pre.length ∧ ∃ v, Blk W (z + 1) 44 #[v] ∧ Blk W (z + 1 + 1) 4 #[.bool true] ∧ FlR w5.heap.size w5.heap.size W v (pre.map fun x => ts[x.1.1]'x.1.2))
  case Ax => exact fun x a' A => ∃ r : Nat, w5.heap.size ≤ r ∧ Blk A r 51 #[.int .i64 (ts[x.1.1]'x.1.2).1, .int .i64 (ts[x.1.1]'x.1.2).2.1, .slice x.2.1 (ts[x.1.1]'x.1.2).2.2.length x.2.2] ∧ a' = { tmps := #[fptr n, .int .i64 m, undef, fptr z, fptr (z + 1), fptr (z + 1 + 1), fptr (z + 1 + 1 + 1), .func (.func 54) #[] #[fptr q], .int .i64 (x.1.1 : Int), fptr r, fptr n, .func (.func 54) #[] #[fptr q], .func (.func 54) #[] #[fptr q], .bool false, .func (.func 54) #[] #[fptr q], .int .i64 (x.1.1 : Int), fl (ts[x.1.1]'x.1.2).1 (ts[x.1.1]'x.1.2).2.1 x.2.1 (ts[x.1.1]'x.1.2).2.2.length x.2.2, undef, undef, undef, undef, undef, undef, undef, undef, undef, undef, undef, undef, undef, undef], defers := [] }
  case hS8 =>
    rintro b hb j x
    rcases hb with rfl | rfl | rfl
    · rw [B1.cell j]
      rcases j with _ | j <;> simp
    · rw [B2.cell j]
      rcases j with _ | j <;> simp
    · rw [B3.cell j]
      rcases j with _ | j <;> simp
  case hKb =>
    intro B A l o o' ho hc hl hB
    have g' := grownBy_putObj' A l o'
    refine ⟨g'.size, fun b x hb hn hx => ?_⟩
    have hne : b ≠ l := by
      rintro rfl
      rw [ho] at hb
      cases hb
      rcases hx with hx | hx | hx
      · have := h5.inn b hx; omega
      · rw [hc] at hx; cases hx.1
      · omega
    exact (g'.block b (Array.getElem?_eq_some_iff.1 hb).1 (by simp; exact hne)).trans hb
  case hI =>
    rintro pre A B ⟨q1, q2, q3, v, q4, q5⟩ k
    exact ⟨q1.kc k (Nat.le_refl _), q2, q3, v, q4.kc k, q5.kc k⟩
  case hIx =>
    rintro c pre A B ⟨q1, q2, q3⟩ k
    refine ⟨q1, q2.kc k (Nat.le_refl _), fun hu => ?_⟩
    obtain ⟨p1, p2, v, p3, p4, p5⟩ := q3 hu
    exact ⟨p1, p2, v, p3.kc k, p4.kc k, p5.kc k⟩
  case hG =>
    rintro x A B ⟨q1, q2, q3, q4, q5⟩ k
    exact ⟨q1.kc k, q2, q3, q4, q5.kc k⟩
  case h0 =>
    exact ⟨Tu.refl _ _, rfl, fun k h1 h2 => (by simp at h2; omega), _, B3, [], rfl, World.ownsRow_nil _ _ _ _, fun i t p h1 => by simp at h1⟩
  case hAx =>
    rintro x a' A B ⟨r, q1, q2, q3⟩ k
    exact ⟨r, q1, q2.kc k, q3⟩
  case assign =>
    intro l' pre x A K hi hg hK
    obtain ⟨t, ht⟩ : ∃ t, ts[x.1.1]'x.1.2 = t := ⟨_, rfl⟩
    have hxA := (Ext.refl A).alloc (.cells #[.int .i64 t.1, .int .i64 t.2.1, .slice x.2.1 t.2.2.length x.2.2] 51)
    have bA := Blk.new A 51 #[.int .i64 t.1, .int .i64 t.2.1, .slice x.2.1 t.2.2.length x.2.2]
    have hsA := hi.1.size
    simp only [encT, ht, List.zip_toArray, List.zip_cons_cons, List.zip_nil_right, List.foldl_toArray, List.foldl_cons, List.foldl_nil]
    gi_wp2
    exact hK _ _ hxA ⟨A.heap.size, by omega, by rw [ht]; exact bA, by rw [ht]⟩
  case body =>
    rintro B l' pre x a' A hB1 hB2 ⟨T, hU, hnm, v, bv, hF⟩ hgx ⟨r, hr, br, rfl⟩ hlt
    obtain ⟨t, ht⟩ : ∃ t, ts[x.1.1]'x.1.2 = t := ⟨_, rfl⟩
    have hTB : TB w5.heap.size A t x.2 := by rw [← ht]; exact hgx
    simp only [ht] at br ⊢
    have hsA := T.size
    obtain ⟨ps, f1, f2, f3⟩ := hF
    obtain ⟨Av, cv, rfl⟩ := own_slice f2
    have c3 := bv.cell 0
    obtain ⟨len, hlen⟩ : ∃ len, pre.length = len := ⟨_, rfl⟩
    have hml : (pre.map fun x => ts[x.1.1]'x.1.2).length = len := by rw [List.length_map, hlen]
    rw [hml] at c3 f2 bv
    have cz := (B0.tu T (by omega)).cell 0
    obtain ⟨xi, hxi⟩ : ∃ xi : Int, (x.1.1 : Int) = xi := ⟨_, rfl⟩
    simp only [hxi]
    have HX := Lib.hid (And.intro hxi hlen)
    clear hxi hlen
    by_cases hne : xi = (len : Int)
    · subst hne
      have d0 := br.cell 0
      have d1 := br.cell 1
      have d2 := br.cell 2
      obtain ⟨i0, hi, hz0, hz1, hz2⟩ := info_parts info_fl
      have hle := hlt
      have hbs := Blk.new A 51 #[.int .i64 t.1, .int .i64 t.2.1, .slice x.2.1 t.2.2.length x.2.2]
      have hxs := (Ext.refl A).alloc (.cells #[.int .i64 t.1, .int .i64 t.2.1, .slice x.2.1 t.2.2.length x.2.2] 51)
      have f2s := f2.alloc (.cells #[.int .i64 t.1, .int .i64 t.2.1, .slice x.2.1 t.2.2.length x.2.2] 51)
      have hl8 : len < 800 := by have := HX.out.2; omega
      gi_wp2_with (gi_at_builtin; refine wpListIn_append_own _ rfl _ _ 44 rfl w5.heap.size 51 i0 (.agg #[.int .i64 0, .int .i64 0, .slice none 0 0]) 3 40 Try.underlying44 hi hz0 hz1 hz2 rfl (by decide) (.slice Av len cv) len _ rfl f2s ⟨A.heap.size, 0, none⟩ 1 1 [.int .i64 t.1, .int .i64 t.2.1, .slice x.2.1 t.2.2.length x.2.2] rfl rfl ?c1 ?c2 ?c3 ?c4 ?c5 ?_)
      case c1 =>
        intro j u hu
        have hadd : (⟨A.heap.size, 0, none⟩ : Addr).add j = ⟨A.heap.size, j, none⟩ := by unfold Addr.add; split <;> simp_all
        rw [hadd, hbs.cell j]
        simpa using hu
      case c2 =>
        intro u hu
        simp at hu
        rcases hu with rfl | rfl | rfl <;> rfl
      case c3 => unfold maxLen; omega
      case c4 => omega
      case c5 => have := hxs.size; omega
      intro v6 w6 f6 g6 hnil6
      obtain ⟨A6, c6, rfl⟩ := own_slice f6
      have hgb : ∀ rr, (Value.slice Av len cv).ownBlock = some rr → w5.heap.size ≤ rr ∧ ∃ cs ty z', (A.alloc (.cells #[.int .i64 t.1, .int .i64 t.2.1, .slice x.2.1 t.2.2.length x.2.2] 51)).heap[rr]? = some (.cells cs ty z') ∧ ty ≠ 5 := by
        intro rr err
        refine ⟨(f2s.lt rr err).1, ?_⟩
        rcases f2s.2 with ⟨p1, _⟩ | ⟨gb, cap, cur, p1, _, p3, _⟩
        · rw [p1] at err; cases err
        · rw [p1] at err
          cases err
          exact ⟨_, _, _, p3, by decide⟩
      have Tg : Tu (fun k => (Value.slice Av len cv).ownBlock = some k) (A.alloc (.cells #[.int .i64 t.1, .int .i64 t.2.1, .slice x.2.1 t.2.2.length x.2.2] 51)) w6 := Tu.of_grown g6 (fun k e => e)
      have bv6 := (bv.ext hxs).tu Tg (fun e => by have := (hgb _ e).1; omega)
      have bz6 := ((B0.tu T (by omega)).ext hxs).tu Tg (fun e => by have := (hgb _ e).1; omega)
      have PA : PT (Mo O') (fun b => b = z + 1 ∨ b = z + 1 + 1 ∨ b = z + 1 + 1 + 1) w5.heap.size B A w6 := by
        refine ⟨Nat.le_trans hxs.size Tg.size, fun b o h1 h2 h3 => (Tg.blk b (Nat.lt_of_lt_of_le (Array.getElem?_eq_some_iff.1 h1).1 hxs.size) (fun e => ?_)).trans ((hxs.blk (Array.getElem?_eq_some_iff.1 h1).1).trans h1)⟩
        rcases f2s.2 with ⟨p1, _⟩ | ⟨gb, cap, cur, p1, p2, p3, _⟩
        · rw [p1] at e; cases e
        · have e' := e
          rw [p1] at e'
          have hbb : b = gb := by simpa [Value.ownBlock] using e'.symm
          subst hbb
          have h1' := (hxs.blk (Array.getElem?_eq_some_iff.1 h1).1).trans h1
          rw [p3] at h1'
          cases h1'
          rcases h3 with h3 | h3 | h3
          · have := h5.inn _ h3; omega
          · exact h3.2 ⟨p2, _, _, rfl⟩
          · cases h3.2
      have KA : KeepsFrom w5.heap.size A w6 := ⟨PA.1, fun b o hb h1 hc => by
        have h1' := (hxs.blk (Array.getElem?_eq_some_iff.1 h1).1).trans h1
        refine (Tg.blk b (Array.getElem?_eq_some_iff.1 h1').1 (fun e => ?_)).trans h1'
        obtain ⟨_, cs, ty, z', p1, _⟩ := hgb b e
        rw [h1'] at p1
        cases p1
        cases hc⟩
      have tb6 : ∀ (tt : Int × Int × Row) (p : Option Addr × Nat), TB w5.heap.size A tt p → TB w5.heap.size w6 tt p := fun tt p hh => (hh.kc (Kc.of_ext (lo := 0) hxs)).grown g6 (fun rr e => (hgb rr e).2)
      have sA := hxs.size
      have s6 := Tg.size
      generalize A.alloc (.cells #[.int .i64 t.1, .int .i64 t.2.1, .slice x.2.1 t.2.2.length x.2.2] 51) = As at *
      have c6' := bv6.cell 0
      have f6' := bv6.free 0
      have T9 : Tu (fun b => b = z + 1 + 1 + 1) w6 (w6.setCell ⟨z + 1 + 1 + 1, 0, none⟩ (.slice A6 (len + 1) c6)) := Tu.of_grown (setCell_grownBy _ _ _) (by rintro k e; cases e; rfl)
      have bv7 := bv6.set_ 0 (.slice A6 (len + 1) c6)
      have tb7 : ∀ (tt : Int × Int × Row) (p : Option Addr × Nat), TB w5.heap.size A tt p → TB w5.heap.size (w6.setCell ⟨z + 1 + 1 + 1, 0, none⟩ (.slice A6 (len + 1) c6)) tt p := fun tt p hh => (tb6 tt p hh).grown (setCell_grownBy _ _ _) (by rintro rr e; cases e; exact ⟨_, _, _, bv6, by decide⟩)
      have bz7 := bz6.tu T9 (by omega)
      have row7 := ownsRow_blk f6 (w' := w6.setCell ⟨z + 1 + 1 + 1, 0, none⟩ (.slice A6 (len + 1) c6)) (fun k e => T9.blk k (f6.lt k e).2 (fun e' => by have := (f6.lt k e).1; omega))
      have c7 := bv7.cell 0
      have cz7 := bz7.cell 0
      simp at c7
      have hlenp : pre.length = len := HX.out.2
      have hxl : x.1.1 = len := by have := HX.out.1; omega
      have hU' : UpT (pre ++ [x]) (pre ++ [x]).length := by
        have hU2 := hU
        rw [hlenp] at hU2
        rw [UpT, List.map_append, List.length_append, hlenp, show pre.map (fun x => x.1.1) = List.range len from hU2]
        simp [List.range_succ, hxl]
      have hmap : ((pre ++ [x]).map fun x => ts[x.1.1]'x.1.2) = (pre.map fun x => ts[x.1.1]'x.1.2) ++ [t] := by
        rw [List.map_append, List.map_cons, List.map_nil, ht]
      have hF7 : FlR w5.heap.size w5.heap.size (w6.setCell ⟨z + 1 + 1 + 1, 0, none⟩ (.slice A6 (len + 1) c6)) (.slice A6 (len + 1) c6) ((pre ++ [x]).map fun x => ts[x.1.1]'x.1.2) := by
        rw [hmap]
        refine ⟨ps ++ [x.2], by rw [List.length_append, List.length_append, f1]; rfl, ?_, fun i tt p q1 q2 => ?_⟩
        · rw [flC_snoc _ _ _ _ f1, List.length_append, hml]
          exact row7
        · by_cases hil : i < len
          · rw [List.getElem?_append_left (by rw [hml]; exact hil)] at q1
            rw [List.getElem?_append_left (by rw [f1, hml]; exact hil)] at q2
            exact tb7 tt p (f3 i tt p q1 q2)
          · rw [List.getElem?_append_right (by rw [hml]; omega), hml] at q1
            rw [List.getElem?_append_right (by rw [f1, hml]; omega), f1, hml] at q2
            have hi0 : i - len = 0 := by
              have := (List.getElem?_eq_some_iff.1 q1).1
              simp at this
              omega
            rw [hi0] at q1 q2
            simp at q1 q2
            subst q1 q2
            exact tb7 _ _ hTB
      have T07 : Tu (fun b => b = z + 1 + 1 + 1) w5 (w6.setCell ⟨z + 1 + 1 + 1, 0, none⟩ (.slice A6 (len + 1) c6)) := ((T.trans (Tu.of_ext hxs)).then_ Tg (fun k hk e => by have := (hgb k e).1; omega)).trans T9
      have K7 : KeepsFrom w5.heap.size w6 (w6.setCell ⟨z + 1 + 1 + 1, 0, none⟩ (.slice A6 (len + 1) c6)) := KeepsFrom.of_tuB T9 (fun b hb => by omega)
      have P7 : PT (Mo O') (fun b => b = z + 1 ∨ b = z + 1 + 1 ∨ b = z + 1 + 1 + 1) w5.heap.size B w6 (w6.setCell ⟨z + 1 + 1 + 1, 0, none⟩ (.slice A6 (len + 1) c6)) := PT.of_tu (T9.mono (fun b e => .inr (.inr e)))
      have bw7 := bv7
      have C17 := B1.tu T07 (by omega)
      have C27 := B2.tu T07 (by omega)
      have hv6 : ∀ y : World, (Value.slice A6 (len + 1) c6).ownBlock = (Value.slice A6 (len + 1) c6).ownBlock := fun _ => rfl
      have HF := Lib.hid (And.intro hF7 (And.intro hU' (And.intro T07 (And.intro K7 (And.intro P7 (And.intro PA (And.intro KA hnm)))))))
      clear hF7 hU' T07 K7 P7 PA KA hnm hmap tb6 tb7 hv6
      by_cases hm2 : (len : Int) + 1 = m
      · have e1 := C17.cell 0
        have e2 := C17.free 0
        generalize hw7 : w6.setCell ⟨z + 1 + 1 + 1, 0, none⟩ (.slice A6 (len + 1) c6) = w7 at *
        have T8' : Tu (fun b => b = z + 1) w7 (w7.setCell ⟨z + 1, 0, none⟩ (.slice A6 (len + 1) c6)) := Tu.of_grown (setCell_grownBy _ _ _) (by rintro k e; cases e; rfl)
        have D1 := C17.set_ 0 (.slice A6 (len + 1) c6)
        have D2 := C27.tu T8' (by omega)
        have e3 := D2.cell 0
        have e4 := D2.free 0
        have T9' : Tu (fun b => b = z + 1 + 1) (w7.setCell ⟨z + 1, 0, none⟩ (.slice A6 (len + 1) c6)) ((w7.setCell ⟨z + 1, 0, none⟩ (.slice A6 (len + 1) c6)).setCell ⟨z + 1 + 1, 0, none⟩ (.bool true)) := Tu.of_grown (setCell_grownBy _ _ _) (by rintro k e; cases e; rfl)
        have D1' := D1.tu T9' (by omega)
        have D2' := D2.set_ 0 (.bool true)
        gi_wp2_with fail
        obtain ⟨hF7, hU', T07, K7, P7, PA, KA, hnm⟩ := HF.out
        have hS3 : ∀ b, (b = z + 1 ∨ b = z + 1 + 1) → b < w5.heap.size := fun b hb => by omega
        have T89 := (T8'.mono (S' := fun b => b = z + 1 ∨ b = z + 1 + 1) (fun _ e => .inl e)).trans (T9'.mono (S' := fun b => b = z + 1 ∨ b = z + 1 + 1) (fun _ e => .inr e))
        have K9 := KeepsFrom.of_tuB T89 hS3
        refine ⟨⟨Nat.le_trans KA.size (Nat.le_trans K7.size K9.size), fun k o h1 h2 h3 => K9.same k o h1 (K7.same k o h1 (KA.same k o h1 h2 h3) h3) h3⟩, (PA.trans P7).trans (PT.of_tu (T89.mono (fun b e => by rcases e with e | e; exact .inl e; exact .inr (.inl e)))), rfl, (T07.mono (fun b e => .inr (.inr e))).trans (T89.mono (fun b e => by rcases e with e | e; exact .inl e; exact .inr (.inl e))), fun _ => ⟨?_, by simp, .slice A6 (len + 1) c6, ?_, D2', (hF7.set C17 (by decide) (by omega)).set D2 (by decide) (by omega)⟩⟩
        · rw [List.length_append, hlenp]
          simp
          exact hm2
        · simpa using D1'
      · have hme : ((len : Int) + 1 == m) = false := by simpa using hm2
        have HM := Lib.hid hm2
        clear hm2
        gi_wp2_with fail
        obtain ⟨hF7, hU', T07, K7, P7, PA, KA, hnm⟩ := HF.out
        refine ⟨⟨Nat.le_trans KA.size K7.size, fun k o h1 h2 h3 => K7.same k o h1 (KA.same k o h1 h2 h3) h3⟩, PA.trans P7, T07, hU', fun k h1 h2 => ?_, _, bv7, hF7⟩
        rw [List.length_append, hlenp] at h2
        by_cases hk : k ≤ len
        · exact hnm k h1 (by omega)
        · have : k = len + 1 := by simp at h2; omega
          have hm3 := HM.out
          rw [this]
          intro e
          exact hm3 (by rw [← e]; simp)
    · have hbe : (xi == (len : Int)) = false := by simpa using hne
      have hbn : (xi != (len : Int)) = true := by simpa using hne
      have HN := Lib.hid hne
      clear hne
      have C1 := B1.tu T (by omega)
      have C2 := B2.tu T (by omega)
      have e1 := C1.cell 0
      have e2 := C1.free 0
      have T6 : Tu (fun b => b = z + 1 ∨ b = z + 1 + 1 ∨ b = z + 1 + 1 + 1) A (A.setCell ⟨z + 1, 0, none⟩ (.slice none 0 0)) := Tu.of_grown (setCell_grownBy _ _ _) (by rintro k e; cases e; exact .inl rfl)
      have T6' : Tu (fun b => b = z + 1) A (A.setCell ⟨z + 1, 0, none⟩ (.slice none 0 0)) := Tu.of_grown (setCell_grownBy _ _ _) (by rintro k e; cases e; rfl)
      have D2 := C2.tu T6' (by omega)
      have e3 := D2.cell 0
      have e4 := D2.free 0
      have T7 : Tu (fun b => b = z + 1 ∨ b = z + 1 + 1 ∨ b = z + 1 + 1 + 1) (A.setCell ⟨z + 1, 0, none⟩ (.slice none 0 0)) ((A.setCell ⟨z + 1, 0, none⟩ (.slice none 0 0)).setCell ⟨z + 1 + 1, 0, none⟩ (.bool false)) := Tu.of_grown (setCell_grownBy _ _ _) (by rintro k e; cases e; exact .inr (.inl rfl))
      gi_wp2_with fail
      have T8 := T6.trans T7
      refine ⟨KeepsFrom.of_tuB T8 (fun b hb => by omega), PT.of_tu T8, rfl, (T.mono (fun b e => .inr (.inr e))).trans T8, fun hu => ?_⟩
      exfalso
      have hu' : (pre ++ [x]).map (fun x => x.1.1) = List.range (pre.length + 1) := by
        have := hu
        rw [List.length_append] at this
        exact this
      rw [List.map_append, List.range_succ] at hu'
      have := (List.append_inj' hu' rfl).2
      simp at this
      refine HN.out ?_
      rw [← HX.out.1, ← HX.out.2, this]
  case done =>
    rintro D xs W hD hup ⟨T, hU, hnm, v, bv, hF⟩ hK
    have hl := hup.len
    rw [hup.take (Nat.le_refl _), List.take_length] at hF
    obtain ⟨Av, cv, rfl⟩ : ∃ Av cv, v = .slice Av ts.length cv := by
      obtain ⟨ps, p1, p2, p3⟩ := hF
      exact own_slice p2
    have c3 := bv.cell 0
    have C1 := B1.tu T (by omega)
    have C2 := B2.tu T (by omega)
    have f1 := C1.free 0
    have c1 := C1.cell 0
    have T8' : Tu (fun b => b = z + 1) W (W.setCell ⟨z + 1, 0, none⟩ (.slice Av ts.length cv)) := Tu.of_grown (setCell_grownBy _ _ _) (by rintro k e; cases e; rfl)
    have D1 := C1.set_ 0 (.slice Av ts.length cv)
    have D2 := C2.tu T8' (by omega)
    have e3 := D2.cell 0
    have e4 := D2.free 0
    have T9' : Tu (fun b => b = z + 1 + 1) (W.setCell ⟨z + 1, 0, none⟩ (.slice Av ts.length cv)) ((W.setCell ⟨z + 1, 0, none⟩ (.slice Av ts.length cv)).setCell ⟨z + 1 + 1, 0, none⟩ (.bool true)) := Tu.of_grown (setCell_grownBy _ _ _) (by rintro k e; cases e; rfl)
    have D1' := D1.tu T9' (by omega)
    have D2' := D2.set_ 0 (.bool true)
    have hz5 := hx15.size
    have hF9 := (hF.set (u := .slice Av ts.length cv) C1 (by decide) (by omega)).set (u := .bool true) D2 (by decide) (by omega)
    have hKa := (T8'.blk D (Array.getElem?_eq_some_iff.1 hK).1 (by omega)).trans hK
    have hKb := (T9'.blk D (Array.getElem?_eq_some_iff.1 hKa).1 (by omega)).trans hKa
    have hx9 := T9'.ext_of (T8'.ext_of (T.ext_of hx15 (fun k e => by omega)) (fun k e => by omega)) (fun k e => by omega)
    go_wp2_with fail
    generalize (W.setCell ⟨z + 1, 0, none⟩ (.slice Av ts.length cv)).setCell ⟨z + 1 + 1, 0, none⟩ (.bool true) = W9 at *
    refine ⟨by simp, .inl ⟨_, _, rfl, run_takeDeferred hKb, ?_⟩⟩
    have k8 : Kc w5.heap.size W9 (W9.putObj D (.deferred none)) := Kc.of_put hKb rfl hD
    have t8 : Tu (fun b => b = D) W9 (W9.putObj D (.deferred none)) := Tu.of_grown (grownBy_putObj' W9 D (.deferred none)) (by rintro k e; cases e; rfl)
    have hfin : (if 0 < m ∧ m ≤ (ts.length : Int) then ts.take m.toNat else ts) = ts := by
      rw [if_neg]
      rintro ⟨q1, q2⟩
      exact hnm m.toNat (by omega) (by omega) (by omega)
    rw [← HR.out, hfin]
    refine ⟨_, results_fls rfl _ _ (z + 1) (z + 1 + 1) rfl rfl ((by simpa using D1' : Blk W9 (z + 1) 44 #[.slice Av ts.length cv]).kc k8) ((by simpa using D2' : Blk W9 (z + 1 + 1) 4 #[.bool true]).kc k8), .slice Av ts.length cv, rfl, ?_, t8.ext_of hx9 (fun k e => by omega)⟩
    exact (hF9.kc k8).low ⟨by omega, by omega⟩
  case stop =>
    rintro D c xs W hD ⟨k, hk, hup⟩ ⟨rfl, T, hc⟩ hK
    obtain ⟨hm1, hm2, v, D1, D2, hF⟩ := hc (by rw [hup.len]; exact hup)
    rw [hup.take hk] at hF
    rw [hup.len] at hm1 hm2
    go_wp2_with fail
    refine ⟨by simp, .inl ⟨_, _, rfl, run_takeDeferred hK, ?_⟩⟩
    have k8 : Kc w5.heap.size W (W.putObj D (.deferred none)) := Kc.of_put hK rfl hD
    have t8 : Tu (fun b => b = D) W (W.putObj D (.deferred none)) := Tu.of_grown (grownBy_putObj' W D (.deferred none)) (by rintro k e; cases e; rfl)
    have hfin : (if 0 < m ∧ m ≤ (ts.length : Int) then ts.take m.toNat else ts) = ts.take k := by
      rw [if_pos (by omega), show m.toNat = k by omega]
    rw [← HR.out, hfin]
    have hz5 := hx15.size
    refine ⟨_, results_fls rfl _ _ (z + 1) (z + 1 + 1) rfl rfl (D1.kc k8) (D2.kc k8), v, rfl, ?_, t8.ext_of (T.ext_of hx15 (fun k e => by omega)) (fun k e => by omega)⟩
    exact (hF.kc k8).low ⟨by omega, by omega⟩
