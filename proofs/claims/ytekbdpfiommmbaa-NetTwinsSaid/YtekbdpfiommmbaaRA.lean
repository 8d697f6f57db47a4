/- The document's net in memory; two, Line. Conditions: the net is in memory as told. The document's Flights. Conditions: the net is in memory as told. The document's Send: a line of its net, set anew. Conditions: the net is in memory as told. The document's At, Double, Line's end. Conditions: the net is in memory as told. The document's Double. Conditions: the net is in memory as told. The document's Take. Conditions: the net is in memory as told. The document's Clear; SameAll. Conditions: the net is in memory as told. -/
import Derived.Test.YtekbdpfiommmbaaNapp
import Derived.Test.YtekbdpfiommmbaaNst
import Derived.Test.YtekbdpfiommmbaaFlow
import Derived.Test.YtekbdpfiommmbaaTail
import Derived.Test.YtekbdpfiommmbaaNperm
import Derived.Test.YtekbdpfiommmbaaNclear
namespace Go.Proofs.Ytekbdpfiommmbaa
section partRnet
open Go.RowKit Go.Maps
set_option linter.unusedVariables false
set_option linter.unusedSimpArgs false
attribute [local go_sem] Oper.semAt_some

/-- a line of the document's net -/
def LineR (w : World) (O : Ow) (v : Value) (rows : List Row) : Prop :=
  ∃ A c cs, v = .slice A rows.length c ∧ rows.length ≤ c ∧ RowsAt w O cs rows ∧
    (rows.length = 0 ∨ ∃ b off, A = some ⟨b, off, none⟩ ∧ O b = none ∧ (∃ cu z, w.heap[b]? = some (.cells cu 38 z)) ∧ ∀ (j : Nat) (u : Value), cs[j]? = some u → w.cell? ⟨b, off + j, none⟩ = some u)
def RefX (w : World) (O : Ow) (q : Nat) (g : NC) : Prop :=
  O q = none ∧ (∃ vs : List Value, vs.length = 36 ∧ Blk w q 35 (vs ++ [Value.int .i64 g.ends, Value.int .i64 g.lost]).toArray ∧ ∀ a b : Nat, a < 6 → b < 6 → ∃ v, vs[a * 6 + b]? = some v ∧ LineR w O v (g.L a b)) ∧
    (1 ≤ g.ends ∧ g.ends ≤ 5) ∧ (Lit.int .i64 g.lost).wf = true ∧ (∀ a b, ¬ g.ok a b → g.L a b = []) ∧ (∀ a b, (g.L a b).length ≤ 32)
section
variable {w w' : World} {O O' : Ow} {q : Nat} {g : NC} {v : Value} {rows : List Row}
theorem LineR.keep (h : LineR w O v rows) (hs : w.heap.size ≤ w'.heap.size) (hk : ∀ k, k < w.heap.size → O k = none → w'.heap[k]? = w.heap[k]? ∧ O' k = none) : LineR w' O' v rows := by
  obtain ⟨A, c, cs, h1, h2, h3, h4⟩ := h
  refine ⟨A, c, cs, h1, h2, h3.keep hs hk, h4.imp id ?_⟩
  rintro ⟨b, off, q1, q2, ⟨cu, z, q3⟩, q4⟩
  obtain ⟨k1, k2⟩ := hk b (Array.getElem?_eq_some_iff.1 q3).1 q2
  refine ⟨b, off, q1, k2, ⟨cu, z, k1.trans q3⟩, fun j u hu => ?_⟩
  rw [World.cell?_of_block (w := w) k1]
  exact q4 j u hu
theorem LineR.off {S : Nat → Prop} (h : LineR w O v rows) (T : Tu S w w') (hS : ∀ k, S k → ∀ cu z, w.heap[k]? ≠ some (.cells cu 5 z) ∧ w.heap[k]? ≠ some (.cells cu 38 z)) : LineR w' O v rows := by
  obtain ⟨A, c, cs, h1, h2, h3, h4⟩ := h
  refine ⟨A, c, cs, h1, h2, h3.off T (fun k hk cu z => (hS k hk cu z).1), h4.imp id ?_⟩
  rintro ⟨b, off, q1, q2, ⟨cu, z, q3⟩, q4⟩
  have k1 := T.blk b (Array.getElem?_eq_some_iff.1 q3).1 (fun e => (hS b e cu z).2 q3)
  refine ⟨b, off, q1, q2, ⟨cu, z, k1.trans q3⟩, fun j u hu => ?_⟩
  rw [World.cell?_of_block (w := w) k1]
  exact q4 j u hu
theorem RefX.keep (h : RefX w O q g) (hs : w.heap.size ≤ w'.heap.size) (hk : ∀ k, k < w.heap.size → O k = none → w'.heap[k]? = w.heap[k]? ∧ O' k = none) : RefX w' O' q g := by
  obtain ⟨h1, ⟨vs, h2, h3, h4⟩, h5⟩ := h
  obtain ⟨k1, k2⟩ := hk q h3.lt h1
  exact ⟨k2, ⟨vs, h2, k1.trans h3, fun a b ha hb => by
    obtain ⟨v, q1, q2⟩ := h4 a b ha hb
    exact ⟨v, q1, q2.keep hs hk⟩⟩, h5⟩
theorem RefX.ext (h : RefX w O q g) (hx : Ext w w') : RefX w' O q g := h.keep hx.size (fun k hk e => ⟨hx.blk hk, e⟩)
theorem RefX.endsb (h : RefX w O q g) : 1 ≤ g.ends ∧ g.ends ≤ 5 := h.2.2.1
theorem RefX.ends (h : RefX w O q g) : w.cell? ⟨q, 36, none⟩ = some (.int .i64 g.ends) := by
  obtain ⟨h1, ⟨vs, h2, h3, h4⟩, h5⟩ := h
  rw [h3.cell 36]
  simp [h2]
theorem RefX.lost (h : RefX w O q g) : w.cell? ⟨q, 37, none⟩ = some (.int .i64 g.lost) := by
  obtain ⟨h1, ⟨vs, h2, h3, h4⟩, h5⟩ := h
  rw [h3.cell 37]
  simp [h2]
theorem RefX.line (h : RefX w O q g) {a b : Nat} (ha : a < 6) (hb : b < 6) : ∃ v, w.cell? ⟨q, a * 6 + b, none⟩ = some v ∧ LineR w O v (g.L a b) := by
  obtain ⟨h1, ⟨vs, h2, h3, h4⟩, h5⟩ := h
  obtain ⟨v, q1, q2⟩ := h4 a b ha hb
  refine ⟨v, ?_, q2⟩
  rw [h3.cell (a * 6 + b)]
  have : a * 6 + b < vs.length := by omega
  simp [List.getElem?_append_left this, q1]
end
set_option maxRecDepth 100000 in
set_option maxHeartbeats 1600000 in
theorem two_any (w : World) (O : Ow) (q : Nat) (g : NC) (h : RefX w O q g) (a b : Int) :
    Calls Try.prog 52 #[fptr q, .int .i64 a, .int .i64 b] w fun e w' => e = .returned (.bool (decide (g.ok a b))) ∧ w = w' := by
  have c36 := h.ends
  obtain ⟨r, hr⟩ : ∃ r, decide (g.ok a b) = r := ⟨_, rfl⟩
  rw [hr]
  have HR := Lib.hid hr
  clear hr
  go_enter Try.func52, Try.ntmps52
  go_upto_region 1 with fail
  have key : ∀ z : Bool, z = (decide (1 ≤ a) && (decide (1 ≤ b) && (decide (a ≤ g.ends) && (decide (b ≤ g.ends) && (a != b))))) → z = r := by
    rintro z rfl
    rw [← HR.out]
    unfold NC.ok
    by_cases h1 : 1 ≤ a <;> by_cases h2 : 1 ≤ b <;> by_cases h3 : a ≤ g.ends <;> by_cases h4 : b ≤ g.ends <;> by_cases h5 : a = b <;> simp [h1, h2, h3, h4, h5]
  obtain ⟨p1, q1⟩ : ∃ p, decide (1 ≤ a) = p := ⟨_, rfl⟩
  obtain ⟨p2, q2⟩ : ∃ p, decide (1 ≤ b) = p := ⟨_, rfl⟩
  obtain ⟨p3, q3⟩ : ∃ p, decide (a ≤ g.ends) = p := ⟨_, rfl⟩
  obtain ⟨p4, q4⟩ : ∃ p, decide (b ≤ g.ends) = p := ⟨_, rfl⟩
  rw [q1, q2, q3, q4] at key
  have KEY := Lib.hid key
  clear key h
  cases p1 with
  | false =>
    go_wp2_with fail
    go_ret
    have := KEY.out false (by simp)
    exact ⟨by rw [← this]; rfl, rfl⟩
  | true =>
    cases p2 with
    | false =>
      go_wp2_with fail
      go_ret
      have := KEY.out false (by simp)
      exact ⟨by rw [← this]; rfl, rfl⟩
    | true =>
      cases p3 with
      | false =>
        go_wp2_with fail
        go_ret
        have := KEY.out false (by simp)
        exact ⟨by rw [← this]; rfl, rfl⟩
      | true =>
        cases p4 with
        | false =>
          go_wp2_with fail
          go_ret
          have := KEY.out false (by simp)
          exact ⟨by rw [← this]; rfl, rfl⟩
        | true =>
          go_wp2_with fail
          go_ret
          have := KEY.out (a != b) (by simp)
          exact ⟨by rw [← this]; rfl, rfl⟩
set_option maxRecDepth 100000 in
set_option maxHeartbeats 1600000 in
theorem rline_any (w : World) (O : Ow) (q : Nat) (g : NC) (h : RefX w O q g) (a b : Int) :
    Calls Try.prog 38 #[fptr q, .int .i64 a, .int .i64 b] w fun e w' => e = .returned (.int .i64 ((g.L a b).length : Nat)) ∧ w = w' := by
  have heb := h.endsb
  have h0 : ¬ g.ok a b → g.L a b = [] := h.2.2.2.2.1 a b
  by_cases hok : g.ok a b
  · obtain ⟨k1, k2, k3, k4, k5⟩ := id hok
    obtain ⟨x, rfl⟩ : ∃ x : Nat, a = x := ⟨a.toNat, by omega⟩
    obtain ⟨y, rfl⟩ : ∃ y : Nat, b = y := ⟨b.toNat, by omega⟩
    obtain ⟨v, hv, A, c, cs, rfl, _, _, _⟩ := h.line (a := x) (b := y) (by omega) (by omega)
    have e1 : x < 6 := by omega
    have e2 : y < 6 := by omega
    go_enter Try.func38, Try.ntmps38
    go_wp2_with fail
    refine (two_any w O q g h x y).mono ?_
    rintro e w1 ⟨rfl, rfl⟩
    rw [decide_eq_true hok]
    go_wp2_with fail
    go_ret
    exact ⟨rfl, rfl⟩
  · rw [h0 hok]
    go_enter Try.func38, Try.ntmps38
    go_wp2_with fail
    refine (two_any w O q g h a b).mono ?_
    rintro e w1 ⟨rfl, rfl⟩
    rw [decide_eq_false hok]
    go_wp2_with fail
    go_ret
    exact ⟨rfl, rfl⟩
end partRnet
section partRflt
open Go.RowKit Go.Maps
set_option linter.unusedVariables false
set_option linter.unusedSimpArgs false
attribute [local go_sem] Oper.semAt_some

/-- a row of flights whose bytes are nobody's -/
def FlW (w : World) (O : Ow) (base : Nat) (v : Value) (ts : List (Int × Int × Row)) (ps : List (Option Addr × Nat)) : Prop :=
  ps.length = ts.length ∧ w.ownsRow base 51 3 v ts.length (flC ts ps) ∧ ∀ (i : Nat) (t : Int × Int × Row) (p : Option Addr × Nat), ts[i]? = some t → ps[i]? = some p → Rd w 0 p.1 t.2.2.length t.2.2 ∧ t.2.2.length ≤ 1048576 ∧ BO w O p.1 t.2.2.length
theorem FlW.bytes {w w' : World} {O : Ow} {t : Int × Int × Row} {p : Option Addr × Nat} {r : Option Nat} (h : Rd w 0 p.1 t.2.2.length t.2.2 ∧ t.2.2.length ≤ 1048576 ∧ BO w O p.1 t.2.2.length) (g : w.grownBy w' r) (hr : ∀ k, r = some k → ∀ cu z, w.heap[k]? ≠ some (.cells cu 5 z)) : Rd w' 0 p.1 t.2.2.length t.2.2 ∧ t.2.2.length ≤ 1048576 ∧ BO w' O p.1 t.2.2.length := by
  obtain ⟨h1, h2, h3⟩ := h
  rcases Nat.eq_zero_or_pos t.2.2.length with h0 | h0
  · exact ⟨⟨h1.1, .inl h0⟩, h2, fun x e hp => by omega⟩
  · obtain ⟨b, off, q1, q2, q3, q4⟩ := h1.pos h0
    obtain ⟨k1, cu, z, k2⟩ := h3 _ q1 h0
    have kb := g.block b q3 (fun e => hr b e.symm cu z k2)
    refine ⟨⟨h1.1, .inr ⟨b, off, q1, q2, by have := g.size; omega, fun i hi => ?_⟩⟩, h2, fun x e hp => ?_⟩
    · rw [World.cell?_of_block (w := w) kb]
      exact q4 i hi
    · rw [q1] at e
      cases e
      exact ⟨k1, cu, z, kb.trans k2⟩
theorem row_ty {w : World} {base : Nat} {v : Value} {n : Nat} {xs : List Value} {e t : TypeId} {m : Nat} (h : w.ownsRow base e m v n xs) (hne : e ≠ t) : ∀ k, v.ownBlock = some k → ∀ cu z, w.heap[k]? ≠ some (.cells cu t z) := by
  intro k e' cu z hc
  rcases h.2 with ⟨q1, _⟩ | ⟨gb, cap, cur, q1, _, q3, _⟩
  · rw [q1] at e'; cases e'
  · rw [q1] at e'
    cases e'
    have q3' : w.heap[gb]? = some (.cells cur e (0, 0)) := q3
    rw [q3'] at hc
    cases hc
    exact hne rfl
theorem FlW.ext {w w' : World} {O : Ow} {base : Nat} {v : Value} {ts : List (Int × Int × Row)} {ps : List (Option Addr × Nat)} (h : FlW w O base v ts ps) (hx : Ext w w') : FlW w' O base v ts ps :=
  ⟨h.1, ownsRow_blk h.2.1 (fun k e => hx.blk (h.2.1.lt k e).2), fun i t p q1 q2 => ⟨(h.2.2 i t p q1 q2).1.ext hx, (h.2.2 i t p q1 q2).2.1, (h.2.2 i t p q1 q2).2.2.ext hx⟩⟩
theorem FlW.snoc {w w' : World} {O : Ow} {base : Nat} {v v' : Value} {ts : List (Int × Int × Row)} {ps : List (Option Addr × Nat)} {t : Int × Int × Row} {p : Option Addr × Nat} (h : FlW w O base v ts ps) (ht : Rd w 0 p.1 t.2.2.length t.2.2 ∧ t.2.2.length ≤ 1048576 ∧ BO w O p.1 t.2.2.length) (row : w'.ownsRow base 51 3 v' (ts.length + 1) (flC ts ps ++ [.int .i64 t.1, .int .i64 t.2.1, .slice p.1 t.2.2.length p.2])) (g : w.grownBy w' v.ownBlock) : FlW w' O base v' (ts ++ [t]) (ps ++ [p]) := by
  have hty := row_ty (e := 51) (t := 5) h.2.1 (by decide)
  refine ⟨by simp [h.1], ?_, fun i tt pp e1 e2 => ?_⟩
  · rw [flC_snoc _ _ _ _ h.1, List.length_append]
    exact row
  · rcases Nat.lt_trichotomy i ts.length with hi | hi | hi
    · rw [List.getElem?_append_left hi] at e1
      rw [List.getElem?_append_left (by rw [h.1]; exact hi)] at e2
      exact FlW.bytes (h.2.2 i tt pp e1 e2) g hty
    · subst hi
      rw [List.getElem?_append_right (Nat.le_refl _)] at e1
      rw [List.getElem?_append_right (by rw [h.1]; exact Nat.le_refl _), h.1] at e2
      simp at e1 e2
      subst e1 e2
      exact FlW.bytes ht g hty
    · have := (List.getElem?_eq_some_iff.1 e1).1
      simp at this
      omega
theorem flw_news {w : World} {b : Nat} {t : Int × Int × Row} {p : Option Addr × Nat} (hb : Blk w b 51 #[.int .i64 t.1, .int .i64 t.2.1, .slice p.1 t.2.2.length p.2]) : ∀ (j : Nat) (u : Value), [Value.int .i64 t.1, .int .i64 t.2.1, .slice p.1 t.2.2.length p.2][j]? = some u → w.cell? ((⟨b, 0, none⟩ : Addr).add j) = some u := by
  intro j u hu
  have hadd : (⟨b, 0, none⟩ : Addr).add j = ⟨b, j, none⟩ := by unfold Addr.add; split <;> simp_all
  rw [hadd, hb.cell j]
  simpa using hu
theorem flw_one (t : Int × Int × Row) (p : Option Addr × Nat) : ∀ u ∈ [Value.int .i64 t.1, .int .i64 t.2.1, .slice p.1 t.2.2.length p.2], u.oneCell' = true := by
  intro u hu
  simp at hu
  rcases hu with rfl | rfl | rfl <;> rfl
theorem cntG_le {g : NC} (h : ∀ a b, (g.L a b).length ≤ 32) (e : Nat) : ∀ m, cntG g e m ≤ 32 * m
  | 0 => by simp [cntG, orderL]
  | m + 1 => by
    rw [cntG_succ]
    have := cntG_le h e m
    have := h (ordAt e m).1 (ordAt e m).2
    omega
theorem flL_le {g : NC} (h : ∀ a b, (g.L a b).length ≤ 32) {e : Nat} (he : e ≤ 5) {m : Nat} (hm : m ≤ e * e) : (flL g e m).length ≤ 800 := by
  have hk25 : e * e ≤ 25 := Nat.le_trans (Nat.mul_le_mul he he) (by omega)
  have := cntG_le h e m
  rw [flL_len]
  omega
theorem flL_at (g : NC) {e i j : Nat} (hj : j < e) : flL g e (i * e + j + 1) = flL g e (i * e + j) ++ (g.L ((i : Int) + 1) ((j : Int) + 1)).map fun r => ((i : Int) + 1, (j : Int) + 1, r) := by
  rw [flL, orderL_snoc hj, List.flatMap_append]
  simp [flL]
def FlE (w : World) (O : Ow) (base : Nat) (v : Value) (ts : List (Int × Int × Row)) : Prop := ∃ ps, FlW w O base v ts ps
set_option maxRecDepth 100000 in
set_option maxHeartbeats 3200000 in
theorem rflights_any (w : World) (O : Ow) (q : Nat) (g : NC) (h : RefX w O q g) (e : Nat) (he : g.ends = (e : Int)) :
    Calls Try.prog 30 #[fptr q] w fun x w' => ∃ v, x = .returned v ∧ FlE w' O w.heap.size v (flL g e (e * e)) ∧ Ext w w' := by
  have heb := h.endsb
  have h32 := h.2.2.2.2.2
  have he5 : e ≤ 5 := by omega
  obtain ⟨i0, hi, hz0, hz1, hz2⟩ := info_parts info_fl
  go_enter Try.func30, Try.ntmps30
  go_wp2_with fail
  go_loopw [3, 4] (fun v a wr => ∃ (k : Nat), k ≤ e ∧ a = .int .i64 ((k : Int) + 1) ∧ Ext w wr ∧ FlE wr O w.heap.size v (flL g e (k * e))) (fun _ a _ => e + 1 - (nOf a).toNat)
  case atStart => exact ⟨0, Nat.zero_le _, rfl, Ext.refl _, [], by simp [flL, orderL, flC, FlW, World.ownsRow_nil]⟩
  case round =>
    obtain ⟨k, hk, rfl, hx, hF⟩ := hrel
    have hE := (h.ext hx).ends
    by_cases hlt : k < e
    · have hle : (k : Int) + 1 ≤ g.ends := by omega
      have hd1 : decide ((k : Int) + 1 ≤ (e : Int)) = true := by simp; omega
      have Hd1 := Lib.hid hd1
      clear hd1
      go_wp2_with fail
      rw [Hd1.out]
      go_loopw [3, 5] (fun v b wr => ∃ (m : Nat), m ≤ e ∧ b = .int .i64 ((m : Int) + 1) ∧ Ext w wr ∧ FlE wr O w.heap.size v (flL g e (k * e + m))) (fun _ b _ => e + 1 - (nOf b).toNat)
      case atStart => exact ⟨0, Nat.zero_le _, rfl, hx, hF⟩
      case round =>
        clear hE hF hx
        obtain ⟨m, hm, rfl, hx, hF⟩ := hrel
        have hE := (h.ext hx).ends
        by_cases hlm : m < e
        · have hle2 : (m : Int) + 1 ≤ g.ends := by omega
          have hflm := flL_at g (e := e) (i := k) (j := m) hlm
          obtain ⟨ls, hls⟩ : ∃ ls, g.L ((k : Int) + 1) ((m : Int) + 1) = ls := ⟨_, rfl⟩
          have hl32 := h32 ((k : Int) + 1) ((m : Int) + 1)
          rw [hls] at hflm hl32
          have hlen := flL_le h32 he5 (m := k * e + m) (by
            have : (k + 1) * e ≤ e * e := Nat.mul_le_mul_right _ hlt
            rw [Nat.add_mul] at this
            omega)
          obtain ⟨fs, hfs⟩ : ∃ fs, flL g e (k * e + m) = fs := ⟨_, rfl⟩
          rw [hfs] at hflm hlen hF
          have HFL := Lib.hid hflm
          clear hflm hfs
          obtain ⟨lv0, c0, L0⟩ := h.line (a := k + 1) (b := m + 1) (by omega) (by omega)
          have ec1 : ((k + 1 : Nat) : Int) = (k : Int) + 1 := by omega
          have ec2 : ((m + 1 : Nat) : Int) = (m : Int) + 1 := by omega
          rw [ec1, ec2, hls] at L0
          obtain ⟨A0, cp, cs, rfl, l2, l3, l4⟩ := L0
          have hd2 : decide ((m : Int) + 1 ≤ (e : Int)) = true := by simp; omega
          have Hd2 := Lib.hid hd2
          clear hd2
          go_wp2_with fail
          rw [Hd2.out]
          go_loopw [3, 6] (fun v i wr => ∃ (j : Nat), j ≤ ls.length ∧ i = .int .i64 (j : Int) ∧ Ext w wr ∧ FlE wr O w.heap.size v (fs ++ (ls.take j).map fun r => ((k : Int) + 1, (m : Int) + 1, r))) (fun _ i _ => ls.length - (nOf i).toNat)
          case atStart => exact ⟨0, Nat.zero_le _, rfl, hx, by simpa using hF⟩
          case round =>
            clear hE hF hx
            obtain ⟨j, hj, rfl, hx, hF⟩ := hrel
            have C0 := hx.cellSome c0
            have ek1 : (k : Int) + 1 < 6 := by omega
            have ek2 : (m : Int) + 1 < 6 := by omega
            by_cases hlj : j < ls.length
            · have hljI : (j : Int) < (ls.length : Int) := by omega
              obtain ⟨ps, hF⟩ := hF
              obtain ⟨row, hrow⟩ : ∃ row, ls[j]'hlj = row := ⟨_, rfl⟩
              obtain ⟨r1, B, d, r2, r3, r4, r5, r6⟩ := l3.2 j hlj
              rw [hrow] at r1 r2 r3 r4 r6
              obtain ⟨lb, off, rfl, -, -, l5⟩ := l4.resolve_left (by omega)
              have b0 := hx.cellSome (l5 _ _ r2)
              have r3' := r3.ext hx
              have r6' := r6.ext hx
              have hFl : (fs ++ (ls.take j).map fun r => ((k : Int) + 1, (m : Int) + 1, r)).length ≤ 832 := by
                rw [List.length_append, List.length_map]
                have := List.length_take_le j ls
                omega
              have HT := Lib.hid (show ls.take (j + 1) = ls.take j ++ [row] by rw [List.take_add_one, List.getElem?_eq_getElem hlj, hrow]; rfl)
              obtain ⟨ts, hts⟩ : ∃ ts, (fs ++ (ls.take j).map fun r => ((k : Int) + 1, (m : Int) + 1, r)) = ts := ⟨_, rfl⟩
              rw [hts] at hF hFl
              have HTS := Lib.hid hts
              clear hts hrow r2 l5 l3 l4 r3 r6
              have hxt := (Ext.refl wr).alloc (.cells #[.int .i64 ((k : Int) + 1), .int .i64 ((m : Int) + 1), .slice B row.length d] 51)
              have bt := Blk.new wr 51 #[.int .i64 ((k : Int) + 1), .int .i64 ((m : Int) + 1), .slice B row.length d]
              have hFt := hF.ext hxt
              have hsz := hx.size
              have hsz2 := hxt.size
              go_wp2_with (at_builtin; go_loud (refine wpList_append_own_at _ rfl _ _ 44 rfl w.heap.size 51 i0 (.agg #[.int .i64 0, .int .i64 0, .slice none 0 0]) 3 40 Try.underlying44 hi hz0 hz1 hz2 rfl (by decide) _ ts.length (flC ts ps) rfl hFt.2.1 ⟨wr.heap.size, 0, none⟩ 1 1 [.int .i64 ((k : Int) + 1), .int .i64 ((m : Int) + 1), .slice B row.length d] rfl rfl (flw_news (t := ((k : Int) + 1, (m : Int) + 1, row)) (p := (B, d)) bt) (flw_one ((k : Int) + 1, (m : Int) + 1, row) (B, d)) (by unfold maxLen; omega) (by omega) (by omega) ?_); intro v6 w6 row6 g6 _ loc6)
              have hF6 := hFt.snoc (t := ((k : Int) + 1, (m : Int) + 1, row)) (p := (B, d)) ⟨r3'.ext hxt, r1, r6'.ext hxt⟩ row6 g6
              refine ⟨⟨j + 1, by omega, by simp, ?_, ?_⟩, by simp [nOf]; omega⟩
              · exact (Tu.of_grown g6 (S := fun k => w.heap.size ≤ k) (fun k e => (hFt.2.1.lt k e).1)).ext_of (hx.trans hxt) (fun k hk => hk)
              · rw [HT.out, List.map_append, ← List.append_assoc, HTS.out]
                exact ⟨_, hF6⟩
            · obtain rfl : j = ls.length := by omega
              go_wp2_with fail
              refine ⟨⟨m + 1, by omega, by simp, hx, ?_⟩, by simp [nOf]; omega⟩
              rw [← Nat.add_assoc, HFL.out]
              rw [List.take_length] at hF
              exact hF
        · obtain rfl : m = e := by omega
          have hle : ¬ (m : Int) + 1 ≤ g.ends := by omega
          go_wp2_with fail
          refine ⟨⟨k + 1, by omega, by simp, hx, by rw [Nat.add_mul, Nat.one_mul]; exact hF⟩, by simp [nOf]; omega⟩
    · obtain rfl : k = e := by omega
      have hle : ¬ (k : Int) + 1 ≤ g.ends := by omega
      go_wp2_with fail
      go_ret
      exact ⟨_, rfl, hF, hx⟩
end partRflt
section partRset
open Go.RowKit Go.Maps
set_option linter.unusedVariables false
set_option linter.unusedSimpArgs false
attribute [local go_sem] Oper.semAt_some

theorem Tu.low {S S' : Nat → Prop} {w w' : World} (T : Tu S w w') (h : ∀ k, k < w.heap.size → S k → S' k) : Tu S' w w' := ⟨T.os, T.tape, T.output, T.size, fun k h1 h2 => T.blk k h1 fun h3 => h2 (h k h1 h3)⟩
theorem RowsAt.one {w : World} {O : Ow} {cs : List Value} {rows : List Row} (h : RowsAt w O cs rows) : ∀ u ∈ cs, u.oneCell' = true := by
  intro u hu
  obtain ⟨i, hi, e⟩ := List.getElem_of_mem hu
  obtain ⟨_, A, c, e2, _⟩ := h.2 i (by rw [← h.1]; exact hi)
  rw [List.getElem?_eq_getElem hi, e] at e2
  cases e2
  rfl
theorem LineR.nil (w : World) (O : Ow) (c : Nat) : LineR w O (.slice none 0 c) [] := ⟨none, c, [], rfl, Nat.zero_le _, ⟨rfl, fun i hi => by simp at hi⟩, .inl rfl⟩
theorem LineR.of_own {w : World} {O : Ow} {base : Nat} {v : Value} {rows : List Row} {cs : List Value} (hown : w.ownsRow base 38 1 v rows.length cs) (hr : RowsAt w O cs rows) (hO : ∀ k, v.ownBlock = some k → O k = none) : LineR w O v rows := by
  obtain ⟨A, c, rfl⟩ := own_slice hown
  rcases Nat.eq_zero_or_pos rows.length with h0 | h0
  · refine ⟨A, c, cs, rfl, by omega, hr, .inl h0⟩
  · obtain ⟨rb, e1, e2⟩ := row_cellsN hown h0
    rcases hown.2 with ⟨q1, _⟩ | ⟨gb, cap, cur, q1, _, q3, q4, _⟩
    · rw [e1] at q1; cases q1
    · rw [e1] at q1
      cases q1
      subst e1
      exact ⟨_, c, cs, rfl, q4, hr, .inr ⟨rb, 0, rfl, hO rb rfl, ⟨_, _, q3⟩, fun j u hu => by rw [Nat.zero_add]; exact e2 j u hu⟩⟩
theorem Blk.not_ty {w : World} {q : Nat} {t t' : TypeId} {cs : Array Value} (h : Blk w q t cs) (hne : t ≠ t') : ∀ k, k = q → ∀ cu z, w.heap[k]? ≠ some (.cells cu t' z) := by
  rintro k rfl cu z e
  have h' : w.heap[k]? = some (.cells cs t (0, 0)) := h
  rw [h'] at e
  cases e
  exact hne rfl
/-- the document's net, of which one line is another one -/
theorem RefX.set {w w' : World} {O : Ow} {q : Nat} {g : NC} (h : RefX w O q g) {x y : Nat} (hx : x < 6) (hy : y < 6) {v : Value} {rows : List Row} (T : Tu (fun k => k = q) w w')
    (hb : ∀ cs, Blk w q 35 cs → Blk w' q 35 (cs.setIfInBounds (x * 6 + y) v)) (hl : LineR w' O v rows) (h32 : rows.length ≤ 32) (hok : ¬ g.ok x y → rows = []) : RefX w' O q (g.put x y rows) := by
  obtain ⟨h1, ⟨vs, h2, h3, h4⟩, h5, h6, h7, h8⟩ := h
  refine ⟨h1, ⟨vs.set (x * 6 + y) v, by simp [h2], ?_, fun a b ha hb' => ?_⟩, h5, h6, fun a b hab => ?_, fun a b => ?_⟩
  · have := hb _ h3
    rw [List.setIfInBounds_toArray, List.set_append_left _ _ (by omega)] at this
    exact this
  · by_cases e : a = x ∧ b = y
    · obtain ⟨rfl, rfl⟩ := e
      refine ⟨v, by rw [List.getElem?_set_self (by omega)], ?_⟩
      simp only [NC.put, and_self, if_true]
      exact hl
    · have hne : x * 6 + y ≠ a * 6 + b := by omega
      obtain ⟨u, q1, q2⟩ := h4 a b ha hb'
      refine ⟨u, by rw [List.getElem?_set_ne hne]; exact q1, ?_⟩
      have hne' : ¬ ((a : Int) = x ∧ (b : Int) = y) := by omega
      simp only [NC.put, if_neg hne']
      exact q2.off T (fun k hk cu z => ⟨h3.not_ty (by decide) k hk cu z, h3.not_ty (by decide) k hk cu z⟩)
  · have hab' : ¬ g.ok a b := hab
    by_cases e : a = x ∧ b = y
    · obtain ⟨rfl, rfl⟩ := e
      simp only [NC.put, and_self, if_true]
      exact hok hab'
    · simp only [NC.put, if_neg e]
      exact h7 a b hab'
  · by_cases e : a = x ∧ b = y
    · simp only [NC.put, if_pos e]
      exact h32
    · simp only [NC.put, if_neg e]
      exact h8 a b
theorem RefX.setLost {w w' : World} {O : Ow} {q : Nat} {g : NC} (h : RefX w O q g) {l : Int} (T : Tu (fun k => k = q) w w')
    (hb : ∀ cs, Blk w q 35 cs → Blk w' q 35 (cs.setIfInBounds 37 (.int .i64 l))) (hl : (Lit.int .i64 l).wf = true) : RefX w' O q { g with lost := l } := by
  obtain ⟨h1, ⟨vs, h2, h3, h4⟩, h5, h6, h7, h8⟩ := h
  refine ⟨h1, ⟨vs, h2, ?_, fun a b ha hb' => ?_⟩, h5, hl, h7, h8⟩
  · have := hb _ h3
    rw [List.setIfInBounds_toArray, List.set_append_right _ _ (by omega), h2] at this
    simpa using this
  · obtain ⟨u, q1, q2⟩ := h4 a b ha hb'
    exact ⟨u, q1, q2.off T (fun k hk cu z => ⟨h3.not_ty (by decide) k hk cu z, h3.not_ty (by decide) k hk cu z⟩)⟩
set_option maxRecDepth 100000 in
set_option maxHeartbeats 3200000 in
theorem rsend_any (w : World) (O : Ow) (q : Nat) (g : NC) (h : RefX w O q g) (hI : In O w) (a b : Int) (B : Option Addr) (d : Nat) (row : Row) (hB : Rd w 0 B row.length row) (hd : row.length ≤ maxLen) :
    Calls Try.prog 33 #[fptr q, .int .i64 a, .int .i64 b, .slice B row.length d] w fun e w' => e = .returned (.int .i64 (sendOut g a b row).1) ∧ RefX w' O q (sendOut g a b row).2 ∧ Tu (fun k => k = q) w w' := by
  obtain ⟨x, g', ho⟩ : ∃ x g', sendOut g a b row = (x, g') := ⟨_, _, rfl⟩
  rw [ho]
  have Ho := Lib.hid ho
  clear ho
  unfold maxLen at hd
  have heb := h.endsb
  go_enter Try.func33, Try.ntmps33
  go_wp2_with fail
  refine (two_any w O q g h a b).mono ?_
  rintro e w1 ⟨rfl, rfl⟩
  by_cases hab : g.ok a b
  rotate_left
  · have e0 : sendOut g a b row = (2, g) := by rw [sendOut, if_pos (.inl hab)]
    rw [Ho.out] at e0
    obtain ⟨rfl, rfl⟩ := Prod.mk.inj e0
    rw [decide_eq_false hab]
    go_wp2_with fail
    go_ret
    exact ⟨rfl, h, Tu.refl _ _⟩
  rw [decide_eq_true hab]
  by_cases hl : 1048576 < row.length
  · have e0 : sendOut g a b row = (2, g) := by rw [sendOut, if_pos (.inr hl)]
    rw [Ho.out] at e0
    obtain ⟨rfl, rfl⟩ := Prod.mk.inj e0
    have hl' : (1048576 : Int) < (row.length : Int) := by omega
    go_wp2_with fail
    go_ret
    exact ⟨rfl, h, Tu.refl _ _⟩
  have hl' : ¬ (1048576 : Int) < (row.length : Int) := by omega
  obtain ⟨k1, k2, k3, k4, k5⟩ := id hab
  obtain ⟨x1, rfl⟩ : ∃ x : Nat, a = x := ⟨a.toNat, by omega⟩
  obtain ⟨y1, rfl⟩ : ∃ y : Nat, b = y := ⟨b.toNat, by omega⟩
  obtain ⟨v, hv, L⟩ := h.line (a := x1) (b := y1) (by omega) (by omega)
  obtain ⟨A0, cp, cs, rfl, l2, l3, l4⟩ := id L
  have e1 : x1 < 6 := by omega
  have e2 : y1 < 6 := by omega
  have h32 := h.2.2.2.2.2 x1 y1
  by_cases hfu : (32 : Int) ≤ ((g.L x1 y1).length : Int)
  · have e0 : sendOut g x1 y1 row = (5, { g with lost := wrap64 (g.lost + 1) }) := by rw [sendOut, if_neg (by rintro (h | h); exact h hab; exact hl h), if_pos (by omega)]
    rw [Ho.out] at e0
    obtain ⟨rfl, rfl⟩ := Prod.mk.inj e0
    have c37 := h.lost
    obtain ⟨cs0, hBq⟩ : ∃ cs0, Blk w q 35 cs0 := by
      obtain ⟨_, ⟨vs, _, h3, _⟩, _⟩ := h
      exact ⟨_, h3⟩
    have f37 := hBq.free 37
    have T2 : Tu (fun k => k = q) w (w.setCell ⟨q, 37, none⟩ (.int .i64 (wrap64 (g.lost + 1)))) := Tu.of_grown (setCell_grownBy _ _ _) (by rintro k e; cases e; rfl)
    go_wp2_with fail
    go_ret
    exact ⟨rfl, h.setLost T2 (fun cs hc => hc.set_ 37 _) (wf_w64 _), T2⟩
  · have e0 : sendOut g x1 y1 row = (0, g.put x1 y1 (g.L x1 y1 ++ [row])) := by rw [sendOut, if_neg (by rintro (h | h); exact h hab; exact hl h), if_neg (by omega)]
    rw [Ho.out] at e0
    obtain ⟨rfl, rfl⟩ := Prod.mk.inj e0
    obtain ⟨ls, hls⟩ : ∃ ls, g.L x1 y1 = ls := ⟨_, rfl⟩
    rw [hls] at hv L l2 l3 l4 h32 hfu
    go_wp2_with fail
    have hxd := (Ext.refl w).drew
    have ei1 : (x1 : Int) < 6 := by omega
    have ei2 : (y1 : Int) < 6 := by omega
    refine wp_region_pl (Tu (fun k => k = q ∨ w.heap.size ≤ k)) [.q 0, .q 1, .q 2, .q 3, .q 4, .q 5, .q 6, .q 7, .q 8, .q 9, .q 12, .q 16, .q 17, .q 18, .f 10, .f 11, .f 13, .f 14, .f 15, .q 19, .f 20] (fun _ _ _ x y => (fun x y => Tu.trans x y) x y) (Tu.refl (fun k => k = q ∨ w.heap.size ≤ k)) (by kernel_rfl) (by kernel_rfl) ?_
    intro K hK
    iterate 14 (
      refine pl_q (v := ?_) rfl rfl ?_ ?_
      rotate_left
      · intro x
        go_simp
        first | done | rfl
      simp only [Act.put, List.getElem_toArray, List.getElem_cons_zero, List.getElem_cons_succ, List.setIfInBounds_toArray, List.set_cons_zero, List.set_cons_succ])
    obtain ⟨i0, hi, hz0, hz1, hz2⟩ := info_parts info_bs
    have hv' := hxd.cellSome hv
    refine pl_l rfl (by kernel_rfl) ?_
    intro K2 hK2
    go_simp
    refine hK2.out _ _ (Tu.refl _ _) ?_
    clear hK2 K2
    try simp only [Act.put, List.getElem_toArray, List.getElem_cons_zero, List.getElem_cons_succ, List.setIfInBounds_toArray, List.set_cons_zero, List.set_cons_succ]
    have hxw : Ext w w.drew := hxd
    have hsrc : ∀ ad, A0 = some ad → ∀ (j : Nat) (u : Value), cs[j]? = some u → w.drew.cell? (ad.add j) = some u := by
      intro ad e j u hu
      have hpos : ls.length ≠ 0 := by
        have := (List.getElem?_eq_some_iff.1 hu).1
        rw [l3.1] at this
        omega
      obtain ⟨lb, off, q1, _, _, q4⟩ := l4.resolve_left hpos
      rw [e] at q1
      cases q1
      have hadd : (⟨lb, off, none⟩ : Addr).add j = ⟨lb, off + j, none⟩ := by unfold Addr.add; split <;> simp_all
      rw [hadd]
      exact hxd.cellSome (q4 j u hu)
    have hnil : A0 = none → ls.length = 0 := fun e => by
      rcases l4 with q1 | ⟨lb, off, q1, _⟩
      · exact q1
      · rw [e] at q1; cases q1
    refine pl_l rfl rfl ?_
    intro K2 hK2
    refine wp_one rfl ?_
    refine wpList_append_any rfl _ _ 31 rfl w.heap.size 38 i0 (.slice none 0 0) 1 24 Try.underlying31 hi hz0 hz1 hz2 rfl (by decide) (.slice none 0 0) 0 [] rfl (World.ownsRow_nil _ _ _ _) A0 ls.length cp cs rfl (by rw [l3.1]; omega) hnil hsrc l3.one (by unfold maxLen; omega) (by omega) hxd.size ?_
    intro v1 w1 row1 g1 loc1
    show K2 _ _
    refine hK2.out _ _ (Tu.of_grown g1 (fun k e => by cases e)) ?_
    clear hK2 K2
    try simp only [Act.put, List.getElem_toArray, List.getElem_cons_zero, List.getElem_cons_succ, List.setIfInBounds_toArray, List.set_cons_zero, List.set_cons_succ]
    rw [Nat.zero_add, List.nil_append] at row1
    have hx1 : Ext w w1 := (Tu.of_grown g1 (S := fun k => w.heap.size ≤ k) (fun k e => by cases e)).ext_of hxd (fun k hk => hk)
    refine pl_l rfl rfl ?_
    intro K2 hK2
    refine wp_append_b bytes_ty _ _ rfl w hx1 none 0 0 [] rfl (Own.nil _ _ _) B row.length d 0 row rfl (hB.ext hx1) (by omega) ?_
    intro A' c' w2 o2 g2 hx2
    refine hK2.out _ _ (Tu.of_grown g2 (fun k e => by cases e)) ?_
    clear hK2 K2
    try simp only [Act.put, List.getElem_toArray, List.getElem_cons_zero, List.getElem_cons_succ, List.setIfInBounds_toArray, List.set_cons_zero, List.set_cons_succ]
    rw [Nat.zero_add, List.nil_append] at o2
    have row2 : w2.ownsRow w.heap.size 38 1 v1 ls.length cs := ownsRow_blk row1 (fun k hk => g2.block k (row1.lt k hk).2 (fun e => by cases e))
    have hxb := (Ext.refl w2).alloc (.cells #[.slice A' row.length c'] 38)
    have bb := Blk.new w2 38 #[.slice A' row.length c']
    rw [Nat.zero_add]
    refine pl_l rfl (by kernel_rfl) ?_
    intro K2 hK2
    go_simp
    refine hK2.out _ _ (Tu.of_ext hxb) ?_
    clear hK2 K2
    try simp only [Act.put, List.getElem_toArray, List.getElem_cons_zero, List.getElem_cons_succ, List.setIfInBounds_toArray, List.set_cons_zero, List.set_cons_succ]
    have row3 := ownsRow_blk row2 (fun k hk => hxb.blk (row2.lt k hk).2)
    have o3 : Own _ w.heap.size 5 A' row.length c' row := ownsRow_blk o2 (fun k hk => hxb.blk (o2.lt k hk).2)
    have hx3 := hx2.trans hxb
    generalize w2.alloc (.cells #[.slice A' row.length c'] 38) = w3 at *
    generalize w2.heap.size = gq at *
    refine pl_l rfl rfl ?_
    intro K2 hK2
    refine wp_one rfl ?_
    refine wpList_append_own_at _ rfl _ _ 31 rfl w.heap.size 38 i0 (.slice none 0 0) 1 24 Try.underlying31 hi hz0 hz1 hz2 rfl (by decide) v1 ls.length cs rfl row3 ⟨gq, 0, none⟩ 1 1 [.slice A' row.length c'] rfl rfl ?_ ?_ (by unfold maxLen; omega) (by omega) hx3.size ?_
    · intro j u hu
      have hadd : (⟨gq, 0, none⟩ : Addr).add j = ⟨gq, j, none⟩ := by unfold Addr.add; split <;> simp_all
      rw [hadd, bb.cell j]
      simpa using hu
    · intro u hu
      rw [List.mem_singleton.1 hu]
      rfl
    intro v5 w5 row5 g5 hnil5 hloc5
    have T5 : Tu (fun k => w.heap.size ≤ k) w3 w5 := Tu.of_grown g5 (fun k e => (row3.lt k e).1)
    show K2 _ _
    refine hK2.out _ _ (T5.mono (fun k e => .inr e)) ?_
    clear hK2 K2
    try simp only [Act.put, List.getElem_toArray, List.getElem_cons_zero, List.getElem_cons_succ, List.setIfInBounds_toArray, List.set_cons_zero, List.set_cons_succ]
    iterate 1 (
      refine pl_q (v := ?_) rfl rfl ?_ ?_
      rotate_left
      · intro x
        go_simp
        first | done | rfl
      simp only [Act.put, List.getElem_toArray, List.getElem_cons_zero, List.getElem_cons_succ, List.setIfInBounds_toArray, List.set_cons_zero, List.set_cons_succ])
    have hx5 : Ext w w5 := T5.ext_of hx3 (fun k hk => hk)
    obtain ⟨cs0, hBq⟩ : ∃ cs0, Blk w q 35 cs0 := by
      obtain ⟨_, ⟨vs, _, h3, _⟩, _⟩ := h
      exact ⟨_, h3⟩
    have f37 := (hBq.ext hx5).free (x1 * 6 + y1)
    have hv5 := hx5.cellSome hv
    obtain ⟨A5, c5, rfl⟩ := own_slice row5
    have T6 : Tu (fun k => k = q) w5 (w5.setCell ⟨q, x1 * 6 + y1, none⟩ (.slice A5 (ls.length + 1) c5)) := Tu.of_grown (setCell_grownBy _ _ _) (by rintro k e; cases e; rfl)
    refine pl_l rfl (by kernel_rfl) ?_
    intro K2 hK2
    go_simp
    refine hK2.out _ _ (T6.mono (fun k e => .inl e)) ?_
    clear hK2 K2
    try simp only [Act.put, List.getElem_toArray, List.getElem_cons_zero, List.getElem_cons_succ, List.setIfInBounds_toArray, List.set_cons_zero, List.set_cons_succ]
    refine pl_end (hK.out _ _ ?_)
    clear hK K
    go_wp2_with fail
    go_ret
    refine ⟨rfl, ?_, ((Tu.of_ext hx5).trans T6)⟩
    have hor : ∀ k : Nat, w.heap.size ≤ k → O k = none := fun k hk => hI.none hk
    have row5' : w5.ownsRow w.heap.size 38 1 (.slice A5 (ls ++ [row]).length c5) (ls ++ [row]).length (cs ++ [.slice A' row.length c']) := by
      rw [List.length_append, List.length_singleton]
      exact row5
    have o5 : Own w5 w.heap.size 5 A' row.length c' row := by
      refine ownsRow_blk o3 (fun k hk => g5.block k (o3.lt k hk).2 (fun e => ?_))
      have hty := row_ty (e := 38) (t := 5) row3 (by decide) k e.symm
      have o3' : w3.ownsRow w.heap.size 5 1 (.slice A' row.length c') row.length (bvs row) := o3
      rcases o3'.2 with ⟨q1, _⟩ | ⟨gb, cap, cur, q1, _, q3, _⟩
      · rw [q1] at hk; cases hk
      · rw [q1] at hk
        cases hk
        exact hty _ _ q3
    have hR5 : RowsAt w5 O (cs ++ [.slice A' row.length c']) (ls ++ [row]) := (l3.keep hx5.size (fun k hk e => ⟨hx5.blk hk, e⟩)).snoc (by omega) (o5.rd.low (Nat.zero_le _)) o5.cap (own_max o5) (fun x e hp => ⟨hor _ (by obtain ⟨kb, off, q1, q2, _⟩ := o5.rd.pos hp; rw [e] at q1; cases q1; exact q2), by obtain ⟨cz, z, qz, _⟩ := TyB.of_own o5 x e hp; exact ⟨cz, z, qz⟩⟩)
    have L6 := (LineR.of_own row5' hR5 (fun k e => hor k (row5'.lt k e).1)).off T6 (fun k hk cu z => ⟨(hBq.ext hx5).not_ty (by decide) k hk cu z, (hBq.ext hx5).not_ty (by decide) k hk cu z⟩)
    have hls' : g.L x1 y1 ++ [row] = ls ++ [row] := by rw [hls]
    rw [hls']
    have L6' : LineR (w5.setCell ⟨q, x1 * 6 + y1, none⟩ (.slice A5 (ls.length + 1) c5)) O (.slice A5 (ls.length + 1) c5) (ls ++ [row]) := by
      rw [List.length_append, List.length_singleton] at L6
      exact L6
    exact (h.ext hx5).set e1 e2 T6 (fun c hc => hc.set_ _ _) L6' (by rw [List.length_append, List.length_singleton]; omega) (fun hn => absurd hab hn)
end partRset
section partRat
open Go.RowKit Go.Maps
set_option linter.unusedVariables false
set_option linter.unusedSimpArgs false
attribute [local go_sem] Oper.semAt_some

/-- what stands at a place of a row of flights -/
def atL (l : List (Int × Int × Row)) (p : Int) : Int × (Int × Int × Row) :=
  if p < 0 then (2, (0, 0, [])) else match l[p.toNat]? with | some t => (0, t) | none => (6, (0, 0, []))
/-- a flight's bytes, nobody's -/
def FB (w : World) (O : Ow) (t : Int × Int × Row) (p : Option Addr × Nat) : Prop := Rd w 0 p.1 t.2.2.length t.2.2 ∧ t.2.2.length ≤ 1048576 ∧ BO w O p.1 t.2.2.length
theorem FB.zero (w : World) (O : Ow) (a b : Int) : FB w O (a, b, []) (none, 0) := ⟨Rd.nil _ _ _, by simp, fun x e => by cases e⟩
theorem FB.keep {w w' : World} {O O' : Ow} {t : Int × Int × Row} {p : Option Addr × Nat} (h : FB w O t p) (hs : w.heap.size ≤ w'.heap.size) (hk : ∀ k, k < w.heap.size → O k = none → w'.heap[k]? = w.heap[k]? ∧ O' k = none) : FB w' O' t p := by
  obtain ⟨h1, h2, h3⟩ := h
  refine ⟨?_, h2, h3.keep h1 hk⟩
  rcases Nat.eq_zero_or_pos t.2.2.length with h0 | h0
  · exact ⟨h1.1, .inl h0⟩
  · obtain ⟨b, off, q1, q2, q3, q4⟩ := h1.pos h0
    have kb := (hk b q3 (h3 _ q1 h0).1).1
    refine ⟨h1.1, .inr ⟨b, off, q1, q2, by omega, fun i hi => ?_⟩⟩
    rw [World.cell?_of_block (w := w) kb]
    exact q4 i hi
theorem FB.ext {w w' : World} {O : Ow} {t : Int × Int × Row} {p : Option Addr × Nat} (h : FB w O t p) (hx : Ext w w') : FB w' O t p := h.keep hx.size (fun k hk e => ⟨hx.blk hk, e⟩)
theorem FB.off {w w' : World} {O : Ow} {S : Nat → Prop} {t : Int × Int × Row} {p : Option Addr × Nat} (h : FB w O t p) (T : Tu S w w') (hS : ∀ k, S k → ∀ cu z, w.heap[k]? ≠ some (.cells cu 5 z)) : FB w' O t p := by
  obtain ⟨h1, h2, h3⟩ := h
  rcases Nat.eq_zero_or_pos t.2.2.length with h0 | h0
  · exact ⟨⟨h1.1, .inl h0⟩, h2, fun x e hp => by omega⟩
  · obtain ⟨b, off, q1, q2, q3, q4⟩ := h1.pos h0
    obtain ⟨k1, cu, z, k2⟩ := h3 _ q1 h0
    have kb := T.blk b q3 (fun e => hS b e cu z k2)
    refine ⟨⟨h1.1, .inr ⟨b, off, q1, q2, by have := T.size; omega, fun i hi => ?_⟩⟩, h2, fun x e hp => ?_⟩
    · rw [World.cell?_of_block (w := w) kb]
      exact q4 i hi
    · rw [q1] at e
      cases e
      exact ⟨k1, cu, z, kb.trans k2⟩
/-- a flight of a row that is there -/
theorem FlW.pick {w : World} {O : Ow} {base : Nat} {A : Option Addr} {c : Nat} {ts : List (Int × Int × Row)} {ps : List (Option Addr × Nat)} (h : FlW w O base (.slice A ts.length c) ts ps) {i : Nat} {t : Int × Int × Row} (ht : ts[i]? = some t) :
    ∃ rb p, A = some ⟨rb, 0, none⟩ ∧ base ≤ rb ∧ rb < w.heap.size ∧ ps[i]? = some p ∧ FB w O t p ∧ w.cell? ⟨rb, i * 3, none⟩ = some (.int .i64 t.1) ∧ w.cell? ⟨rb, i * 3 + 1, none⟩ = some (.int .i64 t.2.1) ∧ w.cell? ⟨rb, i * 3 + 2, none⟩ = some (.slice p.1 t.2.2.length p.2) := by
  have hi := (List.getElem?_eq_some_iff.1 ht).1
  obtain ⟨rb, e1, e2⟩ := row_cellsN h.2.1 (by omega)
  have hlt := h.2.1.lt rb (by rw [e1]; rfl)
  obtain ⟨p, hp⟩ : ∃ p, ps[i]? = some p := ⟨_, List.getElem?_eq_getElem (by rw [h.1]; exact hi)⟩
  obtain ⟨a0, a1, a2⟩ := flC_at ts ps i t p ht hp
  exact ⟨rb, p, e1, hlt.1, hlt.2, hp, h.2.2 i t p ht hp, e2 _ _ a0, e2 _ _ a1, e2 _ _ a2⟩
set_option maxRecDepth 100000 in
set_option maxHeartbeats 3200000 in
theorem rat_any (w : World) (O : Ow) (q : Nat) (g : NC) (h : RefX w O q g) (e : Nat) (he : g.ends = (e : Int)) (p : Int) (er : Int) (t : Int × Int × Row) (hat : atL (flL g e (e * e)) p = (er, t)) :
    Calls Try.prog 37 #[fptr q, .int .i64 p] w fun x w' => ∃ A c, x = .returned (.tuple #[fl t.1 t.2.1 A t.2.2.length c, .int .i64 er]) ∧ FB w' O t (A, c) ∧ Ext w w' := by
  have Hat := Lib.hid hat
  clear hat
  have heb := h.endsb
  have hle := flL_le h.2.2.2.2.2 (e := e) (by omega) (Nat.le_refl (e * e))
  have hx1 := (Ext.refl w).alloc (.cells #[.int .i64 0, .int .i64 0, .slice none 0 0] 51)
  have b1 := Blk.new w 51 #[.int .i64 0, .int .i64 0, .slice none 0 0]
  have h1 := h.ext hx1
  go_enter Try.func37, Try.ntmps37
  go_wp2_with fail
  generalize w.alloc (.cells #[.int .i64 0, .int .i64 0, .slice none 0 0] 51) = w1 at *
  obtain ⟨z, hz⟩ : ∃ z, w.heap.size = z := ⟨_, rfl⟩
  rw [hz] at b1 ⊢
  refine (rflights_any w1 O q g h1 e he).mono ?_
  rintro x w2 ⟨v, rfl, ⟨ps, hF⟩, hx2⟩
  obtain ⟨ts, hts⟩ : ∃ ts, flL g e (e * e) = ts := ⟨_, rfl⟩
  rw [hts] at hF hle
  have HT := Lib.hid hts
  clear hts
  obtain ⟨A, c, rfl⟩ := own_slice hF.2.1
  have hx12 := hx1.trans hx2
  have b3 := b1.ext hx2
  have f0 := b3.free 0
  have f1 := b3.free 1
  have f2 := b3.free 2
  have s0 := b3.cell 0
  have s1 := b3.cell 1
  have s2 := b3.cell 2
  have keyR : ∀ (a b : Int) (B : Option Addr) (n d : Nat), ∃ w3, w3 = ((w2.setCell ⟨z, 0, none⟩ (.int .i64 a)).setCell ⟨z, 1, none⟩ (.int .i64 b)).setCell ⟨z, 2, none⟩ (.slice B n d) ∧ Blk w3 z 51 #[.int .i64 a, .int .i64 b, .slice B n d] ∧ Tu (fun k => k = z) w2 w3 ∧ Ext w w3 := by
    intro a b B n d
    refine ⟨_, rfl, ?_, ?_, ?_⟩
    · have := ((b3.set_ 0 (.int .i64 a)).set_ 1 (.int .i64 b)).set_ 2 (.slice B n d)
      simpa using this
    · exact ((Tu.of_grown (setCell_grownBy _ _ _) (by rintro k e; cases e; rfl)).trans (Tu.of_grown (setCell_grownBy _ _ _) (by rintro k e; cases e; rfl))).trans (Tu.of_grown (setCell_grownBy _ _ _) (by rintro k e; cases e; rfl))
    · exact ((hx12.setCell (p := ⟨z, 0, none⟩) (show w.heap.size ≤ z by omega) _).setCell (p := ⟨z, 1, none⟩) (show w.heap.size ≤ z by omega) _).setCell (p := ⟨z, 2, none⟩) (show w.heap.size ≤ z by omega) _
  have KR := Lib.hid keyR
  clear keyR hx1 b1 h1 hz
  by_cases hp0 : p < 0
  · have e0 : atL ts p = (2, (0, 0, [])) := by rw [atL, if_pos hp0]
    rw [← HT.out, Hat.out] at e0
    obtain ⟨rfl, rfl⟩ := Prod.mk.inj e0
    obtain ⟨w3, e3, bb, T3, x3⟩ := KR.out 0 0 none 0 0
    go_wp2_with fail
    rw [← e3]
    exact bodyPost_ret (results_fl2 rfl _ _ z rfl bb) rfl ⟨none, 0, rfl, FB.zero _ _ _ _, x3⟩
  · obtain ⟨pn, rfl⟩ : ∃ pn : Nat, p = pn := ⟨p.toNat, by omega⟩
    by_cases hp1 : (ts.length : Int) ≤ (pn : Int)
    · have e0 : atL ts pn = (6, (0, 0, [])) := by rw [atL, if_neg hp0, Int.toNat_natCast, List.getElem?_eq_none (by omega)]
      rw [← HT.out, Hat.out] at e0
      obtain ⟨rfl, rfl⟩ := Prod.mk.inj e0
      obtain ⟨w3, e3, bb, T3, x3⟩ := KR.out 0 0 none 0 0
      go_wp2_with fail
      rw [← e3]
      exact bodyPost_ret (results_fl2 rfl _ _ z rfl bb) rfl ⟨none, 0, rfl, FB.zero _ _ _ _, x3⟩
    · obtain ⟨t', ht'⟩ : ∃ t', ts[pn]? = some t' := ⟨_, List.getElem?_eq_getElem (by omega)⟩
      have e0 : atL ts pn = (0, t') := by rw [atL, if_neg hp0, Int.toNat_natCast, ht']
      rw [← HT.out, Hat.out] at e0
      obtain ⟨rfl, rfl⟩ := Prod.mk.inj e0
      obtain ⟨rb, r, rfl, rb1, rb2, hr, hB, a0, a1, a2⟩ := hF.pick ht'
      obtain ⟨w3, e3, bb, T3, x3⟩ := KR.out t.1 t.2.1 r.1 t.2.2.length r.2
      have hpl : (pn : Int) < (ts.length : Int) := by omega
      go_wp2_with fail
      rw [← e3]
      exact bodyPost_ret (results_fl2 rfl _ _ z rfl bb) rfl ⟨r.1, r.2, rfl, hB.off T3 (b3.not_ty (by decide)), x3⟩
end partRat
section partRdbl
open Go.RowKit Go.Maps
set_option linter.unusedVariables false
set_option linter.unusedSimpArgs false
attribute [local go_sem] Oper.semAt_some

theorem flL_mem {g : NC} {e m : Nat} {t : Int × Int × Row} (h : t ∈ flL g e m) : t.2.2 ∈ g.L t.1 t.2.1 := by
  obtain ⟨p, hp, h⟩ := List.mem_flatMap.1 h
  obtain ⟨r, hr, rfl⟩ := List.mem_map.1 h
  exact hr
theorem atL_zero {l : List (Int × Int × Row)} {p : Int} {t : Int × Int × Row} (h : atL l p = (0, t)) : 0 ≤ p ∧ l[p.toNat]? = some t := by
  unfold atL at h
  split at h
  · cases h
  · rename_i hp
    split at h
    · rename_i t' ht
      cases h
      exact ⟨by omega, ht⟩
    · cases h
theorem atL_ne {l : List (Int × Int × Row)} {p er : Int} {t : Int × Int × Row} (h : atL l p = (er, t)) (hne : er ≠ 0) : t = (0, 0, []) ∧ (er = 2 ∨ er = 6) := by
  unfold atL at h
  split at h
  · cases h
    exact ⟨rfl, .inl rfl⟩
  · split at h
    · cases h
      exact absurd rfl hne
    · cases h
      exact ⟨rfl, .inr rfl⟩
theorem atL_ok {g : NC} {e : Nat} {p : Int} {t : Int × Int × Row} (h0 : ∀ a b, ¬ g.ok a b → g.L a b = []) (h : atL (flL g e (e * e)) p = (0, t)) : g.ok t.1 t.2.1 := by
  refine Decidable.byContradiction fun hn => ?_
  have := flL_mem (List.mem_of_getElem? (atL_zero h).2)
  rw [h0 _ _ hn] at this
  cases this
/-- what Double answers, and the net behind it -/
def dblOut (g : NC) (e : Nat) (p : Int) : Int × NC :=
  if (atL (flL g e (e * e)) p).1 ≠ 0 then ((atL (flL g e (e * e)) p).1, g)
  else if 32 ≤ (g.L (atL (flL g e (e * e)) p).2.1 (atL (flL g e (e * e)) p).2.2.1).length then (5, g)
  else (0, g.put (atL (flL g e (e * e)) p).2.1 (atL (flL g e (e * e)) p).2.2.1 (g.L (atL (flL g e (e * e)) p).2.1 (atL (flL g e (e * e)) p).2.2.1 ++ [(atL (flL g e (e * e)) p).2.2.2]))
set_option maxRecDepth 100000 in
set_option maxHeartbeats 3200000 in
theorem rdouble_any (w : World) (O : Ow) (q : Nat) (g : NC) (h : RefX w O q g) (hI : In O w) (e : Nat) (he : g.ends = (e : Int)) (p : Int) :
    Calls Try.prog 40 #[fptr q, .int .i64 p] w fun x w' => x = .returned (.int .i64 (dblOut g e p).1) ∧ RefX w' O q (dblOut g e p).2 ∧ Tu (fun k => k = q) w w' := by
  obtain ⟨er, t, hat⟩ : ∃ er t, atL (flL g e (e * e)) p = (er, t) := ⟨_, _, rfl⟩
  have h32 := h.2.2.2.2.2
  have h0 := h.2.2.2.2.1
  obtain ⟨d1, d2, hd⟩ : ∃ d1 d2, dblOut g e p = (d1, d2) := ⟨_, _, rfl⟩
  rw [hd]
  have Hd := Lib.hid hd
  clear hd
  go_enter Try.func40, Try.ntmps40
  go_wp2_with fail
  refine (rat_any w O q g h e he p er t hat).mono ?_
  rintro x w1 ⟨A, c, rfl, hB, hx1⟩
  have hxf := (Ext.refl w1).alloc (.cells #[.int .i64 t.1, .int .i64 t.2.1, .slice A t.2.2.length c] 51)
  have bf := Blk.new w1 51 #[.int .i64 t.1, .int .i64 t.2.1, .slice A t.2.2.length c]
  have hx2 := hx1.trans hxf
  have s0 := bf.cell 0
  have s1 := bf.cell 1
  have s2 := bf.cell 2
  simp at s0 s1 s2
  have Hat := Lib.hid hat
  by_cases h1 : er = 0
  · subst h1
    have hok := atL_ok h0 hat
    clear hat
    go_wp2_with fail
    refine (rline_any _ O q g (h.ext hx2) t.1 t.2.1).mono ?_
    rintro x w2 ⟨rfl, rfl⟩
    by_cases hl : 32 ≤ (g.L t.1 t.2.1).length
    · have e0 : dblOut g e p = (5, g) := by rw [dblOut, Hat.out]; simp [hl]
      rw [Hd.out] at e0
      obtain ⟨rfl, rfl⟩ := Prod.mk.inj e0
      have hlI : (32 : Int) ≤ ((d2.L t.1 t.2.1).length : Int) := by omega
      go_wp2_with fail
      go_ret
      exact ⟨rfl, h.ext hx2, Tu.of_ext hx2⟩
    · have e0 : dblOut g e p = (0, g.put t.1 t.2.1 (g.L t.1 t.2.1 ++ [t.2.2])) := by rw [dblOut, Hat.out]; simp [hl]
      rw [Hd.out] at e0
      obtain ⟨rfl, rfl⟩ := Prod.mk.inj e0
      have hlI : ¬ (32 : Int) ≤ ((g.L t.1 t.2.1).length : Int) := by omega
      go_wp2_with fail
      have hB2 := hB.ext hxf
      have hb20 := hB.2.1
      refine (rsend_any _ O q g (h.ext hx2) (hI.ext hx2.size) t.1 t.2.1 A c t.2.2 hB2.1 (by unfold maxLen; omega)).mono ?_
      rintro x w3 ⟨rfl, hR, T⟩
      have es : sendOut g t.1 t.2.1 t.2.2 = (0, g.put t.1 t.2.1 (g.L t.1 t.2.1 ++ [t.2.2])) := by rw [sendOut, if_neg (by rintro (h | h); exact h hok; omega), if_neg hl]
      rw [es] at hR ⊢
      go_wp2_with fail
      go_ret
      exact ⟨rfl, hR, (Tu.of_ext hx2).trans T⟩
  · obtain ⟨rfl, her⟩ := atL_ne hat h1
    have e0 : dblOut g e p = (er, g) := by rw [dblOut, Hat.out, if_pos h1]
    rw [Hd.out] at e0
    obtain ⟨rfl, rfl⟩ := Prod.mk.inj e0
    clear hat
    have hne : (d1 == 0) = false := by simpa using h1
    have Hne := Lib.hid h1
    clear h1 her
    go_wp2_with fail
    go_ret
    exact ⟨rfl, h.ext hx2, Tu.of_ext hx2⟩
end partRdbl
section partRtake
open Go.RowKit Go.Maps
set_option linter.unusedVariables false
set_option linter.unusedSimpArgs false
attribute [local go_sem] Oper.semAt_some

/-- of one line -/
def ofL (t s : Int × Int × Row) : Bool := decide (s.1 = t.1 ∧ s.2.1 = t.2.1)
def cntB (l : List (Int × Int × Row)) (P : Nat) (t : Int × Int × Row) : Nat := (l.take P).countP (ofL t)
theorem filter_at {α : Type} (f : α → Bool) : ∀ (l : List α) (P : Nat) (x : α), l[P]? = some x → f x = true → (l.filter f)[(l.take P).countP f]? = some x
  | [], P, x, h, _ => by simp at h
  | a :: l, 0, x, h, hf => by
    simp at h
    subst h
    simp [hf]
  | a :: l, P + 1, x, h, hf => by
    have ih := filter_at f l P x (by simpa using h) hf
    by_cases ha : f a = true
    · simp [ha, ih]
    · simp [ha, ih]
theorem flL_of (g : NC) {e : Nat} {t : Int × Int × Row} (hm : (t.1, t.2.1) ∈ orderL e (e * e)) : (flL g e (e * e)).filter (ofL t) = (g.L t.1 t.2.1).map fun r => (t.1, t.2.1, r) := by
  obtain ⟨s, u, hst⟩ := List.append_of_mem hm
  have hnd := ord_nodup e
  rw [hst] at hnd
  have h1 : ∀ p ∈ s, p ≠ (t.1, t.2.1) := fun p hp e' => by
    subst e'
    exact (List.nodup_append.1 hnd).2.2 _ hp _ List.mem_cons_self rfl
  have h2 : ∀ p ∈ u, p ≠ (t.1, t.2.1) := fun p hp e' => by
    subst e'
    exact (List.nodup_cons.1 (List.nodup_append.1 hnd).2.1).1 hp
  have hno : ∀ m : List (Int × Int), (∀ p ∈ m, p ≠ (t.1, t.2.1)) → (m.flatMap fun p => (g.L p.1 p.2).map fun r => (p.1, p.2, r)).filter (ofL t) = [] := fun m hm' => by
    rw [List.filter_eq_nil_iff]
    intro x hx
    obtain ⟨p, hp, hx⟩ := List.mem_flatMap.1 hx
    obtain ⟨r, _, rfl⟩ := List.mem_map.1 hx
    have := hm' p hp
    simp only [ofL, decide_eq_true_eq]
    rintro ⟨e1, e2⟩
    exact this (Prod.ext e1 e2)
  rw [flL, hst, List.flatMap_append, List.flatMap_cons, List.filter_append, List.filter_append, hno s h1, hno u h2, List.nil_append, List.append_nil, List.filter_eq_self.2]
  intro x hx
  obtain ⟨r, _, rfl⟩ := List.mem_map.1 hx
  simp [ofL]
theorem ok_ord' {g : NC} {e : Nat} (he : g.ends = (e : Int)) {a b : Int} (h : g.ok a b) : (a, b) ∈ orderL e (e * e) := by
  unfold NC.ok at h
  exact mem_ord (by omega) (by omega)
theorem take_at {g : NC} {e : Nat} (he : g.ends = (e : Int)) (h0 : ∀ a b, ¬ g.ok a b → g.L a b = []) {p : Int} {t : Int × Int × Row} (h : atL (flL g e (e * e)) p = (0, t)) : (g.L t.1 t.2.1)[cntB (flL g e (e * e)) p.toNat t]? = some t.2.2 := by
  have hok := atL_ok h0 h
  have h1 := filter_at (ofL t) _ _ _ (atL_zero h).2 (by simp [ofL])
  rw [flL_of g (ok_ord' he hok), List.getElem?_map] at h1
  cases h2 : (g.L t.1 t.2.1)[((flL g e (e * e)).take p.toNat).countP (ofL t)]? with
  | none => rw [h2] at h1; cases h1
  | some r =>
    rw [h2] at h1
    have := congrArg (fun o : Option (Int × Int × Row) => o.map fun x => x.2.2) h1
    simp at this
    rw [cntB, h2, this]
/-- what Take answers, and the net behind it -/
def takeG (g : NC) (e : Nat) (p : Int) : NC :=
  if (atL (flL g e (e * e)) p).1 = 0 then g.del (atL (flL g e (e * e)) p).2.1 (atL (flL g e (e * e)) p).2.2.1 (cntB (flL g e (e * e)) p.toNat (atL (flL g e (e * e)) p).2) else g
theorem RefX.off {w w' : World} {O : Ow} {q : Nat} {g : NC} {S : Nat → Prop} (h : RefX w O q g) (T : Tu S w w') (hS : ∀ k, S k → ∀ cu z, w.heap[k]? ≠ some (.cells cu 5 z) ∧ w.heap[k]? ≠ some (.cells cu 38 z)) (hq : ¬ S q) : RefX w' O q g := by
  obtain ⟨h1, ⟨vs, h2, h3, h4⟩, h5⟩ := h
  exact ⟨h1, ⟨vs, h2, h3.tu T hq, fun a b ha hb => by
    obtain ⟨v, q1, q2⟩ := h4 a b ha hb
    exact ⟨v, q1, q2.off T hS⟩⟩, h5⟩
set_option maxRecDepth 100000 in
set_option maxHeartbeats 3200000 in
theorem rtake_any (w : World) (O : Ow) (q : Nat) (g : NC) (h : RefX w O q g) (hI : In O w) (e : Nat) (he : g.ends = (e : Int)) (p : Int) (er : Int) (t : Int × Int × Row) (hat : atL (flL g e (e * e)) p = (er, t)) :
    Calls Try.prog 39 #[fptr q, .int .i64 p] w fun x w' => ∃ A c, x = .returned (.tuple #[fl t.1 t.2.1 A t.2.2.length c, .int .i64 er]) ∧ FB w' O t (A, c) ∧ RefX w' O q (takeG g e p) ∧ Tu (fun k => k = q) w w' := by
  have h32 := h.2.2.2.2.2
  have h0 := h.2.2.2.2.1
  have heb := h.endsb
  have hle := flL_le h.2.2.2.2.2 (e := e) (by omega) (Nat.le_refl (e * e))
  obtain ⟨d2, hd⟩ : ∃ d2, takeG g e p = d2 := ⟨_, rfl⟩
  rw [hd]
  have Hd := Lib.hid hd
  clear hd
  have hx1 := (Ext.refl w).alloc (.cells #[.int .i64 0, .int .i64 0, .slice none 0 0] 51)
  have b1 := Blk.new w 51 #[.int .i64 0, .int .i64 0, .slice none 0 0]
  have h1 := h.ext hx1
  go_enter Try.func39, Try.ntmps39
  go_wp2_with fail
  generalize w.alloc (.cells #[.int .i64 0, .int .i64 0, .slice none 0 0] 51) = w1 at *
  obtain ⟨z, hz⟩ : ∃ z, w.heap.size = z := ⟨_, rfl⟩
  rw [hz] at b1 ⊢
  refine (rat_any w1 O q g h1 e he p er t hat).mono ?_
  rintro x w2 ⟨A, c, rfl, hB, hx2⟩
  have hxf := (Ext.refl w2).alloc (.cells #[.int .i64 t.1, .int .i64 t.2.1, .slice A t.2.2.length c] 51)
  have bf := Blk.new w2 51 #[.int .i64 t.1, .int .i64 t.2.1, .slice A t.2.2.length c]
  have hx3 := (hx1.trans hx2).trans hxf
  have b3 := (b1.ext hx2).ext hxf
  have hB3 := hB.ext hxf
  have h3 := h.ext hx3
  have hzf : z < w2.heap.size := by
    have := b1.lt
    have := hx2.size
    omega
  go_upto_region 2 with fail
  generalize w2.alloc (.cells #[.int .i64 t.1, .int .i64 t.2.1, .slice A t.2.2.length c] 51) = w3 at *
  generalize w2.heap.size = zf at *
  have keyR : ∀ (w5 : World) (b5 : Blk w5 z 51 #[.int .i64 0, .int .i64 0, .slice none 0 0]) (a b : Int) (B : Option Addr) (n d : Nat), ∃ w6, w6 = ((w5.setCell ⟨z, 0, none⟩ (.int .i64 a)).setCell ⟨z, 1, none⟩ (.int .i64 b)).setCell ⟨z, 2, none⟩ (.slice B n d) ∧ Blk w6 z 51 #[.int .i64 a, .int .i64 b, .slice B n d] ∧ Tu (fun k => k = z) w5 w6 := by
    intro w5 b5 a b B n d
    refine ⟨_, rfl, ?_, ?_⟩
    · have := ((b5.set_ 0 (.int .i64 a)).set_ 1 (.int .i64 b)).set_ 2 (.slice B n d)
      simpa using this
    · exact ((Tu.of_grown (setCell_grownBy _ _ _) (by rintro k e; cases e; rfl)).trans (Tu.of_grown (setCell_grownBy _ _ _) (by rintro k e; cases e; rfl))).trans (Tu.of_grown (setCell_grownBy _ _ _) (by rintro k e; cases e; rfl))
  have KR := Lib.hid keyR
  have Hat := Lib.hid hat
  have Hz := Lib.hid hz
  clear keyR hx1 b1 h1 hz hxf hB
  by_cases hr0 : er = 0
  · subst hr0
    have hok := atL_ok h0 hat
    obtain ⟨hp0, hpt⟩ := atL_zero hat
    have htk := take_at he h0 hat
    obtain ⟨P, rfl⟩ : ∃ P : Nat, p = P := ⟨p.toNat, by omega⟩
    rw [Int.toNat_natCast] at hpt htk
    have HT := Lib.hid (And.intro hok (And.intro hpt htk))
    clear hat hok hpt htk
    go_wp2_with fail
    refine (rflights_any w3 O q g h3 e he).mono ?_
    rintro x w4 ⟨v, rfl, ⟨ps, hF⟩, hx4⟩
    obtain ⟨ts, hts⟩ : ∃ ts, flL g e (e * e) = ts := ⟨_, rfl⟩
    rw [hts] at hF hle HT
    have HTS := Lib.hid hts
    clear hts
    obtain ⟨Af, cf, rfl⟩ := own_slice hF.2.1
    have h4 := h3.ext hx4
    have b4 := b3.ext hx4
    have bf4 := bf.ext hx4
    have hB4 := hB3.ext hx4
    have hx5 := hx3.trans hx4
    clear b3 bf hB3 h3
    go_wp2_with fail
    have hPl : P < ts.length := by
      obtain ⟨_, k2, _⟩ := HT.out
      exact (List.getElem?_eq_some_iff.1 k2).1
    go_loopw [9, 10] (fun kv iv wr => ∃ j : Nat, j ≤ P ∧ iv = .int .i64 (j : Int) ∧ kv = .int .i64 ((cntB ts j t : Nat) : Int) ∧ Ext w4 wr) (fun _ iv _ => P - (nOf iv).toNat)
    case atStart => exact ⟨0, Nat.zero_le _, rfl, by simp [cntB], Ext.refl _⟩
    case round =>
      obtain ⟨j, hj, rfl, rfl, hx⟩ := hrel
      by_cases hlj : j < P
      · have hljI : (j : Int) < (P : Int) := by omega
        have hljL : (j : Int) < (ts.length : Int) := by omega
        obtain ⟨s, hs⟩ : ∃ s, ts[j]? = some s := ⟨_, List.getElem?_eq_getElem (by omega)⟩
        obtain ⟨rb, r, rfl, rb1, rb2, hr, hBs, a0, a1, a2⟩ := hF.pick hs
        have hcn : cntB ts (j + 1) t = cntB ts j t + (if ofL t s = true then 1 else 0) := by
          rw [cntB, cntB, List.take_add_one, hs, List.countP_append]
          simp [List.countP_cons]
        have HC := Lib.hid hcn
        clear hcn hs hr
        obtain ⟨cn, hcn⟩ : ∃ cn, cntB ts j t = cn := ⟨_, rfl⟩
        rw [hcn] at HC
        have HCN := Lib.hid hcn
        rw [hcn]
        clear hcn
        have hcl : cn ≤ 1000 := by
          rw [← HCN.out, cntB]
          refine Nat.le_trans List.countP_le_length (Nat.le_trans (List.length_take_le _ _) ?_)
          omega
        go_wp2_with fail
        have hxd := (Ext.refl wr).drew
        refine wp_region_plan Ext [(0, true), (1, true), (2, true), (3, true), (4, true), (5, true), (6, true), (7, true), (8, true), (9, true), (10, true), (11, true), (12, true), (13, true), (14, true), (15, true), (16, true), (17, true)] (fun _ _ _ x y => Ext.trans x y) Ext.refl (by kernel_rfl) (by kernel_rfl) ?_
        intro K hK
        have hxx := hx.trans hxd
        have t0 : ∀ y : Above Ext wr.drew, y.1.cell? ⟨zf, 0, none⟩ = some (.int .i64 t.1) := fun y => ((bf4.ext hxx).ext y.2).cell 0
        have t1 : ∀ y : Above Ext wr.drew, y.1.cell? ⟨zf, 1, none⟩ = some (.int .i64 t.2.1) := fun y => ((bf4.ext hxx).ext y.2).cell 1
        have c0 : ∀ y : Above Ext wr.drew, y.1.cell? ⟨rb, j * 3, none⟩ = some (.int .i64 s.1) := fun y => (hxx.trans y.2).cellSome a0
        have c1 : ∀ y : Above Ext wr.drew, y.1.cell? ⟨rb, j * 3 + 1, none⟩ = some (.int .i64 s.2.1) := fun y => (hxx.trans y.2).cellSome a1
        by_cases q0 : s.1 = t.1
        · have q0' : (s.1 == t.1) = true := by simpa using q0
          have Q0 := Lib.hid q0
          clear q0
          iterate 18 (
            refine plan_q (v := ?_) rfl rfl ?_ ?_
            rotate_left
            · intro x
              go_simp
              first | done | rfl
            simp only [Act.put, List.getElem_toArray, List.getElem_cons_zero, List.getElem_cons_succ, List.setIfInBounds_toArray, List.set_cons_zero, List.set_cons_succ])
          refine plan_end (hK.out _ _ ?_)
          clear hK K
          obtain ⟨bb, hbb⟩ : ∃ bb, (s.2.1 == t.2.1) = bb := ⟨_, rfl⟩
          have HB := Lib.hid hbb
          rw [hbb]
          clear hbb t0 t1 c0 c1
          cases bb with
          | true =>
            go_wp2_with fail
            refine ⟨⟨j + 1, by omega, by simp, ?_, hxx⟩, by simp [nOf]; omega⟩
            have : ofL t s = true := by
              have h1 := HB.out
              simp at h1
              simp [ofL, Q0.out, h1]
            rw [HC.out, this]
            simp
          | false =>
            go_wp2_with fail
            refine ⟨⟨j + 1, by omega, by simp, ?_, hxx⟩, by simp [nOf]; omega⟩
            have : ofL t s = false := by
              have h1 := HB.out
              simp at h1
              simp [ofL, h1]
            rw [HC.out, this]
            simp
        · have q0' : (s.1 == t.1) = false := by simpa using q0
          have Q0 := Lib.hid q0
          clear q0
          iterate 9 (
            refine plan_q (v := ?_) rfl rfl ?_ ?_
            rotate_left
            · intro x
              go_simp
              first | done | rfl
            simp only [Act.put, List.getElem_toArray, List.getElem_cons_zero, List.getElem_cons_succ, List.setIfInBounds_toArray, List.set_cons_zero, List.set_cons_succ])
          iterate 8 (
            refine plan_n rfl (by kernel_rfl) ?_
            simp only [Act.put, List.getElem_toArray, List.getElem_cons_zero, List.getElem_cons_succ, List.setIfInBounds_toArray, List.set_cons_zero, List.set_cons_succ])
          iterate 1 (
            refine plan_q (v := ?_) rfl rfl ?_ ?_
            rotate_left
            · intro x
              go_simp
              first | done | rfl
            simp only [Act.put, List.getElem_toArray, List.getElem_cons_zero, List.getElem_cons_succ, List.setIfInBounds_toArray, List.set_cons_zero, List.set_cons_succ])
          refine plan_end (hK.out _ _ ?_)
          clear hK K
          clear t0 t1 c0 c1
          go_wp2_with fail
          refine ⟨⟨j + 1, by omega, by simp, ?_, hxx⟩, by simp [nOf]; omega⟩
          have : ofL t s = false := by
            have h1 := Q0.out
            simp [ofL, h1]
          rw [HC.out, this]
          simp
      · obtain rfl : j = P := by omega
        have hG : takeG g e (j : Int) = g.del t.1 t.2.1 (cntB ts j t) := by
          rw [takeG, Hat.out, if_pos rfl, HTS.out, Int.toNat_natCast]
        rw [Hd.out] at hG
        obtain ⟨hok, _, htk⟩ := HT.out
        obtain ⟨cn, hcn⟩ : ∃ cn, cntB ts j t = cn := ⟨_, rfl⟩
        rw [hcn] at hG htk ⊢
        clear hcn
        have h5 := h4.ext hx
        have bf5 := bf4.ext hx
        have b5 := b4.ext hx
        have hB5 := hB4.ext hx
        have hx6 := hx5.trans hx
        clear h4 bf4 b4 hB4 hF
        obtain ⟨ta, tb, tr⟩ := t
        simp only at hok htk hG
        obtain ⟨k1, k2, k3, k4, k5⟩ := id hok
        obtain ⟨x1, rfl⟩ : ∃ x : Nat, ta = x := ⟨ta.toNat, by omega⟩
        obtain ⟨y1, rfl⟩ : ∃ y : Nat, tb = y := ⟨tb.toNat, by omega⟩
        obtain ⟨v, hv, L⟩ := h5.line (a := x1) (b := y1) (by omega) (by omega)
        have hl32 := h32 x1 y1
        obtain ⟨ls, hls⟩ : ∃ ls, g.L x1 y1 = ls := ⟨_, rfl⟩
        rw [hls] at htk L hl32
        have hdel : g.del x1 y1 cn = g.put x1 y1 (ls.take cn ++ ls.drop (cn + 1)) := by rw [NC.del, hls]
        rw [hdel] at hG
        have HG := Lib.hid (And.intro hG hok)
        have hcl : cn < ls.length := (List.getElem?_eq_some_iff.1 htk).1
        clear hG hdel hls htk
        obtain ⟨A0, cp, cs, rfl, l2, l3, l4⟩ := id L
        obtain ⟨lb, off, rfl, l5, ⟨lcu, lz, l6⟩, l7⟩ := l4.resolve_left (by omega)
        go_wp2_with fail
        have hxd := (Ext.refl wr).drew
        have ei1 : (x1 : Int) < 6 := by omega
        have ei2 : (y1 : Int) < 6 := by omega
        refine wp_region_plan Ext [(0, true), (1, true), (2, true), (3, true), (4, true), (5, true), (6, true), (7, true), (8, true), (9, true), (10, true)] (fun _ _ _ x y => Ext.trans x y) Ext.refl (by kernel_rfl) (by kernel_rfl) ?_
        intro K hK
        have t0 : ∀ y : Above Ext wr.drew, y.1.cell? ⟨zf, 0, none⟩ = some (.int .i64 x1) := fun y => ((bf5.ext hxd).ext y.2).cell 0
        have t1 : ∀ y : Above Ext wr.drew, y.1.cell? ⟨zf, 1, none⟩ = some (.int .i64 y1) := fun y => ((bf5.ext hxd).ext y.2).cell 1
        have t2 : ∀ y : Above Ext wr.drew, y.1.cell? ⟨q, x1 * 6 + y1, none⟩ = some (.slice (some ⟨lb, off, none⟩) ls.length cp) := fun y => (hxd.trans y.2).cellSome hv
        iterate 11 (
          refine plan_q (v := ?_) rfl rfl ?_ ?_
          rotate_left
          · intro x
            go_simp
            first | done | rfl
          simp only [Act.put, List.getElem_toArray, List.getElem_cons_zero, List.getElem_cons_succ, List.setIfInBounds_toArray, List.set_cons_zero, List.set_cons_succ])
        refine plan_end (hK.out _ _ ?_)
        clear hK K
        clear t0 t1 t2
        have hx7 := hx6.trans hxd
        have h6 := h5.ext hxd
        have bf6 := bf5.ext hxd
        have b6 := b5.ext hxd
        have hB6 := hB5.ext hxd
        have L6 := L.keep (w' := wr.drew) (O' := O) hxd.size (fun k hk e => ⟨hxd.blk hk, e⟩)
        have hv6 := hxd.cellSome hv
        have l36 := l3.keep (w' := wr.drew) (O' := O) hxd.size (fun k hk e => ⟨hxd.blk hk, e⟩)
        have l76 : ∀ (j : Nat) (u : Value), cs[j]? = some u → wr.drew.cell? ⟨lb, off + j, none⟩ = some u := fun j u hu => hxd.cellSome (l7 j u hu)
        clear hxd h5 bf5 b5 hB5 L hv l3 l7 l6
        generalize wr.drew = wd at *
        go_wp2_with fail
        have hxd := (Ext.refl wd).drew
        have hcn1 : (cn : Int) ≤ (cp : Int) := by omega
        have hcn2 : (cn : Int) + 1 ≤ (ls.length : Int) := by omega
        have hzw := b6.lt
        have hzfw := bf6.lt
        have hqw : q < wd.heap.size ∧ q ≠ zf := by
          obtain ⟨_, ⟨vs, _, h3', _⟩, _⟩ := h6
          obtain ⟨_, ⟨vs', _, h3'', _⟩, _⟩ := h
          have := h3''.lt
          have := Hz.out
          exact ⟨h3'.lt, by omega⟩
        have hnS : ∀ k, k = zf → ¬ (k = q ∨ wd.heap.size ≤ k) := by
          rintro k rfl
          omega
        refine wp_region_pl (Tu (fun k => k = q ∨ wd.heap.size ≤ k)) [.q 0, .q 1, .q 2, .q 3, .q 4, .q 5, .q 6, .q 7, .q 9, .q 10, .q 11, .q 12, .q 14, .q 15, .q 16, .f 8, .f 13, .q 17, .f 18] (fun _ _ _ x y => (fun x y => Tu.trans x y) x y) (Tu.refl (fun k => k = q ∨ wd.heap.size ≤ k)) (by kernel_rfl) (by kernel_rfl) ?_
        intro K hK
        have t0 : ∀ y : Above (Tu (fun k => k = q ∨ wd.heap.size ≤ k)) wd.drew, y.1.cell? ⟨zf, 0, none⟩ = some (.int .i64 x1) := fun y => ((bf6.ext hxd).tu y.2 (hnS _ rfl)).cell 0
        have t1 : ∀ y : Above (Tu (fun k => k = q ∨ wd.heap.size ≤ k)) wd.drew, y.1.cell? ⟨zf, 1, none⟩ = some (.int .i64 y1) := fun y => ((bf6.ext hxd).tu y.2 (hnS _ rfl)).cell 1
        have hwr : IntKind.i64.wrap ((cn : Int) + 1) = ((cn + 1 : Nat) : Int) := by rw [IntKind.wrap_i64]; omega
        have hcn3 : ((cn + 1 : Nat) : Int) ≤ (ls.length : Int) := by omega
        obtain ⟨A8, hA8⟩ : ∃ A8 : Option Addr, (if cp = cn + 1 then some ⟨lb, off, none⟩ else some ⟨lb, off + (cn + 1), none⟩) = A8 := ⟨_, rfl⟩
        iterate 11 (
          refine pl_q (v := ?_) rfl rfl ?_ ?_
          rotate_left
          · intro x
            go_simp
            first | done | rfl
          simp only [Act.put, List.getElem_toArray, List.getElem_cons_zero, List.getElem_cons_succ, List.setIfInBounds_toArray, List.set_cons_zero, List.set_cons_succ])
        refine pl_q (v := .slice A8 (ls.length - (cn + 1)) (cp - (cn + 1))) rfl (by kernel_rfl) (fun y => ?_) ?_
        · go_simp
          rw [← hA8]
          intro hneg
          exact absurd hneg (by omega)
        simp only [Act.put, List.getElem_toArray, List.getElem_cons_zero, List.getElem_cons_succ, List.setIfInBounds_toArray, List.set_cons_zero, List.set_cons_succ]
        iterate 3 (
          refine pl_q (v := ?_) rfl rfl ?_ ?_
          rotate_left
          · intro x
            go_simp
            first | done | rfl
          simp only [Act.put, List.getElem_toArray, List.getElem_cons_zero, List.getElem_cons_succ, List.setIfInBounds_toArray, List.set_cons_zero, List.set_cons_succ])
        clear t0 t1
        obtain ⟨i0, hi, hz0, hz1, hz2⟩ := info_parts info_bs
        have hcsl : cs.length = ls.length := l36.1
        have hone := l36.one
        refine pl_l rfl rfl ?_
        intro K2 hK2
        refine wp_one rfl ?_
        refine wpList_append_any rfl _ _ 31 rfl wd.heap.size 38 i0 (.slice none 0 0) 1 24 Try.underlying31 hi hz0 hz1 hz2 rfl (by decide) (.slice none 0 0) 0 [] rfl (World.ownsRow_nil _ _ _ _) (some ⟨lb, off, none⟩) cn cp (cs.take cn) rfl (by rw [List.length_take]; omega) (fun e => by cases e) ?_ (fun u hu => hone u (List.mem_of_mem_take hu)) (by unfold maxLen; omega) (by omega) (Nat.le_refl _) ?_
        · rintro ad e' jj u hu
          cases e'
          have hadd : (⟨lb, off, none⟩ : Addr).add jj = ⟨lb, off + jj, none⟩ := by unfold Addr.add; split <;> simp_all
          rw [hadd]
          refine hxd.cellSome (l76 jj u ?_)
          rw [List.getElem?_take] at hu
          split at hu
          · exact hu
          · cases hu
        intro v1 w1' row1 g1 loc1
        show K2 _ _
        refine hK2.out _ _ (Tu.of_grown g1 (fun k e => by cases e)) ?_
        clear hK2 K2
        try simp only [Act.put, List.getElem_toArray, List.getElem_cons_zero, List.getElem_cons_succ, List.setIfInBounds_toArray, List.set_cons_zero, List.set_cons_succ]
        rw [Nat.zero_add, List.nil_append] at row1
        have hxa : Ext wd w1' := (Tu.of_grown g1 (S := fun k => wd.heap.size ≤ k) (fun k e => by cases e)).ext_of hxd (fun k hk => hk)
        refine pl_l rfl rfl ?_
        intro K2 hK2
        refine wp_one rfl ?_
        refine wpList_append_any rfl _ _ 31 rfl wd.heap.size 38 i0 (.slice none 0 0) 1 24 Try.underlying31 hi hz0 hz1 hz2 rfl (by decide) v1 cn (cs.take cn) rfl row1 A8 (ls.length - (cn + 1)) (cp - (cn + 1)) (cs.drop (cn + 1)) rfl (by rw [List.length_drop]; omega) (fun e => by rw [e] at hA8; split at hA8 <;> cases hA8) ?_ (fun u hu => hone u (List.mem_of_mem_drop hu)) (by unfold maxLen; omega) (by omega) hxa.size ?_
        · rintro ad e' jj u hu
          rw [List.getElem?_drop] at hu
          have hjl := (List.getElem?_eq_some_iff.1 hu).1
          rw [if_neg (by omega), e'] at hA8
          cases hA8
          have hadd : (⟨lb, off + (cn + 1), none⟩ : Addr).add jj = ⟨lb, off + (cn + 1 + jj), none⟩ := by
            have : (⟨lb, off + (cn + 1), none⟩ : Addr).add jj = ⟨lb, off + (cn + 1) + jj, none⟩ := by unfold Addr.add; split <;> simp_all
            rw [this, Nat.add_assoc]
          rw [hadd]
          exact hxa.cellSome (l76 _ u hu)
        intro v5 w5 row5 g5 loc5
        have T5 : Tu (fun k => wd.heap.size ≤ k) w1' w5 := Tu.of_grown g5 (fun k e => (row1.lt k e).1)
        show K2 _ _
        refine hK2.out _ _ (T5.mono (fun k e => .inr e)) ?_
        clear hK2 K2
        try simp only [Act.put, List.getElem_toArray, List.getElem_cons_zero, List.getElem_cons_succ, List.setIfInBounds_toArray, List.set_cons_zero, List.set_cons_succ]
        have hx5' : Ext wd w5 := T5.ext_of hxa (fun k hk => hk)
        iterate 1 (
          refine pl_q (v := ?_) rfl rfl ?_ ?_
          rotate_left
          · intro x
            go_simp
            first | done | rfl
          simp only [Act.put, List.getElem_toArray, List.getElem_cons_zero, List.getElem_cons_succ, List.setIfInBounds_toArray, List.set_cons_zero, List.set_cons_succ])
        obtain ⟨cs0, hBq⟩ : ∃ cs0, Blk wd q 35 cs0 := by
          obtain ⟨_, ⟨vs, _, h3', _⟩, _⟩ := h6
          exact ⟨_, h3'⟩
        have hBq5 := hBq.ext hx5'
        have f37 := hBq5.free (x1 * 6 + y1)
        have hv5 := hx5'.cellSome hv6
        obtain ⟨rs, hrs⟩ : ∃ rs, ls.take cn ++ ls.drop (cn + 1) = rs := ⟨_, rfl⟩
        have hnl : cn + (ls.length - (cn + 1)) = rs.length := by rw [← hrs, List.length_append, List.length_take, List.length_drop]; omega
        rw [hnl] at row5
        have hR5 : RowsAt w5 O (cs.take cn ++ cs.drop (cn + 1)) (ls.take cn ++ ls.drop (cn + 1)) := (l36.keep (w' := w5) (O' := O) hx5'.size (fun k hk e => ⟨hx5'.blk hk, e⟩)).del cn hcl
        obtain ⟨hG1, hG2⟩ := HG.out
        rw [hrs] at hR5 hG1
        clear hrs
        obtain ⟨A5, c5, rfl⟩ := own_slice row5
        have T6 : Tu (fun k => k = q) w5 (w5.setCell ⟨q, x1 * 6 + y1, none⟩ (.slice A5 rs.length c5)) := Tu.of_grown (setCell_grownBy _ _ _) (by rintro k e; cases e; rfl)
        refine pl_l rfl (by kernel_rfl) ?_
        intro K2 hK2
        go_simp
        refine hK2.out _ _ (T6.mono (fun k e => .inl e)) ?_
        clear hK2 K2
        try simp only [Act.put, List.getElem_toArray, List.getElem_cons_zero, List.getElem_cons_succ, List.setIfInBounds_toArray, List.set_cons_zero, List.set_cons_succ]
        refine pl_end (hK.out _ _ ?_)
        clear hK K
        have hor : ∀ k : Nat, wd.heap.size ≤ k → O k = none := fun k hk => hI.none (by have := hx7.size; omega)
        have hoff : ∀ k, k = q → ∀ cu z', w5.heap[k]? ≠ some (.cells cu 5 z') ∧ w5.heap[k]? ≠ some (.cells cu 38 z') := fun k hk cu z' => ⟨hBq5.not_ty (by decide) k hk cu z', hBq5.not_ty (by decide) k hk cu z'⟩
        have L6' := (LineR.of_own row5 hR5 (fun k e => hor k (row5.lt k e).1)).off T6 hoff
        have hRX := (h6.ext hx5').set (show x1 < 6 by omega) (show y1 < 6 by omega) T6 (fun c hc => hc.set_ _ _) L6' (by omega) (fun hn => absurd hG2 hn)
        have hBw := (hB6.ext hx5').off T6 (fun k hk cu z' => (hoff k hk cu z').1)
        have hzq : z ≠ q := by
          have := Hz.out
          obtain ⟨_, ⟨vs', _, h3'', _⟩, _⟩ := h
          have := h3''.lt
          omega
        have b7 := (b6.ext hx5').tu T6 (fun e => hzq e)
        have bf7 := (bf6.ext hx5').tu T6 (fun e => hqw.2 e.symm)
        have Tw : Tu (fun k => k = q) w _ := (Tu.of_ext (hx7.trans hx5')).trans T6
        clear hoff L6' hR5 hor T6 hv5 f37 hBq hBq5
        generalize w5.setCell ⟨q, x1 * 6 + y1, none⟩ (.slice A5 rs.length c5) = w8 at *
        have s0 := bf7.cell 0
        have s1 := bf7.cell 1
        have s2 := bf7.cell 2
        have f0 := b7.free 0
        have f1 := b7.free 1
        have f2 := b7.free 2
        have r0 := b7.cell 0
        have r1 := b7.cell 1
        have r2 := b7.cell 2
        obtain ⟨w9, e9, bb9, T9⟩ := KR.out _ b7 (x1 : Int) (y1 : Int) A tr.length c
        simp at s0 s1 s2
        go_wp2_with fail
        rw [← e9]
        have hoz : ∀ k, k = z → ∀ cu z', w8.heap[k]? ≠ some (.cells cu 5 z') ∧ w8.heap[k]? ≠ some (.cells cu 38 z') := fun k hk cu z' => ⟨b7.not_ty (by decide) k hk cu z', b7.not_ty (by decide) k hk cu z'⟩
        refine bodyPost_ret (results_fl2 rfl _ _ z rfl bb9) rfl ⟨A, c, rfl, hBw.off T9 (fun k hk cu z' => (hoz k hk cu z').1), ?_, Tw.then_ T9 (fun k hk e => ?_)⟩
        · exact hRX.off T9 hoz (fun e => hzq e.symm)
        · have := Hz.out
          omega
  · have e0 : takeG g e p = g := by rw [takeG, Hat.out, if_neg hr0]
    rw [Hd.out] at e0
    subst e0
    clear hat
    have hne : (er == 0) = false := by simpa using hr0
    have Hne := Lib.hid hr0
    clear hr0
    have s0 := bf.cell 0
    have s1 := bf.cell 1
    have s2 := bf.cell 2
    have f0 := b3.free 0
    have f1 := b3.free 1
    have f2 := b3.free 2
    have r0 := b3.cell 0
    have r1 := b3.cell 1
    have r2 := b3.cell 2
    obtain ⟨w6, e6, bb, T6⟩ := KR.out _ b3 t.1 t.2.1 A t.2.2.length c
    simp at s0 s1 s2
    go_wp2_with fail
    rw [← e6]
    have hx6 : Ext w w6 := T6.ext_of hx3 (fun k hk => by have := Hz.out; omega)
    exact bodyPost_ret (results_fl2 rfl _ _ z rfl bb) rfl ⟨A, c, rfl, hB3.off T6 (b3.not_ty (by decide)), h.ext hx6, Tu.of_ext hx6⟩
end partRtake
section partRclr
open Go.RowKit Go.Maps
set_option linter.unusedVariables false
set_option linter.unusedSimpArgs false
attribute [local go_sem] Oper.semAt_some

/-- how many fly to k from the first ends -/
def cS (g : NC) (k : Int) (j : Nat) : Nat := ((List.range j).map fun i : Nat => (g.L ((i : Int) + 1) k).length).sum
theorem cS_succ (g : NC) (k : Int) (j : Nat) : cS g k (j + 1) = cS g k j + (g.L ((j : Int) + 1) k).length := by
  simp [cS, List.range_succ]
theorem cS_le {g : NC} (h : ∀ a b, (g.L a b).length ≤ 32) (k : Int) : ∀ j, cS g k j ≤ 32 * j
  | 0 => by simp [cS]
  | j + 1 => by
    rw [cS_succ]
    have := cS_le h k j
    have := h ((j : Int) + 1) k
    omega
theorem clN_in (g : NC) (e : Nat) (k : Int) (i : Nat) : ∀ j, j ≤ e → ((orderL e (i * e + j)).map fun p => if p.2 = k then (g.L p.1 p.2).length else 0).sum = ((orderL e (i * e)).map fun p => if p.2 = k then (g.L p.1 p.2).length else 0).sum + if 1 ≤ k ∧ k ≤ (j : Int) then (g.L ((i : Int) + 1) k).length else 0
  | 0, _ => by
    rw [Nat.add_zero, if_neg (by omega), Nat.add_zero]
  | j + 1, hj => by
    rw [← Nat.add_assoc, orderL_snoc (by omega), List.map_append, List.sum_append, clN_in g e k i j (by omega)]
    simp only [List.map_cons, List.map_nil, List.sum_cons, List.sum_nil, Nat.add_zero]
    by_cases h1 : (j : Int) + 1 = k
    · subst h1
      rw [if_neg (by omega), if_pos rfl, if_pos (by omega), Nat.add_zero]
    · rw [if_neg h1, Nat.add_zero]
      by_cases h2 : 1 ≤ k ∧ k ≤ (j : Int)
      · rw [if_pos h2, if_pos (by omega)]
      · rw [if_neg h2, if_neg (by omega)]
theorem clN_cS {g : NC} {e : Nat} (he : g.ends = (e : Int)) (h0 : ∀ a b, ¬ g.ok a b → g.L a b = []) (k : Int) : ∀ i, i ≤ e → ((orderL e (i * e)).map fun p => if p.2 = k then (g.L p.1 p.2).length else 0).sum = cS g k i
  | 0, _ => by simp [orderL, cS]
  | i + 1, hi => by
    rw [Nat.add_mul, Nat.one_mul, clN_in g e k i e (Nat.le_refl _), clN_cS he h0 k i (by omega), cS_succ]
    split
    · rfl
    · rename_i hk
      rw [h0 _ _ (by unfold NC.ok; omega)]
      rfl
def clrTo (g : NC) (k : Int) (j : Nat) : NC := { g with L := fun a b => if b = k ∧ a ≤ (j : Int) then [] else g.L a b }
theorem clrTo_zero {g : NC} (h0 : ∀ a b, ¬ g.ok a b → g.L a b = []) (k : Int) : clrTo g k 0 = g := by
  cases g with
  | mk x y L =>
    simp only [clrTo, NC.mk.injEq, true_and]
    funext a b
    split
    · rename_i h
      exact (h0 a b (by unfold NC.ok; omega)).symm
    · rfl
theorem clrTo_all {g : NC} {e : Nat} (he : g.ends = (e : Int)) (h0 : ∀ a b, ¬ g.ok a b → g.L a b = []) (k : Int) : clrTo g k e = g.clr k := by
  cases g with
  | mk x y L =>
    simp only [clrTo, NC.clr, NC.mk.injEq, true_and]
    funext a b
    by_cases hb : b = k
    · by_cases ha : a ≤ (e : Int)
      · rw [if_pos ⟨hb, ha⟩, if_pos hb]
      · rw [if_neg (fun h => ha h.2), if_pos hb]
        exact h0 a b (by unfold NC.ok; simp only at he ⊢; omega)
    · rw [if_neg (fun h => hb h.1), if_neg hb]
theorem clrTo_put (g : NC) (k : Int) (j : Nat) : (clrTo g k j).put ((j : Int) + 1) k [] = clrTo g k (j + 1) := by
  simp only [clrTo, NC.put, NC.mk.injEq, true_and]
  funext a b
  by_cases hb : b = k
  · by_cases ha : a = (j : Int) + 1
    · rw [if_pos ⟨ha, hb⟩, if_pos ⟨hb, by omega⟩]
    · rw [if_neg (fun h => ha h.1)]
      by_cases h2 : a ≤ (j : Int)
      · rw [if_pos ⟨hb, h2⟩, if_pos ⟨hb, by omega⟩]
      · rw [if_neg (fun h => h2 h.2), if_neg (fun h => by omega)]
  · rw [if_neg (fun h => hb h.2), if_neg (fun h => hb h.1), if_neg (fun h => hb h.1)]
theorem clrTo_no {g : NC} {k : Int} {j : Nat} (h : g.L ((j : Int) + 1) k = []) : clrTo g k (j + 1) = clrTo g k j := by
  simp only [clrTo, NC.mk.injEq, true_and]
  funext a b
  by_cases hb : b = k
  · subst hb
    by_cases ha : a = (j : Int) + 1
    · subst ha
      rw [if_pos ⟨rfl, by omega⟩, if_neg (fun h => by omega), h]
    · by_cases h2 : a ≤ (j : Int)
      · rw [if_pos ⟨rfl, by omega⟩, if_pos ⟨rfl, h2⟩]
      · rw [if_neg (fun h => by omega), if_neg (fun h => h2 h.2)]
  · rw [if_neg (fun h => hb h.1), if_neg (fun h => hb h.1)]
theorem clrTo_L (g : NC) (k : Int) (j : Nat) : (clrTo g k j).L ((j : Int) + 1) k = g.L ((j : Int) + 1) k := by
  simp only [clrTo]
  rw [if_neg (fun h => by omega)]
set_option maxRecDepth 100000 in
set_option maxHeartbeats 3200000 in
theorem rclear_any (w : World) (O : Ow) (q : Nat) (g : NC) (h : RefX w O q g) (e : Nat) (he : g.ends = (e : Int)) (k : Int) :
    Calls Try.prog 41 #[fptr q, .int .i64 k] w fun x w' => x = .returned (.int .i64 (clN g e k : Nat)) ∧ RefX w' O q (g.clr k) ∧ Tu (fun k => k = q) w w' := by
  have h0 := h.2.2.2.2.1
  have h32 := h.2.2.2.2.2
  have heb := h.endsb
  have hcl : clN g e k = cS g k e := clN_cS he h0 k e (Nat.le_refl _)
  rw [hcl, ← clrTo_all he h0 k]
  clear hcl
  go_enter Try.func41, Try.ntmps41
  go_wp2_with fail
  go_loopw [5, 6] (fun mv av wr => ∃ j : Nat, j ≤ e ∧ av = .int .i64 ((j : Int) + 1) ∧ mv = .int .i64 ((cS g k j : Nat) : Int) ∧ RefX wr O q (clrTo g k j) ∧ Tu (fun k => k = q) w wr) (fun _ av _ => e + 1 - (nOf av).toNat)
  case atStart => exact ⟨0, Nat.zero_le _, rfl, by simp [cS], by rw [clrTo_zero h0]; exact h, Tu.refl _ _⟩
  case round =>
    obtain ⟨j, hj, rfl, rfl, hR, hT⟩ := hrel
    have hE : wr.cell? ⟨q, 36, none⟩ = some (.int .i64 g.ends) := hR.ends
    by_cases hlt : j < e
    · have hle : (j : Int) + 1 ≤ g.ends := by omega
      have hc1 := cS_le h32 k j
      have hc2 := cS_succ g k j
      obtain ⟨cn, hcn⟩ : ∃ cn, cS g k j = cn := ⟨_, rfl⟩
      rw [hcn] at hc1 hc2 ⊢
      have HC := Lib.hid hc2
      clear hcn hc2
      go_wp2_with fail
      refine (rline_any wr O q _ hR ((j : Int) + 1) k).mono ?_
      rintro x w2 ⟨rfl, rfl⟩
      have hl32 := h32 ((j : Int) + 1) k
      rw [clrTo_L]
      go_wp2_with fail
      refine (two_any wr O q _ hR ((j : Int) + 1) k).mono ?_
      rintro x w2 ⟨rfl, rfl⟩
      by_cases hok : g.ok ((j : Int) + 1) k
      · have hok' : (clrTo g k j).ok ((j : Int) + 1) k := hok
        obtain ⟨k1, k2, k3, k4, k5⟩ := id hok
        obtain ⟨y1, rfl⟩ : ∃ y : Nat, k = y := ⟨k.toNat, by omega⟩
        have ei1 : (j : Int) + 1 < 6 := by omega
        have ei2 : (y1 : Int) < 6 := by omega
        obtain ⟨v, hv, L⟩ := hR.line (a := j + 1) (b := y1) (by omega) (by omega)
        obtain ⟨cs0, hBq⟩ : ∃ cs0, Blk wr q 35 cs0 := by
          obtain ⟨_, ⟨vs, _, h3', _⟩, _⟩ := hR
          exact ⟨_, h3'⟩
        have fq := hBq.free ((j + 1) * 6 + y1)
        rw [decide_eq_true hok']
        go_wp2_with fail
        have T6 : Tu (fun k => k = q) wr (wr.setCell ⟨q, (j + 1) * 6 + y1, none⟩ (.slice none 0 0)) := Tu.of_grown (setCell_grownBy _ _ _) (by rintro k e; cases e; rfl)
        have hS := hR.set (x := j + 1) (y := y1) (by omega) (by omega) T6 (fun c hc => hc.set_ _ _) (LineR.nil _ O 0) (by simp) (fun _ => rfl)
        have ec : (((j + 1 : Nat)) : Int) = (j : Int) + 1 := by omega
        rw [ec, clrTo_put] at hS
        refine ⟨⟨j + 1, by omega, by simp, ?_, hS, hT.trans T6⟩, by simp [nOf]; omega⟩
        rw [HC.out]
        simp
      · have hok' : ¬ (clrTo g k j).ok ((j : Int) + 1) k := hok
        have hno := h0 _ _ hok
        rw [decide_eq_false hok']
        go_wp2_with fail
        refine ⟨⟨j + 1, by omega, by simp, ?_, by rw [clrTo_no hno]; exact hR, hT⟩, by simp [nOf]; omega⟩
        rw [HC.out, hno]
        simp [hno]
    · obtain rfl : j = e := by omega
      have hle : ¬ (j : Int) + 1 ≤ g.ends := by omega
      go_wp2_with fail
      go_ret
      exact ⟨rfl, hR, hT⟩
end partRclr
end Go.Proofs.Ytekbdpfiommmbaa
