/- Going over a net's flights (all's function). Conditions: the net is in memory as told; the body keeps what it does not own. -/
import Derived.Test.YtekbdpfiommmbaaNord
import Derived.Test.YtekbdpfiommmbaaRound
import Derived.RangeFuncNested
import Derived.RangeFuncBound
import Derived.RangeFuncCalls
import Derived.RangeFuncLeaves
import Derived.Shelf.Abstract
import Derived.Shelf.RegionOpen
import Derived.OwnWalkIn
import Derived.TacticsInMore
import Derived.LoopNIn
import Derived.LoopIn
namespace Go.Proofs.Ytekbdpfiommmbaa
open Go.RowKit Go.Maps
set_option linter.unusedVariables false
set_option linter.unusedSimpArgs false
attribute [local go_sem] Oper.semAt_some

abbrev Ix (n : Nat) := { i : Nat // i < n }
/-- the first k places have come -/
def Upto {n : Nat} (pre : List (Ix n)) (k : Nat) : Prop := pre.map (·.1) = List.range k
theorem Upto.len {n k : Nat} {pre : List (Ix n)} (h : Upto pre k) : pre.length = k := by
  have := congrArg List.length h
  simpa using this
theorem Upto.snoc {n k : Nat} {pre : List (Ix n)} (h : Upto pre k) (x : Ix n) (e : x.1 = k) : Upto (pre ++ [x]) (k + 1) := by
  simp only [Upto, List.map_append, List.map_cons, List.map_nil, List.range_succ]
  rw [show pre.map (·.1) = List.range k from h, e]
/-- what M names, and cells that are no flights', are as they were, but for S -/
abbrev Mo (O : Ow) : Nat → Prop := fun b => (O b).isSome = true
def KpN (M S : Nat → Prop) (W W' : World) : Prop := W.heap.size ≤ W'.heap.size ∧ ∀ b o, W.heap[b]? = some o → ¬ S b → (M b ∨ (o.isCells = true ∧ ∀ cs z, o ≠ .cells cs 51 z)) → W'.heap[b]? = some o
theorem KpN.refl (M S : Nat → Prop) (W : World) : KpN M S W W := ⟨Nat.le_refl _, fun _ _ h _ _ => h⟩
theorem KpN.trans {lo S : Nat → Prop} {A B C : World} (h : KpN lo S A B) (k : KpN lo S B C) : KpN lo S A C := ⟨Nat.le_trans h.1 k.1, fun b o h1 h2 h3 => k.2 b o (h.2 b o h1 h2 h3) h2 h3⟩
theorem KpN.of_ext {lo S : Nat → Prop} {A B : World} (h : Ext A B) : KpN lo S A B := ⟨h.size, fun b o h1 _ _ => (h.blk (Array.getElem?_eq_some_iff.1 h1).1).trans h1⟩
theorem KpN.blk {lo S : Nat → Prop} {A B : World} (h : KpN lo S A B) {b : Nat} {t : TypeId} {cs : Array Value} (hb : Blk A b t cs) (hn : ¬ S b) (ht : t ≠ 51 := by decide) : Blk B b t cs := h.2 b _ hb hn (.inr ⟨rfl, fun _ _ e => ht (by cases e; rfl)⟩)
theorem KpN.at_ {lo S : Nat → Prop} {A B : World} (h : KpN lo S A B) {b : Nat} (hb : lo b) (hl : b < A.heap.size) (hn : ¬ S b) : B.heap[b]? = A.heap[b]? := by
  have e : A.heap[b]? = some A.heap[b] := Array.getElem?_eq_getElem (by omega)
  rw [e]
  exact h.2 b _ e hn (.inl hb)

def lineV (F : DataW Value) (a b : Int) : Value := (val F (lnk a b)).getD (.slice none 0 0)
def rowCs (w : World) (v : Value) (n : Nat) : List Value :=
  match v with
  | .slice (some x) _ _ => (match w.heap[x.block]? with | some (.cells cur _ _) => cur.toList.take n | _ => [])
  | _ => []
theorem rowCs_of {w : World} {base : Nat} {e : TypeId} {v : Value} {n : Nat} {xs : List Value} (h : w.ownsRow base e 1 v n xs) : rowCs w v n = xs := by
  rcases h.2 with ⟨q1, q2⟩ | ⟨g, cap, cur, q1, _, q2, _, _, _, q3⟩
  · have := h.1
    rw [q1, q2] at *
    rw [List.eq_nil_of_length_eq_zero (by omega : xs.length = 0)]
    rfl
  · rw [q1]
    simp only [rowCs, q2]
    rw [← q3, Nat.mul_one]
/-- the flights' values, of the first m lines -/
def flV (w : World) (F : DataW Value) (g : NC) (e m : Nat) : List Value := (orderL e m).flatMap fun p => (rowCs w (lineV F p.1 p.2) (g.L p.1 p.2).length).map fun c => .agg #[.int .i64 p.1, .int .i64 p.2, c]
def encA (vs : List Value) (x : Ix vs.length) : Array Value := #[.int .i64 (x.1 : Int), vs[x.1]]

section
variable {w w' : World} {O : Ow} {n fm : Nat} {F : DataW Value} {g : NC} {a b : Int}
theorem NetX.lineK (h : NetX w O n fm F g) {wr : World} (hm : wr.heap[fm]? = w.heap[fm]?) (hr : ∀ k, k < w.heap.size → O k = some (a, b) → wr.heap[k]? = w.heap[k]?) (ha : (Lit.int .i64 a).wf = true) (hb : (Lit.int .i64 b).wf = true) :
    (Instr.lookup 73 (.map (some fm)) (lnv a b) false).run Try.prog wr = .ok (lineV F a b) wr ∧ wr.ownsRow 0 38 1 (lineV F a b) (g.L a b).length (rowCs w (lineV F a b) (g.L a b).length) ∧ RowsAt w O (rowCs w (lineV F a b) (g.L a b).length) (g.L a b) ∧ (∀ k, (lineV F a b).ownBlock = some k → O k = some (a, b)) ∧ ∃ A c, lineV F a b = .slice A (g.L a b).length c := by
  obtain ⟨o1, o2, b1, m1, hc, hf, hn, hl, h0, h32, hO⟩ := h
  have hk := (m1.keep hm).look law_l Try.underlying73 (zero_rows wr) (key_l ha hb)
  refine ⟨hk, ?_⟩
  have nilcase : g.L a b = [] → val F (lnk a b) = none → wr.ownsRow 0 38 1 (lineV F a b) (g.L a b).length (rowCs w (lineV F a b) (g.L a b).length) ∧ RowsAt w O (rowCs w (lineV F a b) (g.L a b).length) (g.L a b) ∧ (∀ k, (lineV F a b).ownBlock = some k → O k = some (a, b)) ∧ ∃ A c, lineV F a b = .slice A (g.L a b).length c := fun e1 e2 => by
    have e3 : lineV F a b = .slice none 0 0 := by rw [lineV, e2]; rfl
    rw [e1, e3]
    exact ⟨World.ownsRow_nil _ _ _ _, ⟨rfl, fun i hi => by simp at hi⟩, (fun k hk => by simp [Value.ownBlock] at hk), none, 0, rfl⟩
  by_cases hab : g.ok a b
  · rcases hl a b hab with ⟨e1, e2⟩ | ⟨v, cs, e1, e2, e3, e4⟩
    · exact nilcase e2 e1
    · have ev : lineV F a b = v := by rw [lineV, e1]; rfl
      rw [ev, rowCs_of e3]
      refine ⟨ownsRow_blk e3 (fun k hk => hr k (e3.lt k hk).2 (e2 k hk)), e4, e2, ?_⟩
      exact own_slice e3
  · refine nilcase (h0 a b hab) ?_
    have : Maps.has F (lnk a b) = false := by
      rw [Bool.eq_false_iff]
      intro e
      obtain ⟨c, d, e1, e2⟩ := hn _ e
      obtain ⟨wc, wd⟩ := ok_wf g hc.2 e2
      obtain ⟨rfl, rfl⟩ := lnk_inj ha hb wc wd e1
      exact hab e2
    rw [m1.has_iff] at this
    cases e : val F (lnk a b) with
    | none => rfl
    | some x => rw [e] at this; cases this
end
theorem linesV_get : ∀ (l : List (Int × Int)) (k : Nat) (h : k < l.length), (linesV l)[k * 2]? = some (.int .i64 l[k].1) ∧ (linesV l)[k * 2 + 1]? = some (.int .i64 l[k].2)
  | a :: l, 0, _ => ⟨rfl, rfl⟩
  | a :: l, k + 1, h => by
    obtain ⟨h1, h2⟩ := linesV_get l k (by simpa using h)
    have e : linesV (a :: l) = .int .i64 a.1 :: .int .i64 a.2 :: linesV l := rfl
    rw [e, show (k + 1) * 2 = k * 2 + 1 + 1 by omega]
    simp only [List.getElem?_cons_succ, List.getElem_cons_succ]
    exact ⟨h1, h2⟩
theorem ordAt_wf {e m : Nat} (he : e ≤ 5) (h : m < e * e) : (1 ≤ (ordAt e m).1 ∧ (ordAt e m).1 ≤ e ∧ 1 ≤ (ordAt e m).2 ∧ (ordAt e m).2 ≤ e) ∧ (Lit.int .i64 (ordAt e m).1).wf = true ∧ (Lit.int .i64 (ordAt e m).2).wf = true := by
  have h0 : 0 < e := by
    rcases Nat.eq_zero_or_pos e with e0 | e0
    · subst e0; omega
    · exact e0
  have h1 : m / e < e := Nat.div_lt_of_lt_mul h
  have h2 : m % e < e := Nat.mod_lt _ h0
  have e1 : IntKind.min .i64 = -9223372036854775808 := by kernel_rfl
  have e2 : IntKind.max .i64 = 9223372036854775807 := by kernel_rfl
  simp only [ordAt, Lit.wf, Bool.and_eq_true, decide_eq_true_eq, e1, e2]
  generalize m / e = x at *
  generalize m % e = y at *
  omega
theorem flV_succ (w : World) (F : DataW Value) (g : NC) (e m : Nat) : flV w F g e (m + 1) = flV w F g e m ++ (rowCs w (lineV F (ordAt e m).1 (ordAt e m).2) (g.L (ordAt e m).1 (ordAt e m).2).length).map fun c => .agg #[.int .i64 (ordAt e m).1, .int .i64 (ordAt e m).2, c] := by
  simp [flV, orderL, List.range_succ]
theorem flV_pre (w : World) (F : DataW Value) (g : NC) (e : Nat) : ∀ (m k : Nat), k ≤ m → ∃ t, flV w F g e m = flV w F g e k ++ t
  | 0, k, h => ⟨[], by rw [show k = 0 by omega, List.append_nil]⟩
  | m + 1, k, h => by
    by_cases e' : k = m + 1
    · exact ⟨[], by rw [e']; simp⟩
    · obtain ⟨t, ht⟩ := flV_pre w F g e m k (by omega)
      exact ⟨_, by rw [flV_succ, ht, List.append_assoc]⟩

theorem flV_le {w : World} {O : Ow} {n fm : Nat} {F : DataW Value} {g : NC} (h : NetX w O n fm F g) {e : Nat} (he : g.ends = (e : Int)) : ∀ m, m ≤ e * e → (flV w F g e m).length ≤ m * 32
  | 0, _ => by simp [flV, orderL]
  | m + 1, hm => by
    have heb := h.endsb
    have ih := flV_le h he m (by omega)
    obtain ⟨_, wa, wb⟩ := ordAt_wf (e := e) (m := m) (by omega) (by omega)
    obtain ⟨_, _, hR, _⟩ := h.lineK (wr := w) rfl (fun _ _ _ => rfl) wa wb
    rw [flV_succ, List.length_append, List.length_map, hR.1]
    have := h.2.2.2.2.2.2.2.2.2.1 (ordAt e m).1 (ordAt e m).2
    omega
set_option maxRecDepth 100000 in
set_option maxHeartbeats 3200000 in
theorem allIt (m : Nat) (w : World) (O : Ow) (q n fm : Nat) (F : DataW Value) (g : NC) (h : NetX w O n fm F g) (hq : Blk w q 25 #[fptr n]) (e : Nat) (he : g.ends = (e : Int)) (S : Nat → Prop) (hS : ∀ b, S b → b ≠ q ∧ O b = none ∧ b < w.heap.size) (vs : List Value) (hvs : flV w F g e (e * e) = vs) :
    SeqStopsK Fence.wide m Try.prog 55 #[fptr q] (encA vs) (KpN (Mo O) S) (fun xs => Upto xs vs.length) (fun pre => ∃ k, k ≤ vs.length ∧ Upto pre k) vs.length w := by
  intro l J Jx W hbl hJ hJx hY h0
  have hro : Fence.wide.round = none := rfl
  have heb := h.endsb
  refine callsIn_of_wp Try.func55 rfl trivial ?_ hro
  have cq := (hq.ext hbl).cell 0
  simp only [Try.ntmps55, List.size_toArray, List.length_cons, List.length_nil, Nat.reduceAdd, Nat.reduceSub, Array.replicate_succ, Array.replicate_zero, List.push_toArray, List.append_toArray, List.nil_append, List.cons_append]
  have hE : ∀ pre A B, J pre A → Ext A B → J pre B := fun pre A B hs hx => hJ pre A B none hs (hx.grownBy none) (by simp)
  gi_wp2_with fail
  refine ⟨trivial, fun h => (by cases h), ?_⟩
  refine (callsIn_wide.2 (order_any W O n fm F g (h.ext hbl) e he)).mono ?_
  rintro ee Wo ⟨A, c, rfl, hown, hxo⟩
  clear cq
  have hlen : (flV w F g e (e * e)).length = vs.length := by rw [hvs]
  have h0o := hE _ _ _ h0 hxo
  clear h0
  gi_wp2_with fail
  gi_loopw [3, 11] (fun pl kv wr => ∃ (k : Nat) (pre : List (Ix vs.length)), k ≤ e * e ∧ kv = .int .i64 k ∧ pl = .int .i64 ((flV w F g e k).length : Int) ∧ Upto pre (flV w F g e k).length ∧ J pre wr ∧ KpN (Mo O) S Wo wr) (fun _ kv _ => e * e - (nOf kv).toNat)
  case atStart => exact ⟨0, [], Nat.zero_le _, rfl, rfl, rfl, h0o, KpN.refl _ _ _⟩
  case round =>
    obtain ⟨k, pre, hk, rfl, rfl, hup, hJs, hkp⟩ := hrel
    obtain ⟨cnt, hcnt⟩ : ∃ cnt, (flV w F g e k).length = cnt := ⟨_, rfl⟩
    rw [hcnt] at hup ⊢
    by_cases hlt : k < e * e
    rotate_left
    · obtain rfl : k = e * e := by omega
      gi_wp2_with fail
      go_end0
      have : cnt = vs.length := hcnt.symm.trans hlen
      subst this
      exact ⟨⟨_, rfl⟩, .inl ⟨_, hup, hJs⟩⟩
    have hki : (k : Int) < ((e * e : Nat) : Int) := by omega
    obtain ⟨⟨g1, g2, g3, g4⟩, wa, wb⟩ := ordAt_wf (by omega) hlt
    obtain ⟨la, hla⟩ : ∃ la, (ordAt e k).1 = la := ⟨_, rfl⟩
    obtain ⟨lb, hlb⟩ : ∃ lb, (ordAt e k).2 = lb := ⟨_, rfl⟩
    have hsucc := flV_succ w F g e k
    rw [hla, hlb] at hsucc
    rw [hla] at wa g1 g2
    rw [hlb] at wb g3 g4
    obtain ⟨ob, cap, cur, rfl, hob, hcur⟩ : ∃ ob cap cur, A = some ⟨ob, 0, none⟩ ∧ Blk Wo ob 77 cur ∧ W.heap.size ≤ ob ∧ cap = c ∧ ∀ j u, (linesV (orderL e (e * e)))[j]? = some u → Wo.cell? ⟨ob, j, none⟩ = some u := by
      rcases hown.2 with ⟨q1, q2⟩ | ⟨gb, cap, cur, q1, q2, q3, q4, q5, q6, q7⟩
      · omega
      · injection q1 with q1 _ q1'
        refine ⟨gb, cap, cur, q1, q3, q2, q1'.symm, fun j u hu => ?_⟩
        have := hown.cells (g := gb) (by rw [q1]; rfl) j u hu
        have hadd : (⟨gb, 0, none⟩ : Addr).add j = ⟨gb, j, none⟩ := by unfold Addr.add; split <;> simp_all
        rwa [hadd] at this
    obtain ⟨hlo, rfl, hcells⟩ := hcur
    have hzW := hbl.size
    have nSo : ¬ S ob := fun hb => by have := (hS ob hb).2.2; omega
    have hobr := hkp.blk hob nSo
    have hkk : k < (orderL e (e * e)).length := by rw [orderL_len]; exact hlt
    have hok : (orderL e (e * e))[k] = (la, lb) := by simp [orderL, ← hla, ← hlb]
    obtain ⟨dd0, dd1⟩ := linesV_get _ k hkk
    rw [hok] at dd0 dd1
    have hcc : ∀ j u, (linesV (orderL e (e * e)))[j]? = some u → wr.cell? ⟨ob, j, none⟩ = some u := fun j u hu => by
      have := hcells j u hu
      rw [World.cell?_of_block (w := Wo) ((hobr).trans hob.symm)]
      exact this
    have d0 := hcc _ _ dd0
    have d1 := hcc _ _ dd1
    clear hcc dd0 dd1 hok hkk hcells
    have hqo : Blk Wo q 25 #[fptr n] := (hq.ext hbl).ext hxo
    have hXo := (h.ext hbl).ext hxo
    have nSq : ¬ S q := fun hb => (hS q hb).1 rfl
    have nSn : ¬ S n := fun hb => by have := (hS n hb).2.1; rw [h.1] at this; cases this
    have nSf : ¬ S fm := fun hb => by have := (hS fm hb).2.1; rw [h.2.1] at this; cases this
    have cq := (hkp.blk hqo nSq).cell 0
    have cn := (hkp.blk hXo.blk nSn).cell 1
    have hx5 := (Ext.refl wr).alloc (.cells #[.int .i64 la, .int .i64 lb] 77)
    have b5 := Blk.new wr 77 #[.int .i64 la, .int .i64 lb]
    gi_wp2_with fail
    have hz5 : w.heap.size ≤ wr.heap.size := by have := hxo.size; have := hkp.1; omega
    generalize wr.alloc (.cells #[.int .i64 la, .int .i64 lb] 77) = w5 at *
    generalize wr.heap.size = q5 at *
    have hk5 : KpN (Mo O) S Wo w5 := hkp.trans (.of_ext hx5)
    have hJ5 := hE _ _ _ hJs hx5
    have nS5 : ¬ S q5 := fun hb => by have h1 := (hS q5 hb).2.2; omega
    clear cq cn d0 d1
    have hxd := (Ext.refl w5).drew
    have hkd : KpN (Mo O) S Wo w5.drew := hk5.trans (.of_ext hxd)
    have keepD : ∀ y, KpN (Mo O) S Wo y → ∀ k, k < w.heap.size → (O k).isSome = true → ¬ S k → y.heap[k]? = w.heap[k]? := fun y hy k hk ho hn => (hy.at_ ho (by have := hxo.size; have := hbl.size; omega) hn).trans ((hxo.blk (by omega)).trans (hbl.block k hk))
    have rowD : ∀ y, KpN (Mo O) S Wo y → ∀ k, k < w.heap.size → O k = some (la, lb) → y.heap[k]? = w.heap[k]? := fun y hy k hk hn => keepD y hy k hk (by rw [hn]; rfl) (fun hb => by rw [(hS k hb).2.1] at hn; cases hn)
    have mapD : ∀ y, KpN (Mo O) S Wo y → y.heap[fm]? = w.heap[fm]? := fun y hy => keepD y hy fm (h.inn fm (by rw [h.2.1]; rfl)) (by rw [h.2.1]; rfl) nSf
    obtain ⟨hlk, hrow, hR, hown2, A2, c2, hv⟩ := h.lineK (mapD _ hkd) (rowD _ hkd) wa wb
    obtain ⟨cs, hcs⟩ : ∃ cs, rowCs w (lineV F la lb) (g.L la lb).length = cs := ⟨_, rfl⟩
    obtain ⟨len, hlen2⟩ : ∃ len, (g.L la lb).length = len := ⟨_, rfl⟩
    rw [hcs] at hsucc hrow hR
    rw [hlen2] at hrow hv
    have hcsl : cs.length = len := hR.1.trans hlen2
    rw [hv] at hlk
    refine wpIn_wide.2 ?_
    refine wp_region_plan Ext [(0, true), (1, true), (2, true), (3, true), (4, true), (7, true), (5, false), (6, true)] (fun _ _ _ x y => (fun x y => Ext.trans x y) x y) Ext.refl (by kernel_rfl) (by kernel_rfl) ?_
    intro K hK
    have cq : ∀ y : Above Ext w5.drew, y.1.cell? ⟨q, 0, none⟩ = some (fptr n) := fun y => ((hkd.blk hqo nSq).ext y.2).cell 0
    have cn : ∀ y : Above Ext w5.drew, y.1.cell? ⟨n, 1, none⟩ = some (.map (some fm)) := fun y => ((hkd.blk hXo.blk nSn).ext y.2).cell 1
    have c50 : ∀ y : Above Ext w5.drew, y.1.cell? ⟨q5, 0, none⟩ = some (.int .i64 la) := fun y => ((b5.ext hxd).ext y.2).cell 0
    have c51 : ∀ y : Above Ext w5.drew, y.1.cell? ⟨q5, 1, none⟩ = some (.int .i64 lb) := fun y => ((b5.ext hxd).ext y.2).cell 1
    iterate 6 (
      refine plan_q (v := ?_) rfl rfl ?_ ?_
      rotate_left
      · intro x
        go_simp
        first | done | rfl
      simp only [Act.put, List.getElem_toArray, List.getElem_cons_zero, List.getElem_cons_succ, List.setIfInBounds_toArray, List.set_cons_zero, List.set_cons_succ])
    refine plan_l rfl (by kernel_rfl) ?_
    intro K2 hK2
    go_simp
    refine hK2.out _ _ (Ext.refl _) ?_
    clear hK2 K2
    try simp only [Act.put, List.getElem_toArray, List.getElem_cons_zero, List.getElem_cons_succ, List.setIfInBounds_toArray, List.set_cons_zero, List.set_cons_succ]
    iterate 1 (
      refine plan_q (v := ?_) rfl rfl ?_ ?_
      rotate_left
      · intro x
        go_simp
        first | done | rfl
      simp only [Act.put, List.getElem_toArray, List.getElem_cons_zero, List.getElem_cons_succ, List.setIfInBounds_toArray, List.set_cons_zero, List.set_cons_succ])
    clear cq cn c50 c51
    refine plan_end (hK.out _ _ ?_)
    clear hK K
    gi_wp2_with fail
    have hJd := hE _ _ _ hJ5 hxd
    have hvl : cnt + len ≤ vs.length := by
      obtain ⟨t, ht⟩ := flV_pre w F g e (e * e) (k + 1) (by omega)
      have := congrArg List.length ht
      rw [hlen, hsucc, List.length_append, List.length_append, List.length_map, hcnt, hcsl] at this
      omega
    have hvi : ∀ i (hi : i < len) (hv' : cnt + i < vs.length), vs[cnt + i] = .agg #[.int .i64 la, .int .i64 lb, cs[i]'(by omega)] := fun i hi hv' => by
      obtain ⟨t, ht⟩ := flV_pre w F g e (e * e) (k + 1) (by omega)
      rw [hvs, hsucc] at ht
      have : vs[cnt + i]? = some (.agg #[.int .i64 la, .int .i64 lb, cs[i]'(by omega)]) := by
        rw [ht, List.append_assoc, List.getElem?_append_right (by omega), hcnt, show cnt + i - cnt = i by omega, List.getElem?_append_left (by rw [List.length_map]; omega)]
        simp [List.getElem?_eq_getElem (show i < cs.length by omega)]
      rw [List.getElem?_eq_getElem hv'] at this
      exact Option.some.inj this
    have hk5d : KpN (Mo O) S Wo w5.drew := hkd
    have HV := Lib.hid (And.intro hvi hvl)
    clear hvi hvl
    gi_loopw [3, 22] (fun pl iv wr => ∃ (i : Nat) (pre : List (Ix vs.length)), i ≤ len ∧ iv = .int .i64 i ∧ pl = .int .i64 ((cnt + i : Nat) : Int) ∧ Upto pre (cnt + i) ∧ J pre wr ∧ KpN (Mo O) S w5.drew wr) (fun _ iv _ => len - (nOf iv).toNat)
    case atStart => exact ⟨0, pre, Nat.zero_le _, rfl, rfl, hup, hJd, KpN.refl _ _ _⟩
    case round =>
      obtain ⟨i, pre2, hi, rfl, rfl, hup2, hJ2, hkp2⟩ := hrel
      by_cases hlt2 : i < len
      · have hii : (i : Int) < (len : Int) := by omega
        have hbi : cnt + i < vs.length := by have := HV.out.2; omega
        have hev := HV.out.1 i hlt2 hbi
        obtain ⟨fn, tmps, assign, body, hy, hRR⟩ := hY pre2 ⟨cnt + i, hbi⟩ wr hJ2 (by rw [hup2.len]; exact hbi)
        dsimp only [encA] at hy
        rw [hev] at hy
        obtain ⟨_, hrow2, _⟩ := h.lineK (mapD _ (hkd.trans hkp2)) (rowD _ (hkd.trans hkp2)) wa wb
        rw [hcs, hlen2, hv] at hrow2
        obtain ⟨rb, rfl, hrb⟩ : ∃ rb, A2 = some ⟨rb, 0, none⟩ ∧ ∀ j u, cs[j]? = some u → wr.cell? ⟨rb, j, none⟩ = some u := by
          rcases hrow2.2 with ⟨q1, q2⟩ | ⟨gb, cap2, cur2, q1, _⟩
          · omega
          · injection q1 with q1 _ _
            refine ⟨gb, q1, fun j u hu => ?_⟩
            have := hrow2.cells (g := gb) (by rw [q1]; rfl) j u hu
            have hadd : (⟨gb, 0, none⟩ : Addr).add j = ⟨gb, j, none⟩ := by unfold Addr.add; split <;> simp_all
            rwa [hadd] at this
        obtain ⟨hpos, A3, c3, hs3, _⟩ := hR.2 i (by omega)
        have d2 := hrb i _ hs3
        have hcse : cs[i]'(by omega) = .slice A3 ((g.L la lb)[i]'(by omega)).length c3 := by
          rw [List.getElem?_eq_getElem (by omega)] at hs3
          exact Option.some.inj hs3
        rw [hcse] at hy
        obtain ⟨ln, hln⟩ : ∃ ln, ((g.L la lb)[i]'(by omega)).length = ln := ⟨_, rfl⟩
        rw [hln] at hy d2
        clear hrb hev hcse hs3 hpos hY hrow2
        have B5 := hkp2.blk (b5.ext hxd) nS5
        have c50 := B5.cell 0
        have c51 := B5.cell 1
        rw [Int.natCast_add] at hy
        gi_wp2_with fail
        refine ⟨fun h => (by cases h), ?_⟩
        refine hRR.mono ?_
        rintro e3 W3 (⟨rfl, hJ3, hk3⟩ | ⟨rfl, hJx3⟩)
        · have hb64 : ((cnt : Int) + (i : Int)) + 1 ≤ 9223372036854775807 := by have := HV.out.2; have := flV_le h he (e * e) (Nat.le_refl _); have hk25 : e * e ≤ 25 := Nat.le_trans (Nat.mul_le_mul (show e ≤ 5 by omega) (show e ≤ 5 by omega)) (by omega); omega
          gi_wp2_with fail
          exact ⟨⟨i + 1, _, by omega, by simp, by simp [Int.add_assoc], hup2.snoc ⟨cnt + i, hbi⟩ rfl, hJ3, hkp2.trans hk3⟩, by simp [nOf]; omega⟩
        · gi_wp2_with fail
          refine bodyPost_ret (results_none rfl _ _ _) rfl ?_
          exact ⟨⟨_, rfl⟩, .inr ⟨_, ⟨cnt + i + 1, by omega, hup2.snoc ⟨cnt + i, hbi⟩ rfl⟩, hJx3⟩⟩
      · obtain rfl : i = len := by omega
        have hk25 : e * e ≤ 25 := Nat.le_trans (Nat.mul_le_mul (show e ≤ 5 by omega) (show e ≤ 5 by omega)) (by omega)
        have hcn : (flV w F g e (k + 1)).length = cnt + i := by rw [hsucc, List.length_append, List.length_map, hcnt, hcsl]
        clear hsucc
        gi_wp2_with fail
        exact ⟨⟨k + 1, pre2, by omega, by simp, by rw [hcn], by rw [hcn]; exact hup2, hJ2, hk5d.trans hkp2⟩, by simp [nOf]; omega⟩
