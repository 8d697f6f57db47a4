/- Going over a disk's files. Conditions: the function is one that Files has made. -/
import Derived.Test.YtenmdhdloibemaaFiles
import Derived.RangeFuncNested
import Derived.RangeFuncBound
import Derived.RangeFuncCalls
import Derived.RangeFuncLeaves
import Derived.Shelf.Abstract
import Derived.Shelf.RegionOpen
import Derived.OwnWalkIn
import Derived.TacticsInMore
import Derived.LoopNIn
import Derived.LoopIn
namespace Go.Proofs.Ytenmdhdloibemaa
open Go.RowKit Go.Maps Go.Sort Go.Shelf
set_option linter.unusedVariables false
set_option linter.unusedSimpArgs false
attribute [local go_sem] Oper.semAt_some

theorem run_equalIn_fn {t : TypeId} {a b : Array TypeId} {v : Bool} (ht : Try.prog.underlying t = some (.func a b v)) (d : Nat) (f : Fn) (x y : Array Value) (w : World) : (Op.equalIn (d + 1) t (.func f x y) .nilFunc).run Try.prog w = .ok false w := by
  simp [Op.equalIn, run_underlying ht]
/-- a function that is there is not nil -/
theorem run_eql_fn {t : TypeId} {a b : Array TypeId} {v : Bool} (ht : Try.prog.underlying t = some (.func a b v)) (f : Fn) (x y : Array Value) (w : World) : (binOp .eql t (.func f x y) .nilFunc).run Try.prog w = .ok (.bool false) w := by
  simp only [binOp]
  simp only [show Op.equal t (.func f x y) .nilFunc = Op.equalIn (9999 + 1) t (.func f x y) .nilFunc from rfl, Sem.run_bind, run_equalIn_fn ht 9999 f x y w, Result.andThen_ok, Sem.run_pure]

/-- a place among n -/
abbrev Ix (n : Nat) := { i : Nat // i < n }
def encF (ns : List Nm) (cs : List Nat) (x : Ix ns.length) : Array Value := #[nv ns[x.1], .int .i64 ((cs.getD x.1 0 : Nat) : Int)]
/-- the first k places -/
def Upto {n : Nat} (pre : List (Ix n)) (k : Nat) : Prop := pre.map (·.1) = List.range k
theorem Upto.len {n k : Nat} {pre : List (Ix n)} (h : Upto pre k) : pre.length = k := by
  have := congrArg List.length h
  simpa using this
theorem Upto.snoc {n k : Nat} {pre : List (Ix n)} (h : Upto pre k) (x : Ix n) (e : x.1 = k) : Upto (pre ++ [x]) (k + 1) := by
  rw [Upto, List.map_append, h, List.range_succ]
  simp [e]
/-- the blocks from lo to hi are as they were -/
def KpF (lo hi : Nat) (W W' : World) : Prop := W.heap.size ≤ W'.heap.size ∧ ∀ b, lo ≤ b → b < hi → W'.heap[b]? = W.heap[b]?
theorem KpF.trans {lo hi : Nat} {A B C : World} (h : KpF lo hi A B) (k : KpF lo hi B C) : KpF lo hi A C := ⟨Nat.le_trans h.1 k.1, fun b h1 h2 => (k.2 b h1 h2).trans (h.2 b h1 h2)⟩

set_option maxRecDepth 100000 in
set_option maxHeartbeats 1600000 in
theorem filesIt (m : Nat) (w : World) (bn bc : Nat) (ns : List Nm) (cs : List Nat) (lo : Nat) (h : FilesFn w bn bc ns cs lo) (hcs : cs.length = ns.length) (hl : ns.length ≤ 32) :
    SeqStopsK Fence.wide m Try.prog 48 #[fptr bn, fptr bc] (encF ns cs) (KpF lo w.heap.size) (fun xs => Upto xs ns.length) (fun pre => ∃ k, k ≤ ns.length ∧ Upto pre k) ns.length w := by
  intro l J Jx W hbl hJ hJx hY h0
  obtain ⟨A, ca, B, cb, k1, k2, k3, k4, q1, q2, q3, q4⟩ := h
  have z1 := World.block_lt_of_cell? w _ k1
  have z2 := World.block_lt_of_cell? w _ k3
  have hro : Fence.wide.round = none := rfl
  refine callsIn_of_wp Try.func48 rfl trivial ?_ hro
  have c1 := (hbl.cell (p := ⟨bn, 0, none⟩) z1).trans k1
  simp only [Try.ntmps48, List.size_toArray, List.length_cons, List.length_nil, Nat.reduceAdd, Nat.reduceSub, Array.replicate_succ, Array.replicate_zero, List.push_toArray, List.append_toArray, List.nil_append, List.cons_append]
  have c2 : ∀ wr, KpF lo w.heap.size W wr → wr.cell? ⟨bc, 0, none⟩ = some (.slice B ns.length cb) := fun wr hk => (World.cell?_of_block (w := W) (hk.2 bc q2 z2)).trans ((hbl.cell (p := ⟨bc, 0, none⟩) z2).trans k3)
  have rA : ∀ wr, KpF lo w.heap.size W wr → RdV wr A ns.length (ns.map nv) := fun wr hk => k2.keepP (Nat.le_trans hbl.size hk.1) (fun hp a e hb => (hk.2 a.block (q3 a e hp) hb).trans (hbl.block a.block hb))
  have rB : ∀ wr, KpF lo w.heap.size W wr → RdV wr B ns.length (civ cs) := fun wr hk => k4.keepP (Nat.le_trans hbl.size hk.1) (fun hp a e hb => (hk.2 a.block (q4 a e hp) hb).trans (hbl.block a.block hb))
  gi_wp2
  gi_loopw [8] (fun i wr => ∃ (k : Nat) (pre : List (Ix ns.length)), k ≤ ns.length ∧ i = .int .i64 k ∧ Upto pre k ∧ J pre wr ∧ KpF lo w.heap.size W wr) (fun i _ => ns.length - (nOf i).toNat)
  case atStart => exact ⟨0, [], Nat.zero_le _, rfl, rfl, h0, ⟨Nat.le_refl _, fun _ _ _ => rfl⟩⟩
  case round =>
    obtain ⟨k, pre, hk, rfl, hup, hJs, hkp⟩ := hrel
    by_cases hlt : k < ns.length
    · obtain ⟨fn, tmps, assign, body, hy, hR⟩ := hY pre ⟨k, hlt⟩ wr hJs (by rw [hup.len]; exact hlt)
      have a1 := rA wr hkp
      have a2 := rB wr hkp
      have a3 := c2 wr hkp
      clear rA rB c2 c1 k2 k4 hY q3 q4
      obtain ⟨b1, off1, rfl, hb1, hc1⟩ := a1.pos (by omega)
      obtain ⟨b2, off2, rfl, hb2, hc2⟩ := a2.pos (by omega)
      have d1 := hc1 k (by simpa using hlt)
      have e1 : (ns.map nv)[k]'(by simpa using hlt) = nv ns[k] := by simp
      rw [e1] at d1
      have d2 := hc2 k (by simp [civ, hcs]; exact hlt)
      have e2 : (civ cs)[k]'(by simp [civ, hcs]; exact hlt) = .int .i64 ((cs.getD k 0 : Nat) : Int) := by
        simp [civ, List.getD_eq_getElem?_getD, List.getElem?_eq_getElem (show k < cs.length by omega)]
      rw [e2] at d2
      obtain ⟨cv, hcv⟩ : ∃ cv, ((cs.getD k 0 : Nat) : Int) = cv := ⟨_, rfl⟩
      obtain ⟨n, hn⟩ : ∃ n, ns[k] = n := ⟨_, rfl⟩
      have hki : (k : Int) < (ns.length : Int) := by omega
      dsimp only [encF] at hy
      rw [hcv] at hy d2
      rw [hn] at hy d1
      have hfn := run_eql_fn Try.underlying86 (.yield l) #[] #[] wr
      gi_wp2
      refine ⟨fun h => (by cases h), ?_⟩
      refine hR.mono ?_
      rintro e W3 (⟨rfl, hJ3, hk3⟩ | ⟨rfl, hJx3⟩)
      · gi_wp2
        go_roundw
        case rel => exact ⟨k + 1, _, by omega, by simp, hup.snoc ⟨k, hlt⟩ rfl, hJ3, hkp.trans hk3⟩
        case measure => simp [nOf]; omega
      · gi_wp2
        refine bodyPost_ret (results_none rfl _ _ _) rfl ?_
        exact ⟨⟨_, rfl⟩, .inr ⟨_, ⟨k + 1, by omega, hup.snoc ⟨k, hlt⟩ rfl⟩, hJx3⟩⟩
    · obtain rfl : k = ns.length := by omega
      gi_wp2
      go_end0
      exact ⟨⟨_, rfl⟩, .inl ⟨_, hup, hJs⟩⟩
end Go.Proofs.Ytenmdhdloibemaa
