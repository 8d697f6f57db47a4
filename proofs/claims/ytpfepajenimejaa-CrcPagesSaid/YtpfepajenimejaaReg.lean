/- Registers of 32 bits as words: what the operations on them give. -/
import Derived.Test.YtpfepajenimejaaSum
import Derived.Test.YtpfepajenimejaaRows
import Derived.Deep.QuietTactic
import Derived.BigQuiet
import Derived.Laws.BitsAllLaws
namespace Go.Proofs.Ytpfepajenimejaa
open Go.RowKit
set_option linter.unusedVariables false

/-- a word as a value -/
abbrev wv (v : BitVec 32) : Value := .int .u32 (v.toNat : Int)

theorem xor32 (a b : BitVec 32) : bits .xor .u32 (a.toNat : Int) (b.toNat : Int) = ((a ^^^ b).toNat : Int) := by
  rw [u32_xor_nat _ _ a.isLt b.isLt, BitVec.toNat_xor]
theorem and32 (a b : BitVec 32) : bits .and .u32 (a.toNat : Int) (b.toNat : Int) = ((a &&& b).toNat : Int) := by
  rw [u32_and_nat _ _ a.isLt b.isLt, BitVec.toNat_and]
theorem low_bit (v : BitVec 32) : bits .and .u32 (v.toNat : Int) 1 = if v.getLsbD 0 then 1 else 0 := by
  have h := and32 v 1#32
  rw [show (((1#32).toNat : Nat) : Int) = 1 from rfl] at h
  rw [h, BitVec.toNat_and, show (1#32).toNat = 1 from rfl, Nat.and_one_is_mod, ← BitVec.testBit_toNat, Nat.testBit_zero]
  rcases Nat.mod_two_eq_zero_or_one v.toNat with h | h <;> simp [h]
/-- a word under a mask of its, or another one's, lowest bit -/
theorem masked (y v : BitVec 32) : bits .and .u32 (y.toNat : Int) (-bits .and .u32 (v.toNat : Int) 1 % 4294967296) = ((if v.getLsbD 0 then y else 0#32).toNat : Int) := by
  rw [low_bit]
  cases v.getLsbD 0
  · have := and32 y 0#32
    simpa using this
  · have h := and32 y 4294967295#32
    have e : y &&& 4294967295#32 = y := by
      ext i hi
      have : ∀ i : Fin 32, (4294967295#32)[i.1]'i.2 = true := by decide
      simp [this ⟨i, hi⟩]
    rw [e] at h
    simpa using h
theorem half (v : BitVec 32) (k : Nat) : ((v.toNat : Int) / (2 : Int) ^ k) = ((v >>> k).toNat : Int) := by
  rw [BitVec.toNat_ushiftRight, Nat.shiftRight_eq_div_pow]
  simp
theorem half1 (v : BitVec 32) : ((v.toNat : Int) / (2 : Int)) = ((v >>> 1).toNat : Int) := half v 1
theorem not32 (a : BitVec 32) : bits .xor .u32 IntKind.u32.max (a.toNat : Int) = ((~~~ a).toNat : Int) := by
  have := xor32 4294967295#32 a
  rw [BitVec.xor_comm, ← not_eq_xor] at this
  exact this
theorem not32' (a : BitVec 32) : bits .xor .u32 (a.toNat : Int) 4294967295 = ((~~~ a).toNat : Int) := by
  have := xor32 a 4294967295#32
  rw [← not_eq_xor] at this
  exact this
theorem step_eq (v : BitVec 32) : bits .xor .u32 ((v.toNat : Int) / 2) (bits .and .u32 2197175160 (-bits .and .u32 (v.toNat : Int) 1 % 4294967296)) = ((st v).toNat : Int) := by
  have h := masked 2197175160#32 v
  rw [show (((2197175160#32).toNat : Nat) : Int) = 2197175160 from rfl] at h
  rw [h, half1, xor32]
  rfl

theorem step_any (v : BitVec 32) (w : World) :
    Calls Try.prog 22 #[wv v] w fun e w' => e = .returned (wv (st v)) ∧ w = w' := by
  have hv : v.toNat < 4294967296 := v.isLt
  have hs := Lib.hid (step_eq v)
  go_enter Try.func22, Try.ntmps22
  go_wp2
  go_ret
  exact ⟨by rw [hs.out]; rfl, rfl⟩

/-- a table of words as cells -/
def tabv (f : Nat → BitVec 32) (n : Nat) : Array Value := ((List.range n).map fun i => wv (f i)).toArray
theorem tabv_get (f : Nat → BitVec 32) (n i : Nat) (h : i < n) : (tabv f n)[i]? = some (wv (f i)) := by simp [tabv, h]
theorem tabv_size (f : Nat → BitVec 32) (n : Nat) : (tabv f n).size = n := by simp [tabv]
theorem tabv_congr (f g : Nat → BitVec 32) (n : Nat) (h : ∀ i, i < n → f i = g i) : tabv f n = tabv g n := by
  simp only [tabv]
  congr 1
  apply List.map_congr_left
  intro i hi
  rw [h i (List.mem_range.1 hi)]
theorem tabv_set (f : Nat → BitVec 32) (n i : Nat) (v : BitVec 32) : (tabv f n).setIfInBounds i (wv v) = tabv (fun j => if j = i then v else f j) n := by
  apply Array.ext_getElem?
  intro j
  rcases Nat.lt_or_ge j n with h | h
  · by_cases e : i = j
    · subst e
      rw [tabv_get _ _ _ h, Array.getElem?_setIfInBounds_self_of_lt (by rw [tabv_size]; exact h)]
      simp
    · rw [Array.getElem?_setIfInBounds_ne e, tabv_get _ _ _ h, tabv_get _ _ _ h]
      simp [show j ≠ i from fun h => e h.symm]
  · rw [Array.getElem?_eq_none (by simp [tabv_size]; exact h), Array.getElem?_eq_none (by simp [tabv_size]; exact h)]
theorem tabv_one (f : Nat → BitVec 32) (n : Nat) : (tabv f n).all (·.oneCell') = true := by
  rw [Array.all_eq_true]
  intro i hi
  rw [tabv_size] at hi
  have := tabv_get f n i hi
  rw [Array.getElem?_eq_getElem (by rw [tabv_size]; exact hi)] at this
  rw [Option.some.inj this]
  rfl
theorem Blk.setRow {w : World} {g : Nat} {t : TypeId} {cs : Array Value} (h : Blk w g t cs) (c' : Array Value) : Blk (w.setRow g c') g t c' := by
  unfold Blk at h ⊢
  simp [World.setRow, Array.getElem?_modify, h]
theorem setRow_grownBy (w : World) (g : Nat) (c' : Array Value) : w.grownBy (w.setRow g c') (some g) :=
  ⟨rfl, rfl, rfl, by simp [World.setRow], fun k _ hk => by
    have : g ≠ k := fun e => hk (by rw [e])
    simp [World.setRow, Array.getElem?_modify, this]⟩
theorem size42 : (Try.prog.info? 42).map (·.size) = some 32 := by kernel_rfl
/-- what products makes -/
abbrev powers (y : BitVec 32) : Array Value := tabv (fun i => sts (31 - i) y) 32
theorem products_any (y : BitVec 32) (w : World) :
    Calls Try.prog 23 #[wv y] w fun e w' => e = .returned (.agg (powers y)) ∧ Ext w w' := by
  go_enter Try.func23, Try.ntmps23
  go_wp2
  go_loopw [0, 4, 5] (fun v _ i wr => ∃ k : Nat, k ≤ 32 ∧ i = .int .i64 k ∧ v = wv (sts k y) ∧ Blk wr (w.heap.size + 1) 42 (tabv (fun i => if 32 ≤ i + k then sts (31 - i) y else 0#32) 32) ∧ Blk wr (w.heap.size) 42 (tabv (fun i => 0#32) 32) ∧ Ext w wr) (fun _ _ i _ => 32 - (intOf i).toNat)
  case atStart => 
    refine ⟨0, Nat.zero_le _, rfl, rfl, ?_, ?_, ?_⟩
    · rw [tabv_congr _ (fun _ => 0#32) 32 (fun i hi => by simp; omega)]
      exact heap_alloc2_new w _ _
    · exact (Blk.new w _ _).ext ((Ext.refl _).alloc _)
    · exact ((Ext.refl _).alloc _).alloc _
  case round =>
    obtain ⟨k, hk, rfl, rfl, hb, hb0, hx⟩ := hrel
    by_cases hlt : k < 32
    · have hf := hb.free (31 - k)
      have hc := (hb.cell (31 - k)).trans (tabv_get _ _ _ (by omega))
      have hb1 := hb.set_ (31 - k) (wv (sts k y))
      rw [tabv_set, tabv_congr _ (fun i => if 32 ≤ i + (k + 1) then sts (31 - i) y else 0#32) 32 (fun i hi => by
        by_cases e : i = 31 - k
        · subst e
          simp [show 32 ≤ 31 - k + (k + 1) by omega, show 31 - (31 - k) = k by omega]
        · by_cases h2 : 32 ≤ i + k
          · simp [e, h2, show 32 ≤ i + (k + 1) by omega]
          · simp [e, h2, show ¬ 32 ≤ i + (k + 1) by omega])] at hb1
      have hb0 := hb0.other (setCell_grownBy wr ⟨w.heap.size + 1, 31 - k, none⟩ (wv (sts k y))) (by simp)
      have hx := hx.setCell (p := ⟨w.heap.size + 1, 31 - k, none⟩) (by simp) (wv (sts k y))
      clear hb
      go_wp2_with fail
      refine (step_any (sts k y) _).mono ?_
      rintro e w1 ⟨rfl, rfl⟩
      go_simp
      go_wp2_with fail
      go_roundw
      case rel => exact ⟨k + 1, by omega, by go_num, rfl, hb1, hb0, hx⟩
      case measure => simp [intOf]; omega
    · obtain rfl : k = 32 := by omega
      rw [tabv_congr _ (fun i => sts (31 - i) y) 32 (fun i hi => by simp)] at hb
      have hx := hx.grown (setRow_grownBy wr w.heap.size (powers y)) (by simp)
      have hb2 := hb0.setRow (powers y)
      go_wp2_with (first | refine wpList_load_row rfl 42 _ rfl (w.heap.size + 1) rfl 42 _ (0, 0) _ hb Try.underlying42 rfl (by rw [tabv_size]; exact size42) ?_ | refine wpList_store_row rfl 42 _ _ rfl w.heap.size (powers y) rfl rfl 42 _ hb0 (by rw [tabv_size]; exact size42) (by rw [tabv_size, tabv_size]) (tabv_one _ _) ?_)
      refine bodyPost_ret (v := .agg (powers y)) (results_cell_row rfl _ _ w.heap.size 42 _ (0, 0) _ rfl hb2 Try.underlying42 rfl (by rw [tabv_size]; exact size42)) rfl ⟨rfl, hx⟩
end Go.Proofs.Ytpfepajenimejaa
