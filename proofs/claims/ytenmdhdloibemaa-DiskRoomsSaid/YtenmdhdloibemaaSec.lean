/- Sectors: arrays of 256 bytes as values; how they are laid, loaded, compared, built. Conditions: 256 bytes. -/
import Derived.Test.YtenmdhdloibemaaMaps
import Derived.Test.YtenmdhdloibemaaRows
import Derived.Laws.Tables
import Derived.Laws.Cover2
import Derived.Laws.StructEq
namespace Go.Proofs.Ytenmdhdloibemaa
open Go.RowKit Go.Maps
set_option linter.unusedVariables false

/-- a sector's cells, its value -/
def sv (l : List UInt8) : Array Value := (bvs l).toArray
theorem sv_size (l : List UInt8) : (sv l).size = l.length := by simp [sv, bvs]
theorem sv_list (l : List UInt8) : (sv l).toList = bvs l := rfl
theorem bvs_inj : ∀ {a b : List UInt8}, bvs a = bvs b → a = b
  | [], [], _ => rfl
  | [], _ :: _, h => by simp [bvs] at h
  | _ :: _, [], h => by simp [bvs] at h
  | x :: a, y :: b, h => by
    simp only [bvs, List.map_cons, List.cons.injEq, Value.int.injEq, true_and] at h
    obtain ⟨h1, h2⟩ := h
    have e : x = y := UInt8.toNat_inj.1 (by omega)
    rw [e, bvs_inj h2]
theorem sv_inj {a b : List UInt8} (h : sv a = sv b) : a = b := bvs_inj (by simpa [sv] using h)
abbrev sec (l : List UInt8) : Value := .agg (sv l)
theorem sec_inj {a b : List UInt8} (h : sec a = sec b) : a = b := sv_inj (by injection h)
theorem size256 {l : List UInt8} (h : l.length = 256) : (Try.prog.info? 39).map (·.size) = some (sv l).size := by rw [sv_size, h]; kernel_rfl
theorem sv_get (l : List UInt8) (i : Nat) (h : i < l.length) : (sv l)[i]? = some (.int .u8 (l[i].toNat : Int)) := by
  have := bvs_get l i h
  simpa [sv] using this

theorem run_forIn_all {β : Type} {P : Program} {w : World} (s d : β) (f : Nat → β → Sem (ForInStep β)) (p : Nat → Bool) : ∀ (l : List Nat), (∀ i ∈ l, (f i s).run P w = .ok (if p i then .yield s else .done d) w) →
    (forIn l s f).run P w = .ok (if l.all p then s else d) w
  | [], _ => by simp [Sem.run_pure]
  | i :: l, h => by
    rw [List.forIn_cons, Sem.run_bind, h i (by simp)]
    cases hp : p i with
    | true => simpa [Result.andThen, hp] using run_forIn_all s d f p l (fun j hj => h j (by simp [hj]))
    | false => simp [Result.andThen, hp, Sem.run_pure]

theorem run_sec_eq (a b : List UInt8) (ha : a.length = 256) (hb : b.length = 256) (w : World) : (Op.equalIn 10000 39 (sec a) (sec b)).run Try.prog w = .ok (a == b) w := by
  have u5 := Try.underlying5
  have a5 := Try.isAgg5
  have z5 := Try.sizeOf5
  rw [show (10000 : Nat) = 9998 + 1 + 1 from rfl, Op.equalIn]
  simp only [sec, Sem.run_bind, run_underlying Try.underlying39, Result.andThen_ok]
  simp only [Std.Legacy.Range.forIn_eq_forIn_range', Std.Legacy.Range.size, Nat.sub_zero, Nat.add_sub_cancel, Nat.div_one]
  rw [z5]
  simp only [Result.andThen_ok]
  rw [run_forIn_all (none, ()) (some false, ()) _ (fun i => a[i]! == b[i]!) (List.range' 0 256) (fun i hi => ?_)]
  · simp only [Result.andThen_ok]
    have e : (List.range' 0 256).all (fun i => a[i]! == b[i]!) = (a == b) := by
      rw [Bool.eq_iff_iff, List.all_eq_true]
      constructor
      · intro h
        rw [beq_iff_eq]
        apply List.ext_getElem (by rw [ha, hb])
        intro i h1 h2
        have := h i (by simp; omega)
        rw [beq_iff_eq, getElem!_pos a i h1, getElem!_pos b i h2] at this
        exact this
      · intro h i _
        rw [beq_iff_eq] at h
        rw [h, beq_iff_eq]
    rw [e]
    cases a == b <;> rfl
  · have hi' : i < 256 := by simp at hi; omega
    have h1 : (sv a)[i]? = some (.int .u8 (a[i].toNat : Int)) := sv_get a i (by omega)
    have h2 : (sv b)[i]? = some (.int .u8 (b[i].toNat : Int)) := sv_get b i (by omega)
    rw [getElem!_pos a i (by omega), getElem!_pos b i (by omega)]
    simp only [part, Sem.run_bind, a5, Result.andThen_ok, Bool.false_eq_true, if_false, Nat.mul_one, h1, h2, Sem.run_pure, run_equalIn_int w 9998 5 .u8 .u8 _ _ Try.underlying5]
    have e : ((a[i].toNat : Int) == (b[i].toNat : Int)) = (a[i] == b[i]) := by
      rw [Bool.eq_iff_iff, beq_iff_eq, beq_iff_eq]
      constructor
      · intro h; exact UInt8.toNat_inj.1 (by omega)
      · intro h; rw [h]
    rw [e]
    cases a[i] == b[i] <;> rfl

theorem run_sec_eql (a b : List UInt8) (ha : a.length = 256) (hb : b.length = 256) (w : World) : (binOp .eql 39 (sec a) (sec b)).run Try.prog w = .ok (.bool (a == b)) w := by
  rw [run_eql_struct, run_sec_eq a b ha hb]
  rfl
theorem run_sec_neq (a b : List UInt8) (ha : a.length = 256) (hb : b.length = 256) (w : World) : (binOp .neq 39 (sec a) (sec b)).run Try.prog w = .ok (.bool (!(a == b))) w := by
  rw [run_neq_struct, run_sec_eq a b ha hb]
  rfl
theorem run_sec_guard (op : BinOp) (x y : Operand) (a b : List UInt8) (w : World) : (eqGuard op 39 x y (sec a) (sec b)).run Try.prog w = .ok () w := run_eqGuard_agg w op _ x y _ _ (by kernel_rfl)

/-- nothing but noughts -/
def zsec : List UInt8 := List.replicate 256 0
theorem zsec_len : zsec.length = 256 := List.length_replicate ..
theorem sv_zero : sv zsec = Array.replicate 256 (.int .u8 0) := by kernel_rfl
theorem zero_sec (w : World) : (zeroValue 39).run Try.prog w = .ok (sec zsec) w :=
  (Try.zeroValue39 w).trans (congrArg (fun v => Result.ok v w) (show _ = sec zsec by kernel_rfl))
theorem build_sec (w : World) : (Instr.build 39 #[]).run Try.prog w = .ok (sec zsec) w :=
  run_build (P := Try.prog) w 39 #[] (sv zsec) (by kernel_rfl)

theorem zero_cells : Try.zeroCells39 = sv zsec := by kernel_rfl
theorem sv_one (l : List UInt8) : (sv l).all (·.oneCell') = true := by
  rw [Array.all_eq_true']
  intro x hx
  exact bvs_one l x (by simpa [sv] using hx)
theorem sv_set (l : List UInt8) (i : Nat) (u : UInt8) : (sv l).setIfInBounds i (.int .u8 (u.toNat : Int)) = sv (l.set i u) := by
  apply Array.ext'
  simp [sv, ← bvs_set]
theorem Blk.setRow {w : World} {g : Nat} {t : TypeId} {cs : Array Value} (h : Blk w g t cs) (c' : Array Value) : Blk (w.setRow g c') g t c' := by
  unfold Blk at *
  simp [World.setRow, Array.getElem?_modify, h]
theorem setRow_grownBy (w : World) (g : Nat) (c' : Array Value) : w.grownBy (w.setRow g c') (some g) :=
  ⟨rfl, rfl, rfl, by simp [World.setRow], fun k _ hk => by
    have : g ≠ k := fun e => hk (by rw [e])
    simp [World.setRow, Array.getElem?_modify, this]⟩

section
variable {w : World} {ops : Array Oper} {rest : List Oper} {o : Oper} {a : Act} {Q : Exit → Act → World → Prop} {l : List UInt8}
/-- a sector is loaded -/
theorem wpList_lsec (hgd : o.guard = none) (x : Operand) (ho : o.op = .load 39 x) (g : Nat) (hx : a.eval x = .pointer (some ⟨g, 0, none⟩)) {t : TypeId} (hb : Blk w g t (sv l)) (hl : l.length = 256)
    (h : wpList Try.prog ops Q rest (a.put o.dst (sec l)) w) : wpList Try.prog ops Q (o :: rest) a w :=
  wpList_load_row hgd 39 x ho g hx t _ (0, 0) _ hb Try.underlying39 rfl (size256 hl) h
/-- a sector is stored -/
theorem wpList_ssec (hgd : o.guard = none) (x y : Operand) (ho : o.op = .store 39 x y) (g : Nat) (hx : a.eval x = .pointer (some ⟨g, 0, none⟩)) {l0 : List UInt8} (hy : a.eval y = sec l) {t : TypeId} (hb : Blk w g t (sv l0)) (h0 : l0.length = 256) (hl : l.length = 256)
    (h : wpList Try.prog ops Q rest (a.put o.dst undef) (w.setRow g (sv l))) : wpList Try.prog ops Q (o :: rest) a w :=
  wpList_store_row hgd 39 x y ho g (sv l) hx hy t _ hb (size256 hl) (by rw [sv_size, sv_size, h0, hl]) (sv_one l) h
theorem exec_lsec {x : Operand} (ho : o.op = .load 39 x) (g : Nat) (hx : a.eval x = .pointer (some ⟨g, 0, none⟩)) {t : TypeId} (hb : Blk w g t (sv l)) (hl : l.length = 256) : (execOp a.eval o).run Try.prog w = .ok (.value (sec l)) w := by
  unfold execOp
  simp only [ho, hx, Instr.loadAt, Instr.sureAddr, Sem.run_bind, Sem.run_pure, Result.andThen_ok, run_loadVar_row w g t 39 (sv l) (0, 0) _ hb Try.underlying39 rfl (size256 hl)]
/-- a sector as a result in a cell -/
theorem results_sec {fn : Func} {p : Tmp} (h : fn.results = #[.cell p 39]) (tmps : Array Value) (w : World) (g : Nat) {t : TypeId} (hp : tmps.getD p undef = .pointer (some ⟨g, 0, none⟩)) (hb : Blk w g t (sv l)) (hl : l.length = 256) :
    (results fn tmps).run Try.prog w = .ok (sec l) w :=
  results_cell_row h tmps w g t (sv l) (0, 0) _ hp hb Try.underlying39 rfl (size256 hl)
end

/-- a sector is loaded from the middle of a row -/
theorem wpList_lsecAt {w : World} {ops : Array Oper} {rest : List Oper} {o : Oper} {a : Act} {Q : Exit → Act → World → Prop} {l : List UInt8} (hgd : o.guard = none) (x : Operand) (ho : o.op = .load 39 x) (g off : Nat) (hx : a.eval x = .pointer (some ⟨g, off, none⟩))
    (hc : ∀ j v, (bvs l)[j]? = some v → w.cell? ⟨g, off + j, none⟩ = some v) (hl : l.length = 256)
    (h : wpList Try.prog ops Q rest (a.put o.dst (sec l)) w) : wpList Try.prog ops Q (o :: rest) a w := by
  refine wpList_plain hgd fun K hK => ?_
  have e : (loadCells ⟨g, off, none⟩ 256).run Try.prog w = .ok (sv l) w := by
    have := run_loadCells_list (P := Try.prog) w ⟨g, off, none⟩ (bvs l) (fun j v hv => by
      have hadd : (⟨g, off, none⟩ : Addr).add j = ⟨g, off + j, none⟩ := by unfold Addr.add; split <;> simp_all
      rw [hadd]
      exact hc j v hv)
    rw [bvs_length, hl] at this
    exact this
  have e2 : (loadVar 39 ⟨g, off, none⟩).run Try.prog w = .ok (sec l) w := by
    simp [loadVar, Sem.run_bind, Try.isAgg39, Try.sizeOf39, e]
  unfold Oper.wp execOp
  simp only [ho, hx, Instr.loadAt, Instr.sureAddr, Sem.run_bind, Sem.run_pure, Result.andThen_ok, e2]
  exact hK _ _ h

theorem fold_set : ∀ (l : List Value) (k : Nat) (cs : Array Value) (i : Nat), ((l.zipIdx k).foldl (fun cs (p : Value × Nat) => cs.setIfInBounds (0 + p.2) p.1) cs)[i]? = if k ≤ i ∧ i < k + l.length ∧ i < cs.size then l[i - k]? else cs[i]?
  | [], k, cs, i => by
    simp only [List.zipIdx_nil, List.foldl_nil, List.length_nil]
    rw [if_neg (by omega)]
  | a :: l, k, cs, i => by
    rw [List.zipIdx_cons, List.foldl_cons, fold_set l (k + 1) _ i]
    simp only [Array.size_setIfInBounds, List.length_cons, Nat.zero_add]
    by_cases h1 : i = k
    · subst h1
      rw [if_neg (by omega)]
      by_cases h2 : i < cs.size
      · rw [if_pos ⟨Nat.le_refl _, by omega, h2⟩]
        simp [h2]
      · rw [if_neg (by omega)]
        simp [h2]
    · by_cases h2 : k + 1 ≤ i ∧ i < k + 1 + l.length ∧ i < cs.size
      · rw [if_pos h2, if_pos (by omega), show i - k = (i - (k + 1)) + 1 by omega, List.getElem?_cons_succ]
      · rw [if_neg h2, if_neg (by omega), Array.getElem?_setIfInBounds_ne (by omega)]
theorem fold_arr (l : List UInt8) (cs : Array Value) (i : Nat) : ((sv l).zipIdx.foldl (fun cs (c, j) => cs.setIfInBounds (0 + j) c) cs)[i]? = if 0 ≤ i ∧ i < 0 + l.length ∧ i < cs.size then (bvs l)[i - 0]? else cs[i]? := by
  have := fold_set (bvs l) 0 cs i
  rw [bvs_length] at this
  rw [← Array.foldl_toList, Array.toList_zipIdx]
  exact this
/-- one sector in a new slice -/
theorem run_slice1 (w : World) (l : List UInt8) (h : l.length = 256) :
    (Instr.buildSlice 68 1 #[(0, sec l)]).run Try.prog w = .ok (.slice (some ⟨w.heap.size, 0, none⟩) 1 1) (w.alloc (.cells (sv l) 39)) := by
  have hz : ((Value.agg (sv zsec)).cells).size = 256 := (sv_size zsec).trans zsec_len
  have hf : Instr.fill (fun i => some (i * 256, 256)) ((Array.range (1 * 256)).map ((sv zsec)[· % (sv zsec).size]!)) [(0, sec l)] = some (sv l) := by
    have e1 : (sec l).cells = sv l := rfl
    simp only [Instr.fill, e1, sv_size, h, Array.size_map, Array.size_range, Nat.zero_mul]
    rw [if_neg (by simp)]
    congr 1
    apply Array.ext_getElem?
    intro i
    rw [fold_arr]
    · rw [Array.size_map, Array.size_range, h]
      by_cases hi : i < 256
      · rw [if_pos (by omega), sv, List.getElem?_toArray, Nat.sub_zero]
      · rw [if_neg (by omega), Array.getElem?_eq_none (by rw [Array.size_map, Array.size_range]; omega), Array.getElem?_eq_none (by rw [sv_size]; omega)]
  simp only [Instr.buildSlice, Sem.run_bind, run_underlying Try.underlying68, Result.andThen_ok, Try.sizeOf39]
  simp only [show ¬ (1 * 256 > 2 ^ 24) by decide, show ¬ (1 * 256 = 0) by decide, if_false, Sem.run_pure, Sem.run_bind, Result.andThen_ok, zero_sec]
  rw [show (sec zsec).cells = sv zsec from rfl, hf]
  simp [newRow, go_sem, Result.andThen]

theorem wp_slice1 {w : World} {o : Oper} {a : Act} {K : Act → World → Prop} {Q : Exit → Act → World → Prop} {l : List UInt8} (x : Operand) (ho : o.op = .buildSlice 68 1 #[(0, x)]) (hx : a.eval x = sec l) (hl : l.length = 256)
    (h : K (a.put o.dst (.slice (some ⟨w.heap.size, 0, none⟩) 1 1)) (w.alloc (.cells (sv l) 39))) : o.wp Try.prog a w K Q := by
  have e := run_slice1 w l hl
  unfold Oper.wp execOp
  simp only [ho, List.map_toArray, List.map_cons, List.map_nil, hx, Sem.run_bind, e, Result.andThen_ok, Sem.run_pure]
  exact h

/-- the sector of one byte -/
def fsec (u : UInt8) : List UInt8 := List.replicate 256 u
theorem fsec_len (u : UInt8) : (fsec u).length = 256 := List.length_replicate ..
def part_ (u : UInt8) (k : Nat) : List UInt8 := List.replicate k u ++ List.replicate (256 - k) 0
theorem part_len (u : UInt8) (k : Nat) (h : k ≤ 256) : (part_ u k).length = 256 := by
  rw [part_, List.length_append, List.length_replicate, List.length_replicate]
  omega
theorem part_set (u : UInt8) (k : Nat) (h : k < 256) : (part_ u k).set k u = part_ u (k + 1) := by
  rw [part_, part_, List.set_append_right _ _ (by rw [List.length_replicate]; exact Nat.le_refl _), List.length_replicate, Nat.sub_self, show 256 - k = (256 - (k + 1)) + 1 by omega, List.replicate_succ, List.set_cons_zero,
    List.replicate_succ', List.append_assoc]
  rfl
theorem part_full (u : UInt8) : part_ u 256 = fsec u := by rw [part_, fsec, Nat.sub_self, List.replicate_zero, List.append_nil]
theorem part_none (u : UInt8) : part_ u 0 = zsec := by rw [part_, zsec, List.replicate_zero, List.nil_append]

theorem full_any (u : UInt8) (w : World) :
    Calls Try.prog 17 #[.int .u8 (u.toNat : Int)] w fun e w' => e = .returned (sec (fsec u)) ∧ Ext w w' := by
  go_enter Try.func17, Try.ntmps17
  go_wp2_with fail
  rw [zero_cells]
  go_loopw [4] (fun i wr => ∃ k : Nat, k ≤ 256 ∧ i = .int .i64 k ∧ Blk wr (w.heap.size + 1) 39 (sv (part_ u k)) ∧ Blk wr w.heap.size 39 (sv zsec) ∧ Ext w wr) (fun i _ => 256 - (nOf i).toNat)
  case atStart =>
    refine ⟨0, Nat.zero_le _, rfl, ?_, ?_, ?_⟩
    · rw [part_none]
      exact heap_alloc2_new w _ _
    · exact (Blk.new w _ _).ext ((Ext.refl _).alloc _)
    · exact ((Ext.refl _).alloc _).alloc _
  case round =>
    obtain ⟨k, hk, rfl, hb, hb0, hx⟩ := hrel
    by_cases hlt : k < 256
    · have hf := hb.free k
      have hc := (hb.cell k).trans (sv_get _ _ (by rw [part_len u k hk]; omega))
      have hb1 := hb.set_ k (.int .u8 (u.toNat : Int))
      rw [sv_set, part_set u k hlt] at hb1
      have hb0 := hb0.other (setCell_grownBy wr ⟨w.heap.size + 1, k, none⟩ (.int .u8 (u.toNat : Int))) (by simp)
      have hx := hx.setCell (p := ⟨w.heap.size + 1, k, none⟩) (by simp) (.int .u8 (u.toNat : Int))
      clear hb
      have hki : (k : Int) < 256 := by omega
      go_wp2_with fail
      go_roundw
      case rel => exact ⟨k + 1, by omega, by go_num, hb1, hb0, hx⟩
      case measure => simp [nOf]; omega
    · obtain rfl : k = 256 := by omega
      rw [part_full] at hb
      have hx := hx.grown (setRow_grownBy wr w.heap.size (sv (fsec u))) (by simp)
      have hb2 := hb0.setRow (sv (fsec u))
      go_wp2_with (first | refine wpList_lsec rfl _ rfl (w.heap.size + 1) rfl hb (fsec_len u) ?_ | refine wpList_ssec rfl _ _ rfl w.heap.size rfl rfl hb0 zsec_len (fsec_len u) ?_)
      refine bodyPost_ret (v := sec (fsec u)) (results_sec rfl _ _ w.heap.size rfl hb2 (fsec_len u)) rfl ⟨rfl, hx⟩
end Go.Proofs.Ytenmdhdloibemaa
