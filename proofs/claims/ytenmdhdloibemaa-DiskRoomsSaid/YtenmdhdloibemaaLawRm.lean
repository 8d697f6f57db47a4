/- DiskRooms answers true, whatever capacity and steps it is given. No conditions. -/
import Derived.Test.YtenmdhdloibemaaMarks
import Derived.Test.YtenmdhdloibemaaDoM
import Derived.Deep.CutRange
import Derived.IntWalk
import Derived.Test.YtenmdhdloibemaaOv
import Derived.Test.YtenmdhdloibemaaKnown
import Derived.Test.YtenmdhdloibemaaFrame
namespace Go.Proofs.Ytenmdhdloibemaa.lawRm
open Go.ChangeShapes Go.WideShapes Go.ChangeAt Go.RowKit Go.Maps Go.Shelf
open Go.ChangeMaps (open_string shut_string)
open Go.Sort
set_option linter.unusedVariables false
set_option linter.unusedSimpArgs false
attribute [local go_sem] Oper.semAt_some

theorem run_step {w : World} {b off : Nat} {s : Sp} (h : ∀ j (hj : j < s.vals.length), w.cell? ⟨b, off + j, none⟩ = some s.vals[j]) : (loadVar 34 ⟨b, off, none⟩).run Try.prog w = .ok (.agg s.vals.toArray) w := by
  have e : (loadCells ⟨b, off, none⟩ 6).run Try.prog w = .ok s.vals.toArray w := by
    have := run_loadCells_list (P := Try.prog) w ⟨b, off, none⟩ s.vals (fun j v hv => by
      have hadd : (⟨b, off, none⟩ : Addr).add j = ⟨b, off + j, none⟩ := by unfold Addr.add; split <;> simp_all
      rw [hadd]
      obtain ⟨hj, hv⟩ := List.getElem?_eq_some_iff.1 hv
      rw [h j hj, hv])
    exact this
  simp [loadVar, Sem.run_bind, Try.isAgg34, Try.sizeOf34, e]
theorem exec_lstep {w : World} {o : Oper} {a : Act} {s : Sp} {x : Operand} (ho : o.op = .load 34 x) (b off : Nat) (hx : a.eval x = .pointer (some ⟨b, off, none⟩))
    (h : ∀ j (hj : j < s.vals.length), w.cell? ⟨b, off + j, none⟩ = some s.vals[j]) : (execOp a.eval o).run Try.prog w = .ok (.value (.agg s.vals.toArray)) w := by
  unfold execOp
  simp only [ho, hx, Instr.loadAt, Instr.sureAddr, Sem.run_bind, Sem.run_pure, Result.andThen_ok, run_step h]

/-- at a round's head -/
def RelR (w : World) (l : List Sp) (len : Nat) (cap : Int) (q4 q5 : Nat) (n : Nat) (ds : List Deferred) (i : Value) (W : World) : Prop :=
  ∃ (Ds : List Nat) (k d : Nat) (g : DC), ds = marks Ds ∧ i = .int .i64 k ∧ k ≤ len ∧ n = len - k ∧ Src l k g ∧ g.cap = cap ∧ Ds.Nodup ∧ (∀ D ∈ Ds, w.heap.size ≤ D) ∧ StM w W d g [(q5, 26, #[fptr d]), (q4, 4, #[.bool false])] Ds
/-- what the body of a step needs of a step's cells -/
def StepCells (W : World) (b o : Nat) (kind n : Int) (name : Nm) : Prop := W.cell? ⟨b, o, none⟩ = some (.int .i64 kind) ∧ W.cell? ⟨b, o + 1, none⟩ = some (.int .i64 n) ∧ W.cell? ⟨b, o + 2, none⟩ = some (nv name)

theorem StM.far {w0 w w' : World} {d : Nat} {g : DC} {L L1 : List (Nat × TypeId × Array Value)} {M : List Nat} {S : Nat → Prop} (h : StM w0 w d g (L1 ++ L) M) (x : Tu S w w') (h1 : ∀ b, S b → ∃ q ∈ L1, q.1 = b) (h2 : ∀ q ∈ L, ¬ S q.1) (h3 : ∀ b, S b → w0.heap.size ≤ b)
    (Ms : List Nat) (h4 : ∀ k ∈ Ms, w.heap.size ≤ k ∧ w'.heap[k]? = some (.deferred (some []))) : StM w0 w' d g L (Ms ++ M) := by
  obtain ⟨O, fm, F, hX, h0, hx, hl, hM⟩ := h
  have hz := x.size
  have hno : ∀ b, S b → O b = none := fun b hb => by
    obtain ⟨q, hq, rfl⟩ := h1 b hb
    exact (hl q (List.mem_append_left _ hq)).1
  refine ⟨O, fm, F, hX.keep (fun k hk => ⟨x.blk k (hX.inn k hk) (fun e => by rw [Owned, hno k e] at hk; cases hk), rfl⟩) (hX.inn.ext hz), h0, x.ext_of hx h3, fun q hq => ?_, fun k hk => ?_⟩
  · obtain ⟨q1, q2⟩ := hl q (List.mem_append_right _ hq)
    exact ⟨q1, q2.tu x (h2 q hq)⟩
  · rcases List.mem_append.1 hk with hk | hk
    · exact ⟨hX.inn.none (h4 k hk).1, (h4 k hk).2⟩
    · obtain ⟨q1, q2⟩ := hM k hk
      refine ⟨q1, (x.blk k (mark_lt q2) (fun e => ?_)).trans q2⟩
      obtain ⟨q, hq, rfl⟩ := h1 k e
      have := (hl q (List.mem_append_left _ hq)).2
      rw [Blk, q2] at this
      cases this
/-- what the range over the files holds -/
def RanI (w14 : World) (g : DC) (ns : List Nm) (q13 q15 : Nat) (pre : List (Ix ns.length)) (W : World) : Prop :=
  Tu (fun b => b = q13 ∨ b = q15) w14 W ∧ ∃ (v : Int) (ls : Nm), Blk W q13 3 #[.int .i64 v] ∧ Blk W q15 9 #[nv ls] ∧ ls.length ≤ 32 ∧ 0 ≤ v ∧ v ≤ 65536 * (pre.length : Int) ∧
    ∀ k, Upto pre k → v = (((ns.take k).map (cntOf g)).sum : Nat) ∧ (k = 0 → ls = []) ∧ ∀ j (hj : j < ns.length), j + 1 = k → ls = ns[j]
theorem bleq (t : TypeId) (a b : ByteArray) : binOp .leq t (.string a) (.string b) = pure (.bool (Op.bytesLess a.toList b.toList || a.toList == b.toList)) := by simp [binOp, Op.stringOp]
theorem less_no {a b : Nm} (h : b ≤ a) (hne : b ≠ a) : Op.bytesLess a b = false ∧ (a == b) = false := by
  rw [bytesLess_eq]
  refine ⟨by simpa using h, by simpa using fun e : a = b => hne e.symm⟩

set_option maxRecDepth 100000 in
set_option maxHeartbeats 40000000 in
theorem walk (w : World) (cap : Int) (hcap : (Lit.int IntKind.i64 cap).wf = true) (A : Option Addr) (len c : Nat) (l : List Sp) (hl : StepsAt w A len l) (hlc : len ≤ c) :
    Calls Try.prog 5 #[.int .i64 cap, .slice A len c] w fun e w' => e = .returned (.bool true) ∧ Ext w w' := by
  have hx4 := (Ext.refl w).alloc (.cells #[.bool false] 4)
  have b4 := Blk.new w 4 #[.bool false]
  have z4 := Lib.hid (World.size_alloc w (.cells #[.bool false] 4))
  refine calls_of_marks Try.func5 rfl ?_
  simp only [Try.ntmps5, List.size_toArray, List.length_cons, List.length_nil, Nat.reduceAdd, Nat.reduceSub, Array.replicate_succ, Array.replicate_zero, List.push_toArray, List.append_toArray, List.nil_append, List.cons_append]
  go_upto_region 1 with fail
  generalize w.alloc (.cells #[.bool false] 4) = w1 at *
  have hsz : w.heap.size + 1 = w1.heap.size := z4.out.symm
  generalize hq4 : w.heap.size = q4 at *
  have early : ∀ (W : World), Ext w1 W → Blk (W.setCell ⟨q4, 0, none⟩ (.bool true)) q4 4 #[.bool true] ∧ Ext w (W.setCell ⟨q4, 0, none⟩ (.bool true)) := fun W hW => by
    have hb := (b4.ext hW).set_ 0 (.bool true)
    exact ⟨hb, (Tu.of_grown (S := fun k => k = q4) (setCell_grownBy _ _ _) (by rintro k e; cases e; rfl)).ext_of (hx4.trans hW) (fun k e => by omega)⟩
  by_cases h1 : cap < 1
  · go_wp2_with fail
    refine (known_any _).mono ?_
    rintro e wk ⟨rfl, hxk⟩
    obtain ⟨hb, hE⟩ := early wk hxk
    have f4 := (b4.ext hxk).free 0
    have c4 := (b4.ext hxk).cell 0
    go_wp2_with fail
    exact ⟨_, results_cell1 rfl _ _ _ rfl hb, rfl, hE⟩
  by_cases h2 : 1048576 < cap
  · go_wp2_with fail
    refine (known_any _).mono ?_
    rintro e wk ⟨rfl, hxk⟩
    obtain ⟨hb, hE⟩ := early wk hxk
    have f4 := (b4.ext hxk).free 0
    have c4 := (b4.ext hxk).cell 0
    go_wp2_with fail
    exact ⟨_, results_cell1 rfl _ _ _ rfl hb, rfl, hE⟩
  go_wp2_with fail
  refine (much_any w1 A len c l (hl.ext hx4) 100 (by decide) (by decide)).mono ?_
  rintro e w2 ⟨b, rfl, hb, hx2⟩
  cases b with
  | true =>
    go_wp2_with fail
    refine (known_any _).mono ?_
    rintro e wk ⟨rfl, hxk⟩
    replace hxk := hx2.trans hxk
    obtain ⟨hb, hE⟩ := early wk hxk
    have f4 := (b4.ext hxk).free 0
    have c4 := (b4.ext hxk).cell 0
    go_wp2_with fail
    exact ⟨_, results_cell1 rfl _ _ _ rfl hb, rfl, hE⟩
  | false =>
    have hlen := hb rfl
    clear hb
    go_wp2_with fail
    refine (new_any w2 cap hcap).mono ?_
    rintro e w3 ⟨hx0, ⟨_, _, d0, O, rfl, ⟨fm, F, hX⟩, h0, _⟩ | ⟨h9, _⟩⟩
    rotate_left
    · exact absurd ⟨by omega, by omega⟩ h9
    have hx12 := hx4.trans hx2
    have hS0 : St w w3 d0 (freshDC cap) [] := ⟨O, fm, F, hX, fun b hb => h0 b (by have := hx12.size; omega), hx12.trans hx0, fun q hq => by cases hq⟩
    have hS4 : St w w3 d0 (freshDC cap) [(q4, 4, #[.bool false])] := ⟨O, fm, F, hX, fun b hb => h0 b (by have := hx12.size; omega), hx12.trans hx0, fun q hq => by
      obtain rfl := List.mem_singleton.1 hq
      exact ⟨h0 _ (by have := hx2.size; have := b4.lt; omega), (b4.ext hx2).ext hx0⟩⟩
    clear hX h0 hS0
    have hx5 := (Ext.refl w3).alloc (.cells #[fptr d0] 26)
    have b5 := Blk.new w3 26 #[fptr d0]
    have hS5 := StM.of (hS4.add hx5 (Nat.le_refl _) b5)
    have z5 := Lib.hid (World.size_alloc w3 (.cells #[fptr d0] 26))
    have q45 : q4 < w3.heap.size := by have := hx2.size; have := hx0.size; have := b4.lt; omega
    have c50 := b5.cell 0
    go_upto_region 4 with fail
    generalize w3.alloc (.cells #[fptr d0] 26) = w5 at *
    generalize w3.heap.size = q5 at *
    clear hS4 hx5 b5 z5
    go_wp2_with fail
    refine ((num_any _ 0)).mono ?_
    rintro e w1 ⟨rfl, rfl⟩
    clear c50
    go_wp2_with fail
    refine wp_loop_ghost_k (fun gk a W => ∃ (ds : List Deferred) (u : Nat → Value), RelR w l len cap q4 q5 gk ds (u 7) W ∧ a = { tmps := #[.int .i64 cap, .slice A len c, undef, undef, fptr q4, fptr q5, .int .i64 0, u 7, u 8, u 9, u 10, u 11, u 12, u 13, u 14, u 15, u 16, u 17, .int .i64 cap, .bool false, .bool false, .int .i64 cap, .bool false, .bool false, .bool false, .slice A len c, .bool false, .bool false, undef, .tuple #[fptr d0, .int .i64 0], .int .i64 cap, .tuple #[fptr d0, .int .i64 0], fptr d0, .int .i64 0, fptr d0, .bool false, .bool false, .int .i64 0, .int .i64 0, .bool false, .bool false, u 41, u 42, u 43, u 44, u 45, u 46, u 47, u 48, u 49, u 50, u 51, u 52, u 53, u 54, u 55, u 56, u 57, u 58, u 59, u 60, u 61, u 62, u 63, u 64, u 65, u 66, u 67, u 68, u 69, u 70, u 71, u 72, u 73, u 74, u 75, u 76, u 77, u 78, u 79, u 80, u 81, u 82, u 83, u 84, u 85, u 86, u 87, u 88, u 89, u 90, u 91, u 92, u 93, u 94, u 95, u 96, u 97, u 98, u 99, u 100, u 101, u 102, u 103, u 104, u 105, u 106, u 107, u 108, u 109, u 110, u 111, u 112, u 113, u 114, u 115, u 116, u 117, u 118, u 119, u 120, u 121, u 122, u 123, u 124, u 125, u 126, u 127, u 128, u 129, u 130, u 131, u 132, u 133, u 134, u 135, u 136, u 137, u 138, u 139, u 140, u 141, u 142, u 143, u 144, u 145, u 146, u 147, u 148, u 149, u 150, u 151, u 152, u 153, u 154, u 155, u 156, u 157, u 158, u 159, u 160, u 161, u 162, u 163, u 164, u 165, u 166, u 167, u 168, u 169, u 170, u 171, u 172, u 173, u 174, u 175, u 176, u 177, u 178, u 179, u 180, u 181, u 182, u 183, u 184, u 185, u 186, u 187, u 188, u 189, u 190, u 191, u 192, u 193, u 194, u 195, u 196, u 197, u 198, u 199, undef], defers := ds }) len ?_ ?_
    · exact ⟨_, fun n => if n = 7 then .int .i64 0 else undef, ⟨[], 0, d0, freshDC cap, rfl, rfl, Nat.zero_le _, rfl, fun n c e => by simp [freshDC] at e, rfl, List.nodup_nil, (fun D h => (by cases h)), hS5⟩, rfl⟩
    intro gk _ wr hinv
    obtain ⟨ds, u, hrel, ha⟩ := hinv
    subst ha
    dsimp only
    intro JJ KK hJJ hKK
    have HJ : ∀ (n : Nat) (T : Array Value) (ds : List Deferred) (W : World), RelR w l len cap q4 q5 n ds (T.getD 7 undef) W → T = #[.int .i64 cap, .slice A len c, undef, undef, fptr q4, fptr q5, .int .i64 0, T.getD 7 undef, T.getD 8 undef, T.getD 9 undef, T.getD 10 undef, T.getD 11 undef, T.getD 12 undef, T.getD 13 undef, T.getD 14 undef, T.getD 15 undef, T.getD 16 undef, T.getD 17 undef, .int .i64 cap, .bool false, .bool false, .int .i64 cap, .bool false, .bool false, .bool false, .slice A len c, .bool false, .bool false, undef, .tuple #[fptr d0, .int .i64 0], .int .i64 cap, .tuple #[fptr d0, .int .i64 0], fptr d0, .int .i64 0, fptr d0, .bool false, .bool false, .int .i64 0, .int .i64 0, .bool false, .bool false, T.getD 41 undef, T.getD 42 undef, T.getD 43 undef, T.getD 44 undef, T.getD 45 undef, T.getD 46 undef, T.getD 47 undef, T.getD 48 undef, T.getD 49 undef, T.getD 50 undef, T.getD 51 undef, T.getD 52 undef, T.getD 53 undef, T.getD 54 undef, T.getD 55 undef, T.getD 56 undef, T.getD 57 undef, T.getD 58 undef, T.getD 59 undef, T.getD 60 undef, T.getD 61 undef, T.getD 62 undef, T.getD 63 undef, T.getD 64 undef, T.getD 65 undef, T.getD 66 undef, T.getD 67 undef, T.getD 68 undef, T.getD 69 undef, T.getD 70 undef, T.getD 71 undef, T.getD 72 undef, T.getD 73 undef, T.getD 74 undef, T.getD 75 undef, T.getD 76 undef, T.getD 77 undef, T.getD 78 undef, T.getD 79 undef, T.getD 80 undef, T.getD 81 undef, T.getD 82 undef, T.getD 83 undef, T.getD 84 undef, T.getD 85 undef, T.getD 86 undef, T.getD 87 undef, T.getD 88 undef, T.getD 89 undef, T.getD 90 undef, T.getD 91 undef, T.getD 92 undef, T.getD 93 undef, T.getD 94 undef, T.getD 95 undef, T.getD 96 undef, T.getD 97 undef, T.getD 98 undef, T.getD 99 undef, T.getD 100 undef, T.getD 101 undef, T.getD 102 undef, T.getD 103 undef, T.getD 104 undef, T.getD 105 undef, T.getD 106 undef, T.getD 107 undef, T.getD 108 undef, T.getD 109 undef, T.getD 110 undef, T.getD 111 undef, T.getD 112 undef, T.getD 113 undef, T.getD 114 undef, T.getD 115 undef, T.getD 116 undef, T.getD 117 undef, T.getD 118 undef, T.getD 119 undef, T.getD 120 undef, T.getD 121 undef, T.getD 122 undef, T.getD 123 undef, T.getD 124 undef, T.getD 125 undef, T.getD 126 undef, T.getD 127 undef, T.getD 128 undef, T.getD 129 undef, T.getD 130 undef, T.getD 131 undef, T.getD 132 undef, T.getD 133 undef, T.getD 134 undef, T.getD 135 undef, T.getD 136 undef, T.getD 137 undef, T.getD 138 undef, T.getD 139 undef, T.getD 140 undef, T.getD 141 undef, T.getD 142 undef, T.getD 143 undef, T.getD 144 undef, T.getD 145 undef, T.getD 146 undef, T.getD 147 undef, T.getD 148 undef, T.getD 149 undef, T.getD 150 undef, T.getD 151 undef, T.getD 152 undef, T.getD 153 undef, T.getD 154 undef, T.getD 155 undef, T.getD 156 undef, T.getD 157 undef, T.getD 158 undef, T.getD 159 undef, T.getD 160 undef, T.getD 161 undef, T.getD 162 undef, T.getD 163 undef, T.getD 164 undef, T.getD 165 undef, T.getD 166 undef, T.getD 167 undef, T.getD 168 undef, T.getD 169 undef, T.getD 170 undef, T.getD 171 undef, T.getD 172 undef, T.getD 173 undef, T.getD 174 undef, T.getD 175 undef, T.getD 176 undef, T.getD 177 undef, T.getD 178 undef, T.getD 179 undef, T.getD 180 undef, T.getD 181 undef, T.getD 182 undef, T.getD 183 undef, T.getD 184 undef, T.getD 185 undef, T.getD 186 undef, T.getD 187 undef, T.getD 188 undef, T.getD 189 undef, T.getD 190 undef, T.getD 191 undef, T.getD 192 undef, T.getD 193 undef, T.getD 194 undef, T.getD 195 undef, T.getD 196 undef, T.getD 197 undef, T.getD 198 undef, T.getD 199 undef, undef] → JJ n { tmps := T, defers := ds } W := fun n T ds W h e => hJJ _ _ _ ⟨ds, fun j => T.getD j undef, h, congrArg (fun t => ({ tmps := t, defers := ds } : Act)) e⟩
    have HJh := Lib.hid HJ
    clear hJJ HJ
    obtain ⟨u7, hu7⟩ : ∃ u7, u 7 = u7 := ⟨_, rfl⟩
    rw [hu7] at hrel ⊢
    clear hu7
    obtain ⟨Ds, k, d, g, rfl, rfl, hk, rfl, hsrc, hcg, hnd, hDs, hS⟩ := hrel
    clear hS5
    have hq5 : w.heap.size ≤ q5 := by omega
    by_cases hlt : k < len
    rotate_left
    · obtain rfl : k = len := by omega
      go_wp2_with fail
      refine (known_any _).mono ?_
      rintro e wk ⟨rfl, hxk⟩
      replace hS := hS.ext hxk
      have hb4 : Blk wk q4 4 #[.bool false] := hS.st.blk (by simp)
      have f4 := hb4.free 0
      have c4 := hb4.cell 0
      have T4 : Tu (fun b => b = q4) wk (wk.setCell ⟨q4, 0, none⟩ (.bool true)) := Tu.of_grown (setCell_grownBy _ _ _) (by rintro k e; cases e; rfl)
      have B4 := hb4.set_ 0 (.bool true)
      have hm : ∀ D ∈ Ds, (wk.setCell ⟨q4, 0, none⟩ (.bool true)).heap[D]? = some (.deferred (some [])) := fun D hD => by
        have h1 := hS.mark hD
        refine (T4.blk D (mark_lt h1) (fun e => ?_)).trans h1
        subst e
        rw [Blk, h1] at hb4
        cases hb4
      have hlow := hS.st.low
      go_wp2_with fail
      refine leaves_marks Ds _ hnd hm (fun W' t => ?_)
      have hq : q4 ∉ Ds := fun hD => by
        have h1 := hm q4 hD
        rw [Blk, h1] at B4
        cases B4
      exact ⟨_, results_cell1 rfl _ _ _ rfl (B4.tu t hq), rfl, t.ext_of (T4.ext_of hlow (fun k e => by omega)) (fun k hk => hDs k hk)⟩
    have hki : (k : Int) < (len : Int) := by omega
    have hkl : k < l.length := by rw [hl.1]; exact hlt
    obtain ⟨b, off, rfl, hbb, hcell⟩ := hl.pos (by omega)
    obtain ⟨hok, hc⟩ := hcell k hkl
    obtain ⟨s, hs⟩ : ∃ s, l[k] = s := ⟨_, rfl⟩
    obtain ⟨ns, hns, hn32⟩ := st_names hS.st
    have hbig := hsrc.big (by omega)
    obtain ⟨rm, hrm⟩ : ∃ rm, g.cap - (total g ns : Int) = rm := ⟨_, rfl⟩
    have hrm1 : -2097152 ≤ rm ∧ rm ≤ 1048576 := by have := st_total hS.st hns; omega
    obtain ⟨hrm1, hrm3⟩ := hrm1
    obtain ⟨was, hwas⟩ : ∃ was, g.dead = was := ⟨_, rfl⟩
    have hstep : ∀ x g' ns', DoR g l[k] x g' → IsNames g' ns' → RoomR g l[k] x g' (total g ns) (total g' ns') := fun x g' ns' hd hn' => room_step hd hns hn'
    have hsn : ∀ x g', DoR g l[k] x g' → Src l (k + 1) g' := fun x g' hd => hsrc.step hkl hd
    rw [hs] at hok hc hstep hsn
    have Hst := Lib.hid (And.intro hstep hsn)
    clear hstep hsn hcell
    have Hs := Lib.hid hs
    clear hs
    have hroom := st_room hS.st hns
    rw [hrm] at hroom
    have hdead := st_dead hS.st
    rw [hwas] at hdead
    have Hrm := Lib.hid (And.intro hrm hwas)
    clear hrm hwas
    have c5 := (hS.st.blk (List.mem_cons_self ..)).cell 0
    go_wp2_with fail
    refine hroom.mono ?_
    rintro e w6 ⟨rfl, hx6⟩
    clear hroom hdead
    replace hS := hS.ext hx6
    have hdead := st_dead hS.st
    rw [Hrm.out.2] at hdead
    have c5 := (hS.st.blk (List.mem_cons_self ..)).cell 0
    go_wp2_with fail
    refine hdead.mono ?_
    rintro e w7 ⟨rfl, rfl⟩
    clear hdead
    go_wp2_with fail
    clear c5
    replace hS := hS.ext (Ext.refl w6).drew
    have P0 : Blk w6.drew q5 26 #[fptr d] ∧ Ext w w6.drew := ⟨hS.st.blk (List.mem_cons_self ..), hS.st.low⟩
    refine wp_region_plan (fun u u' => (Blk u q5 26 #[fptr d] ∧ Ext w u) → (Blk u' q5 26 #[fptr d] ∧ Ext w u')) [(0, true), (1, true), (2, true), (3, true), (4, true), (5, false), (6, true), (7, true), (8, true), (9, true), (10, true)] (fun _ _ _ x y => (fun x y h => y (x h)) x y) (fun u h => h) (by kernel_rfl) (by kernel_rfl) ?_
    intro K hK
    generalize w6.drew = w8 at *
    have m5 : ∀ y : Above (fun u u' => (Blk u q5 26 #[fptr d] ∧ Ext w u) → (Blk u' q5 26 #[fptr d] ∧ Ext w u')) w8, y.1.cell? ⟨q5, 0, none⟩ = some (fptr d) := fun y => (y.2 P0).1.cell 0
    iterate 4 (
      refine plan_q (v := ?_) rfl rfl ?_ ?_
      rotate_left
      · intro x
        go_simp
        first | done | rfl
      simp only [Act.put, List.getElem_toArray, List.getElem_cons_zero, List.getElem_cons_succ, List.setIfInBounds_toArray, List.set_cons_zero, List.set_cons_succ])
    refine plan_q (v := .agg s.vals.toArray) rfl rfl (fun y => exec_lstep rfl b (off + k * 6) rfl (fun j hj => (y.2 P0).2.cellSome (hc j hj))) ?_
    simp only [Act.put, List.getElem_toArray, List.getElem_cons_zero, List.getElem_cons_succ, List.setIfInBounds_toArray, List.set_cons_zero, List.set_cons_succ]
    clear m5
    refine plan_l rfl (by kernel_rfl) ?_
    intro K2 hK2
    go_simp
    refine (dom_any w w8 d g _ Ds hS hbig s (hok.ext P0.2)).mono ?_
    rintro e w9 ⟨x, d', g', rfl, hd, hS9⟩
    go_simp
    refine hK2.out _ _ (fun _ => ⟨hS9.st.blk (List.mem_cons_self ..), hS9.st.low⟩) ?_
    clear hK2 K2
    try simp only [Act.put, List.getElem_toArray, List.getElem_cons_zero, List.getElem_cons_succ, List.setIfInBounds_toArray, List.set_cons_zero, List.set_cons_succ]
    iterate 5 (
      refine plan_q (v := ?_) rfl rfl ?_ ?_
      rotate_left
      · intro x
        go_simp
        first | done | rfl
      simp only [Act.put, List.getElem_toArray, List.getElem_cons_zero, List.getElem_cons_succ, List.setIfInBounds_toArray, List.set_cons_zero, List.set_cons_succ])
    refine plan_end (hK.out _ _ ?_)
    clear hK K
    clear P0 hS
    have B9 : Blk w9 q5 26 #[fptr d] := hS9.st.blk (List.mem_cons_self ..)
    have f9 := B9.free 0
    have e9 := B9.cell 0
    have T9 : Tu (fun b => b = q5) w9 (w9.setCell ⟨q5, 0, none⟩ (fptr d')) := Tu.of_grown (setCell_grownBy _ _ _) (by rintro k e; cases e; rfl)
    have B10 := B9.set_ 0 (fptr d')
    go_upto_region 13 with fail
    replace hS := hS9.turn (fun q hq => by obtain rfl := List.mem_singleton.1 hq; simp only; omega) hq5 T9 B10
    generalize w9.setCell ⟨q5, 0, none⟩ (fptr d') = w10 at *
    clear B9 f9 e9 T9 B10 hS9
    obtain ⟨ns', hns', hn32'⟩ := st_names hS.st
    have hR := Hst.out.1 x g' ns' hd hns'
    have hsrc' := Hst.out.2 x g' hd
    clear Hst
    have c5 := (hS.st.blk (List.mem_cons_self ..)).cell 0
    go_upto_region 15 with fail
    obtain ⟨kind, sn, name, name2, byt, A2, pn, pc, picks⟩ := s
    have hsc : StepCells w b (off + k * 6) kind sn name := ⟨hc 0 (by simp [Sp.vals]), hc 1 (by simp [Sp.vals]), hc 2 (by simp [Sp.vals])⟩
    clear c5 hc
    have hnl : name.length ≤ maxLen := hok.2.2.1
    obtain ⟨rm2, hrm2⟩ : ∃ rm2, g'.cap - (total g' ns' : Int) = rm2 := ⟨_, rfl⟩
    obtain ⟨lays, hlays⟩ : ∃ lays : Bool, decide (kind = 2 ∨ kind = 8) = lays := ⟨_, rfl⟩
    have HL := Lib.hid hlays
    clear hlays
    go_cut [12] from 61 to 76 (fun v W => v = .bool lays ∧ w10 = W)
    case first =>
      obtain ⟨k0, k1, k2⟩ : StepCells w10 b (off + k * 6) kind sn name := ⟨hS.st.low.cellSome hsc.1, hS.st.low.cellSome hsc.2.1, hS.st.low.cellSome hsc.2.2⟩
      by_cases kd2 : kind = 2
      · subst kd2
        obtain rfl : true = lays := HL.out
        go_wp2_with fail
        go_meet
        exact ⟨rfl, rfl⟩
      have ek2 : (kind == 2) = false := by simpa using kd2
      by_cases kd8 : kind = 8
      · subst kd8
        obtain rfl : true = lays := HL.out
        go_wp2_with fail
        go_meet
        exact ⟨rfl, rfl⟩
      have ek8 : (kind == 8) = false := by simpa using kd8
      obtain rfl : lays = false := by rw [← HL.out]; simp; omega
      go_wp2_with fail
      go_meet
      exact ⟨rfl, rfl⟩
    case rest =>
      obtain ⟨rfl, rfl⟩ := hcut
      go_upto_region 16 with fail
      go_cut [157] from 77 to 157 (fun v W => v = .bool false ∧ StM w W d' g' [(q5, 26, #[fptr d']), (q4, 4, #[.bool false])] Ds)
      case first =>
        rename_i J' KK' hJ' hK'
        have hC : ∀ W, Ext w10 W → W.cell? ⟨q5, 0, none⟩ = some (fptr d') ∧ StepCells W b (off + k * 6) kind sn name := fun W h => ⟨h.cellSome ((hS.st.blk (List.mem_cons_self ..)).cell 0), (hS.st.low.trans h).cellSome hsc.1, (hS.st.low.trans h).cellSome hsc.2.1, (hS.st.low.trans h).cellSome hsc.2.2⟩
        have HC := Lib.hid hC
        have hroom : ∀ W, StM w W d' g' [(q5, 26, #[fptr d']), (q4, 4, #[.bool false])] Ds → Calls Try.prog 22 #[fptr d'] W fun e w' => e = .returned (.int .i64 rm2) ∧ Ext W w' := fun W h => by
          rw [← hrm2]
          exact st_room h.st hns'
        have HR := Lib.hid hroom
        clear hC hroom
        have hcc : g'.cap = g.cap := hR.cap
        have hrm := Hrm.out.1
        have hwas := Hrm.out.2
        clear Hrm
        have hTT : rm2 = rm - ((total g' ns' : Int) - (total g ns : Int)) := by omega
        have HT := Lib.hid (And.intro hTT (And.intro hrm hrm2))
        clear hTT hrm hrm2 hcc hd hcg
        have HW := Lib.hid hwas
        clear hwas
        clear hsrc hsrc' hns hbig
        refine wp_region_plan Ext [(0, true), (1, true), (2, true), (3, true), (4, true), (5, true), (6, true), (8, true), (7, false), (9, true), (10, true), (11, true), (13, true), (14, true), (12, false), (15, true), (16, true), (17, true), (18, true), (19, true), (20, true), (21, true), (22, true), (23, true), (25, true), (26, true), (27, true), (28, true), (29, true), (24, false), (30, true), (31, true), (32, true), (33, true), (34, true), (35, true), (36, true), (37, true), (38, true), (39, true), (40, true), (41, true), (42, true), (43, true), (44, true), (45, true), (46, true), (47, true), (48, true), (49, true), (50, true), (51, true), (52, true), (54, true), (53, false), (55, true), (56, true), (57, true), (58, true), (59, true), (60, true), (61, true), (62, true), (63, true), (64, true), (65, true), (66, true), (67, true), (68, true), (69, true), (70, true), (71, true), (72, true), (73, true), (74, true), (75, true), (76, true), (77, true), (78, true), (79, true), (80, true)] (fun _ _ _ x y => (fun x y => Ext.trans x y) x y) Ext.refl (by kernel_rfl) (by kernel_rfl) ?_
        intro K hK
        have hx := (Ext.refl w10).drew
        generalize w10.drew = wq at *
        replace hS := hS.ext hx
        by_cases kd2 : kind = 2
        · subst kd2
          obtain rfl : true = lays := HL.out
          by_cases hx0 : x = 0
          · subst hx0
            cases was with
            | true => exact absurd rfl (hR.dead HW.out (show (1 : Int) ≤ 2 by decide) (show (2 : Int) ≤ 5 by decide))
            | false =>
              obtain ⟨hTc, hmn, fc, hcf, hlc⟩ := hR.lays (.inl rfl) rfl
              have hfin : sn < fc.fin := st_fin hS.st hcf hlc
              have hfin2 : ¬ fc.fin ≤ sn := by omega
              have hfin3 : decide (fc.fin ≤ sn) = false := by simpa using hfin
              clear hR
              have hre : rm2 = rm ∨ rm2 = rm - 1 := by have := HT.out.1; omega
              clear HT hTc hlc
              rcases hre with rfl | rfl
              · have hre2 : (rm2 == rm2) = true := by simp
                as_aux_lemma =>
                  have c5 : ∀ y : Above Ext wq, y.1.cell? ⟨q5, 0, none⟩ = _ := fun y => (HC.out y.1 (hx.trans y.2)).1
                  have k0 : ∀ y : Above Ext wq, y.1.cell? ⟨b, off + k * 6, none⟩ = _ := fun y => (HC.out y.1 (hx.trans y.2)).2.1
                  have k1 : ∀ y : Above Ext wq, y.1.cell? ⟨b, off + k * 6 + 1, none⟩ = _ := fun y => (HC.out y.1 (hx.trans y.2)).2.2.1
                  have k2 : ∀ y : Above Ext wq, y.1.cell? ⟨b, off + k * 6 + 2, none⟩ = _ := fun y => (HC.out y.1 (hx.trans y.2)).2.2.2
                  refine ov_open 201 (by kernel_rfl) ?_
                  intro A hn hev hA
                  have HA := Lib.hid hA
                  clear hA
                  have e1 : A.eval (.tmp 1) = .slice (some ⟨b, off, none⟩) len c := (hev 1).trans (by kernel_rfl)
                  have e5 : A.eval (.tmp 5) = fptr q5 := (hev 5).trans (by kernel_rfl)
                  have e7 : A.eval (.tmp 7) = .int .i64 (k) := (hev 7).trans (by kernel_rfl)
                  have e8 : A.eval (.tmp 8) = .int .i64 (rm2) := (hev 8).trans (by kernel_rfl)
                  have e9 : A.eval (.tmp 9) = .bool false := (hev 9).trans (by kernel_rfl)
                  have e10 : A.eval (.tmp 10) = .int .i64 (0) := (hev 10).trans (by kernel_rfl)
                  have e12 : A.eval (.tmp 12) = .bool true := (hev 12).trans (by kernel_rfl)
                  clear hev
                  refine ov_q rfl rfl rfl (v := .bool true) (fun y => ex_move _ rfl (ov_out hn (by kernel_rfl) e12)) ?_
                  refine ov_q rfl rfl rfl (v := .bool true) (fun y => ex_move _ rfl (ov_in hn (by kernel_rfl))) ?_
                  refine ov_qg hn rfl rfl rfl rfl (by kernel_rfl) (v := .int .i64 (0)) (fun y => ex_move _ rfl (ov_out hn (by kernel_rfl) e10)) ?_
                  refine ov_qg hn rfl rfl rfl rfl (by kernel_rfl) (v := .bool true) (fun y => ex_bin _ _ _ _ _ rfl (vx := .int .i64 (0)) (vy := .int .i64 0) (ov_in hn (by kernel_rfl)) rfl (by go_simp) (by go_simp)) ?_
                  refine ov_q rfl rfl rfl (v := .bool true) (fun y => ex_pick _ _ _ rfl true (ov_in hn (by kernel_rfl)) ((if_pos rfl).trans (ov_in hn (by kernel_rfl)))) ?_
                  refine ov_q rfl rfl rfl (v := .bool true) (fun y => ex_move _ rfl (ov_in hn (by kernel_rfl))) ?_
                  refine ov_qg hn rfl rfl rfl rfl (by kernel_rfl) (v := fptr d') (fun y => ex_load _ _ rfl (vx := fptr q5) (ov_out hn (by kernel_rfl) e5) (by go_simp)) ?_
                  refine ov_qg hn rfl rfl rfl rfl (by kernel_rfl) (v := .int .i64 (rm2)) (fun y => ex_move _ rfl (ov_out hn (by kernel_rfl) e8)) ?_
                  refine ov_lg hn rfl rfl rfl (by kernel_rfl) ?_
                  intro K2 hK2
                  refine ov_call 22 _ _ rfl rfl #[fptr d'] (map1 (ov_in hn (by kernel_rfl))) (callFunc_run Try.func22 (by kernel_rfl) (by kernel_rfl) _) ?_
                  refine (HR.out _ hS).mono ?_
                  rintro e W2 ⟨rfl, hxr⟩
                  refine ⟨_, rfl, hK2.out _ _ hxr ?_⟩
                  clear hK2 K2
                  clear c5 k0 k1 k2
                  replace hS := hS.ext hxr
                  replace hx := hx.trans hxr
                  clear hxr
                  have c5 : ∀ y : Above Ext W2, y.1.cell? ⟨q5, 0, none⟩ = _ := fun y => (HC.out y.1 (hx.trans y.2)).1
                  have k0 : ∀ y : Above Ext W2, y.1.cell? ⟨b, off + k * 6, none⟩ = _ := fun y => (HC.out y.1 (hx.trans y.2)).2.1
                  have k1 : ∀ y : Above Ext W2, y.1.cell? ⟨b, off + k * 6 + 1, none⟩ = _ := fun y => (HC.out y.1 (hx.trans y.2)).2.2.1
                  have k2 : ∀ y : Above Ext W2, y.1.cell? ⟨b, off + k * 6 + 2, none⟩ = _ := fun y => (HC.out y.1 (hx.trans y.2)).2.2.2
                  refine ov_qg hn rfl rfl rfl rfl (by kernel_rfl) (v := .bool false) (fun y => ex_bin _ _ _ _ _ rfl (vx := .int .i64 (rm2)) (vy := .int .i64 (rm2)) (ov_in hn (by kernel_rfl)) (ov_in hn (by kernel_rfl)) (by go_simp) (by go_simp)) ?_
                  refine ov_qg hn rfl rfl rfl rfl (by kernel_rfl) (v := .bool false) (fun y => ex_move _ rfl (ov_in hn (by kernel_rfl))) ?_
                  iterate 5 (refine ov_n hn (vj := .bool false) rfl rfl rfl rfl (by kernel_rfl) (by kernel_rfl) ?_)
                  refine ov_qg hn rfl rfl rfl rfl (by kernel_rfl) (v := .bool false) (fun y => ex_pick _ _ _ rfl false (ov_in hn (by kernel_rfl)) ((if_neg (by decide)).trans rfl)) ?_
                  refine ov_qg hn rfl rfl rfl rfl (by kernel_rfl) (v := .bool false) (fun y => ex_move _ rfl (ov_in hn (by kernel_rfl))) ?_
                  refine ov_qg hn rfl rfl rfl rfl (by kernel_rfl) (v := fptr d') (fun y => ex_load _ _ rfl (vx := fptr q5) (ov_out hn (by kernel_rfl) e5) (by go_simp)) ?_
                  refine ov_qg hn rfl rfl rfl rfl (by kernel_rfl) (v := .slice (some ⟨b, off, none⟩) len c) (fun y => ex_move _ rfl (ov_out hn (by kernel_rfl) e1)) ?_
                  refine ov_qg hn rfl rfl rfl rfl (by kernel_rfl) (v := .int .i64 (k)) (fun y => ex_move _ rfl (ov_out hn (by kernel_rfl) e7)) ?_
                  refine ov_qg hn rfl rfl rfl rfl (by kernel_rfl) (v := .pointer (some ⟨b, off + k * 6, none⟩)) (fun y => ex_index _ _ _ rfl (vx := .slice (some ⟨b, off, none⟩) len c) (vy := .int .i64 (k)) (ov_in hn (by kernel_rfl)) (ov_in hn (by kernel_rfl)) (by go_simp)) ?_
                  refine ov_qg hn rfl rfl rfl rfl (by kernel_rfl) (v := .pointer (some ⟨b, off + k * 6 + 2, none⟩)) (fun y => ex_field _ _ _ rfl (vx := .pointer (some ⟨b, off + k * 6, none⟩)) (ov_in hn (by kernel_rfl)) (by go_simp)) ?_
                  refine ov_qg hn rfl rfl rfl rfl (by kernel_rfl) (v := nv name) (fun y => ex_load _ _ rfl (vx := .pointer (some ⟨b, off + k * 6 + 2, none⟩)) (ov_in hn (by kernel_rfl)) (by go_simp)) ?_
                  refine ov_qg hn rfl rfl rfl rfl (by kernel_rfl) (v := .slice (some ⟨b, off, none⟩) len c) (fun y => ex_move _ rfl (ov_out hn (by kernel_rfl) e1)) ?_
                  refine ov_qg hn rfl rfl rfl rfl (by kernel_rfl) (v := .int .i64 (k)) (fun y => ex_move _ rfl (ov_out hn (by kernel_rfl) e7)) ?_
                  refine ov_qg hn rfl rfl rfl rfl (by kernel_rfl) (v := .pointer (some ⟨b, off + k * 6, none⟩)) (fun y => ex_index _ _ _ rfl (vx := .slice (some ⟨b, off, none⟩) len c) (vy := .int .i64 (k)) (ov_in hn (by kernel_rfl)) (ov_in hn (by kernel_rfl)) (by go_simp)) ?_
                  refine ov_qg hn rfl rfl rfl rfl (by kernel_rfl) (v := .pointer (some ⟨b, off + k * 6 + 1, none⟩)) (fun y => ex_field _ _ _ rfl (vx := .pointer (some ⟨b, off + k * 6, none⟩)) (ov_in hn (by kernel_rfl)) (by go_simp)) ?_
                  refine ov_qg hn rfl rfl rfl rfl (by kernel_rfl) (v := .int .i64 (sn)) (fun y => ex_load _ _ rfl (vx := .pointer (some ⟨b, off + k * 6 + 1, none⟩)) (ov_in hn (by kernel_rfl)) (by go_simp)) ?_
                  refine ov_lg hn rfl rfl rfl (by kernel_rfl) ?_
                  intro K2 hK2
                  refine ov_call 21 _ _ rfl rfl #[fptr d', nv name] (map2 (ov_in hn (by kernel_rfl)) (ov_in hn (by kernel_rfl))) (callFunc_run Try.func21 (by kernel_rfl) (by kernel_rfl) _) ?_
                  refine (show Calls Try.prog 21 #[fptr d', nv name] _ _ from by have hcn := st_count hS.st name hnl; rw [(countI_of hmn hcf).1] at hcn; exact hcn).mono ?_
                  rintro e W3 ⟨rfl, rfl⟩
                  refine ⟨_, rfl, hK2.out _ _ (Ext.refl _) ?_⟩
                  clear hK2 K2
                  refine ov_qg hn rfl rfl rfl rfl (by kernel_rfl) (v := .bool false) (fun y => ex_bin _ _ _ _ _ rfl (vx := .int .i64 fc.fin) (vy := .int .i64 (sn)) (ov_in hn (by kernel_rfl)) (ov_in hn (by kernel_rfl)) (by go_simp) (by go_simp)) ?_
                  refine ov_qg hn rfl rfl rfl rfl (by kernel_rfl) (v := .bool false) (fun y => ex_pick _ _ _ rfl false (ov_in hn (by kernel_rfl)) ((if_neg (by decide)).trans (ov_in hn (by kernel_rfl)))) ?_
                  refine ov_q rfl rfl rfl (v := .bool false) (fun y => ex_pick _ _ _ rfl true (ov_in hn (by kernel_rfl)) ((if_pos rfl).trans (ov_in hn (by kernel_rfl)))) ?_
                  refine ov_q rfl rfl rfl (v := .bool false) (fun y => ex_move _ rfl (ov_in hn (by kernel_rfl))) ?_
                  refine ov_qg hn rfl rfl rfl rfl (by kernel_rfl) (v := .bool true) (fun y => ex_move _ rfl (ov_out hn (by kernel_rfl) e12)) ?_
                  refine ov_qg hn rfl rfl rfl rfl (by kernel_rfl) (v := .bool true) (fun y => ex_move _ rfl (ov_in hn (by kernel_rfl))) ?_
                  refine ov_qg hn rfl rfl rfl rfl (by kernel_rfl) (v := .int .i64 (0)) (fun y => ex_move _ rfl (ov_out hn (by kernel_rfl) e10)) ?_
                  refine ov_qg hn rfl rfl rfl rfl (by kernel_rfl) (v := .bool false) (fun y => ex_bin _ _ _ _ _ rfl (vx := .int .i64 (0)) (vy := .int .i64 5) (ov_in hn (by kernel_rfl)) rfl (by go_simp) (by go_simp)) ?_
                  refine ov_qg hn rfl rfl rfl rfl (by kernel_rfl) (v := .bool false) (fun y => ex_pick _ _ _ rfl true (ov_in hn (by kernel_rfl)) ((if_pos rfl).trans (ov_in hn (by kernel_rfl)))) ?_
                  refine ov_qg hn rfl rfl rfl rfl (by kernel_rfl) (v := .bool false) (fun y => ex_move _ rfl (ov_in hn (by kernel_rfl))) ?_
                  iterate 2 (refine ov_n hn (vj := .bool false) rfl rfl rfl rfl (by kernel_rfl) (by kernel_rfl) ?_)
                  refine ov_qg hn rfl rfl rfl rfl (by kernel_rfl) (v := .bool false) (fun y => ex_pick _ _ _ rfl false (ov_in hn (by kernel_rfl)) ((if_neg (by decide)).trans rfl)) ?_
                  refine ov_q rfl rfl rfl (v := .bool false) (fun y => ex_pick _ _ _ rfl false (ov_in hn (by kernel_rfl)) ((if_neg (by decide)).trans (ov_in hn (by kernel_rfl)))) ?_
                  refine ov_q rfl rfl rfl (v := .bool false) (fun y => ex_move _ rfl (ov_in hn (by kernel_rfl))) ?_
                  refine ov_qg hn rfl rfl rfl rfl (by kernel_rfl) (v := .slice (some ⟨b, off, none⟩) len c) (fun y => ex_move _ rfl (ov_out hn (by kernel_rfl) e1)) ?_
                  refine ov_qg hn rfl rfl rfl rfl (by kernel_rfl) (v := .int .i64 (k)) (fun y => ex_move _ rfl (ov_out hn (by kernel_rfl) e7)) ?_
                  refine ov_qg hn rfl rfl rfl rfl (by kernel_rfl) (v := .pointer (some ⟨b, off + k * 6, none⟩)) (fun y => ex_index _ _ _ rfl (vx := .slice (some ⟨b, off, none⟩) len c) (vy := .int .i64 (k)) (ov_in hn (by kernel_rfl)) (ov_in hn (by kernel_rfl)) (by go_simp)) ?_
                  refine ov_qg hn rfl rfl rfl rfl (by kernel_rfl) (v := .pointer (some ⟨b, off + k * 6, none⟩)) (fun y => ex_field _ _ _ rfl (vx := .pointer (some ⟨b, off + k * 6, none⟩)) (ov_in hn (by kernel_rfl)) (by go_simp)) ?_
                  refine ov_qg hn rfl rfl rfl rfl (by kernel_rfl) (v := .int .i64 (2)) (fun y => ex_load _ _ rfl (vx := .pointer (some ⟨b, off + k * 6, none⟩)) (ov_in hn (by kernel_rfl)) (by go_simp)) ?_
                  refine ov_qg hn rfl rfl rfl rfl (by kernel_rfl) (v := .bool false) (fun y => ex_bin _ _ _ _ _ rfl (vx := .int .i64 (2)) (vy := .int .i64 7) (ov_in hn (by kernel_rfl)) rfl (by go_simp) (by go_simp)) ?_
                  refine ov_qg hn rfl rfl rfl rfl (by kernel_rfl) (v := .bool false) (fun y => ex_move _ rfl (ov_in hn (by kernel_rfl))) ?_
                  iterate 4 (refine ov_n hn (vj := .bool false) rfl rfl rfl rfl (by kernel_rfl) (by kernel_rfl) ?_)
                  refine ov_qg hn rfl rfl rfl rfl (by kernel_rfl) (v := .bool false) (fun y => ex_pick _ _ _ rfl false (ov_in hn (by kernel_rfl)) ((if_neg (by decide)).trans rfl)) ?_
                  refine ov_q rfl rfl rfl (v := .bool false) (fun y => ex_pick _ _ _ rfl false (ov_in hn (by kernel_rfl)) ((if_neg (by decide)).trans (ov_in hn (by kernel_rfl)))) ?_
                  refine ov_q rfl rfl rfl (v := .bool false) (fun y => ex_move _ rfl (ov_in hn (by kernel_rfl))) ?_
                  refine ov_qg hn rfl rfl rfl rfl (by kernel_rfl) (v := .bool false) (fun y => ex_move _ rfl (ov_out hn (by kernel_rfl) e9)) ?_
                  refine ov_qg hn rfl rfl rfl rfl (by kernel_rfl) (v := .bool false) (fun y => ex_move _ rfl (ov_in hn (by kernel_rfl))) ?_
                  iterate 6 (refine ov_n hn (vj := .bool false) rfl rfl rfl rfl (by kernel_rfl) (by kernel_rfl) ?_)
                  refine ov_qg hn rfl rfl rfl rfl (by kernel_rfl) (v := .bool false) (fun y => ex_pick _ _ _ rfl false (ov_in hn (by kernel_rfl)) ((if_neg (by decide)).trans rfl)) ?_
                  refine ov_qg hn rfl rfl rfl rfl (by kernel_rfl) (v := .bool false) (fun y => ex_move _ rfl (ov_in hn (by kernel_rfl))) ?_
                  iterate 2 (refine ov_n hn (vj := .bool false) rfl rfl rfl rfl (by kernel_rfl) (by kernel_rfl) ?_)
                  refine ov_qg hn rfl rfl rfl rfl (by kernel_rfl) (v := .bool false) (fun y => ex_pick _ _ _ rfl false (ov_in hn (by kernel_rfl)) ((if_neg (by decide)).trans rfl)) ?_
                  refine ov_qg hn rfl rfl rfl rfl (by kernel_rfl) (v := .bool false) (fun y => ex_move _ rfl (ov_in hn (by kernel_rfl))) ?_
                  iterate 6 (refine ov_n hn (vj := .bool false) rfl rfl rfl rfl (by kernel_rfl) (by kernel_rfl) ?_)
                  refine ov_qg hn rfl rfl rfl rfl (by kernel_rfl) (v := .bool false) (fun y => ex_pick _ _ _ rfl false (ov_in hn (by kernel_rfl)) ((if_neg (by decide)).trans rfl)) ?_
                  refine ov_q rfl rfl rfl (v := .bool false) (fun y => ex_pick _ _ _ rfl false (ov_in hn (by kernel_rfl)) ((if_neg (by decide)).trans (ov_in hn (by kernel_rfl)))) ?_
                  refine plan_end (hK.out _ _ ?_)
                  exact hK' _ _ (Met.intro (hJ' _ _ ⟨.bool true, .bool true, .int .i64 (0), .bool true, .bool true, .bool true, fptr d', .int .i64 (rm2), .int .i64 (rm2), .bool false, .bool false, undef, undef, undef, undef, undef, .bool false, .bool false, fptr d', .slice (some ⟨b, off, none⟩) len c, .int .i64 (k), .pointer (some ⟨b, off + k * 6, none⟩), .pointer (some ⟨b, off + k * 6 + 2, none⟩), nv name, .int .i64 fc.fin, .slice (some ⟨b, off, none⟩) len c, .int .i64 (k), .pointer (some ⟨b, off + k * 6, none⟩), .pointer (some ⟨b, off + k * 6 + 1, none⟩), .int .i64 (sn), .bool false, .bool false, .bool false, .bool false, .bool true, .bool true, .int .i64 (0), .bool false, .bool false, .bool false, undef, undef, .bool false, .bool false, .bool false, .slice (some ⟨b, off, none⟩) len c, .int .i64 (k), .pointer (some ⟨b, off + k * 6, none⟩), .pointer (some ⟨b, off + k * 6, none⟩), .int .i64 (2), .bool false, .bool false, undef, undef, undef, undef, .bool false, .bool false, .bool false, .bool false, .bool false, undef, undef, undef, undef, undef, undef, .bool false, .bool false, undef, undef, .bool false, .bool false, undef, undef, undef, undef, undef, undef, .bool false, .bool false, ⟨rfl, hS⟩, (ov_eq hn _).trans (by rw [HA.out]; kernel_rfl)⟩))
              · have hne : ((rm - 1) == rm) = false := by simp; omega
                have hne2 : ¬ rm - 1 = rm := by omega
                have hwr : IntKind.i64.wrap (rm - 1) = rm - 1 := IntWalk.i64_in _ (by omega)
                as_aux_lemma =>
                  have c5 : ∀ y : Above Ext wq, y.1.cell? ⟨q5, 0, none⟩ = _ := fun y => (HC.out y.1 (hx.trans y.2)).1
                  have k0 : ∀ y : Above Ext wq, y.1.cell? ⟨b, off + k * 6, none⟩ = _ := fun y => (HC.out y.1 (hx.trans y.2)).2.1
                  have k1 : ∀ y : Above Ext wq, y.1.cell? ⟨b, off + k * 6 + 1, none⟩ = _ := fun y => (HC.out y.1 (hx.trans y.2)).2.2.1
                  have k2 : ∀ y : Above Ext wq, y.1.cell? ⟨b, off + k * 6 + 2, none⟩ = _ := fun y => (HC.out y.1 (hx.trans y.2)).2.2.2
                  refine ov_open 201 (by kernel_rfl) ?_
                  intro A hn hev hA
                  have HA := Lib.hid hA
                  clear hA
                  have e1 : A.eval (.tmp 1) = .slice (some ⟨b, off, none⟩) len c := (hev 1).trans (by kernel_rfl)
                  have e5 : A.eval (.tmp 5) = fptr q5 := (hev 5).trans (by kernel_rfl)
                  have e7 : A.eval (.tmp 7) = .int .i64 (k) := (hev 7).trans (by kernel_rfl)
                  have e8 : A.eval (.tmp 8) = .int .i64 (rm) := (hev 8).trans (by kernel_rfl)
                  have e9 : A.eval (.tmp 9) = .bool false := (hev 9).trans (by kernel_rfl)
                  have e10 : A.eval (.tmp 10) = .int .i64 (0) := (hev 10).trans (by kernel_rfl)
                  have e12 : A.eval (.tmp 12) = .bool true := (hev 12).trans (by kernel_rfl)
                  clear hev
                  refine ov_q rfl rfl rfl (v := .bool true) (fun y => ex_move _ rfl (ov_out hn (by kernel_rfl) e12)) ?_
                  refine ov_q rfl rfl rfl (v := .bool true) (fun y => ex_move _ rfl (ov_in hn (by kernel_rfl))) ?_
                  refine ov_qg hn rfl rfl rfl rfl (by kernel_rfl) (v := .int .i64 (0)) (fun y => ex_move _ rfl (ov_out hn (by kernel_rfl) e10)) ?_
                  refine ov_qg hn rfl rfl rfl rfl (by kernel_rfl) (v := .bool true) (fun y => ex_bin _ _ _ _ _ rfl (vx := .int .i64 (0)) (vy := .int .i64 0) (ov_in hn (by kernel_rfl)) rfl (by go_simp) (by go_simp)) ?_
                  refine ov_q rfl rfl rfl (v := .bool true) (fun y => ex_pick _ _ _ rfl true (ov_in hn (by kernel_rfl)) ((if_pos rfl).trans (ov_in hn (by kernel_rfl)))) ?_
                  refine ov_q rfl rfl rfl (v := .bool true) (fun y => ex_move _ rfl (ov_in hn (by kernel_rfl))) ?_
                  refine ov_qg hn rfl rfl rfl rfl (by kernel_rfl) (v := fptr d') (fun y => ex_load _ _ rfl (vx := fptr q5) (ov_out hn (by kernel_rfl) e5) (by go_simp)) ?_
                  refine ov_qg hn rfl rfl rfl rfl (by kernel_rfl) (v := .int .i64 (rm)) (fun y => ex_move _ rfl (ov_out hn (by kernel_rfl) e8)) ?_
                  refine ov_lg hn rfl rfl rfl (by kernel_rfl) ?_
                  intro K2 hK2
                  refine ov_call 22 _ _ rfl rfl #[fptr d'] (map1 (ov_in hn (by kernel_rfl))) (callFunc_run Try.func22 (by kernel_rfl) (by kernel_rfl) _) ?_
                  refine (HR.out _ hS).mono ?_
                  rintro e W2 ⟨rfl, hxr⟩
                  refine ⟨_, rfl, hK2.out _ _ hxr ?_⟩
                  clear hK2 K2
                  clear c5 k0 k1 k2
                  replace hS := hS.ext hxr
                  replace hx := hx.trans hxr
                  clear hxr
                  have c5 : ∀ y : Above Ext W2, y.1.cell? ⟨q5, 0, none⟩ = _ := fun y => (HC.out y.1 (hx.trans y.2)).1
                  have k0 : ∀ y : Above Ext W2, y.1.cell? ⟨b, off + k * 6, none⟩ = _ := fun y => (HC.out y.1 (hx.trans y.2)).2.1
                  have k1 : ∀ y : Above Ext W2, y.1.cell? ⟨b, off + k * 6 + 1, none⟩ = _ := fun y => (HC.out y.1 (hx.trans y.2)).2.2.1
                  have k2 : ∀ y : Above Ext W2, y.1.cell? ⟨b, off + k * 6 + 2, none⟩ = _ := fun y => (HC.out y.1 (hx.trans y.2)).2.2.2
                  refine ov_qg hn rfl rfl rfl rfl (by kernel_rfl) (v := .bool true) (fun y => ex_bin _ _ _ _ _ rfl (vx := .int .i64 (rm - 1)) (vy := .int .i64 (rm)) (ov_in hn (by kernel_rfl)) (ov_in hn (by kernel_rfl)) (by go_simp) (by go_simp)) ?_
                  refine ov_qg hn rfl rfl rfl rfl (by kernel_rfl) (v := .bool true) (fun y => ex_move _ rfl (ov_in hn (by kernel_rfl))) ?_
                  refine ov_qg hn rfl rfl rfl rfl (by kernel_rfl) (v := fptr d') (fun y => ex_load _ _ rfl (vx := fptr q5) (ov_out hn (by kernel_rfl) e5) (by go_simp)) ?_
                  refine ov_qg hn rfl rfl rfl rfl (by kernel_rfl) (v := .int .i64 (rm)) (fun y => ex_move _ rfl (ov_out hn (by kernel_rfl) e8)) ?_
                  refine ov_qg hn rfl rfl rfl rfl (by kernel_rfl) (v := .int .i64 (rm - 1)) (fun y => ex_bin _ _ _ _ _ rfl (vx := .int .i64 (rm)) (vy := .int .i64 1) (ov_in hn (by kernel_rfl)) rfl (by go_simp) (by go_simp)) ?_
                  refine ov_lg hn rfl rfl rfl (by kernel_rfl) ?_
                  intro K2 hK2
                  refine ov_call 22 _ _ rfl rfl #[fptr d'] (map1 (ov_in hn (by kernel_rfl))) (callFunc_run Try.func22 (by kernel_rfl) (by kernel_rfl) _) ?_
                  refine (HR.out _ hS).mono ?_
                  rintro e W2 ⟨rfl, hxr⟩
                  refine ⟨_, rfl, hK2.out _ _ hxr ?_⟩
                  clear hK2 K2
                  clear c5 k0 k1 k2
                  replace hS := hS.ext hxr
                  replace hx := hx.trans hxr
                  clear hxr
                  have c5 : ∀ y : Above Ext W2, y.1.cell? ⟨q5, 0, none⟩ = _ := fun y => (HC.out y.1 (hx.trans y.2)).1
                  have k0 : ∀ y : Above Ext W2, y.1.cell? ⟨b, off + k * 6, none⟩ = _ := fun y => (HC.out y.1 (hx.trans y.2)).2.1
                  have k1 : ∀ y : Above Ext W2, y.1.cell? ⟨b, off + k * 6 + 1, none⟩ = _ := fun y => (HC.out y.1 (hx.trans y.2)).2.2.1
                  have k2 : ∀ y : Above Ext W2, y.1.cell? ⟨b, off + k * 6 + 2, none⟩ = _ := fun y => (HC.out y.1 (hx.trans y.2)).2.2.2
                  refine ov_qg hn rfl rfl rfl rfl (by kernel_rfl) (v := .bool false) (fun y => ex_bin _ _ _ _ _ rfl (vx := .int .i64 (rm - 1)) (vy := .int .i64 (rm - 1)) (ov_in hn (by kernel_rfl)) (ov_in hn (by kernel_rfl)) (by go_simp) (by go_simp)) ?_
                  refine ov_qg hn rfl rfl rfl rfl (by kernel_rfl) (v := .bool false) (fun y => ex_pick _ _ _ rfl true (ov_in hn (by kernel_rfl)) ((if_pos rfl).trans (ov_in hn (by kernel_rfl)))) ?_
                  refine ov_qg hn rfl rfl rfl rfl (by kernel_rfl) (v := .bool false) (fun y => ex_move _ rfl (ov_in hn (by kernel_rfl))) ?_
                  refine ov_qg hn rfl rfl rfl rfl (by kernel_rfl) (v := fptr d') (fun y => ex_load _ _ rfl (vx := fptr q5) (ov_out hn (by kernel_rfl) e5) (by go_simp)) ?_
                  refine ov_qg hn rfl rfl rfl rfl (by kernel_rfl) (v := .slice (some ⟨b, off, none⟩) len c) (fun y => ex_move _ rfl (ov_out hn (by kernel_rfl) e1)) ?_
                  refine ov_qg hn rfl rfl rfl rfl (by kernel_rfl) (v := .int .i64 (k)) (fun y => ex_move _ rfl (ov_out hn (by kernel_rfl) e7)) ?_
                  refine ov_qg hn rfl rfl rfl rfl (by kernel_rfl) (v := .pointer (some ⟨b, off + k * 6, none⟩)) (fun y => ex_index _ _ _ rfl (vx := .slice (some ⟨b, off, none⟩) len c) (vy := .int .i64 (k)) (ov_in hn (by kernel_rfl)) (ov_in hn (by kernel_rfl)) (by go_simp)) ?_
                  refine ov_qg hn rfl rfl rfl rfl (by kernel_rfl) (v := .pointer (some ⟨b, off + k * 6 + 2, none⟩)) (fun y => ex_field _ _ _ rfl (vx := .pointer (some ⟨b, off + k * 6, none⟩)) (ov_in hn (by kernel_rfl)) (by go_simp)) ?_
                  refine ov_qg hn rfl rfl rfl rfl (by kernel_rfl) (v := nv name) (fun y => ex_load _ _ rfl (vx := .pointer (some ⟨b, off + k * 6 + 2, none⟩)) (ov_in hn (by kernel_rfl)) (by go_simp)) ?_
                  refine ov_qg hn rfl rfl rfl rfl (by kernel_rfl) (v := .slice (some ⟨b, off, none⟩) len c) (fun y => ex_move _ rfl (ov_out hn (by kernel_rfl) e1)) ?_
                  refine ov_qg hn rfl rfl rfl rfl (by kernel_rfl) (v := .int .i64 (k)) (fun y => ex_move _ rfl (ov_out hn (by kernel_rfl) e7)) ?_
                  refine ov_qg hn rfl rfl rfl rfl (by kernel_rfl) (v := .pointer (some ⟨b, off + k * 6, none⟩)) (fun y => ex_index _ _ _ rfl (vx := .slice (some ⟨b, off, none⟩) len c) (vy := .int .i64 (k)) (ov_in hn (by kernel_rfl)) (ov_in hn (by kernel_rfl)) (by go_simp)) ?_
                  refine ov_qg hn rfl rfl rfl rfl (by kernel_rfl) (v := .pointer (some ⟨b, off + k * 6 + 1, none⟩)) (fun y => ex_field _ _ _ rfl (vx := .pointer (some ⟨b, off + k * 6, none⟩)) (ov_in hn (by kernel_rfl)) (by go_simp)) ?_
                  refine ov_qg hn rfl rfl rfl rfl (by kernel_rfl) (v := .int .i64 (sn)) (fun y => ex_load _ _ rfl (vx := .pointer (some ⟨b, off + k * 6 + 1, none⟩)) (ov_in hn (by kernel_rfl)) (by go_simp)) ?_
                  refine ov_lg hn rfl rfl rfl (by kernel_rfl) ?_
                  intro K2 hK2
                  refine ov_call 21 _ _ rfl rfl #[fptr d', nv name] (map2 (ov_in hn (by kernel_rfl)) (ov_in hn (by kernel_rfl))) (callFunc_run Try.func21 (by kernel_rfl) (by kernel_rfl) _) ?_
                  refine (show Calls Try.prog 21 #[fptr d', nv name] _ _ from by have hcn := st_count hS.st name hnl; rw [(countI_of hmn hcf).1] at hcn; exact hcn).mono ?_
                  rintro e W3 ⟨rfl, rfl⟩
                  refine ⟨_, rfl, hK2.out _ _ (Ext.refl _) ?_⟩
                  clear hK2 K2
                  refine ov_qg hn rfl rfl rfl rfl (by kernel_rfl) (v := .bool false) (fun y => ex_bin _ _ _ _ _ rfl (vx := .int .i64 fc.fin) (vy := .int .i64 (sn)) (ov_in hn (by kernel_rfl)) (ov_in hn (by kernel_rfl)) (by go_simp) (by go_simp)) ?_
                  refine ov_qg hn rfl rfl rfl rfl (by kernel_rfl) (v := .bool false) (fun y => ex_pick _ _ _ rfl false (ov_in hn (by kernel_rfl)) ((if_neg (by decide)).trans (ov_in hn (by kernel_rfl)))) ?_
                  refine ov_q rfl rfl rfl (v := .bool false) (fun y => ex_pick _ _ _ rfl true (ov_in hn (by kernel_rfl)) ((if_pos rfl).trans (ov_in hn (by kernel_rfl)))) ?_
                  refine ov_q rfl rfl rfl (v := .bool false) (fun y => ex_move _ rfl (ov_in hn (by kernel_rfl))) ?_
                  refine ov_qg hn rfl rfl rfl rfl (by kernel_rfl) (v := .bool true) (fun y => ex_move _ rfl (ov_out hn (by kernel_rfl) e12)) ?_
                  refine ov_qg hn rfl rfl rfl rfl (by kernel_rfl) (v := .bool true) (fun y => ex_move _ rfl (ov_in hn (by kernel_rfl))) ?_
                  refine ov_qg hn rfl rfl rfl rfl (by kernel_rfl) (v := .int .i64 (0)) (fun y => ex_move _ rfl (ov_out hn (by kernel_rfl) e10)) ?_
                  refine ov_qg hn rfl rfl rfl rfl (by kernel_rfl) (v := .bool false) (fun y => ex_bin _ _ _ _ _ rfl (vx := .int .i64 (0)) (vy := .int .i64 5) (ov_in hn (by kernel_rfl)) rfl (by go_simp) (by go_simp)) ?_
                  refine ov_qg hn rfl rfl rfl rfl (by kernel_rfl) (v := .bool false) (fun y => ex_pick _ _ _ rfl true (ov_in hn (by kernel_rfl)) ((if_pos rfl).trans (ov_in hn (by kernel_rfl)))) ?_
                  refine ov_qg hn rfl rfl rfl rfl (by kernel_rfl) (v := .bool false) (fun y => ex_move _ rfl (ov_in hn (by kernel_rfl))) ?_
                  iterate 2 (refine ov_n hn (vj := .bool false) rfl rfl rfl rfl (by kernel_rfl) (by kernel_rfl) ?_)
                  refine ov_qg hn rfl rfl rfl rfl (by kernel_rfl) (v := .bool false) (fun y => ex_pick _ _ _ rfl false (ov_in hn (by kernel_rfl)) ((if_neg (by decide)).trans rfl)) ?_
                  refine ov_q rfl rfl rfl (v := .bool false) (fun y => ex_pick _ _ _ rfl false (ov_in hn (by kernel_rfl)) ((if_neg (by decide)).trans (ov_in hn (by kernel_rfl)))) ?_
                  refine ov_q rfl rfl rfl (v := .bool false) (fun y => ex_move _ rfl (ov_in hn (by kernel_rfl))) ?_
                  refine ov_qg hn rfl rfl rfl rfl (by kernel_rfl) (v := .slice (some ⟨b, off, none⟩) len c) (fun y => ex_move _ rfl (ov_out hn (by kernel_rfl) e1)) ?_
                  refine ov_qg hn rfl rfl rfl rfl (by kernel_rfl) (v := .int .i64 (k)) (fun y => ex_move _ rfl (ov_out hn (by kernel_rfl) e7)) ?_
                  refine ov_qg hn rfl rfl rfl rfl (by kernel_rfl) (v := .pointer (some ⟨b, off + k * 6, none⟩)) (fun y => ex_index _ _ _ rfl (vx := .slice (some ⟨b, off, none⟩) len c) (vy := .int .i64 (k)) (ov_in hn (by kernel_rfl)) (ov_in hn (by kernel_rfl)) (by go_simp)) ?_
                  refine ov_qg hn rfl rfl rfl rfl (by kernel_rfl) (v := .pointer (some ⟨b, off + k * 6, none⟩)) (fun y => ex_field _ _ _ rfl (vx := .pointer (some ⟨b, off + k * 6, none⟩)) (ov_in hn (by kernel_rfl)) (by go_simp)) ?_
                  refine ov_qg hn rfl rfl rfl rfl (by kernel_rfl) (v := .int .i64 (2)) (fun y => ex_load _ _ rfl (vx := .pointer (some ⟨b, off + k * 6, none⟩)) (ov_in hn (by kernel_rfl)) (by go_simp)) ?_
                  refine ov_qg hn rfl rfl rfl rfl (by kernel_rfl) (v := .bool false) (fun y => ex_bin _ _ _ _ _ rfl (vx := .int .i64 (2)) (vy := .int .i64 7) (ov_in hn (by kernel_rfl)) rfl (by go_simp) (by go_simp)) ?_
                  refine ov_qg hn rfl rfl rfl rfl (by kernel_rfl) (v := .bool false) (fun y => ex_move _ rfl (ov_in hn (by kernel_rfl))) ?_
                  iterate 4 (refine ov_n hn (vj := .bool false) rfl rfl rfl rfl (by kernel_rfl) (by kernel_rfl) ?_)
                  refine ov_qg hn rfl rfl rfl rfl (by kernel_rfl) (v := .bool false) (fun y => ex_pick _ _ _ rfl false (ov_in hn (by kernel_rfl)) ((if_neg (by decide)).trans rfl)) ?_
                  refine ov_q rfl rfl rfl (v := .bool false) (fun y => ex_pick _ _ _ rfl false (ov_in hn (by kernel_rfl)) ((if_neg (by decide)).trans (ov_in hn (by kernel_rfl)))) ?_
                  refine ov_q rfl rfl rfl (v := .bool false) (fun y => ex_move _ rfl (ov_in hn (by kernel_rfl))) ?_
                  refine ov_qg hn rfl rfl rfl rfl (by kernel_rfl) (v := .bool false) (fun y => ex_move _ rfl (ov_out hn (by kernel_rfl) e9)) ?_
                  refine ov_qg hn rfl rfl rfl rfl (by kernel_rfl) (v := .bool false) (fun y => ex_move _ rfl (ov_in hn (by kernel_rfl))) ?_
                  iterate 6 (refine ov_n hn (vj := .bool false) rfl rfl rfl rfl (by kernel_rfl) (by kernel_rfl) ?_)
                  refine ov_qg hn rfl rfl rfl rfl (by kernel_rfl) (v := .bool false) (fun y => ex_pick _ _ _ rfl false (ov_in hn (by kernel_rfl)) ((if_neg (by decide)).trans rfl)) ?_
                  refine ov_qg hn rfl rfl rfl rfl (by kernel_rfl) (v := .bool false) (fun y => ex_move _ rfl (ov_in hn (by kernel_rfl))) ?_
                  iterate 2 (refine ov_n hn (vj := .bool false) rfl rfl rfl rfl (by kernel_rfl) (by kernel_rfl) ?_)
                  refine ov_qg hn rfl rfl rfl rfl (by kernel_rfl) (v := .bool false) (fun y => ex_pick _ _ _ rfl false (ov_in hn (by kernel_rfl)) ((if_neg (by decide)).trans rfl)) ?_
                  refine ov_qg hn rfl rfl rfl rfl (by kernel_rfl) (v := .bool false) (fun y => ex_move _ rfl (ov_in hn (by kernel_rfl))) ?_
                  iterate 6 (refine ov_n hn (vj := .bool false) rfl rfl rfl rfl (by kernel_rfl) (by kernel_rfl) ?_)
                  refine ov_qg hn rfl rfl rfl rfl (by kernel_rfl) (v := .bool false) (fun y => ex_pick _ _ _ rfl false (ov_in hn (by kernel_rfl)) ((if_neg (by decide)).trans rfl)) ?_
                  refine ov_q rfl rfl rfl (v := .bool false) (fun y => ex_pick _ _ _ rfl false (ov_in hn (by kernel_rfl)) ((if_neg (by decide)).trans (ov_in hn (by kernel_rfl)))) ?_
                  refine plan_end (hK.out _ _ ?_)
                  exact hK' _ _ (Met.intro (hJ' _ _ ⟨.bool true, .bool true, .int .i64 (0), .bool true, .bool true, .bool true, fptr d', .int .i64 (rm - 1), .int .i64 (rm), .bool true, .bool true, fptr d', .int .i64 (rm - 1), .int .i64 (rm), .int .i64 (rm - 1), .bool false, .bool false, .bool false, fptr d', .slice (some ⟨b, off, none⟩) len c, .int .i64 (k), .pointer (some ⟨b, off + k * 6, none⟩), .pointer (some ⟨b, off + k * 6 + 2, none⟩), nv name, .int .i64 fc.fin, .slice (some ⟨b, off, none⟩) len c, .int .i64 (k), .pointer (some ⟨b, off + k * 6, none⟩), .pointer (some ⟨b, off + k * 6 + 1, none⟩), .int .i64 (sn), .bool false, .bool false, .bool false, .bool false, .bool true, .bool true, .int .i64 (0), .bool false, .bool false, .bool false, undef, undef, .bool false, .bool false, .bool false, .slice (some ⟨b, off, none⟩) len c, .int .i64 (k), .pointer (some ⟨b, off + k * 6, none⟩), .pointer (some ⟨b, off + k * 6, none⟩), .int .i64 (2), .bool false, .bool false, undef, undef, undef, undef, .bool false, .bool false, .bool false, .bool false, .bool false, undef, undef, undef, undef, undef, undef, .bool false, .bool false, undef, undef, .bool false, .bool false, undef, undef, undef, undef, undef, undef, .bool false, .bool false, ⟨rfl, hS⟩, (ov_eq hn _).trans (by rw [HA.out]; kernel_rfl)⟩))
          have ex0 : (x == 0) = false := by simpa using hx0
          by_cases hx5 : x = 5
          · subst hx5
            have hz : rm = 0 := by have := hR.full (.inl rfl) rfl; have := HT.out.2.1; omega
            subst hz
            clear hR HT
            cases was with
            | true =>
              as_aux_lemma =>
                have c5 : ∀ y : Above Ext wq, y.1.cell? ⟨q5, 0, none⟩ = _ := fun y => (HC.out y.1 (hx.trans y.2)).1
                have k0 : ∀ y : Above Ext wq, y.1.cell? ⟨b, off + k * 6, none⟩ = _ := fun y => (HC.out y.1 (hx.trans y.2)).2.1
                have k1 : ∀ y : Above Ext wq, y.1.cell? ⟨b, off + k * 6 + 1, none⟩ = _ := fun y => (HC.out y.1 (hx.trans y.2)).2.2.1
                have k2 : ∀ y : Above Ext wq, y.1.cell? ⟨b, off + k * 6 + 2, none⟩ = _ := fun y => (HC.out y.1 (hx.trans y.2)).2.2.2
                refine ov_open 201 (by kernel_rfl) ?_
                intro A hn hev hA
                have HA := Lib.hid hA
                clear hA
                have e1 : A.eval (.tmp 1) = .slice (some ⟨b, off, none⟩) len c := (hev 1).trans (by kernel_rfl)
                have e7 : A.eval (.tmp 7) = .int .i64 (k) := (hev 7).trans (by kernel_rfl)
                have e8 : A.eval (.tmp 8) = .int .i64 (0) := (hev 8).trans (by kernel_rfl)
                have e9 : A.eval (.tmp 9) = .bool true := (hev 9).trans (by kernel_rfl)
                have e10 : A.eval (.tmp 10) = .int .i64 (5) := (hev 10).trans (by kernel_rfl)
                have e12 : A.eval (.tmp 12) = .bool true := (hev 12).trans (by kernel_rfl)
                clear hev
                refine ov_q rfl rfl rfl (v := .bool true) (fun y => ex_move _ rfl (ov_out hn (by kernel_rfl) e12)) ?_
                refine ov_q rfl rfl rfl (v := .bool true) (fun y => ex_move _ rfl (ov_in hn (by kernel_rfl))) ?_
                refine ov_qg hn rfl rfl rfl rfl (by kernel_rfl) (v := .int .i64 (5)) (fun y => ex_move _ rfl (ov_out hn (by kernel_rfl) e10)) ?_
                refine ov_qg hn rfl rfl rfl rfl (by kernel_rfl) (v := .bool false) (fun y => ex_bin _ _ _ _ _ rfl (vx := .int .i64 (5)) (vy := .int .i64 0) (ov_in hn (by kernel_rfl)) rfl (by go_simp) (by go_simp)) ?_
                refine ov_q rfl rfl rfl (v := .bool false) (fun y => ex_pick _ _ _ rfl true (ov_in hn (by kernel_rfl)) ((if_pos rfl).trans (ov_in hn (by kernel_rfl)))) ?_
                refine ov_q rfl rfl rfl (v := .bool false) (fun y => ex_move _ rfl (ov_in hn (by kernel_rfl))) ?_
                iterate 5 (refine ov_n hn (vj := .bool false) rfl rfl rfl rfl (by kernel_rfl) (by kernel_rfl) ?_)
                iterate 5 (refine ov_n hn (vj := undef) rfl rfl rfl rfl (by kernel_rfl) (by kernel_rfl) ?_)
                iterate 2 (refine ov_n hn (vj := .bool false) rfl rfl rfl rfl (by kernel_rfl) (by kernel_rfl) ?_)
                iterate 13 (refine ov_n hn (vj := undef) rfl rfl rfl rfl (by kernel_rfl) (by kernel_rfl) ?_)
                refine ov_n hn (vj := .bool false) rfl rfl rfl rfl (by kernel_rfl) (by kernel_rfl) ?_
                refine ov_q rfl rfl rfl (v := .bool false) (fun y => ex_pick _ _ _ rfl false (ov_in hn (by kernel_rfl)) ((if_neg (by decide)).trans rfl)) ?_
                refine ov_q rfl rfl rfl (v := .bool false) (fun y => ex_move _ rfl (ov_in hn (by kernel_rfl))) ?_
                refine ov_qg hn rfl rfl rfl rfl (by kernel_rfl) (v := .bool true) (fun y => ex_move _ rfl (ov_out hn (by kernel_rfl) e12)) ?_
                refine ov_qg hn rfl rfl rfl rfl (by kernel_rfl) (v := .bool true) (fun y => ex_move _ rfl (ov_in hn (by kernel_rfl))) ?_
                refine ov_qg hn rfl rfl rfl rfl (by kernel_rfl) (v := .int .i64 (5)) (fun y => ex_move _ rfl (ov_out hn (by kernel_rfl) e10)) ?_
                refine ov_qg hn rfl rfl rfl rfl (by kernel_rfl) (v := .bool true) (fun y => ex_bin _ _ _ _ _ rfl (vx := .int .i64 (5)) (vy := .int .i64 5) (ov_in hn (by kernel_rfl)) rfl (by go_simp) (by go_simp)) ?_
                refine ov_qg hn rfl rfl rfl rfl (by kernel_rfl) (v := .bool true) (fun y => ex_pick _ _ _ rfl true (ov_in hn (by kernel_rfl)) ((if_pos rfl).trans (ov_in hn (by kernel_rfl)))) ?_
                refine ov_qg hn rfl rfl rfl rfl (by kernel_rfl) (v := .bool true) (fun y => ex_move _ rfl (ov_in hn (by kernel_rfl))) ?_
                refine ov_qg hn rfl rfl rfl rfl (by kernel_rfl) (v := .int .i64 (0)) (fun y => ex_move _ rfl (ov_out hn (by kernel_rfl) e8)) ?_
                refine ov_qg hn rfl rfl rfl rfl (by kernel_rfl) (v := .bool false) (fun y => ex_bin _ _ _ _ _ rfl (vx := .int .i64 (0)) (vy := .int .i64 0) (ov_in hn (by kernel_rfl)) rfl (by go_simp) (by go_simp)) ?_
                refine ov_qg hn rfl rfl rfl rfl (by kernel_rfl) (v := .bool false) (fun y => ex_pick _ _ _ rfl true (ov_in hn (by kernel_rfl)) ((if_pos rfl).trans (ov_in hn (by kernel_rfl)))) ?_
                refine ov_q rfl rfl rfl (v := .bool false) (fun y => ex_pick _ _ _ rfl false (ov_in hn (by kernel_rfl)) ((if_neg (by decide)).trans (ov_in hn (by kernel_rfl)))) ?_
                refine ov_q rfl rfl rfl (v := .bool false) (fun y => ex_move _ rfl (ov_in hn (by kernel_rfl))) ?_
                refine ov_qg hn rfl rfl rfl rfl (by kernel_rfl) (v := .slice (some ⟨b, off, none⟩) len c) (fun y => ex_move _ rfl (ov_out hn (by kernel_rfl) e1)) ?_
                refine ov_qg hn rfl rfl rfl rfl (by kernel_rfl) (v := .int .i64 (k)) (fun y => ex_move _ rfl (ov_out hn (by kernel_rfl) e7)) ?_
                refine ov_qg hn rfl rfl rfl rfl (by kernel_rfl) (v := .pointer (some ⟨b, off + k * 6, none⟩)) (fun y => ex_index _ _ _ rfl (vx := .slice (some ⟨b, off, none⟩) len c) (vy := .int .i64 (k)) (ov_in hn (by kernel_rfl)) (ov_in hn (by kernel_rfl)) (by go_simp)) ?_
                refine ov_qg hn rfl rfl rfl rfl (by kernel_rfl) (v := .pointer (some ⟨b, off + k * 6, none⟩)) (fun y => ex_field _ _ _ rfl (vx := .pointer (some ⟨b, off + k * 6, none⟩)) (ov_in hn (by kernel_rfl)) (by go_simp)) ?_
                refine ov_qg hn rfl rfl rfl rfl (by kernel_rfl) (v := .int .i64 (2)) (fun y => ex_load _ _ rfl (vx := .pointer (some ⟨b, off + k * 6, none⟩)) (ov_in hn (by kernel_rfl)) (by go_simp)) ?_
                refine ov_qg hn rfl rfl rfl rfl (by kernel_rfl) (v := .bool false) (fun y => ex_bin _ _ _ _ _ rfl (vx := .int .i64 (2)) (vy := .int .i64 7) (ov_in hn (by kernel_rfl)) rfl (by go_simp) (by go_simp)) ?_
                refine ov_qg hn rfl rfl rfl rfl (by kernel_rfl) (v := .bool false) (fun y => ex_move _ rfl (ov_in hn (by kernel_rfl))) ?_
                iterate 4 (refine ov_n hn (vj := .bool false) rfl rfl rfl rfl (by kernel_rfl) (by kernel_rfl) ?_)
                refine ov_qg hn rfl rfl rfl rfl (by kernel_rfl) (v := .bool false) (fun y => ex_pick _ _ _ rfl false (ov_in hn (by kernel_rfl)) ((if_neg (by decide)).trans rfl)) ?_
                refine ov_q rfl rfl rfl (v := .bool false) (fun y => ex_pick _ _ _ rfl false (ov_in hn (by kernel_rfl)) ((if_neg (by decide)).trans (ov_in hn (by kernel_rfl)))) ?_
                refine ov_q rfl rfl rfl (v := .bool false) (fun y => ex_move _ rfl (ov_in hn (by kernel_rfl))) ?_
                refine ov_qg hn rfl rfl rfl rfl (by kernel_rfl) (v := .bool true) (fun y => ex_move _ rfl (ov_out hn (by kernel_rfl) e9)) ?_
                refine ov_qg hn rfl rfl rfl rfl (by kernel_rfl) (v := .bool true) (fun y => ex_move _ rfl (ov_in hn (by kernel_rfl))) ?_
                refine ov_qg hn rfl rfl rfl rfl (by kernel_rfl) (v := .slice (some ⟨b, off, none⟩) len c) (fun y => ex_move _ rfl (ov_out hn (by kernel_rfl) e1)) ?_
                refine ov_qg hn rfl rfl rfl rfl (by kernel_rfl) (v := .int .i64 (k)) (fun y => ex_move _ rfl (ov_out hn (by kernel_rfl) e7)) ?_
                refine ov_qg hn rfl rfl rfl rfl (by kernel_rfl) (v := .pointer (some ⟨b, off + k * 6, none⟩)) (fun y => ex_index _ _ _ rfl (vx := .slice (some ⟨b, off, none⟩) len c) (vy := .int .i64 (k)) (ov_in hn (by kernel_rfl)) (ov_in hn (by kernel_rfl)) (by go_simp)) ?_
                refine ov_qg hn rfl rfl rfl rfl (by kernel_rfl) (v := .pointer (some ⟨b, off + k * 6, none⟩)) (fun y => ex_field _ _ _ rfl (vx := .pointer (some ⟨b, off + k * 6, none⟩)) (ov_in hn (by kernel_rfl)) (by go_simp)) ?_
                refine ov_qg hn rfl rfl rfl rfl (by kernel_rfl) (v := .int .i64 (2)) (fun y => ex_load _ _ rfl (vx := .pointer (some ⟨b, off + k * 6, none⟩)) (ov_in hn (by kernel_rfl)) (by go_simp)) ?_
                refine ov_qg hn rfl rfl rfl rfl (by kernel_rfl) (v := .bool true) (fun y => ex_bin _ _ _ _ _ rfl (vx := .int .i64 (2)) (vy := .int .i64 6) (ov_in hn (by kernel_rfl)) rfl (by go_simp) (by go_simp)) ?_
                refine ov_qg hn rfl rfl rfl rfl (by kernel_rfl) (v := .bool true) (fun y => ex_pick _ _ _ rfl true (ov_in hn (by kernel_rfl)) ((if_pos rfl).trans (ov_in hn (by kernel_rfl)))) ?_
                refine ov_qg hn rfl rfl rfl rfl (by kernel_rfl) (v := .bool true) (fun y => ex_move _ rfl (ov_in hn (by kernel_rfl))) ?_
                refine ov_qg hn rfl rfl rfl rfl (by kernel_rfl) (v := .int .i64 (5)) (fun y => ex_move _ rfl (ov_out hn (by kernel_rfl) e10)) ?_
                refine ov_qg hn rfl rfl rfl rfl (by kernel_rfl) (v := .bool false) (fun y => ex_bin _ _ _ _ _ rfl (vx := .int .i64 (5)) (vy := .int .i64 0) (ov_in hn (by kernel_rfl)) rfl (by go_simp) (by go_simp)) ?_
                refine ov_qg hn rfl rfl rfl rfl (by kernel_rfl) (v := .bool false) (fun y => ex_pick _ _ _ rfl true (ov_in hn (by kernel_rfl)) ((if_pos rfl).trans (ov_in hn (by kernel_rfl)))) ?_
                refine ov_qg hn rfl rfl rfl rfl (by kernel_rfl) (v := .bool false) (fun y => ex_move _ rfl (ov_in hn (by kernel_rfl))) ?_
                iterate 6 (refine ov_n hn (vj := .bool false) rfl rfl rfl rfl (by kernel_rfl) (by kernel_rfl) ?_)
                refine ov_qg hn rfl rfl rfl rfl (by kernel_rfl) (v := .bool false) (fun y => ex_pick _ _ _ rfl false (ov_in hn (by kernel_rfl)) ((if_neg (by decide)).trans rfl)) ?_
                refine ov_q rfl rfl rfl (v := .bool false) (fun y => ex_pick _ _ _ rfl false (ov_in hn (by kernel_rfl)) ((if_neg (by decide)).trans (ov_in hn (by kernel_rfl)))) ?_
                refine plan_end (hK.out _ _ ?_)
                exact hK' _ _ (Met.intro (hJ' _ _ ⟨.bool true, .bool true, .int .i64 (5), .bool false, .bool false, .bool false, undef, undef, undef, undef, undef, undef, undef, undef, undef, undef, undef, undef, undef, undef, undef, undef, undef, undef, undef, undef, undef, undef, undef, undef, undef, undef, .bool false, .bool false, .bool true, .bool true, .int .i64 (5), .bool true, .bool true, .bool true, .int .i64 (0), .bool false, .bool false, .bool false, .bool false, .slice (some ⟨b, off, none⟩) len c, .int .i64 (k), .pointer (some ⟨b, off + k * 6, none⟩), .pointer (some ⟨b, off + k * 6, none⟩), .int .i64 (2), .bool false, .bool false, undef, undef, undef, undef, .bool false, .bool false, .bool false, .bool true, .bool true, .slice (some ⟨b, off, none⟩) len c, .int .i64 (k), .pointer (some ⟨b, off + k * 6, none⟩), .pointer (some ⟨b, off + k * 6, none⟩), .int .i64 (2), .bool true, .bool true, .bool true, .int .i64 (5), .bool false, .bool false, .bool false, undef, undef, undef, undef, undef, undef, .bool false, .bool false, ⟨rfl, hS⟩, (ov_eq hn _).trans (by rw [HA.out]; kernel_rfl)⟩))
            | false =>
              as_aux_lemma =>
                have c5 : ∀ y : Above Ext wq, y.1.cell? ⟨q5, 0, none⟩ = _ := fun y => (HC.out y.1 (hx.trans y.2)).1
                have k0 : ∀ y : Above Ext wq, y.1.cell? ⟨b, off + k * 6, none⟩ = _ := fun y => (HC.out y.1 (hx.trans y.2)).2.1
                have k1 : ∀ y : Above Ext wq, y.1.cell? ⟨b, off + k * 6 + 1, none⟩ = _ := fun y => (HC.out y.1 (hx.trans y.2)).2.2.1
                have k2 : ∀ y : Above Ext wq, y.1.cell? ⟨b, off + k * 6 + 2, none⟩ = _ := fun y => (HC.out y.1 (hx.trans y.2)).2.2.2
                refine ov_open 201 (by kernel_rfl) ?_
                intro A hn hev hA
                have HA := Lib.hid hA
                clear hA
                have e1 : A.eval (.tmp 1) = .slice (some ⟨b, off, none⟩) len c := (hev 1).trans (by kernel_rfl)
                have e7 : A.eval (.tmp 7) = .int .i64 (k) := (hev 7).trans (by kernel_rfl)
                have e8 : A.eval (.tmp 8) = .int .i64 (0) := (hev 8).trans (by kernel_rfl)
                have e9 : A.eval (.tmp 9) = .bool false := (hev 9).trans (by kernel_rfl)
                have e10 : A.eval (.tmp 10) = .int .i64 (5) := (hev 10).trans (by kernel_rfl)
                have e12 : A.eval (.tmp 12) = .bool true := (hev 12).trans (by kernel_rfl)
                clear hev
                refine ov_q rfl rfl rfl (v := .bool true) (fun y => ex_move _ rfl (ov_out hn (by kernel_rfl) e12)) ?_
                refine ov_q rfl rfl rfl (v := .bool true) (fun y => ex_move _ rfl (ov_in hn (by kernel_rfl))) ?_
                refine ov_qg hn rfl rfl rfl rfl (by kernel_rfl) (v := .int .i64 (5)) (fun y => ex_move _ rfl (ov_out hn (by kernel_rfl) e10)) ?_
                refine ov_qg hn rfl rfl rfl rfl (by kernel_rfl) (v := .bool false) (fun y => ex_bin _ _ _ _ _ rfl (vx := .int .i64 (5)) (vy := .int .i64 0) (ov_in hn (by kernel_rfl)) rfl (by go_simp) (by go_simp)) ?_
                refine ov_q rfl rfl rfl (v := .bool false) (fun y => ex_pick _ _ _ rfl true (ov_in hn (by kernel_rfl)) ((if_pos rfl).trans (ov_in hn (by kernel_rfl)))) ?_
                refine ov_q rfl rfl rfl (v := .bool false) (fun y => ex_move _ rfl (ov_in hn (by kernel_rfl))) ?_
                iterate 5 (refine ov_n hn (vj := .bool false) rfl rfl rfl rfl (by kernel_rfl) (by kernel_rfl) ?_)
                iterate 5 (refine ov_n hn (vj := undef) rfl rfl rfl rfl (by kernel_rfl) (by kernel_rfl) ?_)
                iterate 2 (refine ov_n hn (vj := .bool false) rfl rfl rfl rfl (by kernel_rfl) (by kernel_rfl) ?_)
                iterate 13 (refine ov_n hn (vj := undef) rfl rfl rfl rfl (by kernel_rfl) (by kernel_rfl) ?_)
                refine ov_n hn (vj := .bool false) rfl rfl rfl rfl (by kernel_rfl) (by kernel_rfl) ?_
                refine ov_q rfl rfl rfl (v := .bool false) (fun y => ex_pick _ _ _ rfl false (ov_in hn (by kernel_rfl)) ((if_neg (by decide)).trans rfl)) ?_
                refine ov_q rfl rfl rfl (v := .bool false) (fun y => ex_move _ rfl (ov_in hn (by kernel_rfl))) ?_
                refine ov_qg hn rfl rfl rfl rfl (by kernel_rfl) (v := .bool true) (fun y => ex_move _ rfl (ov_out hn (by kernel_rfl) e12)) ?_
                refine ov_qg hn rfl rfl rfl rfl (by kernel_rfl) (v := .bool true) (fun y => ex_move _ rfl (ov_in hn (by kernel_rfl))) ?_
                refine ov_qg hn rfl rfl rfl rfl (by kernel_rfl) (v := .int .i64 (5)) (fun y => ex_move _ rfl (ov_out hn (by kernel_rfl) e10)) ?_
                refine ov_qg hn rfl rfl rfl rfl (by kernel_rfl) (v := .bool true) (fun y => ex_bin _ _ _ _ _ rfl (vx := .int .i64 (5)) (vy := .int .i64 5) (ov_in hn (by kernel_rfl)) rfl (by go_simp) (by go_simp)) ?_
                refine ov_qg hn rfl rfl rfl rfl (by kernel_rfl) (v := .bool true) (fun y => ex_pick _ _ _ rfl true (ov_in hn (by kernel_rfl)) ((if_pos rfl).trans (ov_in hn (by kernel_rfl)))) ?_
                refine ov_qg hn rfl rfl rfl rfl (by kernel_rfl) (v := .bool true) (fun y => ex_move _ rfl (ov_in hn (by kernel_rfl))) ?_
                refine ov_qg hn rfl rfl rfl rfl (by kernel_rfl) (v := .int .i64 (0)) (fun y => ex_move _ rfl (ov_out hn (by kernel_rfl) e8)) ?_
                refine ov_qg hn rfl rfl rfl rfl (by kernel_rfl) (v := .bool false) (fun y => ex_bin _ _ _ _ _ rfl (vx := .int .i64 (0)) (vy := .int .i64 0) (ov_in hn (by kernel_rfl)) rfl (by go_simp) (by go_simp)) ?_
                refine ov_qg hn rfl rfl rfl rfl (by kernel_rfl) (v := .bool false) (fun y => ex_pick _ _ _ rfl true (ov_in hn (by kernel_rfl)) ((if_pos rfl).trans (ov_in hn (by kernel_rfl)))) ?_
                refine ov_q rfl rfl rfl (v := .bool false) (fun y => ex_pick _ _ _ rfl false (ov_in hn (by kernel_rfl)) ((if_neg (by decide)).trans (ov_in hn (by kernel_rfl)))) ?_
                refine ov_q rfl rfl rfl (v := .bool false) (fun y => ex_move _ rfl (ov_in hn (by kernel_rfl))) ?_
                refine ov_qg hn rfl rfl rfl rfl (by kernel_rfl) (v := .slice (some ⟨b, off, none⟩) len c) (fun y => ex_move _ rfl (ov_out hn (by kernel_rfl) e1)) ?_
                refine ov_qg hn rfl rfl rfl rfl (by kernel_rfl) (v := .int .i64 (k)) (fun y => ex_move _ rfl (ov_out hn (by kernel_rfl) e7)) ?_
                refine ov_qg hn rfl rfl rfl rfl (by kernel_rfl) (v := .pointer (some ⟨b, off + k * 6, none⟩)) (fun y => ex_index _ _ _ rfl (vx := .slice (some ⟨b, off, none⟩) len c) (vy := .int .i64 (k)) (ov_in hn (by kernel_rfl)) (ov_in hn (by kernel_rfl)) (by go_simp)) ?_
                refine ov_qg hn rfl rfl rfl rfl (by kernel_rfl) (v := .pointer (some ⟨b, off + k * 6, none⟩)) (fun y => ex_field _ _ _ rfl (vx := .pointer (some ⟨b, off + k * 6, none⟩)) (ov_in hn (by kernel_rfl)) (by go_simp)) ?_
                refine ov_qg hn rfl rfl rfl rfl (by kernel_rfl) (v := .int .i64 (2)) (fun y => ex_load _ _ rfl (vx := .pointer (some ⟨b, off + k * 6, none⟩)) (ov_in hn (by kernel_rfl)) (by go_simp)) ?_
                refine ov_qg hn rfl rfl rfl rfl (by kernel_rfl) (v := .bool false) (fun y => ex_bin _ _ _ _ _ rfl (vx := .int .i64 (2)) (vy := .int .i64 7) (ov_in hn (by kernel_rfl)) rfl (by go_simp) (by go_simp)) ?_
                refine ov_qg hn rfl rfl rfl rfl (by kernel_rfl) (v := .bool false) (fun y => ex_move _ rfl (ov_in hn (by kernel_rfl))) ?_
                iterate 4 (refine ov_n hn (vj := .bool false) rfl rfl rfl rfl (by kernel_rfl) (by kernel_rfl) ?_)
                refine ov_qg hn rfl rfl rfl rfl (by kernel_rfl) (v := .bool false) (fun y => ex_pick _ _ _ rfl false (ov_in hn (by kernel_rfl)) ((if_neg (by decide)).trans rfl)) ?_
                refine ov_q rfl rfl rfl (v := .bool false) (fun y => ex_pick _ _ _ rfl false (ov_in hn (by kernel_rfl)) ((if_neg (by decide)).trans (ov_in hn (by kernel_rfl)))) ?_
                refine ov_q rfl rfl rfl (v := .bool false) (fun y => ex_move _ rfl (ov_in hn (by kernel_rfl))) ?_
                refine ov_qg hn rfl rfl rfl rfl (by kernel_rfl) (v := .bool false) (fun y => ex_move _ rfl (ov_out hn (by kernel_rfl) e9)) ?_
                refine ov_qg hn rfl rfl rfl rfl (by kernel_rfl) (v := .bool false) (fun y => ex_move _ rfl (ov_in hn (by kernel_rfl))) ?_
                iterate 6 (refine ov_n hn (vj := .bool false) rfl rfl rfl rfl (by kernel_rfl) (by kernel_rfl) ?_)
                refine ov_qg hn rfl rfl rfl rfl (by kernel_rfl) (v := .bool false) (fun y => ex_pick _ _ _ rfl false (ov_in hn (by kernel_rfl)) ((if_neg (by decide)).trans rfl)) ?_
                refine ov_qg hn rfl rfl rfl rfl (by kernel_rfl) (v := .bool false) (fun y => ex_move _ rfl (ov_in hn (by kernel_rfl))) ?_
                iterate 2 (refine ov_n hn (vj := .bool false) rfl rfl rfl rfl (by kernel_rfl) (by kernel_rfl) ?_)
                refine ov_qg hn rfl rfl rfl rfl (by kernel_rfl) (v := .bool false) (fun y => ex_pick _ _ _ rfl false (ov_in hn (by kernel_rfl)) ((if_neg (by decide)).trans rfl)) ?_
                refine ov_qg hn rfl rfl rfl rfl (by kernel_rfl) (v := .bool false) (fun y => ex_move _ rfl (ov_in hn (by kernel_rfl))) ?_
                iterate 6 (refine ov_n hn (vj := .bool false) rfl rfl rfl rfl (by kernel_rfl) (by kernel_rfl) ?_)
                refine ov_qg hn rfl rfl rfl rfl (by kernel_rfl) (v := .bool false) (fun y => ex_pick _ _ _ rfl false (ov_in hn (by kernel_rfl)) ((if_neg (by decide)).trans rfl)) ?_
                refine ov_q rfl rfl rfl (v := .bool false) (fun y => ex_pick _ _ _ rfl false (ov_in hn (by kernel_rfl)) ((if_neg (by decide)).trans (ov_in hn (by kernel_rfl)))) ?_
                refine plan_end (hK.out _ _ ?_)
                exact hK' _ _ (Met.intro (hJ' _ _ ⟨.bool true, .bool true, .int .i64 (5), .bool false, .bool false, .bool false, undef, undef, undef, undef, undef, undef, undef, undef, undef, undef, undef, undef, undef, undef, undef, undef, undef, undef, undef, undef, undef, undef, undef, undef, undef, undef, .bool false, .bool false, .bool true, .bool true, .int .i64 (5), .bool true, .bool true, .bool true, .int .i64 (0), .bool false, .bool false, .bool false, .bool false, .slice (some ⟨b, off, none⟩) len c, .int .i64 (k), .pointer (some ⟨b, off + k * 6, none⟩), .pointer (some ⟨b, off + k * 6, none⟩), .int .i64 (2), .bool false, .bool false, undef, undef, undef, undef, .bool false, .bool false, .bool false, .bool false, .bool false, undef, undef, undef, undef, undef, undef, .bool false, .bool false, undef, undef, .bool false, .bool false, undef, undef, undef, undef, undef, undef, .bool false, .bool false, ⟨rfl, hS⟩, (ov_eq hn _).trans (by rw [HA.out]; kernel_rfl)⟩))
          have ex5 : (x == 5) = false := by simpa using hx5
          clear hR HT
          cases was with
          | true =>
            as_aux_lemma =>
              have c5 : ∀ y : Above Ext wq, y.1.cell? ⟨q5, 0, none⟩ = _ := fun y => (HC.out y.1 (hx.trans y.2)).1
              have k0 : ∀ y : Above Ext wq, y.1.cell? ⟨b, off + k * 6, none⟩ = _ := fun y => (HC.out y.1 (hx.trans y.2)).2.1
              have k1 : ∀ y : Above Ext wq, y.1.cell? ⟨b, off + k * 6 + 1, none⟩ = _ := fun y => (HC.out y.1 (hx.trans y.2)).2.2.1
              have k2 : ∀ y : Above Ext wq, y.1.cell? ⟨b, off + k * 6 + 2, none⟩ = _ := fun y => (HC.out y.1 (hx.trans y.2)).2.2.2
              refine ov_open 201 (by kernel_rfl) ?_
              intro A hn hev hA
              have HA := Lib.hid hA
              clear hA
              have e1 : A.eval (.tmp 1) = .slice (some ⟨b, off, none⟩) len c := (hev 1).trans (by kernel_rfl)
              have e7 : A.eval (.tmp 7) = .int .i64 (k) := (hev 7).trans (by kernel_rfl)
              have e9 : A.eval (.tmp 9) = .bool true := (hev 9).trans (by kernel_rfl)
              have e10 : A.eval (.tmp 10) = .int .i64 (x) := (hev 10).trans (by kernel_rfl)
              have e12 : A.eval (.tmp 12) = .bool true := (hev 12).trans (by kernel_rfl)
              clear hev
              refine ov_q rfl rfl rfl (v := .bool true) (fun y => ex_move _ rfl (ov_out hn (by kernel_rfl) e12)) ?_
              refine ov_q rfl rfl rfl (v := .bool true) (fun y => ex_move _ rfl (ov_in hn (by kernel_rfl))) ?_
              refine ov_qg hn rfl rfl rfl rfl (by kernel_rfl) (v := .int .i64 (x)) (fun y => ex_move _ rfl (ov_out hn (by kernel_rfl) e10)) ?_
              refine ov_qg hn rfl rfl rfl rfl (by kernel_rfl) (v := .bool false) (fun y => ex_bin _ _ _ _ _ rfl (vx := .int .i64 (x)) (vy := .int .i64 0) (ov_in hn (by kernel_rfl)) rfl (by go_simp) (by go_simp)) ?_
              refine ov_q rfl rfl rfl (v := .bool false) (fun y => ex_pick _ _ _ rfl true (ov_in hn (by kernel_rfl)) ((if_pos rfl).trans (ov_in hn (by kernel_rfl)))) ?_
              refine ov_q rfl rfl rfl (v := .bool false) (fun y => ex_move _ rfl (ov_in hn (by kernel_rfl))) ?_
              iterate 5 (refine ov_n hn (vj := .bool false) rfl rfl rfl rfl (by kernel_rfl) (by kernel_rfl) ?_)
              iterate 5 (refine ov_n hn (vj := undef) rfl rfl rfl rfl (by kernel_rfl) (by kernel_rfl) ?_)
              iterate 2 (refine ov_n hn (vj := .bool false) rfl rfl rfl rfl (by kernel_rfl) (by kernel_rfl) ?_)
              iterate 13 (refine ov_n hn (vj := undef) rfl rfl rfl rfl (by kernel_rfl) (by kernel_rfl) ?_)
              refine ov_n hn (vj := .bool false) rfl rfl rfl rfl (by kernel_rfl) (by kernel_rfl) ?_
              refine ov_q rfl rfl rfl (v := .bool false) (fun y => ex_pick _ _ _ rfl false (ov_in hn (by kernel_rfl)) ((if_neg (by decide)).trans rfl)) ?_
              refine ov_q rfl rfl rfl (v := .bool false) (fun y => ex_move _ rfl (ov_in hn (by kernel_rfl))) ?_
              refine ov_qg hn rfl rfl rfl rfl (by kernel_rfl) (v := .bool true) (fun y => ex_move _ rfl (ov_out hn (by kernel_rfl) e12)) ?_
              refine ov_qg hn rfl rfl rfl rfl (by kernel_rfl) (v := .bool true) (fun y => ex_move _ rfl (ov_in hn (by kernel_rfl))) ?_
              refine ov_qg hn rfl rfl rfl rfl (by kernel_rfl) (v := .int .i64 (x)) (fun y => ex_move _ rfl (ov_out hn (by kernel_rfl) e10)) ?_
              refine ov_qg hn rfl rfl rfl rfl (by kernel_rfl) (v := .bool false) (fun y => ex_bin _ _ _ _ _ rfl (vx := .int .i64 (x)) (vy := .int .i64 5) (ov_in hn (by kernel_rfl)) rfl (by go_simp) (by go_simp)) ?_
              refine ov_qg hn rfl rfl rfl rfl (by kernel_rfl) (v := .bool false) (fun y => ex_pick _ _ _ rfl true (ov_in hn (by kernel_rfl)) ((if_pos rfl).trans (ov_in hn (by kernel_rfl)))) ?_
              refine ov_qg hn rfl rfl rfl rfl (by kernel_rfl) (v := .bool false) (fun y => ex_move _ rfl (ov_in hn (by kernel_rfl))) ?_
              iterate 2 (refine ov_n hn (vj := .bool false) rfl rfl rfl rfl (by kernel_rfl) (by kernel_rfl) ?_)
              refine ov_qg hn rfl rfl rfl rfl (by kernel_rfl) (v := .bool false) (fun y => ex_pick _ _ _ rfl false (ov_in hn (by kernel_rfl)) ((if_neg (by decide)).trans rfl)) ?_
              refine ov_q rfl rfl rfl (v := .bool false) (fun y => ex_pick _ _ _ rfl false (ov_in hn (by kernel_rfl)) ((if_neg (by decide)).trans (ov_in hn (by kernel_rfl)))) ?_
              refine ov_q rfl rfl rfl (v := .bool false) (fun y => ex_move _ rfl (ov_in hn (by kernel_rfl))) ?_
              refine ov_qg hn rfl rfl rfl rfl (by kernel_rfl) (v := .slice (some ⟨b, off, none⟩) len c) (fun y => ex_move _ rfl (ov_out hn (by kernel_rfl) e1)) ?_
              refine ov_qg hn rfl rfl rfl rfl (by kernel_rfl) (v := .int .i64 (k)) (fun y => ex_move _ rfl (ov_out hn (by kernel_rfl) e7)) ?_
              refine ov_qg hn rfl rfl rfl rfl (by kernel_rfl) (v := .pointer (some ⟨b, off + k * 6, none⟩)) (fun y => ex_index _ _ _ rfl (vx := .slice (some ⟨b, off, none⟩) len c) (vy := .int .i64 (k)) (ov_in hn (by kernel_rfl)) (ov_in hn (by kernel_rfl)) (by go_simp)) ?_
              refine ov_qg hn rfl rfl rfl rfl (by kernel_rfl) (v := .pointer (some ⟨b, off + k * 6, none⟩)) (fun y => ex_field _ _ _ rfl (vx := .pointer (some ⟨b, off + k * 6, none⟩)) (ov_in hn (by kernel_rfl)) (by go_simp)) ?_
              refine ov_qg hn rfl rfl rfl rfl (by kernel_rfl) (v := .int .i64 (2)) (fun y => ex_load _ _ rfl (vx := .pointer (some ⟨b, off + k * 6, none⟩)) (ov_in hn (by kernel_rfl)) (by go_simp)) ?_
              refine ov_qg hn rfl rfl rfl rfl (by kernel_rfl) (v := .bool false) (fun y => ex_bin _ _ _ _ _ rfl (vx := .int .i64 (2)) (vy := .int .i64 7) (ov_in hn (by kernel_rfl)) rfl (by go_simp) (by go_simp)) ?_
              refine ov_qg hn rfl rfl rfl rfl (by kernel_rfl) (v := .bool false) (fun y => ex_move _ rfl (ov_in hn (by kernel_rfl))) ?_
              iterate 4 (refine ov_n hn (vj := .bool false) rfl rfl rfl rfl (by kernel_rfl) (by kernel_rfl) ?_)
              refine ov_qg hn rfl rfl rfl rfl (by kernel_rfl) (v := .bool false) (fun y => ex_pick _ _ _ rfl false (ov_in hn (by kernel_rfl)) ((if_neg (by decide)).trans rfl)) ?_
              refine ov_q rfl rfl rfl (v := .bool false) (fun y => ex_pick _ _ _ rfl false (ov_in hn (by kernel_rfl)) ((if_neg (by decide)).trans (ov_in hn (by kernel_rfl)))) ?_
              refine ov_q rfl rfl rfl (v := .bool false) (fun y => ex_move _ rfl (ov_in hn (by kernel_rfl))) ?_
              refine ov_qg hn rfl rfl rfl rfl (by kernel_rfl) (v := .bool true) (fun y => ex_move _ rfl (ov_out hn (by kernel_rfl) e9)) ?_
              refine ov_qg hn rfl rfl rfl rfl (by kernel_rfl) (v := .bool true) (fun y => ex_move _ rfl (ov_in hn (by kernel_rfl))) ?_
              refine ov_qg hn rfl rfl rfl rfl (by kernel_rfl) (v := .slice (some ⟨b, off, none⟩) len c) (fun y => ex_move _ rfl (ov_out hn (by kernel_rfl) e1)) ?_
              refine ov_qg hn rfl rfl rfl rfl (by kernel_rfl) (v := .int .i64 (k)) (fun y => ex_move _ rfl (ov_out hn (by kernel_rfl) e7)) ?_
              refine ov_qg hn rfl rfl rfl rfl (by kernel_rfl) (v := .pointer (some ⟨b, off + k * 6, none⟩)) (fun y => ex_index _ _ _ rfl (vx := .slice (some ⟨b, off, none⟩) len c) (vy := .int .i64 (k)) (ov_in hn (by kernel_rfl)) (ov_in hn (by kernel_rfl)) (by go_simp)) ?_
              refine ov_qg hn rfl rfl rfl rfl (by kernel_rfl) (v := .pointer (some ⟨b, off + k * 6, none⟩)) (fun y => ex_field _ _ _ rfl (vx := .pointer (some ⟨b, off + k * 6, none⟩)) (ov_in hn (by kernel_rfl)) (by go_simp)) ?_
              refine ov_qg hn rfl rfl rfl rfl (by kernel_rfl) (v := .int .i64 (2)) (fun y => ex_load _ _ rfl (vx := .pointer (some ⟨b, off + k * 6, none⟩)) (ov_in hn (by kernel_rfl)) (by go_simp)) ?_
              refine ov_qg hn rfl rfl rfl rfl (by kernel_rfl) (v := .bool true) (fun y => ex_bin _ _ _ _ _ rfl (vx := .int .i64 (2)) (vy := .int .i64 6) (ov_in hn (by kernel_rfl)) rfl (by go_simp) (by go_simp)) ?_
              refine ov_qg hn rfl rfl rfl rfl (by kernel_rfl) (v := .bool true) (fun y => ex_pick _ _ _ rfl true (ov_in hn (by kernel_rfl)) ((if_pos rfl).trans (ov_in hn (by kernel_rfl)))) ?_
              refine ov_qg hn rfl rfl rfl rfl (by kernel_rfl) (v := .bool true) (fun y => ex_move _ rfl (ov_in hn (by kernel_rfl))) ?_
              refine ov_qg hn rfl rfl rfl rfl (by kernel_rfl) (v := .int .i64 (x)) (fun y => ex_move _ rfl (ov_out hn (by kernel_rfl) e10)) ?_
              refine ov_qg hn rfl rfl rfl rfl (by kernel_rfl) (v := .bool false) (fun y => ex_bin _ _ _ _ _ rfl (vx := .int .i64 (x)) (vy := .int .i64 0) (ov_in hn (by kernel_rfl)) rfl (by go_simp) (by go_simp)) ?_
              refine ov_qg hn rfl rfl rfl rfl (by kernel_rfl) (v := .bool false) (fun y => ex_pick _ _ _ rfl true (ov_in hn (by kernel_rfl)) ((if_pos rfl).trans (ov_in hn (by kernel_rfl)))) ?_
              refine ov_qg hn rfl rfl rfl rfl (by kernel_rfl) (v := .bool false) (fun y => ex_move _ rfl (ov_in hn (by kernel_rfl))) ?_
              iterate 6 (refine ov_n hn (vj := .bool false) rfl rfl rfl rfl (by kernel_rfl) (by kernel_rfl) ?_)
              refine ov_qg hn rfl rfl rfl rfl (by kernel_rfl) (v := .bool false) (fun y => ex_pick _ _ _ rfl false (ov_in hn (by kernel_rfl)) ((if_neg (by decide)).trans rfl)) ?_
              refine ov_q rfl rfl rfl (v := .bool false) (fun y => ex_pick _ _ _ rfl false (ov_in hn (by kernel_rfl)) ((if_neg (by decide)).trans (ov_in hn (by kernel_rfl)))) ?_
              refine plan_end (hK.out _ _ ?_)
              exact hK' _ _ (Met.intro (hJ' _ _ ⟨.bool true, .bool true, .int .i64 (x), .bool false, .bool false, .bool false, undef, undef, undef, undef, undef, undef, undef, undef, undef, undef, undef, undef, undef, undef, undef, undef, undef, undef, undef, undef, undef, undef, undef, undef, undef, undef, .bool false, .bool false, .bool true, .bool true, .int .i64 (x), .bool false, .bool false, .bool false, undef, undef, .bool false, .bool false, .bool false, .slice (some ⟨b, off, none⟩) len c, .int .i64 (k), .pointer (some ⟨b, off + k * 6, none⟩), .pointer (some ⟨b, off + k * 6, none⟩), .int .i64 (2), .bool false, .bool false, undef, undef, undef, undef, .bool false, .bool false, .bool false, .bool true, .bool true, .slice (some ⟨b, off, none⟩) len c, .int .i64 (k), .pointer (some ⟨b, off + k * 6, none⟩), .pointer (some ⟨b, off + k * 6, none⟩), .int .i64 (2), .bool true, .bool true, .bool true, .int .i64 (x), .bool false, .bool false, .bool false, undef, undef, undef, undef, undef, undef, .bool false, .bool false, ⟨rfl, hS⟩, (ov_eq hn _).trans (by rw [HA.out]; kernel_rfl)⟩))
          | false =>
            as_aux_lemma =>
              have c5 : ∀ y : Above Ext wq, y.1.cell? ⟨q5, 0, none⟩ = _ := fun y => (HC.out y.1 (hx.trans y.2)).1
              have k0 : ∀ y : Above Ext wq, y.1.cell? ⟨b, off + k * 6, none⟩ = _ := fun y => (HC.out y.1 (hx.trans y.2)).2.1
              have k1 : ∀ y : Above Ext wq, y.1.cell? ⟨b, off + k * 6 + 1, none⟩ = _ := fun y => (HC.out y.1 (hx.trans y.2)).2.2.1
              have k2 : ∀ y : Above Ext wq, y.1.cell? ⟨b, off + k * 6 + 2, none⟩ = _ := fun y => (HC.out y.1 (hx.trans y.2)).2.2.2
              refine ov_open 201 (by kernel_rfl) ?_
              intro A hn hev hA
              have HA := Lib.hid hA
              clear hA
              have e1 : A.eval (.tmp 1) = .slice (some ⟨b, off, none⟩) len c := (hev 1).trans (by kernel_rfl)
              have e7 : A.eval (.tmp 7) = .int .i64 (k) := (hev 7).trans (by kernel_rfl)
              have e9 : A.eval (.tmp 9) = .bool false := (hev 9).trans (by kernel_rfl)
              have e10 : A.eval (.tmp 10) = .int .i64 (x) := (hev 10).trans (by kernel_rfl)
              have e12 : A.eval (.tmp 12) = .bool true := (hev 12).trans (by kernel_rfl)
              clear hev
              refine ov_q rfl rfl rfl (v := .bool true) (fun y => ex_move _ rfl (ov_out hn (by kernel_rfl) e12)) ?_
              refine ov_q rfl rfl rfl (v := .bool true) (fun y => ex_move _ rfl (ov_in hn (by kernel_rfl))) ?_
              refine ov_qg hn rfl rfl rfl rfl (by kernel_rfl) (v := .int .i64 (x)) (fun y => ex_move _ rfl (ov_out hn (by kernel_rfl) e10)) ?_
              refine ov_qg hn rfl rfl rfl rfl (by kernel_rfl) (v := .bool false) (fun y => ex_bin _ _ _ _ _ rfl (vx := .int .i64 (x)) (vy := .int .i64 0) (ov_in hn (by kernel_rfl)) rfl (by go_simp) (by go_simp)) ?_
              refine ov_q rfl rfl rfl (v := .bool false) (fun y => ex_pick _ _ _ rfl true (ov_in hn (by kernel_rfl)) ((if_pos rfl).trans (ov_in hn (by kernel_rfl)))) ?_
              refine ov_q rfl rfl rfl (v := .bool false) (fun y => ex_move _ rfl (ov_in hn (by kernel_rfl))) ?_
              iterate 5 (refine ov_n hn (vj := .bool false) rfl rfl rfl rfl (by kernel_rfl) (by kernel_rfl) ?_)
              iterate 5 (refine ov_n hn (vj := undef) rfl rfl rfl rfl (by kernel_rfl) (by kernel_rfl) ?_)
              iterate 2 (refine ov_n hn (vj := .bool false) rfl rfl rfl rfl (by kernel_rfl) (by kernel_rfl) ?_)
              iterate 13 (refine ov_n hn (vj := undef) rfl rfl rfl rfl (by kernel_rfl) (by kernel_rfl) ?_)
              refine ov_n hn (vj := .bool false) rfl rfl rfl rfl (by kernel_rfl) (by kernel_rfl) ?_
              refine ov_q rfl rfl rfl (v := .bool false) (fun y => ex_pick _ _ _ rfl false (ov_in hn (by kernel_rfl)) ((if_neg (by decide)).trans rfl)) ?_
              refine ov_q rfl rfl rfl (v := .bool false) (fun y => ex_move _ rfl (ov_in hn (by kernel_rfl))) ?_
              refine ov_qg hn rfl rfl rfl rfl (by kernel_rfl) (v := .bool true) (fun y => ex_move _ rfl (ov_out hn (by kernel_rfl) e12)) ?_
              refine ov_qg hn rfl rfl rfl rfl (by kernel_rfl) (v := .bool true) (fun y => ex_move _ rfl (ov_in hn (by kernel_rfl))) ?_
              refine ov_qg hn rfl rfl rfl rfl (by kernel_rfl) (v := .int .i64 (x)) (fun y => ex_move _ rfl (ov_out hn (by kernel_rfl) e10)) ?_
              refine ov_qg hn rfl rfl rfl rfl (by kernel_rfl) (v := .bool false) (fun y => ex_bin _ _ _ _ _ rfl (vx := .int .i64 (x)) (vy := .int .i64 5) (ov_in hn (by kernel_rfl)) rfl (by go_simp) (by go_simp)) ?_
              refine ov_qg hn rfl rfl rfl rfl (by kernel_rfl) (v := .bool false) (fun y => ex_pick _ _ _ rfl true (ov_in hn (by kernel_rfl)) ((if_pos rfl).trans (ov_in hn (by kernel_rfl)))) ?_
              refine ov_qg hn rfl rfl rfl rfl (by kernel_rfl) (v := .bool false) (fun y => ex_move _ rfl (ov_in hn (by kernel_rfl))) ?_
              iterate 2 (refine ov_n hn (vj := .bool false) rfl rfl rfl rfl (by kernel_rfl) (by kernel_rfl) ?_)
              refine ov_qg hn rfl rfl rfl rfl (by kernel_rfl) (v := .bool false) (fun y => ex_pick _ _ _ rfl false (ov_in hn (by kernel_rfl)) ((if_neg (by decide)).trans rfl)) ?_
              refine ov_q rfl rfl rfl (v := .bool false) (fun y => ex_pick _ _ _ rfl false (ov_in hn (by kernel_rfl)) ((if_neg (by decide)).trans (ov_in hn (by kernel_rfl)))) ?_
              refine ov_q rfl rfl rfl (v := .bool false) (fun y => ex_move _ rfl (ov_in hn (by kernel_rfl))) ?_
              refine ov_qg hn rfl rfl rfl rfl (by kernel_rfl) (v := .slice (some ⟨b, off, none⟩) len c) (fun y => ex_move _ rfl (ov_out hn (by kernel_rfl) e1)) ?_
              refine ov_qg hn rfl rfl rfl rfl (by kernel_rfl) (v := .int .i64 (k)) (fun y => ex_move _ rfl (ov_out hn (by kernel_rfl) e7)) ?_
              refine ov_qg hn rfl rfl rfl rfl (by kernel_rfl) (v := .pointer (some ⟨b, off + k * 6, none⟩)) (fun y => ex_index _ _ _ rfl (vx := .slice (some ⟨b, off, none⟩) len c) (vy := .int .i64 (k)) (ov_in hn (by kernel_rfl)) (ov_in hn (by kernel_rfl)) (by go_simp)) ?_
              refine ov_qg hn rfl rfl rfl rfl (by kernel_rfl) (v := .pointer (some ⟨b, off + k * 6, none⟩)) (fun y => ex_field _ _ _ rfl (vx := .pointer (some ⟨b, off + k * 6, none⟩)) (ov_in hn (by kernel_rfl)) (by go_simp)) ?_
              refine ov_qg hn rfl rfl rfl rfl (by kernel_rfl) (v := .int .i64 (2)) (fun y => ex_load _ _ rfl (vx := .pointer (some ⟨b, off + k * 6, none⟩)) (ov_in hn (by kernel_rfl)) (by go_simp)) ?_
              refine ov_qg hn rfl rfl rfl rfl (by kernel_rfl) (v := .bool false) (fun y => ex_bin _ _ _ _ _ rfl (vx := .int .i64 (2)) (vy := .int .i64 7) (ov_in hn (by kernel_rfl)) rfl (by go_simp) (by go_simp)) ?_
              refine ov_qg hn rfl rfl rfl rfl (by kernel_rfl) (v := .bool false) (fun y => ex_move _ rfl (ov_in hn (by kernel_rfl))) ?_
              iterate 4 (refine ov_n hn (vj := .bool false) rfl rfl rfl rfl (by kernel_rfl) (by kernel_rfl) ?_)
              refine ov_qg hn rfl rfl rfl rfl (by kernel_rfl) (v := .bool false) (fun y => ex_pick _ _ _ rfl false (ov_in hn (by kernel_rfl)) ((if_neg (by decide)).trans rfl)) ?_
              refine ov_q rfl rfl rfl (v := .bool false) (fun y => ex_pick _ _ _ rfl false (ov_in hn (by kernel_rfl)) ((if_neg (by decide)).trans (ov_in hn (by kernel_rfl)))) ?_
              refine ov_q rfl rfl rfl (v := .bool false) (fun y => ex_move _ rfl (ov_in hn (by kernel_rfl))) ?_
              refine ov_qg hn rfl rfl rfl rfl (by kernel_rfl) (v := .bool false) (fun y => ex_move _ rfl (ov_out hn (by kernel_rfl) e9)) ?_
              refine ov_qg hn rfl rfl rfl rfl (by kernel_rfl) (v := .bool false) (fun y => ex_move _ rfl (ov_in hn (by kernel_rfl))) ?_
              iterate 6 (refine ov_n hn (vj := .bool false) rfl rfl rfl rfl (by kernel_rfl) (by kernel_rfl) ?_)
              refine ov_qg hn rfl rfl rfl rfl (by kernel_rfl) (v := .bool false) (fun y => ex_pick _ _ _ rfl false (ov_in hn (by kernel_rfl)) ((if_neg (by decide)).trans rfl)) ?_
              refine ov_qg hn rfl rfl rfl rfl (by kernel_rfl) (v := .bool false) (fun y => ex_move _ rfl (ov_in hn (by kernel_rfl))) ?_
              iterate 2 (refine ov_n hn (vj := .bool false) rfl rfl rfl rfl (by kernel_rfl) (by kernel_rfl) ?_)
              refine ov_qg hn rfl rfl rfl rfl (by kernel_rfl) (v := .bool false) (fun y => ex_pick _ _ _ rfl false (ov_in hn (by kernel_rfl)) ((if_neg (by decide)).trans rfl)) ?_
              refine ov_qg hn rfl rfl rfl rfl (by kernel_rfl) (v := .bool false) (fun y => ex_move _ rfl (ov_in hn (by kernel_rfl))) ?_
              iterate 6 (refine ov_n hn (vj := .bool false) rfl rfl rfl rfl (by kernel_rfl) (by kernel_rfl) ?_)
              refine ov_qg hn rfl rfl rfl rfl (by kernel_rfl) (v := .bool false) (fun y => ex_pick _ _ _ rfl false (ov_in hn (by kernel_rfl)) ((if_neg (by decide)).trans rfl)) ?_
              refine ov_q rfl rfl rfl (v := .bool false) (fun y => ex_pick _ _ _ rfl false (ov_in hn (by kernel_rfl)) ((if_neg (by decide)).trans (ov_in hn (by kernel_rfl)))) ?_
              refine plan_end (hK.out _ _ ?_)
              exact hK' _ _ (Met.intro (hJ' _ _ ⟨.bool true, .bool true, .int .i64 (x), .bool false, .bool false, .bool false, undef, undef, undef, undef, undef, undef, undef, undef, undef, undef, undef, undef, undef, undef, undef, undef, undef, undef, undef, undef, undef, undef, undef, undef, undef, undef, .bool false, .bool false, .bool true, .bool true, .int .i64 (x), .bool false, .bool false, .bool false, undef, undef, .bool false, .bool false, .bool false, .slice (some ⟨b, off, none⟩) len c, .int .i64 (k), .pointer (some ⟨b, off + k * 6, none⟩), .pointer (some ⟨b, off + k * 6, none⟩), .int .i64 (2), .bool false, .bool false, undef, undef, undef, undef, .bool false, .bool false, .bool false, .bool false, .bool false, undef, undef, undef, undef, undef, undef, .bool false, .bool false, undef, undef, .bool false, .bool false, undef, undef, undef, undef, undef, undef, .bool false, .bool false, ⟨rfl, hS⟩, (ov_eq hn _).trans (by rw [HA.out]; kernel_rfl)⟩))
        by_cases kd8 : kind = 8
        · subst kd8
          obtain rfl : true = lays := HL.out
          by_cases hx0 : x = 0
          · subst hx0
            cases was with
            | true =>
              obtain ⟨hTc, hmn, fc, hcf, hlc⟩ := hR.lays (.inr rfl) rfl
              have hfin : sn < fc.fin := st_fin hS.st hcf hlc
              have hfin2 : ¬ fc.fin ≤ sn := by omega
              have hfin3 : decide (fc.fin ≤ sn) = false := by simpa using hfin
              clear hR
              have hre : rm2 = rm ∨ rm2 = rm - 1 := by have := HT.out.1; omega
              clear HT hTc hlc
              rcases hre with rfl | rfl
              · have hre2 : (rm2 == rm2) = true := by simp
                as_aux_lemma =>
                  have c5 : ∀ y : Above Ext wq, y.1.cell? ⟨q5, 0, none⟩ = _ := fun y => (HC.out y.1 (hx.trans y.2)).1
                  have k0 : ∀ y : Above Ext wq, y.1.cell? ⟨b, off + k * 6, none⟩ = _ := fun y => (HC.out y.1 (hx.trans y.2)).2.1
                  have k1 : ∀ y : Above Ext wq, y.1.cell? ⟨b, off + k * 6 + 1, none⟩ = _ := fun y => (HC.out y.1 (hx.trans y.2)).2.2.1
                  have k2 : ∀ y : Above Ext wq, y.1.cell? ⟨b, off + k * 6 + 2, none⟩ = _ := fun y => (HC.out y.1 (hx.trans y.2)).2.2.2
                  refine ov_open 201 (by kernel_rfl) ?_
                  intro A hn hev hA
                  have HA := Lib.hid hA
                  clear hA
                  have e1 : A.eval (.tmp 1) = .slice (some ⟨b, off, none⟩) len c := (hev 1).trans (by kernel_rfl)
                  have e5 : A.eval (.tmp 5) = fptr q5 := (hev 5).trans (by kernel_rfl)
                  have e7 : A.eval (.tmp 7) = .int .i64 (k) := (hev 7).trans (by kernel_rfl)
                  have e8 : A.eval (.tmp 8) = .int .i64 (rm2) := (hev 8).trans (by kernel_rfl)
                  have e9 : A.eval (.tmp 9) = .bool true := (hev 9).trans (by kernel_rfl)
                  have e10 : A.eval (.tmp 10) = .int .i64 (0) := (hev 10).trans (by kernel_rfl)
                  have e12 : A.eval (.tmp 12) = .bool true := (hev 12).trans (by kernel_rfl)
                  clear hev
                  refine ov_q rfl rfl rfl (v := .bool true) (fun y => ex_move _ rfl (ov_out hn (by kernel_rfl) e12)) ?_
                  refine ov_q rfl rfl rfl (v := .bool true) (fun y => ex_move _ rfl (ov_in hn (by kernel_rfl))) ?_
                  refine ov_qg hn rfl rfl rfl rfl (by kernel_rfl) (v := .int .i64 (0)) (fun y => ex_move _ rfl (ov_out hn (by kernel_rfl) e10)) ?_
                  refine ov_qg hn rfl rfl rfl rfl (by kernel_rfl) (v := .bool true) (fun y => ex_bin _ _ _ _ _ rfl (vx := .int .i64 (0)) (vy := .int .i64 0) (ov_in hn (by kernel_rfl)) rfl (by go_simp) (by go_simp)) ?_
                  refine ov_q rfl rfl rfl (v := .bool true) (fun y => ex_pick _ _ _ rfl true (ov_in hn (by kernel_rfl)) ((if_pos rfl).trans (ov_in hn (by kernel_rfl)))) ?_
                  refine ov_q rfl rfl rfl (v := .bool true) (fun y => ex_move _ rfl (ov_in hn (by kernel_rfl))) ?_
                  refine ov_qg hn rfl rfl rfl rfl (by kernel_rfl) (v := fptr d') (fun y => ex_load _ _ rfl (vx := fptr q5) (ov_out hn (by kernel_rfl) e5) (by go_simp)) ?_
                  refine ov_qg hn rfl rfl rfl rfl (by kernel_rfl) (v := .int .i64 (rm2)) (fun y => ex_move _ rfl (ov_out hn (by kernel_rfl) e8)) ?_
                  refine ov_lg hn rfl rfl rfl (by kernel_rfl) ?_
                  intro K2 hK2
                  refine ov_call 22 _ _ rfl rfl #[fptr d'] (map1 (ov_in hn (by kernel_rfl))) (callFunc_run Try.func22 (by kernel_rfl) (by kernel_rfl) _) ?_
                  refine (HR.out _ hS).mono ?_
                  rintro e W2 ⟨rfl, hxr⟩
                  refine ⟨_, rfl, hK2.out _ _ hxr ?_⟩
                  clear hK2 K2
                  clear c5 k0 k1 k2
                  replace hS := hS.ext hxr
                  replace hx := hx.trans hxr
                  clear hxr
                  have c5 : ∀ y : Above Ext W2, y.1.cell? ⟨q5, 0, none⟩ = _ := fun y => (HC.out y.1 (hx.trans y.2)).1
                  have k0 : ∀ y : Above Ext W2, y.1.cell? ⟨b, off + k * 6, none⟩ = _ := fun y => (HC.out y.1 (hx.trans y.2)).2.1
                  have k1 : ∀ y : Above Ext W2, y.1.cell? ⟨b, off + k * 6 + 1, none⟩ = _ := fun y => (HC.out y.1 (hx.trans y.2)).2.2.1
                  have k2 : ∀ y : Above Ext W2, y.1.cell? ⟨b, off + k * 6 + 2, none⟩ = _ := fun y => (HC.out y.1 (hx.trans y.2)).2.2.2
                  refine ov_qg hn rfl rfl rfl rfl (by kernel_rfl) (v := .bool false) (fun y => ex_bin _ _ _ _ _ rfl (vx := .int .i64 (rm2)) (vy := .int .i64 (rm2)) (ov_in hn (by kernel_rfl)) (ov_in hn (by kernel_rfl)) (by go_simp) (by go_simp)) ?_
                  refine ov_qg hn rfl rfl rfl rfl (by kernel_rfl) (v := .bool false) (fun y => ex_move _ rfl (ov_in hn (by kernel_rfl))) ?_
                  iterate 5 (refine ov_n hn (vj := .bool false) rfl rfl rfl rfl (by kernel_rfl) (by kernel_rfl) ?_)
                  refine ov_qg hn rfl rfl rfl rfl (by kernel_rfl) (v := .bool false) (fun y => ex_pick _ _ _ rfl false (ov_in hn (by kernel_rfl)) ((if_neg (by decide)).trans rfl)) ?_
                  refine ov_qg hn rfl rfl rfl rfl (by kernel_rfl) (v := .bool false) (fun y => ex_move _ rfl (ov_in hn (by kernel_rfl))) ?_
                  refine ov_qg hn rfl rfl rfl rfl (by kernel_rfl) (v := fptr d') (fun y => ex_load _ _ rfl (vx := fptr q5) (ov_out hn (by kernel_rfl) e5) (by go_simp)) ?_
                  refine ov_qg hn rfl rfl rfl rfl (by kernel_rfl) (v := .slice (some ⟨b, off, none⟩) len c) (fun y => ex_move _ rfl (ov_out hn (by kernel_rfl) e1)) ?_
                  refine ov_qg hn rfl rfl rfl rfl (by kernel_rfl) (v := .int .i64 (k)) (fun y => ex_move _ rfl (ov_out hn (by kernel_rfl) e7)) ?_
                  refine ov_qg hn rfl rfl rfl rfl (by kernel_rfl) (v := .pointer (some ⟨b, off + k * 6, none⟩)) (fun y => ex_index _ _ _ rfl (vx := .slice (some ⟨b, off, none⟩) len c) (vy := .int .i64 (k)) (ov_in hn (by kernel_rfl)) (ov_in hn (by kernel_rfl)) (by go_simp)) ?_
                  refine ov_qg hn rfl rfl rfl rfl (by kernel_rfl) (v := .pointer (some ⟨b, off + k * 6 + 2, none⟩)) (fun y => ex_field _ _ _ rfl (vx := .pointer (some ⟨b, off + k * 6, none⟩)) (ov_in hn (by kernel_rfl)) (by go_simp)) ?_
                  refine ov_qg hn rfl rfl rfl rfl (by kernel_rfl) (v := nv name) (fun y => ex_load _ _ rfl (vx := .pointer (some ⟨b, off + k * 6 + 2, none⟩)) (ov_in hn (by kernel_rfl)) (by go_simp)) ?_
                  refine ov_qg hn rfl rfl rfl rfl (by kernel_rfl) (v := .slice (some ⟨b, off, none⟩) len c) (fun y => ex_move _ rfl (ov_out hn (by kernel_rfl) e1)) ?_
                  refine ov_qg hn rfl rfl rfl rfl (by kernel_rfl) (v := .int .i64 (k)) (fun y => ex_move _ rfl (ov_out hn (by kernel_rfl) e7)) ?_
                  refine ov_qg hn rfl rfl rfl rfl (by kernel_rfl) (v := .pointer (some ⟨b, off + k * 6, none⟩)) (fun y => ex_index _ _ _ rfl (vx := .slice (some ⟨b, off, none⟩) len c) (vy := .int .i64 (k)) (ov_in hn (by kernel_rfl)) (ov_in hn (by kernel_rfl)) (by go_simp)) ?_
                  refine ov_qg hn rfl rfl rfl rfl (by kernel_rfl) (v := .pointer (some ⟨b, off + k * 6 + 1, none⟩)) (fun y => ex_field _ _ _ rfl (vx := .pointer (some ⟨b, off + k * 6, none⟩)) (ov_in hn (by kernel_rfl)) (by go_simp)) ?_
                  refine ov_qg hn rfl rfl rfl rfl (by kernel_rfl) (v := .int .i64 (sn)) (fun y => ex_load _ _ rfl (vx := .pointer (some ⟨b, off + k * 6 + 1, none⟩)) (ov_in hn (by kernel_rfl)) (by go_simp)) ?_
                  refine ov_lg hn rfl rfl rfl (by kernel_rfl) ?_
                  intro K2 hK2
                  refine ov_call 21 _ _ rfl rfl #[fptr d', nv name] (map2 (ov_in hn (by kernel_rfl)) (ov_in hn (by kernel_rfl))) (callFunc_run Try.func21 (by kernel_rfl) (by kernel_rfl) _) ?_
                  refine (show Calls Try.prog 21 #[fptr d', nv name] _ _ from by have hcn := st_count hS.st name hnl; rw [(countI_of hmn hcf).1] at hcn; exact hcn).mono ?_
                  rintro e W3 ⟨rfl, rfl⟩
                  refine ⟨_, rfl, hK2.out _ _ (Ext.refl _) ?_⟩
                  clear hK2 K2
                  refine ov_qg hn rfl rfl rfl rfl (by kernel_rfl) (v := .bool false) (fun y => ex_bin _ _ _ _ _ rfl (vx := .int .i64 fc.fin) (vy := .int .i64 (sn)) (ov_in hn (by kernel_rfl)) (ov_in hn (by kernel_rfl)) (by go_simp) (by go_simp)) ?_
                  refine ov_qg hn rfl rfl rfl rfl (by kernel_rfl) (v := .bool false) (fun y => ex_pick _ _ _ rfl false (ov_in hn (by kernel_rfl)) ((if_neg (by decide)).trans (ov_in hn (by kernel_rfl)))) ?_
                  refine ov_q rfl rfl rfl (v := .bool false) (fun y => ex_pick _ _ _ rfl true (ov_in hn (by kernel_rfl)) ((if_pos rfl).trans (ov_in hn (by kernel_rfl)))) ?_
                  refine ov_q rfl rfl rfl (v := .bool false) (fun y => ex_move _ rfl (ov_in hn (by kernel_rfl))) ?_
                  refine ov_qg hn rfl rfl rfl rfl (by kernel_rfl) (v := .bool true) (fun y => ex_move _ rfl (ov_out hn (by kernel_rfl) e12)) ?_
                  refine ov_qg hn rfl rfl rfl rfl (by kernel_rfl) (v := .bool true) (fun y => ex_move _ rfl (ov_in hn (by kernel_rfl))) ?_
                  refine ov_qg hn rfl rfl rfl rfl (by kernel_rfl) (v := .int .i64 (0)) (fun y => ex_move _ rfl (ov_out hn (by kernel_rfl) e10)) ?_
                  refine ov_qg hn rfl rfl rfl rfl (by kernel_rfl) (v := .bool false) (fun y => ex_bin _ _ _ _ _ rfl (vx := .int .i64 (0)) (vy := .int .i64 5) (ov_in hn (by kernel_rfl)) rfl (by go_simp) (by go_simp)) ?_
                  refine ov_qg hn rfl rfl rfl rfl (by kernel_rfl) (v := .bool false) (fun y => ex_pick _ _ _ rfl true (ov_in hn (by kernel_rfl)) ((if_pos rfl).trans (ov_in hn (by kernel_rfl)))) ?_
                  refine ov_qg hn rfl rfl rfl rfl (by kernel_rfl) (v := .bool false) (fun y => ex_move _ rfl (ov_in hn (by kernel_rfl))) ?_
                  iterate 2 (refine ov_n hn (vj := .bool false) rfl rfl rfl rfl (by kernel_rfl) (by kernel_rfl) ?_)
                  refine ov_qg hn rfl rfl rfl rfl (by kernel_rfl) (v := .bool false) (fun y => ex_pick _ _ _ rfl false (ov_in hn (by kernel_rfl)) ((if_neg (by decide)).trans rfl)) ?_
                  refine ov_q rfl rfl rfl (v := .bool false) (fun y => ex_pick _ _ _ rfl false (ov_in hn (by kernel_rfl)) ((if_neg (by decide)).trans (ov_in hn (by kernel_rfl)))) ?_
                  refine ov_q rfl rfl rfl (v := .bool false) (fun y => ex_move _ rfl (ov_in hn (by kernel_rfl))) ?_
                  refine ov_qg hn rfl rfl rfl rfl (by kernel_rfl) (v := .slice (some ⟨b, off, none⟩) len c) (fun y => ex_move _ rfl (ov_out hn (by kernel_rfl) e1)) ?_
                  refine ov_qg hn rfl rfl rfl rfl (by kernel_rfl) (v := .int .i64 (k)) (fun y => ex_move _ rfl (ov_out hn (by kernel_rfl) e7)) ?_
                  refine ov_qg hn rfl rfl rfl rfl (by kernel_rfl) (v := .pointer (some ⟨b, off + k * 6, none⟩)) (fun y => ex_index _ _ _ rfl (vx := .slice (some ⟨b, off, none⟩) len c) (vy := .int .i64 (k)) (ov_in hn (by kernel_rfl)) (ov_in hn (by kernel_rfl)) (by go_simp)) ?_
                  refine ov_qg hn rfl rfl rfl rfl (by kernel_rfl) (v := .pointer (some ⟨b, off + k * 6, none⟩)) (fun y => ex_field _ _ _ rfl (vx := .pointer (some ⟨b, off + k * 6, none⟩)) (ov_in hn (by kernel_rfl)) (by go_simp)) ?_
                  refine ov_qg hn rfl rfl rfl rfl (by kernel_rfl) (v := .int .i64 (8)) (fun y => ex_load _ _ rfl (vx := .pointer (some ⟨b, off + k * 6, none⟩)) (ov_in hn (by kernel_rfl)) (by go_simp)) ?_
                  refine ov_qg hn rfl rfl rfl rfl (by kernel_rfl) (v := .bool false) (fun y => ex_bin _ _ _ _ _ rfl (vx := .int .i64 (8)) (vy := .int .i64 7) (ov_in hn (by kernel_rfl)) rfl (by go_simp) (by go_simp)) ?_
                  refine ov_qg hn rfl rfl rfl rfl (by kernel_rfl) (v := .bool false) (fun y => ex_move _ rfl (ov_in hn (by kernel_rfl))) ?_
                  iterate 4 (refine ov_n hn (vj := .bool false) rfl rfl rfl rfl (by kernel_rfl) (by kernel_rfl) ?_)
                  refine ov_qg hn rfl rfl rfl rfl (by kernel_rfl) (v := .bool false) (fun y => ex_pick _ _ _ rfl false (ov_in hn (by kernel_rfl)) ((if_neg (by decide)).trans rfl)) ?_
                  refine ov_q rfl rfl rfl (v := .bool false) (fun y => ex_pick _ _ _ rfl false (ov_in hn (by kernel_rfl)) ((if_neg (by decide)).trans (ov_in hn (by kernel_rfl)))) ?_
                  refine ov_q rfl rfl rfl (v := .bool false) (fun y => ex_move _ rfl (ov_in hn (by kernel_rfl))) ?_
                  refine ov_qg hn rfl rfl rfl rfl (by kernel_rfl) (v := .bool true) (fun y => ex_move _ rfl (ov_out hn (by kernel_rfl) e9)) ?_
                  refine ov_qg hn rfl rfl rfl rfl (by kernel_rfl) (v := .bool true) (fun y => ex_move _ rfl (ov_in hn (by kernel_rfl))) ?_
                  refine ov_qg hn rfl rfl rfl rfl (by kernel_rfl) (v := .slice (some ⟨b, off, none⟩) len c) (fun y => ex_move _ rfl (ov_out hn (by kernel_rfl) e1)) ?_
                  refine ov_qg hn rfl rfl rfl rfl (by kernel_rfl) (v := .int .i64 (k)) (fun y => ex_move _ rfl (ov_out hn (by kernel_rfl) e7)) ?_
                  refine ov_qg hn rfl rfl rfl rfl (by kernel_rfl) (v := .pointer (some ⟨b, off + k * 6, none⟩)) (fun y => ex_index _ _ _ rfl (vx := .slice (some ⟨b, off, none⟩) len c) (vy := .int .i64 (k)) (ov_in hn (by kernel_rfl)) (ov_in hn (by kernel_rfl)) (by go_simp)) ?_
                  refine ov_qg hn rfl rfl rfl rfl (by kernel_rfl) (v := .pointer (some ⟨b, off + k * 6, none⟩)) (fun y => ex_field _ _ _ rfl (vx := .pointer (some ⟨b, off + k * 6, none⟩)) (ov_in hn (by kernel_rfl)) (by go_simp)) ?_
                  refine ov_qg hn rfl rfl rfl rfl (by kernel_rfl) (v := .int .i64 (8)) (fun y => ex_load _ _ rfl (vx := .pointer (some ⟨b, off + k * 6, none⟩)) (ov_in hn (by kernel_rfl)) (by go_simp)) ?_
                  refine ov_qg hn rfl rfl rfl rfl (by kernel_rfl) (v := .bool false) (fun y => ex_bin _ _ _ _ _ rfl (vx := .int .i64 (8)) (vy := .int .i64 6) (ov_in hn (by kernel_rfl)) rfl (by go_simp) (by go_simp)) ?_
                  refine ov_qg hn rfl rfl rfl rfl (by kernel_rfl) (v := .bool false) (fun y => ex_pick _ _ _ rfl true (ov_in hn (by kernel_rfl)) ((if_pos rfl).trans (ov_in hn (by kernel_rfl)))) ?_
                  refine ov_qg hn rfl rfl rfl rfl (by kernel_rfl) (v := .bool false) (fun y => ex_move _ rfl (ov_in hn (by kernel_rfl))) ?_
                  iterate 2 (refine ov_n hn (vj := .bool false) rfl rfl rfl rfl (by kernel_rfl) (by kernel_rfl) ?_)
                  refine ov_qg hn rfl rfl rfl rfl (by kernel_rfl) (v := .bool false) (fun y => ex_pick _ _ _ rfl false (ov_in hn (by kernel_rfl)) ((if_neg (by decide)).trans rfl)) ?_
                  refine ov_qg hn rfl rfl rfl rfl (by kernel_rfl) (v := .bool false) (fun y => ex_move _ rfl (ov_in hn (by kernel_rfl))) ?_
                  iterate 6 (refine ov_n hn (vj := .bool false) rfl rfl rfl rfl (by kernel_rfl) (by kernel_rfl) ?_)
                  refine ov_qg hn rfl rfl rfl rfl (by kernel_rfl) (v := .bool false) (fun y => ex_pick _ _ _ rfl false (ov_in hn (by kernel_rfl)) ((if_neg (by decide)).trans rfl)) ?_
                  refine ov_q rfl rfl rfl (v := .bool false) (fun y => ex_pick _ _ _ rfl false (ov_in hn (by kernel_rfl)) ((if_neg (by decide)).trans (ov_in hn (by kernel_rfl)))) ?_
                  refine plan_end (hK.out _ _ ?_)
                  exact hK' _ _ (Met.intro (hJ' _ _ ⟨.bool true, .bool true, .int .i64 (0), .bool true, .bool true, .bool true, fptr d', .int .i64 (rm2), .int .i64 (rm2), .bool false, .bool false, undef, undef, undef, undef, undef, .bool false, .bool false, fptr d', .slice (some ⟨b, off, none⟩) len c, .int .i64 (k), .pointer (some ⟨b, off + k * 6, none⟩), .pointer (some ⟨b, off + k * 6 + 2, none⟩), nv name, .int .i64 fc.fin, .slice (some ⟨b, off, none⟩) len c, .int .i64 (k), .pointer (some ⟨b, off + k * 6, none⟩), .pointer (some ⟨b, off + k * 6 + 1, none⟩), .int .i64 (sn), .bool false, .bool false, .bool false, .bool false, .bool true, .bool true, .int .i64 (0), .bool false, .bool false, .bool false, undef, undef, .bool false, .bool false, .bool false, .slice (some ⟨b, off, none⟩) len c, .int .i64 (k), .pointer (some ⟨b, off + k * 6, none⟩), .pointer (some ⟨b, off + k * 6, none⟩), .int .i64 (8), .bool false, .bool false, undef, undef, undef, undef, .bool false, .bool false, .bool false, .bool true, .bool true, .slice (some ⟨b, off, none⟩) len c, .int .i64 (k), .pointer (some ⟨b, off + k * 6, none⟩), .pointer (some ⟨b, off + k * 6, none⟩), .int .i64 (8), .bool false, .bool false, .bool false, undef, undef, .bool false, .bool false, undef, undef, undef, undef, undef, undef, .bool false, .bool false, ⟨rfl, hS⟩, (ov_eq hn _).trans (by rw [HA.out]; kernel_rfl)⟩))
              · have hne : ((rm - 1) == rm) = false := by simp; omega
                have hne2 : ¬ rm - 1 = rm := by omega
                have hwr : IntKind.i64.wrap (rm - 1) = rm - 1 := IntWalk.i64_in _ (by omega)
                as_aux_lemma =>
                  have c5 : ∀ y : Above Ext wq, y.1.cell? ⟨q5, 0, none⟩ = _ := fun y => (HC.out y.1 (hx.trans y.2)).1
                  have k0 : ∀ y : Above Ext wq, y.1.cell? ⟨b, off + k * 6, none⟩ = _ := fun y => (HC.out y.1 (hx.trans y.2)).2.1
                  have k1 : ∀ y : Above Ext wq, y.1.cell? ⟨b, off + k * 6 + 1, none⟩ = _ := fun y => (HC.out y.1 (hx.trans y.2)).2.2.1
                  have k2 : ∀ y : Above Ext wq, y.1.cell? ⟨b, off + k * 6 + 2, none⟩ = _ := fun y => (HC.out y.1 (hx.trans y.2)).2.2.2
                  refine ov_open 201 (by kernel_rfl) ?_
                  intro A hn hev hA
                  have HA := Lib.hid hA
                  clear hA
                  have e1 : A.eval (.tmp 1) = .slice (some ⟨b, off, none⟩) len c := (hev 1).trans (by kernel_rfl)
                  have e5 : A.eval (.tmp 5) = fptr q5 := (hev 5).trans (by kernel_rfl)
                  have e7 : A.eval (.tmp 7) = .int .i64 (k) := (hev 7).trans (by kernel_rfl)
                  have e8 : A.eval (.tmp 8) = .int .i64 (rm) := (hev 8).trans (by kernel_rfl)
                  have e9 : A.eval (.tmp 9) = .bool true := (hev 9).trans (by kernel_rfl)
                  have e10 : A.eval (.tmp 10) = .int .i64 (0) := (hev 10).trans (by kernel_rfl)
                  have e12 : A.eval (.tmp 12) = .bool true := (hev 12).trans (by kernel_rfl)
                  clear hev
                  refine ov_q rfl rfl rfl (v := .bool true) (fun y => ex_move _ rfl (ov_out hn (by kernel_rfl) e12)) ?_
                  refine ov_q rfl rfl rfl (v := .bool true) (fun y => ex_move _ rfl (ov_in hn (by kernel_rfl))) ?_
                  refine ov_qg hn rfl rfl rfl rfl (by kernel_rfl) (v := .int .i64 (0)) (fun y => ex_move _ rfl (ov_out hn (by kernel_rfl) e10)) ?_
                  refine ov_qg hn rfl rfl rfl rfl (by kernel_rfl) (v := .bool true) (fun y => ex_bin _ _ _ _ _ rfl (vx := .int .i64 (0)) (vy := .int .i64 0) (ov_in hn (by kernel_rfl)) rfl (by go_simp) (by go_simp)) ?_
                  refine ov_q rfl rfl rfl (v := .bool true) (fun y => ex_pick _ _ _ rfl true (ov_in hn (by kernel_rfl)) ((if_pos rfl).trans (ov_in hn (by kernel_rfl)))) ?_
                  refine ov_q rfl rfl rfl (v := .bool true) (fun y => ex_move _ rfl (ov_in hn (by kernel_rfl))) ?_
                  refine ov_qg hn rfl rfl rfl rfl (by kernel_rfl) (v := fptr d') (fun y => ex_load _ _ rfl (vx := fptr q5) (ov_out hn (by kernel_rfl) e5) (by go_simp)) ?_
                  refine ov_qg hn rfl rfl rfl rfl (by kernel_rfl) (v := .int .i64 (rm)) (fun y => ex_move _ rfl (ov_out hn (by kernel_rfl) e8)) ?_
                  refine ov_lg hn rfl rfl rfl (by kernel_rfl) ?_
                  intro K2 hK2
                  refine ov_call 22 _ _ rfl rfl #[fptr d'] (map1 (ov_in hn (by kernel_rfl))) (callFunc_run Try.func22 (by kernel_rfl) (by kernel_rfl) _) ?_
                  refine (HR.out _ hS).mono ?_
                  rintro e W2 ⟨rfl, hxr⟩
                  refine ⟨_, rfl, hK2.out _ _ hxr ?_⟩
                  clear hK2 K2
                  clear c5 k0 k1 k2
                  replace hS := hS.ext hxr
                  replace hx := hx.trans hxr
                  clear hxr
                  have c5 : ∀ y : Above Ext W2, y.1.cell? ⟨q5, 0, none⟩ = _ := fun y => (HC.out y.1 (hx.trans y.2)).1
                  have k0 : ∀ y : Above Ext W2, y.1.cell? ⟨b, off + k * 6, none⟩ = _ := fun y => (HC.out y.1 (hx.trans y.2)).2.1
                  have k1 : ∀ y : Above Ext W2, y.1.cell? ⟨b, off + k * 6 + 1, none⟩ = _ := fun y => (HC.out y.1 (hx.trans y.2)).2.2.1
                  have k2 : ∀ y : Above Ext W2, y.1.cell? ⟨b, off + k * 6 + 2, none⟩ = _ := fun y => (HC.out y.1 (hx.trans y.2)).2.2.2
                  refine ov_qg hn rfl rfl rfl rfl (by kernel_rfl) (v := .bool true) (fun y => ex_bin _ _ _ _ _ rfl (vx := .int .i64 (rm - 1)) (vy := .int .i64 (rm)) (ov_in hn (by kernel_rfl)) (ov_in hn (by kernel_rfl)) (by go_simp) (by go_simp)) ?_
                  refine ov_qg hn rfl rfl rfl rfl (by kernel_rfl) (v := .bool true) (fun y => ex_move _ rfl (ov_in hn (by kernel_rfl))) ?_
                  refine ov_qg hn rfl rfl rfl rfl (by kernel_rfl) (v := fptr d') (fun y => ex_load _ _ rfl (vx := fptr q5) (ov_out hn (by kernel_rfl) e5) (by go_simp)) ?_
                  refine ov_qg hn rfl rfl rfl rfl (by kernel_rfl) (v := .int .i64 (rm)) (fun y => ex_move _ rfl (ov_out hn (by kernel_rfl) e8)) ?_
                  refine ov_qg hn rfl rfl rfl rfl (by kernel_rfl) (v := .int .i64 (rm - 1)) (fun y => ex_bin _ _ _ _ _ rfl (vx := .int .i64 (rm)) (vy := .int .i64 1) (ov_in hn (by kernel_rfl)) rfl (by go_simp) (by go_simp)) ?_
                  refine ov_lg hn rfl rfl rfl (by kernel_rfl) ?_
                  intro K2 hK2
                  refine ov_call 22 _ _ rfl rfl #[fptr d'] (map1 (ov_in hn (by kernel_rfl))) (callFunc_run Try.func22 (by kernel_rfl) (by kernel_rfl) _) ?_
                  refine (HR.out _ hS).mono ?_
                  rintro e W2 ⟨rfl, hxr⟩
                  refine ⟨_, rfl, hK2.out _ _ hxr ?_⟩
                  clear hK2 K2
                  clear c5 k0 k1 k2
                  replace hS := hS.ext hxr
                  replace hx := hx.trans hxr
                  clear hxr
                  have c5 : ∀ y : Above Ext W2, y.1.cell? ⟨q5, 0, none⟩ = _ := fun y => (HC.out y.1 (hx.trans y.2)).1
                  have k0 : ∀ y : Above Ext W2, y.1.cell? ⟨b, off + k * 6, none⟩ = _ := fun y => (HC.out y.1 (hx.trans y.2)).2.1
                  have k1 : ∀ y : Above Ext W2, y.1.cell? ⟨b, off + k * 6 + 1, none⟩ = _ := fun y => (HC.out y.1 (hx.trans y.2)).2.2.1
                  have k2 : ∀ y : Above Ext W2, y.1.cell? ⟨b, off + k * 6 + 2, none⟩ = _ := fun y => (HC.out y.1 (hx.trans y.2)).2.2.2
                  refine ov_qg hn rfl rfl rfl rfl (by kernel_rfl) (v := .bool false) (fun y => ex_bin _ _ _ _ _ rfl (vx := .int .i64 (rm - 1)) (vy := .int .i64 (rm - 1)) (ov_in hn (by kernel_rfl)) (ov_in hn (by kernel_rfl)) (by go_simp) (by go_simp)) ?_
                  refine ov_qg hn rfl rfl rfl rfl (by kernel_rfl) (v := .bool false) (fun y => ex_pick _ _ _ rfl true (ov_in hn (by kernel_rfl)) ((if_pos rfl).trans (ov_in hn (by kernel_rfl)))) ?_
                  refine ov_qg hn rfl rfl rfl rfl (by kernel_rfl) (v := .bool false) (fun y => ex_move _ rfl (ov_in hn (by kernel_rfl))) ?_
                  refine ov_qg hn rfl rfl rfl rfl (by kernel_rfl) (v := fptr d') (fun y => ex_load _ _ rfl (vx := fptr q5) (ov_out hn (by kernel_rfl) e5) (by go_simp)) ?_
                  refine ov_qg hn rfl rfl rfl rfl (by kernel_rfl) (v := .slice (some ⟨b, off, none⟩) len c) (fun y => ex_move _ rfl (ov_out hn (by kernel_rfl) e1)) ?_
                  refine ov_qg hn rfl rfl rfl rfl (by kernel_rfl) (v := .int .i64 (k)) (fun y => ex_move _ rfl (ov_out hn (by kernel_rfl) e7)) ?_
                  refine ov_qg hn rfl rfl rfl rfl (by kernel_rfl) (v := .pointer (some ⟨b, off + k * 6, none⟩)) (fun y => ex_index _ _ _ rfl (vx := .slice (some ⟨b, off, none⟩) len c) (vy := .int .i64 (k)) (ov_in hn (by kernel_rfl)) (ov_in hn (by kernel_rfl)) (by go_simp)) ?_
                  refine ov_qg hn rfl rfl rfl rfl (by kernel_rfl) (v := .pointer (some ⟨b, off + k * 6 + 2, none⟩)) (fun y => ex_field _ _ _ rfl (vx := .pointer (some ⟨b, off + k * 6, none⟩)) (ov_in hn (by kernel_rfl)) (by go_simp)) ?_
                  refine ov_qg hn rfl rfl rfl rfl (by kernel_rfl) (v := nv name) (fun y => ex_load _ _ rfl (vx := .pointer (some ⟨b, off + k * 6 + 2, none⟩)) (ov_in hn (by kernel_rfl)) (by go_simp)) ?_
                  refine ov_qg hn rfl rfl rfl rfl (by kernel_rfl) (v := .slice (some ⟨b, off, none⟩) len c) (fun y => ex_move _ rfl (ov_out hn (by kernel_rfl) e1)) ?_
                  refine ov_qg hn rfl rfl rfl rfl (by kernel_rfl) (v := .int .i64 (k)) (fun y => ex_move _ rfl (ov_out hn (by kernel_rfl) e7)) ?_
                  refine ov_qg hn rfl rfl rfl rfl (by kernel_rfl) (v := .pointer (some ⟨b, off + k * 6, none⟩)) (fun y => ex_index _ _ _ rfl (vx := .slice (some ⟨b, off, none⟩) len c) (vy := .int .i64 (k)) (ov_in hn (by kernel_rfl)) (ov_in hn (by kernel_rfl)) (by go_simp)) ?_
                  refine ov_qg hn rfl rfl rfl rfl (by kernel_rfl) (v := .pointer (some ⟨b, off + k * 6 + 1, none⟩)) (fun y => ex_field _ _ _ rfl (vx := .pointer (some ⟨b, off + k * 6, none⟩)) (ov_in hn (by kernel_rfl)) (by go_simp)) ?_
                  refine ov_qg hn rfl rfl rfl rfl (by kernel_rfl) (v := .int .i64 (sn)) (fun y => ex_load _ _ rfl (vx := .pointer (some ⟨b, off + k * 6 + 1, none⟩)) (ov_in hn (by kernel_rfl)) (by go_simp)) ?_
                  refine ov_lg hn rfl rfl rfl (by kernel_rfl) ?_
                  intro K2 hK2
                  refine ov_call 21 _ _ rfl rfl #[fptr d', nv name] (map2 (ov_in hn (by kernel_rfl)) (ov_in hn (by kernel_rfl))) (callFunc_run Try.func21 (by kernel_rfl) (by kernel_rfl) _) ?_
                  refine (show Calls Try.prog 21 #[fptr d', nv name] _ _ from by have hcn := st_count hS.st name hnl; rw [(countI_of hmn hcf).1] at hcn; exact hcn).mono ?_
                  rintro e W3 ⟨rfl, rfl⟩
                  refine ⟨_, rfl, hK2.out _ _ (Ext.refl _) ?_⟩
                  clear hK2 K2
                  refine ov_qg hn rfl rfl rfl rfl (by kernel_rfl) (v := .bool false) (fun y => ex_bin _ _ _ _ _ rfl (vx := .int .i64 fc.fin) (vy := .int .i64 (sn)) (ov_in hn (by kernel_rfl)) (ov_in hn (by kernel_rfl)) (by go_simp) (by go_simp)) ?_
                  refine ov_qg hn rfl rfl rfl rfl (by kernel_rfl) (v := .bool false) (fun y => ex_pick _ _ _ rfl false (ov_in hn (by kernel_rfl)) ((if_neg (by decide)).trans (ov_in hn (by kernel_rfl)))) ?_
                  refine ov_q rfl rfl rfl (v := .bool false) (fun y => ex_pick _ _ _ rfl true (ov_in hn (by kernel_rfl)) ((if_pos rfl).trans (ov_in hn (by kernel_rfl)))) ?_
                  refine ov_q rfl rfl rfl (v := .bool false) (fun y => ex_move _ rfl (ov_in hn (by kernel_rfl))) ?_
                  refine ov_qg hn rfl rfl rfl rfl (by kernel_rfl) (v := .bool true) (fun y => ex_move _ rfl (ov_out hn (by kernel_rfl) e12)) ?_
                  refine ov_qg hn rfl rfl rfl rfl (by kernel_rfl) (v := .bool true) (fun y => ex_move _ rfl (ov_in hn (by kernel_rfl))) ?_
                  refine ov_qg hn rfl rfl rfl rfl (by kernel_rfl) (v := .int .i64 (0)) (fun y => ex_move _ rfl (ov_out hn (by kernel_rfl) e10)) ?_
                  refine ov_qg hn rfl rfl rfl rfl (by kernel_rfl) (v := .bool false) (fun y => ex_bin _ _ _ _ _ rfl (vx := .int .i64 (0)) (vy := .int .i64 5) (ov_in hn (by kernel_rfl)) rfl (by go_simp) (by go_simp)) ?_
                  refine ov_qg hn rfl rfl rfl rfl (by kernel_rfl) (v := .bool false) (fun y => ex_pick _ _ _ rfl true (ov_in hn (by kernel_rfl)) ((if_pos rfl).trans (ov_in hn (by kernel_rfl)))) ?_
                  refine ov_qg hn rfl rfl rfl rfl (by kernel_rfl) (v := .bool false) (fun y => ex_move _ rfl (ov_in hn (by kernel_rfl))) ?_
                  iterate 2 (refine ov_n hn (vj := .bool false) rfl rfl rfl rfl (by kernel_rfl) (by kernel_rfl) ?_)
                  refine ov_qg hn rfl rfl rfl rfl (by kernel_rfl) (v := .bool false) (fun y => ex_pick _ _ _ rfl false (ov_in hn (by kernel_rfl)) ((if_neg (by decide)).trans rfl)) ?_
                  refine ov_q rfl rfl rfl (v := .bool false) (fun y => ex_pick _ _ _ rfl false (ov_in hn (by kernel_rfl)) ((if_neg (by decide)).trans (ov_in hn (by kernel_rfl)))) ?_
                  refine ov_q rfl rfl rfl (v := .bool false) (fun y => ex_move _ rfl (ov_in hn (by kernel_rfl))) ?_
                  refine ov_qg hn rfl rfl rfl rfl (by kernel_rfl) (v := .slice (some ⟨b, off, none⟩) len c) (fun y => ex_move _ rfl (ov_out hn (by kernel_rfl) e1)) ?_
                  refine ov_qg hn rfl rfl rfl rfl (by kernel_rfl) (v := .int .i64 (k)) (fun y => ex_move _ rfl (ov_out hn (by kernel_rfl) e7)) ?_
                  refine ov_qg hn rfl rfl rfl rfl (by kernel_rfl) (v := .pointer (some ⟨b, off + k * 6, none⟩)) (fun y => ex_index _ _ _ rfl (vx := .slice (some ⟨b, off, none⟩) len c) (vy := .int .i64 (k)) (ov_in hn (by kernel_rfl)) (ov_in hn (by kernel_rfl)) (by go_simp)) ?_
                  refine ov_qg hn rfl rfl rfl rfl (by kernel_rfl) (v := .pointer (some ⟨b, off + k * 6, none⟩)) (fun y => ex_field _ _ _ rfl (vx := .pointer (some ⟨b, off + k * 6, none⟩)) (ov_in hn (by kernel_rfl)) (by go_simp)) ?_
                  refine ov_qg hn rfl rfl rfl rfl (by kernel_rfl) (v := .int .i64 (8)) (fun y => ex_load _ _ rfl (vx := .pointer (some ⟨b, off + k * 6, none⟩)) (ov_in hn (by kernel_rfl)) (by go_simp)) ?_
                  refine ov_qg hn rfl rfl rfl rfl (by kernel_rfl) (v := .bool false) (fun y => ex_bin _ _ _ _ _ rfl (vx := .int .i64 (8)) (vy := .int .i64 7) (ov_in hn (by kernel_rfl)) rfl (by go_simp) (by go_simp)) ?_
                  refine ov_qg hn rfl rfl rfl rfl (by kernel_rfl) (v := .bool false) (fun y => ex_move _ rfl (ov_in hn (by kernel_rfl))) ?_
                  iterate 4 (refine ov_n hn (vj := .bool false) rfl rfl rfl rfl (by kernel_rfl) (by kernel_rfl) ?_)
                  refine ov_qg hn rfl rfl rfl rfl (by kernel_rfl) (v := .bool false) (fun y => ex_pick _ _ _ rfl false (ov_in hn (by kernel_rfl)) ((if_neg (by decide)).trans rfl)) ?_
                  refine ov_q rfl rfl rfl (v := .bool false) (fun y => ex_pick _ _ _ rfl false (ov_in hn (by kernel_rfl)) ((if_neg (by decide)).trans (ov_in hn (by kernel_rfl)))) ?_
                  refine ov_q rfl rfl rfl (v := .bool false) (fun y => ex_move _ rfl (ov_in hn (by kernel_rfl))) ?_
                  refine ov_qg hn rfl rfl rfl rfl (by kernel_rfl) (v := .bool true) (fun y => ex_move _ rfl (ov_out hn (by kernel_rfl) e9)) ?_
                  refine ov_qg hn rfl rfl rfl rfl (by kernel_rfl) (v := .bool true) (fun y => ex_move _ rfl (ov_in hn (by kernel_rfl))) ?_
                  refine ov_qg hn rfl rfl rfl rfl (by kernel_rfl) (v := .slice (some ⟨b, off, none⟩) len c) (fun y => ex_move _ rfl (ov_out hn (by kernel_rfl) e1)) ?_
                  refine ov_qg hn rfl rfl rfl rfl (by kernel_rfl) (v := .int .i64 (k)) (fun y => ex_move _ rfl (ov_out hn (by kernel_rfl) e7)) ?_
                  refine ov_qg hn rfl rfl rfl rfl (by kernel_rfl) (v := .pointer (some ⟨b, off + k * 6, none⟩)) (fun y => ex_index _ _ _ rfl (vx := .slice (some ⟨b, off, none⟩) len c) (vy := .int .i64 (k)) (ov_in hn (by kernel_rfl)) (ov_in hn (by kernel_rfl)) (by go_simp)) ?_
                  refine ov_qg hn rfl rfl rfl rfl (by kernel_rfl) (v := .pointer (some ⟨b, off + k * 6, none⟩)) (fun y => ex_field _ _ _ rfl (vx := .pointer (some ⟨b, off + k * 6, none⟩)) (ov_in hn (by kernel_rfl)) (by go_simp)) ?_
                  refine ov_qg hn rfl rfl rfl rfl (by kernel_rfl) (v := .int .i64 (8)) (fun y => ex_load _ _ rfl (vx := .pointer (some ⟨b, off + k * 6, none⟩)) (ov_in hn (by kernel_rfl)) (by go_simp)) ?_
                  refine ov_qg hn rfl rfl rfl rfl (by kernel_rfl) (v := .bool false) (fun y => ex_bin _ _ _ _ _ rfl (vx := .int .i64 (8)) (vy := .int .i64 6) (ov_in hn (by kernel_rfl)) rfl (by go_simp) (by go_simp)) ?_
                  refine ov_qg hn rfl rfl rfl rfl (by kernel_rfl) (v := .bool false) (fun y => ex_pick _ _ _ rfl true (ov_in hn (by kernel_rfl)) ((if_pos rfl).trans (ov_in hn (by kernel_rfl)))) ?_
                  refine ov_qg hn rfl rfl rfl rfl (by kernel_rfl) (v := .bool false) (fun y => ex_move _ rfl (ov_in hn (by kernel_rfl))) ?_
                  iterate 2 (refine ov_n hn (vj := .bool false) rfl rfl rfl rfl (by kernel_rfl) (by kernel_rfl) ?_)
                  refine ov_qg hn rfl rfl rfl rfl (by kernel_rfl) (v := .bool false) (fun y => ex_pick _ _ _ rfl false (ov_in hn (by kernel_rfl)) ((if_neg (by decide)).trans rfl)) ?_
                  refine ov_qg hn rfl rfl rfl rfl (by kernel_rfl) (v := .bool false) (fun y => ex_move _ rfl (ov_in hn (by kernel_rfl))) ?_
                  iterate 6 (refine ov_n hn (vj := .bool false) rfl rfl rfl rfl (by kernel_rfl) (by kernel_rfl) ?_)
                  refine ov_qg hn rfl rfl rfl rfl (by kernel_rfl) (v := .bool false) (fun y => ex_pick _ _ _ rfl false (ov_in hn (by kernel_rfl)) ((if_neg (by decide)).trans rfl)) ?_
                  refine ov_q rfl rfl rfl (v := .bool false) (fun y => ex_pick _ _ _ rfl false (ov_in hn (by kernel_rfl)) ((if_neg (by decide)).trans (ov_in hn (by kernel_rfl)))) ?_
                  refine plan_end (hK.out _ _ ?_)
                  exact hK' _ _ (Met.intro (hJ' _ _ ⟨.bool true, .bool true, .int .i64 (0), .bool true, .bool true, .bool true, fptr d', .int .i64 (rm - 1), .int .i64 (rm), .bool true, .bool true, fptr d', .int .i64 (rm - 1), .int .i64 (rm), .int .i64 (rm - 1), .bool false, .bool false, .bool false, fptr d', .slice (some ⟨b, off, none⟩) len c, .int .i64 (k), .pointer (some ⟨b, off + k * 6, none⟩), .pointer (some ⟨b, off + k * 6 + 2, none⟩), nv name, .int .i64 fc.fin, .slice (some ⟨b, off, none⟩) len c, .int .i64 (k), .pointer (some ⟨b, off + k * 6, none⟩), .pointer (some ⟨b, off + k * 6 + 1, none⟩), .int .i64 (sn), .bool false, .bool false, .bool false, .bool false, .bool true, .bool true, .int .i64 (0), .bool false, .bool false, .bool false, undef, undef, .bool false, .bool false, .bool false, .slice (some ⟨b, off, none⟩) len c, .int .i64 (k), .pointer (some ⟨b, off + k * 6, none⟩), .pointer (some ⟨b, off + k * 6, none⟩), .int .i64 (8), .bool false, .bool false, undef, undef, undef, undef, .bool false, .bool false, .bool false, .bool true, .bool true, .slice (some ⟨b, off, none⟩) len c, .int .i64 (k), .pointer (some ⟨b, off + k * 6, none⟩), .pointer (some ⟨b, off + k * 6, none⟩), .int .i64 (8), .bool false, .bool false, .bool false, undef, undef, .bool false, .bool false, undef, undef, undef, undef, undef, undef, .bool false, .bool false, ⟨rfl, hS⟩, (ov_eq hn _).trans (by rw [HA.out]; kernel_rfl)⟩))
            | false =>
              obtain ⟨hTc, hmn, fc, hcf, hlc⟩ := hR.lays (.inr rfl) rfl
              have hfin : sn < fc.fin := st_fin hS.st hcf hlc
              have hfin2 : ¬ fc.fin ≤ sn := by omega
              have hfin3 : decide (fc.fin ≤ sn) = false := by simpa using hfin
              clear hR
              have hre : rm2 = rm ∨ rm2 = rm - 1 := by have := HT.out.1; omega
              clear HT hTc hlc
              rcases hre with rfl | rfl
              · have hre2 : (rm2 == rm2) = true := by simp
                as_aux_lemma =>
                  have c5 : ∀ y : Above Ext wq, y.1.cell? ⟨q5, 0, none⟩ = _ := fun y => (HC.out y.1 (hx.trans y.2)).1
                  have k0 : ∀ y : Above Ext wq, y.1.cell? ⟨b, off + k * 6, none⟩ = _ := fun y => (HC.out y.1 (hx.trans y.2)).2.1
                  have k1 : ∀ y : Above Ext wq, y.1.cell? ⟨b, off + k * 6 + 1, none⟩ = _ := fun y => (HC.out y.1 (hx.trans y.2)).2.2.1
                  have k2 : ∀ y : Above Ext wq, y.1.cell? ⟨b, off + k * 6 + 2, none⟩ = _ := fun y => (HC.out y.1 (hx.trans y.2)).2.2.2
                  refine ov_open 201 (by kernel_rfl) ?_
                  intro A hn hev hA
                  have HA := Lib.hid hA
                  clear hA
                  have e1 : A.eval (.tmp 1) = .slice (some ⟨b, off, none⟩) len c := (hev 1).trans (by kernel_rfl)
                  have e5 : A.eval (.tmp 5) = fptr q5 := (hev 5).trans (by kernel_rfl)
                  have e7 : A.eval (.tmp 7) = .int .i64 (k) := (hev 7).trans (by kernel_rfl)
                  have e8 : A.eval (.tmp 8) = .int .i64 (rm2) := (hev 8).trans (by kernel_rfl)
                  have e9 : A.eval (.tmp 9) = .bool false := (hev 9).trans (by kernel_rfl)
                  have e10 : A.eval (.tmp 10) = .int .i64 (0) := (hev 10).trans (by kernel_rfl)
                  have e12 : A.eval (.tmp 12) = .bool true := (hev 12).trans (by kernel_rfl)
                  clear hev
                  refine ov_q rfl rfl rfl (v := .bool true) (fun y => ex_move _ rfl (ov_out hn (by kernel_rfl) e12)) ?_
                  refine ov_q rfl rfl rfl (v := .bool true) (fun y => ex_move _ rfl (ov_in hn (by kernel_rfl))) ?_
                  refine ov_qg hn rfl rfl rfl rfl (by kernel_rfl) (v := .int .i64 (0)) (fun y => ex_move _ rfl (ov_out hn (by kernel_rfl) e10)) ?_
                  refine ov_qg hn rfl rfl rfl rfl (by kernel_rfl) (v := .bool true) (fun y => ex_bin _ _ _ _ _ rfl (vx := .int .i64 (0)) (vy := .int .i64 0) (ov_in hn (by kernel_rfl)) rfl (by go_simp) (by go_simp)) ?_
                  refine ov_q rfl rfl rfl (v := .bool true) (fun y => ex_pick _ _ _ rfl true (ov_in hn (by kernel_rfl)) ((if_pos rfl).trans (ov_in hn (by kernel_rfl)))) ?_
                  refine ov_q rfl rfl rfl (v := .bool true) (fun y => ex_move _ rfl (ov_in hn (by kernel_rfl))) ?_
                  refine ov_qg hn rfl rfl rfl rfl (by kernel_rfl) (v := fptr d') (fun y => ex_load _ _ rfl (vx := fptr q5) (ov_out hn (by kernel_rfl) e5) (by go_simp)) ?_
                  refine ov_qg hn rfl rfl rfl rfl (by kernel_rfl) (v := .int .i64 (rm2)) (fun y => ex_move _ rfl (ov_out hn (by kernel_rfl) e8)) ?_
                  refine ov_lg hn rfl rfl rfl (by kernel_rfl) ?_
                  intro K2 hK2
                  refine ov_call 22 _ _ rfl rfl #[fptr d'] (map1 (ov_in hn (by kernel_rfl))) (callFunc_run Try.func22 (by kernel_rfl) (by kernel_rfl) _) ?_
                  refine (HR.out _ hS).mono ?_
                  rintro e W2 ⟨rfl, hxr⟩
                  refine ⟨_, rfl, hK2.out _ _ hxr ?_⟩
                  clear hK2 K2
                  clear c5 k0 k1 k2
                  replace hS := hS.ext hxr
                  replace hx := hx.trans hxr
                  clear hxr
                  have c5 : ∀ y : Above Ext W2, y.1.cell? ⟨q5, 0, none⟩ = _ := fun y => (HC.out y.1 (hx.trans y.2)).1
                  have k0 : ∀ y : Above Ext W2, y.1.cell? ⟨b, off + k * 6, none⟩ = _ := fun y => (HC.out y.1 (hx.trans y.2)).2.1
                  have k1 : ∀ y : Above Ext W2, y.1.cell? ⟨b, off + k * 6 + 1, none⟩ = _ := fun y => (HC.out y.1 (hx.trans y.2)).2.2.1
                  have k2 : ∀ y : Above Ext W2, y.1.cell? ⟨b, off + k * 6 + 2, none⟩ = _ := fun y => (HC.out y.1 (hx.trans y.2)).2.2.2
                  refine ov_qg hn rfl rfl rfl rfl (by kernel_rfl) (v := .bool false) (fun y => ex_bin _ _ _ _ _ rfl (vx := .int .i64 (rm2)) (vy := .int .i64 (rm2)) (ov_in hn (by kernel_rfl)) (ov_in hn (by kernel_rfl)) (by go_simp) (by go_simp)) ?_
                  refine ov_qg hn rfl rfl rfl rfl (by kernel_rfl) (v := .bool false) (fun y => ex_move _ rfl (ov_in hn (by kernel_rfl))) ?_
                  iterate 5 (refine ov_n hn (vj := .bool false) rfl rfl rfl rfl (by kernel_rfl) (by kernel_rfl) ?_)
                  refine ov_qg hn rfl rfl rfl rfl (by kernel_rfl) (v := .bool false) (fun y => ex_pick _ _ _ rfl false (ov_in hn (by kernel_rfl)) ((if_neg (by decide)).trans rfl)) ?_
                  refine ov_qg hn rfl rfl rfl rfl (by kernel_rfl) (v := .bool false) (fun y => ex_move _ rfl (ov_in hn (by kernel_rfl))) ?_
                  refine ov_qg hn rfl rfl rfl rfl (by kernel_rfl) (v := fptr d') (fun y => ex_load _ _ rfl (vx := fptr q5) (ov_out hn (by kernel_rfl) e5) (by go_simp)) ?_
                  refine ov_qg hn rfl rfl rfl rfl (by kernel_rfl) (v := .slice (some ⟨b, off, none⟩) len c) (fun y => ex_move _ rfl (ov_out hn (by kernel_rfl) e1)) ?_
                  refine ov_qg hn rfl rfl rfl rfl (by kernel_rfl) (v := .int .i64 (k)) (fun y => ex_move _ rfl (ov_out hn (by kernel_rfl) e7)) ?_
                  refine ov_qg hn rfl rfl rfl rfl (by kernel_rfl) (v := .pointer (some ⟨b, off + k * 6, none⟩)) (fun y => ex_index _ _ _ rfl (vx := .slice (some ⟨b, off, none⟩) len c) (vy := .int .i64 (k)) (ov_in hn (by kernel_rfl)) (ov_in hn (by kernel_rfl)) (by go_simp)) ?_
                  refine ov_qg hn rfl rfl rfl rfl (by kernel_rfl) (v := .pointer (some ⟨b, off + k * 6 + 2, none⟩)) (fun y => ex_field _ _ _ rfl (vx := .pointer (some ⟨b, off + k * 6, none⟩)) (ov_in hn (by kernel_rfl)) (by go_simp)) ?_
                  refine ov_qg hn rfl rfl rfl rfl (by kernel_rfl) (v := nv name) (fun y => ex_load _ _ rfl (vx := .pointer (some ⟨b, off + k * 6 + 2, none⟩)) (ov_in hn (by kernel_rfl)) (by go_simp)) ?_
                  refine ov_qg hn rfl rfl rfl rfl (by kernel_rfl) (v := .slice (some ⟨b, off, none⟩) len c) (fun y => ex_move _ rfl (ov_out hn (by kernel_rfl) e1)) ?_
                  refine ov_qg hn rfl rfl rfl rfl (by kernel_rfl) (v := .int .i64 (k)) (fun y => ex_move _ rfl (ov_out hn (by kernel_rfl) e7)) ?_
                  refine ov_qg hn rfl rfl rfl rfl (by kernel_rfl) (v := .pointer (some ⟨b, off + k * 6, none⟩)) (fun y => ex_index _ _ _ rfl (vx := .slice (some ⟨b, off, none⟩) len c) (vy := .int .i64 (k)) (ov_in hn (by kernel_rfl)) (ov_in hn (by kernel_rfl)) (by go_simp)) ?_
                  refine ov_qg hn rfl rfl rfl rfl (by kernel_rfl) (v := .pointer (some ⟨b, off + k * 6 + 1, none⟩)) (fun y => ex_field _ _ _ rfl (vx := .pointer (some ⟨b, off + k * 6, none⟩)) (ov_in hn (by kernel_rfl)) (by go_simp)) ?_
                  refine ov_qg hn rfl rfl rfl rfl (by kernel_rfl) (v := .int .i64 (sn)) (fun y => ex_load _ _ rfl (vx := .pointer (some ⟨b, off + k * 6 + 1, none⟩)) (ov_in hn (by kernel_rfl)) (by go_simp)) ?_
                  refine ov_lg hn rfl rfl rfl (by kernel_rfl) ?_
                  intro K2 hK2
                  refine ov_call 21 _ _ rfl rfl #[fptr d', nv name] (map2 (ov_in hn (by kernel_rfl)) (ov_in hn (by kernel_rfl))) (callFunc_run Try.func21 (by kernel_rfl) (by kernel_rfl) _) ?_
                  refine (show Calls Try.prog 21 #[fptr d', nv name] _ _ from by have hcn := st_count hS.st name hnl; rw [(countI_of hmn hcf).1] at hcn; exact hcn).mono ?_
                  rintro e W3 ⟨rfl, rfl⟩
                  refine ⟨_, rfl, hK2.out _ _ (Ext.refl _) ?_⟩
                  clear hK2 K2
                  refine ov_qg hn rfl rfl rfl rfl (by kernel_rfl) (v := .bool false) (fun y => ex_bin _ _ _ _ _ rfl (vx := .int .i64 fc.fin) (vy := .int .i64 (sn)) (ov_in hn (by kernel_rfl)) (ov_in hn (by kernel_rfl)) (by go_simp) (by go_simp)) ?_
                  refine ov_qg hn rfl rfl rfl rfl (by kernel_rfl) (v := .bool false) (fun y => ex_pick _ _ _ rfl false (ov_in hn (by kernel_rfl)) ((if_neg (by decide)).trans (ov_in hn (by kernel_rfl)))) ?_
                  refine ov_q rfl rfl rfl (v := .bool false) (fun y => ex_pick _ _ _ rfl true (ov_in hn (by kernel_rfl)) ((if_pos rfl).trans (ov_in hn (by kernel_rfl)))) ?_
                  refine ov_q rfl rfl rfl (v := .bool false) (fun y => ex_move _ rfl (ov_in hn (by kernel_rfl))) ?_
                  refine ov_qg hn rfl rfl rfl rfl (by kernel_rfl) (v := .bool true) (fun y => ex_move _ rfl (ov_out hn (by kernel_rfl) e12)) ?_
                  refine ov_qg hn rfl rfl rfl rfl (by kernel_rfl) (v := .bool true) (fun y => ex_move _ rfl (ov_in hn (by kernel_rfl))) ?_
                  refine ov_qg hn rfl rfl rfl rfl (by kernel_rfl) (v := .int .i64 (0)) (fun y => ex_move _ rfl (ov_out hn (by kernel_rfl) e10)) ?_
                  refine ov_qg hn rfl rfl rfl rfl (by kernel_rfl) (v := .bool false) (fun y => ex_bin _ _ _ _ _ rfl (vx := .int .i64 (0)) (vy := .int .i64 5) (ov_in hn (by kernel_rfl)) rfl (by go_simp) (by go_simp)) ?_
                  refine ov_qg hn rfl rfl rfl rfl (by kernel_rfl) (v := .bool false) (fun y => ex_pick _ _ _ rfl true (ov_in hn (by kernel_rfl)) ((if_pos rfl).trans (ov_in hn (by kernel_rfl)))) ?_
                  refine ov_qg hn rfl rfl rfl rfl (by kernel_rfl) (v := .bool false) (fun y => ex_move _ rfl (ov_in hn (by kernel_rfl))) ?_
                  iterate 2 (refine ov_n hn (vj := .bool false) rfl rfl rfl rfl (by kernel_rfl) (by kernel_rfl) ?_)
                  refine ov_qg hn rfl rfl rfl rfl (by kernel_rfl) (v := .bool false) (fun y => ex_pick _ _ _ rfl false (ov_in hn (by kernel_rfl)) ((if_neg (by decide)).trans rfl)) ?_
                  refine ov_q rfl rfl rfl (v := .bool false) (fun y => ex_pick _ _ _ rfl false (ov_in hn (by kernel_rfl)) ((if_neg (by decide)).trans (ov_in hn (by kernel_rfl)))) ?_
                  refine ov_q rfl rfl rfl (v := .bool false) (fun y => ex_move _ rfl (ov_in hn (by kernel_rfl))) ?_
                  refine ov_qg hn rfl rfl rfl rfl (by kernel_rfl) (v := .slice (some ⟨b, off, none⟩) len c) (fun y => ex_move _ rfl (ov_out hn (by kernel_rfl) e1)) ?_
                  refine ov_qg hn rfl rfl rfl rfl (by kernel_rfl) (v := .int .i64 (k)) (fun y => ex_move _ rfl (ov_out hn (by kernel_rfl) e7)) ?_
                  refine ov_qg hn rfl rfl rfl rfl (by kernel_rfl) (v := .pointer (some ⟨b, off + k * 6, none⟩)) (fun y => ex_index _ _ _ rfl (vx := .slice (some ⟨b, off, none⟩) len c) (vy := .int .i64 (k)) (ov_in hn (by kernel_rfl)) (ov_in hn (by kernel_rfl)) (by go_simp)) ?_
                  refine ov_qg hn rfl rfl rfl rfl (by kernel_rfl) (v := .pointer (some ⟨b, off + k * 6, none⟩)) (fun y => ex_field _ _ _ rfl (vx := .pointer (some ⟨b, off + k * 6, none⟩)) (ov_in hn (by kernel_rfl)) (by go_simp)) ?_
                  refine ov_qg hn rfl rfl rfl rfl (by kernel_rfl) (v := .int .i64 (8)) (fun y => ex_load _ _ rfl (vx := .pointer (some ⟨b, off + k * 6, none⟩)) (ov_in hn (by kernel_rfl)) (by go_simp)) ?_
                  refine ov_qg hn rfl rfl rfl rfl (by kernel_rfl) (v := .bool false) (fun y => ex_bin _ _ _ _ _ rfl (vx := .int .i64 (8)) (vy := .int .i64 7) (ov_in hn (by kernel_rfl)) rfl (by go_simp) (by go_simp)) ?_
                  refine ov_qg hn rfl rfl rfl rfl (by kernel_rfl) (v := .bool false) (fun y => ex_move _ rfl (ov_in hn (by kernel_rfl))) ?_
                  iterate 4 (refine ov_n hn (vj := .bool false) rfl rfl rfl rfl (by kernel_rfl) (by kernel_rfl) ?_)
                  refine ov_qg hn rfl rfl rfl rfl (by kernel_rfl) (v := .bool false) (fun y => ex_pick _ _ _ rfl false (ov_in hn (by kernel_rfl)) ((if_neg (by decide)).trans rfl)) ?_
                  refine ov_q rfl rfl rfl (v := .bool false) (fun y => ex_pick _ _ _ rfl false (ov_in hn (by kernel_rfl)) ((if_neg (by decide)).trans (ov_in hn (by kernel_rfl)))) ?_
                  refine ov_q rfl rfl rfl (v := .bool false) (fun y => ex_move _ rfl (ov_in hn (by kernel_rfl))) ?_
                  refine ov_qg hn rfl rfl rfl rfl (by kernel_rfl) (v := .bool false) (fun y => ex_move _ rfl (ov_out hn (by kernel_rfl) e9)) ?_
                  refine ov_qg hn rfl rfl rfl rfl (by kernel_rfl) (v := .bool false) (fun y => ex_move _ rfl (ov_in hn (by kernel_rfl))) ?_
                  iterate 6 (refine ov_n hn (vj := .bool false) rfl rfl rfl rfl (by kernel_rfl) (by kernel_rfl) ?_)
                  refine ov_qg hn rfl rfl rfl rfl (by kernel_rfl) (v := .bool false) (fun y => ex_pick _ _ _ rfl false (ov_in hn (by kernel_rfl)) ((if_neg (by decide)).trans rfl)) ?_
                  refine ov_qg hn rfl rfl rfl rfl (by kernel_rfl) (v := .bool false) (fun y => ex_move _ rfl (ov_in hn (by kernel_rfl))) ?_
                  iterate 2 (refine ov_n hn (vj := .bool false) rfl rfl rfl rfl (by kernel_rfl) (by kernel_rfl) ?_)
                  refine ov_qg hn rfl rfl rfl rfl (by kernel_rfl) (v := .bool false) (fun y => ex_pick _ _ _ rfl false (ov_in hn (by kernel_rfl)) ((if_neg (by decide)).trans rfl)) ?_
                  refine ov_qg hn rfl rfl rfl rfl (by kernel_rfl) (v := .bool false) (fun y => ex_move _ rfl (ov_in hn (by kernel_rfl))) ?_
                  iterate 6 (refine ov_n hn (vj := .bool false) rfl rfl rfl rfl (by kernel_rfl) (by kernel_rfl) ?_)
                  refine ov_qg hn rfl rfl rfl rfl (by kernel_rfl) (v := .bool false) (fun y => ex_pick _ _ _ rfl false (ov_in hn (by kernel_rfl)) ((if_neg (by decide)).trans rfl)) ?_
                  refine ov_q rfl rfl rfl (v := .bool false) (fun y => ex_pick _ _ _ rfl false (ov_in hn (by kernel_rfl)) ((if_neg (by decide)).trans (ov_in hn (by kernel_rfl)))) ?_
                  refine plan_end (hK.out _ _ ?_)
                  exact hK' _ _ (Met.intro (hJ' _ _ ⟨.bool true, .bool true, .int .i64 (0), .bool true, .bool true, .bool true, fptr d', .int .i64 (rm2), .int .i64 (rm2), .bool false, .bool false, undef, undef, undef, undef, undef, .bool false, .bool false, fptr d', .slice (some ⟨b, off, none⟩) len c, .int .i64 (k), .pointer (some ⟨b, off + k * 6, none⟩), .pointer (some ⟨b, off + k * 6 + 2, none⟩), nv name, .int .i64 fc.fin, .slice (some ⟨b, off, none⟩) len c, .int .i64 (k), .pointer (some ⟨b, off + k * 6, none⟩), .pointer (some ⟨b, off + k * 6 + 1, none⟩), .int .i64 (sn), .bool false, .bool false, .bool false, .bool false, .bool true, .bool true, .int .i64 (0), .bool false, .bool false, .bool false, undef, undef, .bool false, .bool false, .bool false, .slice (some ⟨b, off, none⟩) len c, .int .i64 (k), .pointer (some ⟨b, off + k * 6, none⟩), .pointer (some ⟨b, off + k * 6, none⟩), .int .i64 (8), .bool false, .bool false, undef, undef, undef, undef, .bool false, .bool false, .bool false, .bool false, .bool false, undef, undef, undef, undef, undef, undef, .bool false, .bool false, undef, undef, .bool false, .bool false, undef, undef, undef, undef, undef, undef, .bool false, .bool false, ⟨rfl, hS⟩, (ov_eq hn _).trans (by rw [HA.out]; kernel_rfl)⟩))
              · have hne : ((rm - 1) == rm) = false := by simp; omega
                have hne2 : ¬ rm - 1 = rm := by omega
                have hwr : IntKind.i64.wrap (rm - 1) = rm - 1 := IntWalk.i64_in _ (by omega)
                as_aux_lemma =>
                  have c5 : ∀ y : Above Ext wq, y.1.cell? ⟨q5, 0, none⟩ = _ := fun y => (HC.out y.1 (hx.trans y.2)).1
                  have k0 : ∀ y : Above Ext wq, y.1.cell? ⟨b, off + k * 6, none⟩ = _ := fun y => (HC.out y.1 (hx.trans y.2)).2.1
                  have k1 : ∀ y : Above Ext wq, y.1.cell? ⟨b, off + k * 6 + 1, none⟩ = _ := fun y => (HC.out y.1 (hx.trans y.2)).2.2.1
                  have k2 : ∀ y : Above Ext wq, y.1.cell? ⟨b, off + k * 6 + 2, none⟩ = _ := fun y => (HC.out y.1 (hx.trans y.2)).2.2.2
                  refine ov_open 201 (by kernel_rfl) ?_
                  intro A hn hev hA
                  have HA := Lib.hid hA
                  clear hA
                  have e1 : A.eval (.tmp 1) = .slice (some ⟨b, off, none⟩) len c := (hev 1).trans (by kernel_rfl)
                  have e5 : A.eval (.tmp 5) = fptr q5 := (hev 5).trans (by kernel_rfl)
                  have e7 : A.eval (.tmp 7) = .int .i64 (k) := (hev 7).trans (by kernel_rfl)
                  have e8 : A.eval (.tmp 8) = .int .i64 (rm) := (hev 8).trans (by kernel_rfl)
                  have e9 : A.eval (.tmp 9) = .bool false := (hev 9).trans (by kernel_rfl)
                  have e10 : A.eval (.tmp 10) = .int .i64 (0) := (hev 10).trans (by kernel_rfl)
                  have e12 : A.eval (.tmp 12) = .bool true := (hev 12).trans (by kernel_rfl)
                  clear hev
                  refine ov_q rfl rfl rfl (v := .bool true) (fun y => ex_move _ rfl (ov_out hn (by kernel_rfl) e12)) ?_
                  refine ov_q rfl rfl rfl (v := .bool true) (fun y => ex_move _ rfl (ov_in hn (by kernel_rfl))) ?_
                  refine ov_qg hn rfl rfl rfl rfl (by kernel_rfl) (v := .int .i64 (0)) (fun y => ex_move _ rfl (ov_out hn (by kernel_rfl) e10)) ?_
                  refine ov_qg hn rfl rfl rfl rfl (by kernel_rfl) (v := .bool true) (fun y => ex_bin _ _ _ _ _ rfl (vx := .int .i64 (0)) (vy := .int .i64 0) (ov_in hn (by kernel_rfl)) rfl (by go_simp) (by go_simp)) ?_
                  refine ov_q rfl rfl rfl (v := .bool true) (fun y => ex_pick _ _ _ rfl true (ov_in hn (by kernel_rfl)) ((if_pos rfl).trans (ov_in hn (by kernel_rfl)))) ?_
                  refine ov_q rfl rfl rfl (v := .bool true) (fun y => ex_move _ rfl (ov_in hn (by kernel_rfl))) ?_
                  refine ov_qg hn rfl rfl rfl rfl (by kernel_rfl) (v := fptr d') (fun y => ex_load _ _ rfl (vx := fptr q5) (ov_out hn (by kernel_rfl) e5) (by go_simp)) ?_
                  refine ov_qg hn rfl rfl rfl rfl (by kernel_rfl) (v := .int .i64 (rm)) (fun y => ex_move _ rfl (ov_out hn (by kernel_rfl) e8)) ?_
                  refine ov_lg hn rfl rfl rfl (by kernel_rfl) ?_
                  intro K2 hK2
                  refine ov_call 22 _ _ rfl rfl #[fptr d'] (map1 (ov_in hn (by kernel_rfl))) (callFunc_run Try.func22 (by kernel_rfl) (by kernel_rfl) _) ?_
                  refine (HR.out _ hS).mono ?_
                  rintro e W2 ⟨rfl, hxr⟩
                  refine ⟨_, rfl, hK2.out _ _ hxr ?_⟩
                  clear hK2 K2
                  clear c5 k0 k1 k2
                  replace hS := hS.ext hxr
                  replace hx := hx.trans hxr
                  clear hxr
                  have c5 : ∀ y : Above Ext W2, y.1.cell? ⟨q5, 0, none⟩ = _ := fun y => (HC.out y.1 (hx.trans y.2)).1
                  have k0 : ∀ y : Above Ext W2, y.1.cell? ⟨b, off + k * 6, none⟩ = _ := fun y => (HC.out y.1 (hx.trans y.2)).2.1
                  have k1 : ∀ y : Above Ext W2, y.1.cell? ⟨b, off + k * 6 + 1, none⟩ = _ := fun y => (HC.out y.1 (hx.trans y.2)).2.2.1
                  have k2 : ∀ y : Above Ext W2, y.1.cell? ⟨b, off + k * 6 + 2, none⟩ = _ := fun y => (HC.out y.1 (hx.trans y.2)).2.2.2
                  refine ov_qg hn rfl rfl rfl rfl (by kernel_rfl) (v := .bool true) (fun y => ex_bin _ _ _ _ _ rfl (vx := .int .i64 (rm - 1)) (vy := .int .i64 (rm)) (ov_in hn (by kernel_rfl)) (ov_in hn (by kernel_rfl)) (by go_simp) (by go_simp)) ?_
                  refine ov_qg hn rfl rfl rfl rfl (by kernel_rfl) (v := .bool true) (fun y => ex_move _ rfl (ov_in hn (by kernel_rfl))) ?_
                  refine ov_qg hn rfl rfl rfl rfl (by kernel_rfl) (v := fptr d') (fun y => ex_load _ _ rfl (vx := fptr q5) (ov_out hn (by kernel_rfl) e5) (by go_simp)) ?_
                  refine ov_qg hn rfl rfl rfl rfl (by kernel_rfl) (v := .int .i64 (rm)) (fun y => ex_move _ rfl (ov_out hn (by kernel_rfl) e8)) ?_
                  refine ov_qg hn rfl rfl rfl rfl (by kernel_rfl) (v := .int .i64 (rm - 1)) (fun y => ex_bin _ _ _ _ _ rfl (vx := .int .i64 (rm)) (vy := .int .i64 1) (ov_in hn (by kernel_rfl)) rfl (by go_simp) (by go_simp)) ?_
                  refine ov_lg hn rfl rfl rfl (by kernel_rfl) ?_
                  intro K2 hK2
                  refine ov_call 22 _ _ rfl rfl #[fptr d'] (map1 (ov_in hn (by kernel_rfl))) (callFunc_run Try.func22 (by kernel_rfl) (by kernel_rfl) _) ?_
                  refine (HR.out _ hS).mono ?_
                  rintro e W2 ⟨rfl, hxr⟩
                  refine ⟨_, rfl, hK2.out _ _ hxr ?_⟩
                  clear hK2 K2
                  clear c5 k0 k1 k2
                  replace hS := hS.ext hxr
                  replace hx := hx.trans hxr
                  clear hxr
                  have c5 : ∀ y : Above Ext W2, y.1.cell? ⟨q5, 0, none⟩ = _ := fun y => (HC.out y.1 (hx.trans y.2)).1
                  have k0 : ∀ y : Above Ext W2, y.1.cell? ⟨b, off + k * 6, none⟩ = _ := fun y => (HC.out y.1 (hx.trans y.2)).2.1
                  have k1 : ∀ y : Above Ext W2, y.1.cell? ⟨b, off + k * 6 + 1, none⟩ = _ := fun y => (HC.out y.1 (hx.trans y.2)).2.2.1
                  have k2 : ∀ y : Above Ext W2, y.1.cell? ⟨b, off + k * 6 + 2, none⟩ = _ := fun y => (HC.out y.1 (hx.trans y.2)).2.2.2
                  refine ov_qg hn rfl rfl rfl rfl (by kernel_rfl) (v := .bool false) (fun y => ex_bin _ _ _ _ _ rfl (vx := .int .i64 (rm - 1)) (vy := .int .i64 (rm - 1)) (ov_in hn (by kernel_rfl)) (ov_in hn (by kernel_rfl)) (by go_simp) (by go_simp)) ?_
                  refine ov_qg hn rfl rfl rfl rfl (by kernel_rfl) (v := .bool false) (fun y => ex_pick _ _ _ rfl true (ov_in hn (by kernel_rfl)) ((if_pos rfl).trans (ov_in hn (by kernel_rfl)))) ?_
                  refine ov_qg hn rfl rfl rfl rfl (by kernel_rfl) (v := .bool false) (fun y => ex_move _ rfl (ov_in hn (by kernel_rfl))) ?_
                  refine ov_qg hn rfl rfl rfl rfl (by kernel_rfl) (v := fptr d') (fun y => ex_load _ _ rfl (vx := fptr q5) (ov_out hn (by kernel_rfl) e5) (by go_simp)) ?_
                  refine ov_qg hn rfl rfl rfl rfl (by kernel_rfl) (v := .slice (some ⟨b, off, none⟩) len c) (fun y => ex_move _ rfl (ov_out hn (by kernel_rfl) e1)) ?_
                  refine ov_qg hn rfl rfl rfl rfl (by kernel_rfl) (v := .int .i64 (k)) (fun y => ex_move _ rfl (ov_out hn (by kernel_rfl) e7)) ?_
                  refine ov_qg hn rfl rfl rfl rfl (by kernel_rfl) (v := .pointer (some ⟨b, off + k * 6, none⟩)) (fun y => ex_index _ _ _ rfl (vx := .slice (some ⟨b, off, none⟩) len c) (vy := .int .i64 (k)) (ov_in hn (by kernel_rfl)) (ov_in hn (by kernel_rfl)) (by go_simp)) ?_
                  refine ov_qg hn rfl rfl rfl rfl (by kernel_rfl) (v := .pointer (some ⟨b, off + k * 6 + 2, none⟩)) (fun y => ex_field _ _ _ rfl (vx := .pointer (some ⟨b, off + k * 6, none⟩)) (ov_in hn (by kernel_rfl)) (by go_simp)) ?_
                  refine ov_qg hn rfl rfl rfl rfl (by kernel_rfl) (v := nv name) (fun y => ex_load _ _ rfl (vx := .pointer (some ⟨b, off + k * 6 + 2, none⟩)) (ov_in hn (by kernel_rfl)) (by go_simp)) ?_
                  refine ov_qg hn rfl rfl rfl rfl (by kernel_rfl) (v := .slice (some ⟨b, off, none⟩) len c) (fun y => ex_move _ rfl (ov_out hn (by kernel_rfl) e1)) ?_
                  refine ov_qg hn rfl rfl rfl rfl (by kernel_rfl) (v := .int .i64 (k)) (fun y => ex_move _ rfl (ov_out hn (by kernel_rfl) e7)) ?_
                  refine ov_qg hn rfl rfl rfl rfl (by kernel_rfl) (v := .pointer (some ⟨b, off + k * 6, none⟩)) (fun y => ex_index _ _ _ rfl (vx := .slice (some ⟨b, off, none⟩) len c) (vy := .int .i64 (k)) (ov_in hn (by kernel_rfl)) (ov_in hn (by kernel_rfl)) (by go_simp)) ?_
                  refine ov_qg hn rfl rfl rfl rfl (by kernel_rfl) (v := .pointer (some ⟨b, off + k * 6 + 1, none⟩)) (fun y => ex_field _ _ _ rfl (vx := .pointer (some ⟨b, off + k * 6, none⟩)) (ov_in hn (by kernel_rfl)) (by go_simp)) ?_
                  refine ov_qg hn rfl rfl rfl rfl (by kernel_rfl) (v := .int .i64 (sn)) (fun y => ex_load _ _ rfl (vx := .pointer (some ⟨b, off + k * 6 + 1, none⟩)) (ov_in hn (by kernel_rfl)) (by go_simp)) ?_
                  refine ov_lg hn rfl rfl rfl (by kernel_rfl) ?_
                  intro K2 hK2
                  refine ov_call 21 _ _ rfl rfl #[fptr d', nv name] (map2 (ov_in hn (by kernel_rfl)) (ov_in hn (by kernel_rfl))) (callFunc_run Try.func21 (by kernel_rfl) (by kernel_rfl) _) ?_
                  refine (show Calls Try.prog 21 #[fptr d', nv name] _ _ from by have hcn := st_count hS.st name hnl; rw [(countI_of hmn hcf).1] at hcn; exact hcn).mono ?_
                  rintro e W3 ⟨rfl, rfl⟩
                  refine ⟨_, rfl, hK2.out _ _ (Ext.refl _) ?_⟩
                  clear hK2 K2
                  refine ov_qg hn rfl rfl rfl rfl (by kernel_rfl) (v := .bool false) (fun y => ex_bin _ _ _ _ _ rfl (vx := .int .i64 fc.fin) (vy := .int .i64 (sn)) (ov_in hn (by kernel_rfl)) (ov_in hn (by kernel_rfl)) (by go_simp) (by go_simp)) ?_
                  refine ov_qg hn rfl rfl rfl rfl (by kernel_rfl) (v := .bool false) (fun y => ex_pick _ _ _ rfl false (ov_in hn (by kernel_rfl)) ((if_neg (by decide)).trans (ov_in hn (by kernel_rfl)))) ?_
                  refine ov_q rfl rfl rfl (v := .bool false) (fun y => ex_pick _ _ _ rfl true (ov_in hn (by kernel_rfl)) ((if_pos rfl).trans (ov_in hn (by kernel_rfl)))) ?_
                  refine ov_q rfl rfl rfl (v := .bool false) (fun y => ex_move _ rfl (ov_in hn (by kernel_rfl))) ?_
                  refine ov_qg hn rfl rfl rfl rfl (by kernel_rfl) (v := .bool true) (fun y => ex_move _ rfl (ov_out hn (by kernel_rfl) e12)) ?_
                  refine ov_qg hn rfl rfl rfl rfl (by kernel_rfl) (v := .bool true) (fun y => ex_move _ rfl (ov_in hn (by kernel_rfl))) ?_
                  refine ov_qg hn rfl rfl rfl rfl (by kernel_rfl) (v := .int .i64 (0)) (fun y => ex_move _ rfl (ov_out hn (by kernel_rfl) e10)) ?_
                  refine ov_qg hn rfl rfl rfl rfl (by kernel_rfl) (v := .bool false) (fun y => ex_bin _ _ _ _ _ rfl (vx := .int .i64 (0)) (vy := .int .i64 5) (ov_in hn (by kernel_rfl)) rfl (by go_simp) (by go_simp)) ?_
                  refine ov_qg hn rfl rfl rfl rfl (by kernel_rfl) (v := .bool false) (fun y => ex_pick _ _ _ rfl true (ov_in hn (by kernel_rfl)) ((if_pos rfl).trans (ov_in hn (by kernel_rfl)))) ?_
                  refine ov_qg hn rfl rfl rfl rfl (by kernel_rfl) (v := .bool false) (fun y => ex_move _ rfl (ov_in hn (by kernel_rfl))) ?_
                  iterate 2 (refine ov_n hn (vj := .bool false) rfl rfl rfl rfl (by kernel_rfl) (by kernel_rfl) ?_)
                  refine ov_qg hn rfl rfl rfl rfl (by kernel_rfl) (v := .bool false) (fun y => ex_pick _ _ _ rfl false (ov_in hn (by kernel_rfl)) ((if_neg (by decide)).trans rfl)) ?_
                  refine ov_q rfl rfl rfl (v := .bool false) (fun y => ex_pick _ _ _ rfl false (ov_in hn (by kernel_rfl)) ((if_neg (by decide)).trans (ov_in hn (by kernel_rfl)))) ?_
                  refine ov_q rfl rfl rfl (v := .bool false) (fun y => ex_move _ rfl (ov_in hn (by kernel_rfl))) ?_
                  refine ov_qg hn rfl rfl rfl rfl (by kernel_rfl) (v := .slice (some ⟨b, off, none⟩) len c) (fun y => ex_move _ rfl (ov_out hn (by kernel_rfl) e1)) ?_
                  refine ov_qg hn rfl rfl rfl rfl (by kernel_rfl) (v := .int .i64 (k)) (fun y => ex_move _ rfl (ov_out hn (by kernel_rfl) e7)) ?_
                  refine ov_qg hn rfl rfl rfl rfl (by kernel_rfl) (v := .pointer (some ⟨b, off + k * 6, none⟩)) (fun y => ex_index _ _ _ rfl (vx := .slice (some ⟨b, off, none⟩) len c) (vy := .int .i64 (k)) (ov_in hn (by kernel_rfl)) (ov_in hn (by kernel_rfl)) (by go_simp)) ?_
                  refine ov_qg hn rfl rfl rfl rfl (by kernel_rfl) (v := .pointer (some ⟨b, off + k * 6, none⟩)) (fun y => ex_field _ _ _ rfl (vx := .pointer (some ⟨b, off + k * 6, none⟩)) (ov_in hn (by kernel_rfl)) (by go_simp)) ?_
                  refine ov_qg hn rfl rfl rfl rfl (by kernel_rfl) (v := .int .i64 (8)) (fun y => ex_load _ _ rfl (vx := .pointer (some ⟨b, off + k * 6, none⟩)) (ov_in hn (by kernel_rfl)) (by go_simp)) ?_
                  refine ov_qg hn rfl rfl rfl rfl (by kernel_rfl) (v := .bool false) (fun y => ex_bin _ _ _ _ _ rfl (vx := .int .i64 (8)) (vy := .int .i64 7) (ov_in hn (by kernel_rfl)) rfl (by go_simp) (by go_simp)) ?_
                  refine ov_qg hn rfl rfl rfl rfl (by kernel_rfl) (v := .bool false) (fun y => ex_move _ rfl (ov_in hn (by kernel_rfl))) ?_
                  iterate 4 (refine ov_n hn (vj := .bool false) rfl rfl rfl rfl (by kernel_rfl) (by kernel_rfl) ?_)
                  refine ov_qg hn rfl rfl rfl rfl (by kernel_rfl) (v := .bool false) (fun y => ex_pick _ _ _ rfl false (ov_in hn (by kernel_rfl)) ((if_neg (by decide)).trans rfl)) ?_
                  refine ov_q rfl rfl rfl (v := .bool false) (fun y => ex_pick _ _ _ rfl false (ov_in hn (by kernel_rfl)) ((if_neg (by decide)).trans (ov_in hn (by kernel_rfl)))) ?_
                  refine ov_q rfl rfl rfl (v := .bool false) (fun y => ex_move _ rfl (ov_in hn (by kernel_rfl))) ?_
                  refine ov_qg hn rfl rfl rfl rfl (by kernel_rfl) (v := .bool false) (fun y => ex_move _ rfl (ov_out hn (by kernel_rfl) e9)) ?_
                  refine ov_qg hn rfl rfl rfl rfl (by kernel_rfl) (v := .bool false) (fun y => ex_move _ rfl (ov_in hn (by kernel_rfl))) ?_
                  iterate 6 (refine ov_n hn (vj := .bool false) rfl rfl rfl rfl (by kernel_rfl) (by kernel_rfl) ?_)
                  refine ov_qg hn rfl rfl rfl rfl (by kernel_rfl) (v := .bool false) (fun y => ex_pick _ _ _ rfl false (ov_in hn (by kernel_rfl)) ((if_neg (by decide)).trans rfl)) ?_
                  refine ov_qg hn rfl rfl rfl rfl (by kernel_rfl) (v := .bool false) (fun y => ex_move _ rfl (ov_in hn (by kernel_rfl))) ?_
                  iterate 2 (refine ov_n hn (vj := .bool false) rfl rfl rfl rfl (by kernel_rfl) (by kernel_rfl) ?_)
                  refine ov_qg hn rfl rfl rfl rfl (by kernel_rfl) (v := .bool false) (fun y => ex_pick _ _ _ rfl false (ov_in hn (by kernel_rfl)) ((if_neg (by decide)).trans rfl)) ?_
                  refine ov_qg hn rfl rfl rfl rfl (by kernel_rfl) (v := .bool false) (fun y => ex_move _ rfl (ov_in hn (by kernel_rfl))) ?_
                  iterate 6 (refine ov_n hn (vj := .bool false) rfl rfl rfl rfl (by kernel_rfl) (by kernel_rfl) ?_)
                  refine ov_qg hn rfl rfl rfl rfl (by kernel_rfl) (v := .bool false) (fun y => ex_pick _ _ _ rfl false (ov_in hn (by kernel_rfl)) ((if_neg (by decide)).trans rfl)) ?_
                  refine ov_q rfl rfl rfl (v := .bool false) (fun y => ex_pick _ _ _ rfl false (ov_in hn (by kernel_rfl)) ((if_neg (by decide)).trans (ov_in hn (by kernel_rfl)))) ?_
                  refine plan_end (hK.out _ _ ?_)
                  exact hK' _ _ (Met.intro (hJ' _ _ ⟨.bool true, .bool true, .int .i64 (0), .bool true, .bool true, .bool true, fptr d', .int .i64 (rm - 1), .int .i64 (rm), .bool true, .bool true, fptr d', .int .i64 (rm - 1), .int .i64 (rm), .int .i64 (rm - 1), .bool false, .bool false, .bool false, fptr d', .slice (some ⟨b, off, none⟩) len c, .int .i64 (k), .pointer (some ⟨b, off + k * 6, none⟩), .pointer (some ⟨b, off + k * 6 + 2, none⟩), nv name, .int .i64 fc.fin, .slice (some ⟨b, off, none⟩) len c, .int .i64 (k), .pointer (some ⟨b, off + k * 6, none⟩), .pointer (some ⟨b, off + k * 6 + 1, none⟩), .int .i64 (sn), .bool false, .bool false, .bool false, .bool false, .bool true, .bool true, .int .i64 (0), .bool false, .bool false, .bool false, undef, undef, .bool false, .bool false, .bool false, .slice (some ⟨b, off, none⟩) len c, .int .i64 (k), .pointer (some ⟨b, off + k * 6, none⟩), .pointer (some ⟨b, off + k * 6, none⟩), .int .i64 (8), .bool false, .bool false, undef, undef, undef, undef, .bool false, .bool false, .bool false, .bool false, .bool false, undef, undef, undef, undef, undef, undef, .bool false, .bool false, undef, undef, .bool false, .bool false, undef, undef, undef, undef, undef, undef, .bool false, .bool false, ⟨rfl, hS⟩, (ov_eq hn _).trans (by rw [HA.out]; kernel_rfl)⟩))
          have ex0 : (x == 0) = false := by simpa using hx0
          by_cases hx5 : x = 5
          · subst hx5
            have hz : rm = 0 := by have := hR.full (.inr rfl) rfl; have := HT.out.2.1; omega
            subst hz
            clear hR HT
            cases was with
            | true =>
              as_aux_lemma =>
                have c5 : ∀ y : Above Ext wq, y.1.cell? ⟨q5, 0, none⟩ = _ := fun y => (HC.out y.1 (hx.trans y.2)).1
                have k0 : ∀ y : Above Ext wq, y.1.cell? ⟨b, off + k * 6, none⟩ = _ := fun y => (HC.out y.1 (hx.trans y.2)).2.1
                have k1 : ∀ y : Above Ext wq, y.1.cell? ⟨b, off + k * 6 + 1, none⟩ = _ := fun y => (HC.out y.1 (hx.trans y.2)).2.2.1
                have k2 : ∀ y : Above Ext wq, y.1.cell? ⟨b, off + k * 6 + 2, none⟩ = _ := fun y => (HC.out y.1 (hx.trans y.2)).2.2.2
                refine ov_open 201 (by kernel_rfl) ?_
                intro A hn hev hA
                have HA := Lib.hid hA
                clear hA
                have e1 : A.eval (.tmp 1) = .slice (some ⟨b, off, none⟩) len c := (hev 1).trans (by kernel_rfl)
                have e7 : A.eval (.tmp 7) = .int .i64 (k) := (hev 7).trans (by kernel_rfl)
                have e8 : A.eval (.tmp 8) = .int .i64 (0) := (hev 8).trans (by kernel_rfl)
                have e9 : A.eval (.tmp 9) = .bool true := (hev 9).trans (by kernel_rfl)
                have e10 : A.eval (.tmp 10) = .int .i64 (5) := (hev 10).trans (by kernel_rfl)
                have e12 : A.eval (.tmp 12) = .bool true := (hev 12).trans (by kernel_rfl)
                clear hev
                refine ov_q rfl rfl rfl (v := .bool true) (fun y => ex_move _ rfl (ov_out hn (by kernel_rfl) e12)) ?_
                refine ov_q rfl rfl rfl (v := .bool true) (fun y => ex_move _ rfl (ov_in hn (by kernel_rfl))) ?_
                refine ov_qg hn rfl rfl rfl rfl (by kernel_rfl) (v := .int .i64 (5)) (fun y => ex_move _ rfl (ov_out hn (by kernel_rfl) e10)) ?_
                refine ov_qg hn rfl rfl rfl rfl (by kernel_rfl) (v := .bool false) (fun y => ex_bin _ _ _ _ _ rfl (vx := .int .i64 (5)) (vy := .int .i64 0) (ov_in hn (by kernel_rfl)) rfl (by go_simp) (by go_simp)) ?_
                refine ov_q rfl rfl rfl (v := .bool false) (fun y => ex_pick _ _ _ rfl true (ov_in hn (by kernel_rfl)) ((if_pos rfl).trans (ov_in hn (by kernel_rfl)))) ?_
                refine ov_q rfl rfl rfl (v := .bool false) (fun y => ex_move _ rfl (ov_in hn (by kernel_rfl))) ?_
                iterate 5 (refine ov_n hn (vj := .bool false) rfl rfl rfl rfl (by kernel_rfl) (by kernel_rfl) ?_)
                iterate 5 (refine ov_n hn (vj := undef) rfl rfl rfl rfl (by kernel_rfl) (by kernel_rfl) ?_)
                iterate 2 (refine ov_n hn (vj := .bool false) rfl rfl rfl rfl (by kernel_rfl) (by kernel_rfl) ?_)
                iterate 13 (refine ov_n hn (vj := undef) rfl rfl rfl rfl (by kernel_rfl) (by kernel_rfl) ?_)
                refine ov_n hn (vj := .bool false) rfl rfl rfl rfl (by kernel_rfl) (by kernel_rfl) ?_
                refine ov_q rfl rfl rfl (v := .bool false) (fun y => ex_pick _ _ _ rfl false (ov_in hn (by kernel_rfl)) ((if_neg (by decide)).trans rfl)) ?_
                refine ov_q rfl rfl rfl (v := .bool false) (fun y => ex_move _ rfl (ov_in hn (by kernel_rfl))) ?_
                refine ov_qg hn rfl rfl rfl rfl (by kernel_rfl) (v := .bool true) (fun y => ex_move _ rfl (ov_out hn (by kernel_rfl) e12)) ?_
                refine ov_qg hn rfl rfl rfl rfl (by kernel_rfl) (v := .bool true) (fun y => ex_move _ rfl (ov_in hn (by kernel_rfl))) ?_
                refine ov_qg hn rfl rfl rfl rfl (by kernel_rfl) (v := .int .i64 (5)) (fun y => ex_move _ rfl (ov_out hn (by kernel_rfl) e10)) ?_
                refine ov_qg hn rfl rfl rfl rfl (by kernel_rfl) (v := .bool true) (fun y => ex_bin _ _ _ _ _ rfl (vx := .int .i64 (5)) (vy := .int .i64 5) (ov_in hn (by kernel_rfl)) rfl (by go_simp) (by go_simp)) ?_
                refine ov_qg hn rfl rfl rfl rfl (by kernel_rfl) (v := .bool true) (fun y => ex_pick _ _ _ rfl true (ov_in hn (by kernel_rfl)) ((if_pos rfl).trans (ov_in hn (by kernel_rfl)))) ?_
                refine ov_qg hn rfl rfl rfl rfl (by kernel_rfl) (v := .bool true) (fun y => ex_move _ rfl (ov_in hn (by kernel_rfl))) ?_
                refine ov_qg hn rfl rfl rfl rfl (by kernel_rfl) (v := .int .i64 (0)) (fun y => ex_move _ rfl (ov_out hn (by kernel_rfl) e8)) ?_
                refine ov_qg hn rfl rfl rfl rfl (by kernel_rfl) (v := .bool false) (fun y => ex_bin _ _ _ _ _ rfl (vx := .int .i64 (0)) (vy := .int .i64 0) (ov_in hn (by kernel_rfl)) rfl (by go_simp) (by go_simp)) ?_
                refine ov_qg hn rfl rfl rfl rfl (by kernel_rfl) (v := .bool false) (fun y => ex_pick _ _ _ rfl true (ov_in hn (by kernel_rfl)) ((if_pos rfl).trans (ov_in hn (by kernel_rfl)))) ?_
                refine ov_q rfl rfl rfl (v := .bool false) (fun y => ex_pick _ _ _ rfl false (ov_in hn (by kernel_rfl)) ((if_neg (by decide)).trans (ov_in hn (by kernel_rfl)))) ?_
                refine ov_q rfl rfl rfl (v := .bool false) (fun y => ex_move _ rfl (ov_in hn (by kernel_rfl))) ?_
                refine ov_qg hn rfl rfl rfl rfl (by kernel_rfl) (v := .slice (some ⟨b, off, none⟩) len c) (fun y => ex_move _ rfl (ov_out hn (by kernel_rfl) e1)) ?_
                refine ov_qg hn rfl rfl rfl rfl (by kernel_rfl) (v := .int .i64 (k)) (fun y => ex_move _ rfl (ov_out hn (by kernel_rfl) e7)) ?_
                refine ov_qg hn rfl rfl rfl rfl (by kernel_rfl) (v := .pointer (some ⟨b, off + k * 6, none⟩)) (fun y => ex_index _ _ _ rfl (vx := .slice (some ⟨b, off, none⟩) len c) (vy := .int .i64 (k)) (ov_in hn (by kernel_rfl)) (ov_in hn (by kernel_rfl)) (by go_simp)) ?_
                refine ov_qg hn rfl rfl rfl rfl (by kernel_rfl) (v := .pointer (some ⟨b, off + k * 6, none⟩)) (fun y => ex_field _ _ _ rfl (vx := .pointer (some ⟨b, off + k * 6, none⟩)) (ov_in hn (by kernel_rfl)) (by go_simp)) ?_
                refine ov_qg hn rfl rfl rfl rfl (by kernel_rfl) (v := .int .i64 (8)) (fun y => ex_load _ _ rfl (vx := .pointer (some ⟨b, off + k * 6, none⟩)) (ov_in hn (by kernel_rfl)) (by go_simp)) ?_
                refine ov_qg hn rfl rfl rfl rfl (by kernel_rfl) (v := .bool false) (fun y => ex_bin _ _ _ _ _ rfl (vx := .int .i64 (8)) (vy := .int .i64 7) (ov_in hn (by kernel_rfl)) rfl (by go_simp) (by go_simp)) ?_
                refine ov_qg hn rfl rfl rfl rfl (by kernel_rfl) (v := .bool false) (fun y => ex_move _ rfl (ov_in hn (by kernel_rfl))) ?_
                iterate 4 (refine ov_n hn (vj := .bool false) rfl rfl rfl rfl (by kernel_rfl) (by kernel_rfl) ?_)
                refine ov_qg hn rfl rfl rfl rfl (by kernel_rfl) (v := .bool false) (fun y => ex_pick _ _ _ rfl false (ov_in hn (by kernel_rfl)) ((if_neg (by decide)).trans rfl)) ?_
                refine ov_q rfl rfl rfl (v := .bool false) (fun y => ex_pick _ _ _ rfl false (ov_in hn (by kernel_rfl)) ((if_neg (by decide)).trans (ov_in hn (by kernel_rfl)))) ?_
                refine ov_q rfl rfl rfl (v := .bool false) (fun y => ex_move _ rfl (ov_in hn (by kernel_rfl))) ?_
                refine ov_qg hn rfl rfl rfl rfl (by kernel_rfl) (v := .bool true) (fun y => ex_move _ rfl (ov_out hn (by kernel_rfl) e9)) ?_
                refine ov_qg hn rfl rfl rfl rfl (by kernel_rfl) (v := .bool true) (fun y => ex_move _ rfl (ov_in hn (by kernel_rfl))) ?_
                refine ov_qg hn rfl rfl rfl rfl (by kernel_rfl) (v := .slice (some ⟨b, off, none⟩) len c) (fun y => ex_move _ rfl (ov_out hn (by kernel_rfl) e1)) ?_
                refine ov_qg hn rfl rfl rfl rfl (by kernel_rfl) (v := .int .i64 (k)) (fun y => ex_move _ rfl (ov_out hn (by kernel_rfl) e7)) ?_
                refine ov_qg hn rfl rfl rfl rfl (by kernel_rfl) (v := .pointer (some ⟨b, off + k * 6, none⟩)) (fun y => ex_index _ _ _ rfl (vx := .slice (some ⟨b, off, none⟩) len c) (vy := .int .i64 (k)) (ov_in hn (by kernel_rfl)) (ov_in hn (by kernel_rfl)) (by go_simp)) ?_
                refine ov_qg hn rfl rfl rfl rfl (by kernel_rfl) (v := .pointer (some ⟨b, off + k * 6, none⟩)) (fun y => ex_field _ _ _ rfl (vx := .pointer (some ⟨b, off + k * 6, none⟩)) (ov_in hn (by kernel_rfl)) (by go_simp)) ?_
                refine ov_qg hn rfl rfl rfl rfl (by kernel_rfl) (v := .int .i64 (8)) (fun y => ex_load _ _ rfl (vx := .pointer (some ⟨b, off + k * 6, none⟩)) (ov_in hn (by kernel_rfl)) (by go_simp)) ?_
                refine ov_qg hn rfl rfl rfl rfl (by kernel_rfl) (v := .bool false) (fun y => ex_bin _ _ _ _ _ rfl (vx := .int .i64 (8)) (vy := .int .i64 6) (ov_in hn (by kernel_rfl)) rfl (by go_simp) (by go_simp)) ?_
                refine ov_qg hn rfl rfl rfl rfl (by kernel_rfl) (v := .bool false) (fun y => ex_pick _ _ _ rfl true (ov_in hn (by kernel_rfl)) ((if_pos rfl).trans (ov_in hn (by kernel_rfl)))) ?_
                refine ov_qg hn rfl rfl rfl rfl (by kernel_rfl) (v := .bool false) (fun y => ex_move _ rfl (ov_in hn (by kernel_rfl))) ?_
                iterate 2 (refine ov_n hn (vj := .bool false) rfl rfl rfl rfl (by kernel_rfl) (by kernel_rfl) ?_)
                refine ov_qg hn rfl rfl rfl rfl (by kernel_rfl) (v := .bool false) (fun y => ex_pick _ _ _ rfl false (ov_in hn (by kernel_rfl)) ((if_neg (by decide)).trans rfl)) ?_
                refine ov_qg hn rfl rfl rfl rfl (by kernel_rfl) (v := .bool false) (fun y => ex_move _ rfl (ov_in hn (by kernel_rfl))) ?_
                iterate 6 (refine ov_n hn (vj := .bool false) rfl rfl rfl rfl (by kernel_rfl) (by kernel_rfl) ?_)
                refine ov_qg hn rfl rfl rfl rfl (by kernel_rfl) (v := .bool false) (fun y => ex_pick _ _ _ rfl false (ov_in hn (by kernel_rfl)) ((if_neg (by decide)).trans rfl)) ?_
                refine ov_q rfl rfl rfl (v := .bool false) (fun y => ex_pick _ _ _ rfl false (ov_in hn (by kernel_rfl)) ((if_neg (by decide)).trans (ov_in hn (by kernel_rfl)))) ?_
                refine plan_end (hK.out _ _ ?_)
                exact hK' _ _ (Met.intro (hJ' _ _ ⟨.bool true, .bool true, .int .i64 (5), .bool false, .bool false, .bool false, undef, undef, undef, undef, undef, undef, undef, undef, undef, undef, undef, undef, undef, undef, undef, undef, undef, undef, undef, undef, undef, undef, undef, undef, undef, undef, .bool false, .bool false, .bool true, .bool true, .int .i64 (5), .bool true, .bool true, .bool true, .int .i64 (0), .bool false, .bool false, .bool false, .bool false, .slice (some ⟨b, off, none⟩) len c, .int .i64 (k), .pointer (some ⟨b, off + k * 6, none⟩), .pointer (some ⟨b, off + k * 6, none⟩), .int .i64 (8), .bool false, .bool false, undef, undef, undef, undef, .bool false, .bool false, .bool false, .bool true, .bool true, .slice (some ⟨b, off, none⟩) len c, .int .i64 (k), .pointer (some ⟨b, off + k * 6, none⟩), .pointer (some ⟨b, off + k * 6, none⟩), .int .i64 (8), .bool false, .bool false, .bool false, undef, undef, .bool false, .bool false, undef, undef, undef, undef, undef, undef, .bool false, .bool false, ⟨rfl, hS⟩, (ov_eq hn _).trans (by rw [HA.out]; kernel_rfl)⟩))
            | false =>
              as_aux_lemma =>
                have c5 : ∀ y : Above Ext wq, y.1.cell? ⟨q5, 0, none⟩ = _ := fun y => (HC.out y.1 (hx.trans y.2)).1
                have k0 : ∀ y : Above Ext wq, y.1.cell? ⟨b, off + k * 6, none⟩ = _ := fun y => (HC.out y.1 (hx.trans y.2)).2.1
                have k1 : ∀ y : Above Ext wq, y.1.cell? ⟨b, off + k * 6 + 1, none⟩ = _ := fun y => (HC.out y.1 (hx.trans y.2)).2.2.1
                have k2 : ∀ y : Above Ext wq, y.1.cell? ⟨b, off + k * 6 + 2, none⟩ = _ := fun y => (HC.out y.1 (hx.trans y.2)).2.2.2
                refine ov_open 201 (by kernel_rfl) ?_
                intro A hn hev hA
                have HA := Lib.hid hA
                clear hA
                have e1 : A.eval (.tmp 1) = .slice (some ⟨b, off, none⟩) len c := (hev 1).trans (by kernel_rfl)
                have e7 : A.eval (.tmp 7) = .int .i64 (k) := (hev 7).trans (by kernel_rfl)
                have e8 : A.eval (.tmp 8) = .int .i64 (0) := (hev 8).trans (by kernel_rfl)
                have e9 : A.eval (.tmp 9) = .bool false := (hev 9).trans (by kernel_rfl)
                have e10 : A.eval (.tmp 10) = .int .i64 (5) := (hev 10).trans (by kernel_rfl)
                have e12 : A.eval (.tmp 12) = .bool true := (hev 12).trans (by kernel_rfl)
                clear hev
                refine ov_q rfl rfl rfl (v := .bool true) (fun y => ex_move _ rfl (ov_out hn (by kernel_rfl) e12)) ?_
                refine ov_q rfl rfl rfl (v := .bool true) (fun y => ex_move _ rfl (ov_in hn (by kernel_rfl))) ?_
                refine ov_qg hn rfl rfl rfl rfl (by kernel_rfl) (v := .int .i64 (5)) (fun y => ex_move _ rfl (ov_out hn (by kernel_rfl) e10)) ?_
                refine ov_qg hn rfl rfl rfl rfl (by kernel_rfl) (v := .bool false) (fun y => ex_bin _ _ _ _ _ rfl (vx := .int .i64 (5)) (vy := .int .i64 0) (ov_in hn (by kernel_rfl)) rfl (by go_simp) (by go_simp)) ?_
                refine ov_q rfl rfl rfl (v := .bool false) (fun y => ex_pick _ _ _ rfl true (ov_in hn (by kernel_rfl)) ((if_pos rfl).trans (ov_in hn (by kernel_rfl)))) ?_
                refine ov_q rfl rfl rfl (v := .bool false) (fun y => ex_move _ rfl (ov_in hn (by kernel_rfl))) ?_
                iterate 5 (refine ov_n hn (vj := .bool false) rfl rfl rfl rfl (by kernel_rfl) (by kernel_rfl) ?_)
                iterate 5 (refine ov_n hn (vj := undef) rfl rfl rfl rfl (by kernel_rfl) (by kernel_rfl) ?_)
                iterate 2 (refine ov_n hn (vj := .bool false) rfl rfl rfl rfl (by kernel_rfl) (by kernel_rfl) ?_)
                iterate 13 (refine ov_n hn (vj := undef) rfl rfl rfl rfl (by kernel_rfl) (by kernel_rfl) ?_)
                refine ov_n hn (vj := .bool false) rfl rfl rfl rfl (by kernel_rfl) (by kernel_rfl) ?_
                refine ov_q rfl rfl rfl (v := .bool false) (fun y => ex_pick _ _ _ rfl false (ov_in hn (by kernel_rfl)) ((if_neg (by decide)).trans rfl)) ?_
                refine ov_q rfl rfl rfl (v := .bool false) (fun y => ex_move _ rfl (ov_in hn (by kernel_rfl))) ?_
                refine ov_qg hn rfl rfl rfl rfl (by kernel_rfl) (v := .bool true) (fun y => ex_move _ rfl (ov_out hn (by kernel_rfl) e12)) ?_
                refine ov_qg hn rfl rfl rfl rfl (by kernel_rfl) (v := .bool true) (fun y => ex_move _ rfl (ov_in hn (by kernel_rfl))) ?_
                refine ov_qg hn rfl rfl rfl rfl (by kernel_rfl) (v := .int .i64 (5)) (fun y => ex_move _ rfl (ov_out hn (by kernel_rfl) e10)) ?_
                refine ov_qg hn rfl rfl rfl rfl (by kernel_rfl) (v := .bool true) (fun y => ex_bin _ _ _ _ _ rfl (vx := .int .i64 (5)) (vy := .int .i64 5) (ov_in hn (by kernel_rfl)) rfl (by go_simp) (by go_simp)) ?_
                refine ov_qg hn rfl rfl rfl rfl (by kernel_rfl) (v := .bool true) (fun y => ex_pick _ _ _ rfl true (ov_in hn (by kernel_rfl)) ((if_pos rfl).trans (ov_in hn (by kernel_rfl)))) ?_
                refine ov_qg hn rfl rfl rfl rfl (by kernel_rfl) (v := .bool true) (fun y => ex_move _ rfl (ov_in hn (by kernel_rfl))) ?_
                refine ov_qg hn rfl rfl rfl rfl (by kernel_rfl) (v := .int .i64 (0)) (fun y => ex_move _ rfl (ov_out hn (by kernel_rfl) e8)) ?_
                refine ov_qg hn rfl rfl rfl rfl (by kernel_rfl) (v := .bool false) (fun y => ex_bin _ _ _ _ _ rfl (vx := .int .i64 (0)) (vy := .int .i64 0) (ov_in hn (by kernel_rfl)) rfl (by go_simp) (by go_simp)) ?_
                refine ov_qg hn rfl rfl rfl rfl (by kernel_rfl) (v := .bool false) (fun y => ex_pick _ _ _ rfl true (ov_in hn (by kernel_rfl)) ((if_pos rfl).trans (ov_in hn (by kernel_rfl)))) ?_
                refine ov_q rfl rfl rfl (v := .bool false) (fun y => ex_pick _ _ _ rfl false (ov_in hn (by kernel_rfl)) ((if_neg (by decide)).trans (ov_in hn (by kernel_rfl)))) ?_
                refine ov_q rfl rfl rfl (v := .bool false) (fun y => ex_move _ rfl (ov_in hn (by kernel_rfl))) ?_
                refine ov_qg hn rfl rfl rfl rfl (by kernel_rfl) (v := .slice (some ⟨b, off, none⟩) len c) (fun y => ex_move _ rfl (ov_out hn (by kernel_rfl) e1)) ?_
                refine ov_qg hn rfl rfl rfl rfl (by kernel_rfl) (v := .int .i64 (k)) (fun y => ex_move _ rfl (ov_out hn (by kernel_rfl) e7)) ?_
                refine ov_qg hn rfl rfl rfl rfl (by kernel_rfl) (v := .pointer (some ⟨b, off + k * 6, none⟩)) (fun y => ex_index _ _ _ rfl (vx := .slice (some ⟨b, off, none⟩) len c) (vy := .int .i64 (k)) (ov_in hn (by kernel_rfl)) (ov_in hn (by kernel_rfl)) (by go_simp)) ?_
                refine ov_qg hn rfl rfl rfl rfl (by kernel_rfl) (v := .pointer (some ⟨b, off + k * 6, none⟩)) (fun y => ex_field _ _ _ rfl (vx := .pointer (some ⟨b, off + k * 6, none⟩)) (ov_in hn (by kernel_rfl)) (by go_simp)) ?_
                refine ov_qg hn rfl rfl rfl rfl (by kernel_rfl) (v := .int .i64 (8)) (fun y => ex_load _ _ rfl (vx := .pointer (some ⟨b, off + k * 6, none⟩)) (ov_in hn (by kernel_rfl)) (by go_simp)) ?_
                refine ov_qg hn rfl rfl rfl rfl (by kernel_rfl) (v := .bool false) (fun y => ex_bin _ _ _ _ _ rfl (vx := .int .i64 (8)) (vy := .int .i64 7) (ov_in hn (by kernel_rfl)) rfl (by go_simp) (by go_simp)) ?_
                refine ov_qg hn rfl rfl rfl rfl (by kernel_rfl) (v := .bool false) (fun y => ex_move _ rfl (ov_in hn (by kernel_rfl))) ?_
                iterate 4 (refine ov_n hn (vj := .bool false) rfl rfl rfl rfl (by kernel_rfl) (by kernel_rfl) ?_)
                refine ov_qg hn rfl rfl rfl rfl (by kernel_rfl) (v := .bool false) (fun y => ex_pick _ _ _ rfl false (ov_in hn (by kernel_rfl)) ((if_neg (by decide)).trans rfl)) ?_
                refine ov_q rfl rfl rfl (v := .bool false) (fun y => ex_pick _ _ _ rfl false (ov_in hn (by kernel_rfl)) ((if_neg (by decide)).trans (ov_in hn (by kernel_rfl)))) ?_
                refine ov_q rfl rfl rfl (v := .bool false) (fun y => ex_move _ rfl (ov_in hn (by kernel_rfl))) ?_
                refine ov_qg hn rfl rfl rfl rfl (by kernel_rfl) (v := .bool false) (fun y => ex_move _ rfl (ov_out hn (by kernel_rfl) e9)) ?_
                refine ov_qg hn rfl rfl rfl rfl (by kernel_rfl) (v := .bool false) (fun y => ex_move _ rfl (ov_in hn (by kernel_rfl))) ?_
                iterate 6 (refine ov_n hn (vj := .bool false) rfl rfl rfl rfl (by kernel_rfl) (by kernel_rfl) ?_)
                refine ov_qg hn rfl rfl rfl rfl (by kernel_rfl) (v := .bool false) (fun y => ex_pick _ _ _ rfl false (ov_in hn (by kernel_rfl)) ((if_neg (by decide)).trans rfl)) ?_
                refine ov_qg hn rfl rfl rfl rfl (by kernel_rfl) (v := .bool false) (fun y => ex_move _ rfl (ov_in hn (by kernel_rfl))) ?_
                iterate 2 (refine ov_n hn (vj := .bool false) rfl rfl rfl rfl (by kernel_rfl) (by kernel_rfl) ?_)
                refine ov_qg hn rfl rfl rfl rfl (by kernel_rfl) (v := .bool false) (fun y => ex_pick _ _ _ rfl false (ov_in hn (by kernel_rfl)) ((if_neg (by decide)).trans rfl)) ?_
                refine ov_qg hn rfl rfl rfl rfl (by kernel_rfl) (v := .bool false) (fun y => ex_move _ rfl (ov_in hn (by kernel_rfl))) ?_
                iterate 6 (refine ov_n hn (vj := .bool false) rfl rfl rfl rfl (by kernel_rfl) (by kernel_rfl) ?_)
                refine ov_qg hn rfl rfl rfl rfl (by kernel_rfl) (v := .bool false) (fun y => ex_pick _ _ _ rfl false (ov_in hn (by kernel_rfl)) ((if_neg (by decide)).trans rfl)) ?_
                refine ov_q rfl rfl rfl (v := .bool false) (fun y => ex_pick _ _ _ rfl false (ov_in hn (by kernel_rfl)) ((if_neg (by decide)).trans (ov_in hn (by kernel_rfl)))) ?_
                refine plan_end (hK.out _ _ ?_)
                exact hK' _ _ (Met.intro (hJ' _ _ ⟨.bool true, .bool true, .int .i64 (5), .bool false, .bool false, .bool false, undef, undef, undef, undef, undef, undef, undef, undef, undef, undef, undef, undef, undef, undef, undef, undef, undef, undef, undef, undef, undef, undef, undef, undef, undef, undef, .bool false, .bool false, .bool true, .bool true, .int .i64 (5), .bool true, .bool true, .bool true, .int .i64 (0), .bool false, .bool false, .bool false, .bool false, .slice (some ⟨b, off, none⟩) len c, .int .i64 (k), .pointer (some ⟨b, off + k * 6, none⟩), .pointer (some ⟨b, off + k * 6, none⟩), .int .i64 (8), .bool false, .bool false, undef, undef, undef, undef, .bool false, .bool false, .bool false, .bool false, .bool false, undef, undef, undef, undef, undef, undef, .bool false, .bool false, undef, undef, .bool false, .bool false, undef, undef, undef, undef, undef, undef, .bool false, .bool false, ⟨rfl, hS⟩, (ov_eq hn _).trans (by rw [HA.out]; kernel_rfl)⟩))
          have ex5 : (x == 5) = false := by simpa using hx5
          clear hR HT
          cases was with
          | true =>
            as_aux_lemma =>
              have c5 : ∀ y : Above Ext wq, y.1.cell? ⟨q5, 0, none⟩ = _ := fun y => (HC.out y.1 (hx.trans y.2)).1
              have k0 : ∀ y : Above Ext wq, y.1.cell? ⟨b, off + k * 6, none⟩ = _ := fun y => (HC.out y.1 (hx.trans y.2)).2.1
              have k1 : ∀ y : Above Ext wq, y.1.cell? ⟨b, off + k * 6 + 1, none⟩ = _ := fun y => (HC.out y.1 (hx.trans y.2)).2.2.1
              have k2 : ∀ y : Above Ext wq, y.1.cell? ⟨b, off + k * 6 + 2, none⟩ = _ := fun y => (HC.out y.1 (hx.trans y.2)).2.2.2
              refine ov_open 201 (by kernel_rfl) ?_
              intro A hn hev hA
              have HA := Lib.hid hA
              clear hA
              have e1 : A.eval (.tmp 1) = .slice (some ⟨b, off, none⟩) len c := (hev 1).trans (by kernel_rfl)
              have e7 : A.eval (.tmp 7) = .int .i64 (k) := (hev 7).trans (by kernel_rfl)
              have e9 : A.eval (.tmp 9) = .bool true := (hev 9).trans (by kernel_rfl)
              have e10 : A.eval (.tmp 10) = .int .i64 (x) := (hev 10).trans (by kernel_rfl)
              have e12 : A.eval (.tmp 12) = .bool true := (hev 12).trans (by kernel_rfl)
              clear hev
              refine ov_q rfl rfl rfl (v := .bool true) (fun y => ex_move _ rfl (ov_out hn (by kernel_rfl) e12)) ?_
              refine ov_q rfl rfl rfl (v := .bool true) (fun y => ex_move _ rfl (ov_in hn (by kernel_rfl))) ?_
              refine ov_qg hn rfl rfl rfl rfl (by kernel_rfl) (v := .int .i64 (x)) (fun y => ex_move _ rfl (ov_out hn (by kernel_rfl) e10)) ?_
              refine ov_qg hn rfl rfl rfl rfl (by kernel_rfl) (v := .bool false) (fun y => ex_bin _ _ _ _ _ rfl (vx := .int .i64 (x)) (vy := .int .i64 0) (ov_in hn (by kernel_rfl)) rfl (by go_simp) (by go_simp)) ?_
              refine ov_q rfl rfl rfl (v := .bool false) (fun y => ex_pick _ _ _ rfl true (ov_in hn (by kernel_rfl)) ((if_pos rfl).trans (ov_in hn (by kernel_rfl)))) ?_
              refine ov_q rfl rfl rfl (v := .bool false) (fun y => ex_move _ rfl (ov_in hn (by kernel_rfl))) ?_
              iterate 5 (refine ov_n hn (vj := .bool false) rfl rfl rfl rfl (by kernel_rfl) (by kernel_rfl) ?_)
              iterate 5 (refine ov_n hn (vj := undef) rfl rfl rfl rfl (by kernel_rfl) (by kernel_rfl) ?_)
              iterate 2 (refine ov_n hn (vj := .bool false) rfl rfl rfl rfl (by kernel_rfl) (by kernel_rfl) ?_)
              iterate 13 (refine ov_n hn (vj := undef) rfl rfl rfl rfl (by kernel_rfl) (by kernel_rfl) ?_)
              refine ov_n hn (vj := .bool false) rfl rfl rfl rfl (by kernel_rfl) (by kernel_rfl) ?_
              refine ov_q rfl rfl rfl (v := .bool false) (fun y => ex_pick _ _ _ rfl false (ov_in hn (by kernel_rfl)) ((if_neg (by decide)).trans rfl)) ?_
              refine ov_q rfl rfl rfl (v := .bool false) (fun y => ex_move _ rfl (ov_in hn (by kernel_rfl))) ?_
              refine ov_qg hn rfl rfl rfl rfl (by kernel_rfl) (v := .bool true) (fun y => ex_move _ rfl (ov_out hn (by kernel_rfl) e12)) ?_
              refine ov_qg hn rfl rfl rfl rfl (by kernel_rfl) (v := .bool true) (fun y => ex_move _ rfl (ov_in hn (by kernel_rfl))) ?_
              refine ov_qg hn rfl rfl rfl rfl (by kernel_rfl) (v := .int .i64 (x)) (fun y => ex_move _ rfl (ov_out hn (by kernel_rfl) e10)) ?_
              refine ov_qg hn rfl rfl rfl rfl (by kernel_rfl) (v := .bool false) (fun y => ex_bin _ _ _ _ _ rfl (vx := .int .i64 (x)) (vy := .int .i64 5) (ov_in hn (by kernel_rfl)) rfl (by go_simp) (by go_simp)) ?_
              refine ov_qg hn rfl rfl rfl rfl (by kernel_rfl) (v := .bool false) (fun y => ex_pick _ _ _ rfl true (ov_in hn (by kernel_rfl)) ((if_pos rfl).trans (ov_in hn (by kernel_rfl)))) ?_
              refine ov_qg hn rfl rfl rfl rfl (by kernel_rfl) (v := .bool false) (fun y => ex_move _ rfl (ov_in hn (by kernel_rfl))) ?_
              iterate 2 (refine ov_n hn (vj := .bool false) rfl rfl rfl rfl (by kernel_rfl) (by kernel_rfl) ?_)
              refine ov_qg hn rfl rfl rfl rfl (by kernel_rfl) (v := .bool false) (fun y => ex_pick _ _ _ rfl false (ov_in hn (by kernel_rfl)) ((if_neg (by decide)).trans rfl)) ?_
              refine ov_q rfl rfl rfl (v := .bool false) (fun y => ex_pick _ _ _ rfl false (ov_in hn (by kernel_rfl)) ((if_neg (by decide)).trans (ov_in hn (by kernel_rfl)))) ?_
              refine ov_q rfl rfl rfl (v := .bool false) (fun y => ex_move _ rfl (ov_in hn (by kernel_rfl))) ?_
              refine ov_qg hn rfl rfl rfl rfl (by kernel_rfl) (v := .slice (some ⟨b, off, none⟩) len c) (fun y => ex_move _ rfl (ov_out hn (by kernel_rfl) e1)) ?_
              refine ov_qg hn rfl rfl rfl rfl (by kernel_rfl) (v := .int .i64 (k)) (fun y => ex_move _ rfl (ov_out hn (by kernel_rfl) e7)) ?_
              refine ov_qg hn rfl rfl rfl rfl (by kernel_rfl) (v := .pointer (some ⟨b, off + k * 6, none⟩)) (fun y => ex_index _ _ _ rfl (vx := .slice (some ⟨b, off, none⟩) len c) (vy := .int .i64 (k)) (ov_in hn (by kernel_rfl)) (ov_in hn (by kernel_rfl)) (by go_simp)) ?_
              refine ov_qg hn rfl rfl rfl rfl (by kernel_rfl) (v := .pointer (some ⟨b, off + k * 6, none⟩)) (fun y => ex_field _ _ _ rfl (vx := .pointer (some ⟨b, off + k * 6, none⟩)) (ov_in hn (by kernel_rfl)) (by go_simp)) ?_
              refine ov_qg hn rfl rfl rfl rfl (by kernel_rfl) (v := .int .i64 (8)) (fun y => ex_load _ _ rfl (vx := .pointer (some ⟨b, off + k * 6, none⟩)) (ov_in hn (by kernel_rfl)) (by go_simp)) ?_
              refine ov_qg hn rfl rfl rfl rfl (by kernel_rfl) (v := .bool false) (fun y => ex_bin _ _ _ _ _ rfl (vx := .int .i64 (8)) (vy := .int .i64 7) (ov_in hn (by kernel_rfl)) rfl (by go_simp) (by go_simp)) ?_
              refine ov_qg hn rfl rfl rfl rfl (by kernel_rfl) (v := .bool false) (fun y => ex_move _ rfl (ov_in hn (by kernel_rfl))) ?_
              iterate 4 (refine ov_n hn (vj := .bool false) rfl rfl rfl rfl (by kernel_rfl) (by kernel_rfl) ?_)
              refine ov_qg hn rfl rfl rfl rfl (by kernel_rfl) (v := .bool false) (fun y => ex_pick _ _ _ rfl false (ov_in hn (by kernel_rfl)) ((if_neg (by decide)).trans rfl)) ?_
              refine ov_q rfl rfl rfl (v := .bool false) (fun y => ex_pick _ _ _ rfl false (ov_in hn (by kernel_rfl)) ((if_neg (by decide)).trans (ov_in hn (by kernel_rfl)))) ?_
              refine ov_q rfl rfl rfl (v := .bool false) (fun y => ex_move _ rfl (ov_in hn (by kernel_rfl))) ?_
              refine ov_qg hn rfl rfl rfl rfl (by kernel_rfl) (v := .bool true) (fun y => ex_move _ rfl (ov_out hn (by kernel_rfl) e9)) ?_
              refine ov_qg hn rfl rfl rfl rfl (by kernel_rfl) (v := .bool true) (fun y => ex_move _ rfl (ov_in hn (by kernel_rfl))) ?_
              refine ov_qg hn rfl rfl rfl rfl (by kernel_rfl) (v := .slice (some ⟨b, off, none⟩) len c) (fun y => ex_move _ rfl (ov_out hn (by kernel_rfl) e1)) ?_
              refine ov_qg hn rfl rfl rfl rfl (by kernel_rfl) (v := .int .i64 (k)) (fun y => ex_move _ rfl (ov_out hn (by kernel_rfl) e7)) ?_
              refine ov_qg hn rfl rfl rfl rfl (by kernel_rfl) (v := .pointer (some ⟨b, off + k * 6, none⟩)) (fun y => ex_index _ _ _ rfl (vx := .slice (some ⟨b, off, none⟩) len c) (vy := .int .i64 (k)) (ov_in hn (by kernel_rfl)) (ov_in hn (by kernel_rfl)) (by go_simp)) ?_
              refine ov_qg hn rfl rfl rfl rfl (by kernel_rfl) (v := .pointer (some ⟨b, off + k * 6, none⟩)) (fun y => ex_field _ _ _ rfl (vx := .pointer (some ⟨b, off + k * 6, none⟩)) (ov_in hn (by kernel_rfl)) (by go_simp)) ?_
              refine ov_qg hn rfl rfl rfl rfl (by kernel_rfl) (v := .int .i64 (8)) (fun y => ex_load _ _ rfl (vx := .pointer (some ⟨b, off + k * 6, none⟩)) (ov_in hn (by kernel_rfl)) (by go_simp)) ?_
              refine ov_qg hn rfl rfl rfl rfl (by kernel_rfl) (v := .bool false) (fun y => ex_bin _ _ _ _ _ rfl (vx := .int .i64 (8)) (vy := .int .i64 6) (ov_in hn (by kernel_rfl)) rfl (by go_simp) (by go_simp)) ?_
              refine ov_qg hn rfl rfl rfl rfl (by kernel_rfl) (v := .bool false) (fun y => ex_pick _ _ _ rfl true (ov_in hn (by kernel_rfl)) ((if_pos rfl).trans (ov_in hn (by kernel_rfl)))) ?_
              refine ov_qg hn rfl rfl rfl rfl (by kernel_rfl) (v := .bool false) (fun y => ex_move _ rfl (ov_in hn (by kernel_rfl))) ?_
              iterate 2 (refine ov_n hn (vj := .bool false) rfl rfl rfl rfl (by kernel_rfl) (by kernel_rfl) ?_)
              refine ov_qg hn rfl rfl rfl rfl (by kernel_rfl) (v := .bool false) (fun y => ex_pick _ _ _ rfl false (ov_in hn (by kernel_rfl)) ((if_neg (by decide)).trans rfl)) ?_
              refine ov_qg hn rfl rfl rfl rfl (by kernel_rfl) (v := .bool false) (fun y => ex_move _ rfl (ov_in hn (by kernel_rfl))) ?_
              iterate 6 (refine ov_n hn (vj := .bool false) rfl rfl rfl rfl (by kernel_rfl) (by kernel_rfl) ?_)
              refine ov_qg hn rfl rfl rfl rfl (by kernel_rfl) (v := .bool false) (fun y => ex_pick _ _ _ rfl false (ov_in hn (by kernel_rfl)) ((if_neg (by decide)).trans rfl)) ?_
              refine ov_q rfl rfl rfl (v := .bool false) (fun y => ex_pick _ _ _ rfl false (ov_in hn (by kernel_rfl)) ((if_neg (by decide)).trans (ov_in hn (by kernel_rfl)))) ?_
              refine plan_end (hK.out _ _ ?_)
              exact hK' _ _ (Met.intro (hJ' _ _ ⟨.bool true, .bool true, .int .i64 (x), .bool false, .bool false, .bool false, undef, undef, undef, undef, undef, undef, undef, undef, undef, undef, undef, undef, undef, undef, undef, undef, undef, undef, undef, undef, undef, undef, undef, undef, undef, undef, .bool false, .bool false, .bool true, .bool true, .int .i64 (x), .bool false, .bool false, .bool false, undef, undef, .bool false, .bool false, .bool false, .slice (some ⟨b, off, none⟩) len c, .int .i64 (k), .pointer (some ⟨b, off + k * 6, none⟩), .pointer (some ⟨b, off + k * 6, none⟩), .int .i64 (8), .bool false, .bool false, undef, undef, undef, undef, .bool false, .bool false, .bool false, .bool true, .bool true, .slice (some ⟨b, off, none⟩) len c, .int .i64 (k), .pointer (some ⟨b, off + k * 6, none⟩), .pointer (some ⟨b, off + k * 6, none⟩), .int .i64 (8), .bool false, .bool false, .bool false, undef, undef, .bool false, .bool false, undef, undef, undef, undef, undef, undef, .bool false, .bool false, ⟨rfl, hS⟩, (ov_eq hn _).trans (by rw [HA.out]; kernel_rfl)⟩))
          | false =>
            as_aux_lemma =>
              have c5 : ∀ y : Above Ext wq, y.1.cell? ⟨q5, 0, none⟩ = _ := fun y => (HC.out y.1 (hx.trans y.2)).1
              have k0 : ∀ y : Above Ext wq, y.1.cell? ⟨b, off + k * 6, none⟩ = _ := fun y => (HC.out y.1 (hx.trans y.2)).2.1
              have k1 : ∀ y : Above Ext wq, y.1.cell? ⟨b, off + k * 6 + 1, none⟩ = _ := fun y => (HC.out y.1 (hx.trans y.2)).2.2.1
              have k2 : ∀ y : Above Ext wq, y.1.cell? ⟨b, off + k * 6 + 2, none⟩ = _ := fun y => (HC.out y.1 (hx.trans y.2)).2.2.2
              refine ov_open 201 (by kernel_rfl) ?_
              intro A hn hev hA
              have HA := Lib.hid hA
              clear hA
              have e1 : A.eval (.tmp 1) = .slice (some ⟨b, off, none⟩) len c := (hev 1).trans (by kernel_rfl)
              have e7 : A.eval (.tmp 7) = .int .i64 (k) := (hev 7).trans (by kernel_rfl)
              have e9 : A.eval (.tmp 9) = .bool false := (hev 9).trans (by kernel_rfl)
              have e10 : A.eval (.tmp 10) = .int .i64 (x) := (hev 10).trans (by kernel_rfl)
              have e12 : A.eval (.tmp 12) = .bool true := (hev 12).trans (by kernel_rfl)
              clear hev
              refine ov_q rfl rfl rfl (v := .bool true) (fun y => ex_move _ rfl (ov_out hn (by kernel_rfl) e12)) ?_
              refine ov_q rfl rfl rfl (v := .bool true) (fun y => ex_move _ rfl (ov_in hn (by kernel_rfl))) ?_
              refine ov_qg hn rfl rfl rfl rfl (by kernel_rfl) (v := .int .i64 (x)) (fun y => ex_move _ rfl (ov_out hn (by kernel_rfl) e10)) ?_
              refine ov_qg hn rfl rfl rfl rfl (by kernel_rfl) (v := .bool false) (fun y => ex_bin _ _ _ _ _ rfl (vx := .int .i64 (x)) (vy := .int .i64 0) (ov_in hn (by kernel_rfl)) rfl (by go_simp) (by go_simp)) ?_
              refine ov_q rfl rfl rfl (v := .bool false) (fun y => ex_pick _ _ _ rfl true (ov_in hn (by kernel_rfl)) ((if_pos rfl).trans (ov_in hn (by kernel_rfl)))) ?_
              refine ov_q rfl rfl rfl (v := .bool false) (fun y => ex_move _ rfl (ov_in hn (by kernel_rfl))) ?_
              iterate 5 (refine ov_n hn (vj := .bool false) rfl rfl rfl rfl (by kernel_rfl) (by kernel_rfl) ?_)
              iterate 5 (refine ov_n hn (vj := undef) rfl rfl rfl rfl (by kernel_rfl) (by kernel_rfl) ?_)
              iterate 2 (refine ov_n hn (vj := .bool false) rfl rfl rfl rfl (by kernel_rfl) (by kernel_rfl) ?_)
              iterate 13 (refine ov_n hn (vj := undef) rfl rfl rfl rfl (by kernel_rfl) (by kernel_rfl) ?_)
              refine ov_n hn (vj := .bool false) rfl rfl rfl rfl (by kernel_rfl) (by kernel_rfl) ?_
              refine ov_q rfl rfl rfl (v := .bool false) (fun y => ex_pick _ _ _ rfl false (ov_in hn (by kernel_rfl)) ((if_neg (by decide)).trans rfl)) ?_
              refine ov_q rfl rfl rfl (v := .bool false) (fun y => ex_move _ rfl (ov_in hn (by kernel_rfl))) ?_
              refine ov_qg hn rfl rfl rfl rfl (by kernel_rfl) (v := .bool true) (fun y => ex_move _ rfl (ov_out hn (by kernel_rfl) e12)) ?_
              refine ov_qg hn rfl rfl rfl rfl (by kernel_rfl) (v := .bool true) (fun y => ex_move _ rfl (ov_in hn (by kernel_rfl))) ?_
              refine ov_qg hn rfl rfl rfl rfl (by kernel_rfl) (v := .int .i64 (x)) (fun y => ex_move _ rfl (ov_out hn (by kernel_rfl) e10)) ?_
              refine ov_qg hn rfl rfl rfl rfl (by kernel_rfl) (v := .bool false) (fun y => ex_bin _ _ _ _ _ rfl (vx := .int .i64 (x)) (vy := .int .i64 5) (ov_in hn (by kernel_rfl)) rfl (by go_simp) (by go_simp)) ?_
              refine ov_qg hn rfl rfl rfl rfl (by kernel_rfl) (v := .bool false) (fun y => ex_pick _ _ _ rfl true (ov_in hn (by kernel_rfl)) ((if_pos rfl).trans (ov_in hn (by kernel_rfl)))) ?_
              refine ov_qg hn rfl rfl rfl rfl (by kernel_rfl) (v := .bool false) (fun y => ex_move _ rfl (ov_in hn (by kernel_rfl))) ?_
              iterate 2 (refine ov_n hn (vj := .bool false) rfl rfl rfl rfl (by kernel_rfl) (by kernel_rfl) ?_)
              refine ov_qg hn rfl rfl rfl rfl (by kernel_rfl) (v := .bool false) (fun y => ex_pick _ _ _ rfl false (ov_in hn (by kernel_rfl)) ((if_neg (by decide)).trans rfl)) ?_
              refine ov_q rfl rfl rfl (v := .bool false) (fun y => ex_pick _ _ _ rfl false (ov_in hn (by kernel_rfl)) ((if_neg (by decide)).trans (ov_in hn (by kernel_rfl)))) ?_
              refine ov_q rfl rfl rfl (v := .bool false) (fun y => ex_move _ rfl (ov_in hn (by kernel_rfl))) ?_
              refine ov_qg hn rfl rfl rfl rfl (by kernel_rfl) (v := .slice (some ⟨b, off, none⟩) len c) (fun y => ex_move _ rfl (ov_out hn (by kernel_rfl) e1)) ?_
              refine ov_qg hn rfl rfl rfl rfl (by kernel_rfl) (v := .int .i64 (k)) (fun y => ex_move _ rfl (ov_out hn (by kernel_rfl) e7)) ?_
              refine ov_qg hn rfl rfl rfl rfl (by kernel_rfl) (v := .pointer (some ⟨b, off + k * 6, none⟩)) (fun y => ex_index _ _ _ rfl (vx := .slice (some ⟨b, off, none⟩) len c) (vy := .int .i64 (k)) (ov_in hn (by kernel_rfl)) (ov_in hn (by kernel_rfl)) (by go_simp)) ?_
              refine ov_qg hn rfl rfl rfl rfl (by kernel_rfl) (v := .pointer (some ⟨b, off + k * 6, none⟩)) (fun y => ex_field _ _ _ rfl (vx := .pointer (some ⟨b, off + k * 6, none⟩)) (ov_in hn (by kernel_rfl)) (by go_simp)) ?_
              refine ov_qg hn rfl rfl rfl rfl (by kernel_rfl) (v := .int .i64 (8)) (fun y => ex_load _ _ rfl (vx := .pointer (some ⟨b, off + k * 6, none⟩)) (ov_in hn (by kernel_rfl)) (by go_simp)) ?_
              refine ov_qg hn rfl rfl rfl rfl (by kernel_rfl) (v := .bool false) (fun y => ex_bin _ _ _ _ _ rfl (vx := .int .i64 (8)) (vy := .int .i64 7) (ov_in hn (by kernel_rfl)) rfl (by go_simp) (by go_simp)) ?_
              refine ov_qg hn rfl rfl rfl rfl (by kernel_rfl) (v := .bool false) (fun y => ex_move _ rfl (ov_in hn (by kernel_rfl))) ?_
              iterate 4 (refine ov_n hn (vj := .bool false) rfl rfl rfl rfl (by kernel_rfl) (by kernel_rfl) ?_)
              refine ov_qg hn rfl rfl rfl rfl (by kernel_rfl) (v := .bool false) (fun y => ex_pick _ _ _ rfl false (ov_in hn (by kernel_rfl)) ((if_neg (by decide)).trans rfl)) ?_
              refine ov_q rfl rfl rfl (v := .bool false) (fun y => ex_pick _ _ _ rfl false (ov_in hn (by kernel_rfl)) ((if_neg (by decide)).trans (ov_in hn (by kernel_rfl)))) ?_
              refine ov_q rfl rfl rfl (v := .bool false) (fun y => ex_move _ rfl (ov_in hn (by kernel_rfl))) ?_
              refine ov_qg hn rfl rfl rfl rfl (by kernel_rfl) (v := .bool false) (fun y => ex_move _ rfl (ov_out hn (by kernel_rfl) e9)) ?_
              refine ov_qg hn rfl rfl rfl rfl (by kernel_rfl) (v := .bool false) (fun y => ex_move _ rfl (ov_in hn (by kernel_rfl))) ?_
              iterate 6 (refine ov_n hn (vj := .bool false) rfl rfl rfl rfl (by kernel_rfl) (by kernel_rfl) ?_)
              refine ov_qg hn rfl rfl rfl rfl (by kernel_rfl) (v := .bool false) (fun y => ex_pick _ _ _ rfl false (ov_in hn (by kernel_rfl)) ((if_neg (by decide)).trans rfl)) ?_
              refine ov_qg hn rfl rfl rfl rfl (by kernel_rfl) (v := .bool false) (fun y => ex_move _ rfl (ov_in hn (by kernel_rfl))) ?_
              iterate 2 (refine ov_n hn (vj := .bool false) rfl rfl rfl rfl (by kernel_rfl) (by kernel_rfl) ?_)
              refine ov_qg hn rfl rfl rfl rfl (by kernel_rfl) (v := .bool false) (fun y => ex_pick _ _ _ rfl false (ov_in hn (by kernel_rfl)) ((if_neg (by decide)).trans rfl)) ?_
              refine ov_qg hn rfl rfl rfl rfl (by kernel_rfl) (v := .bool false) (fun y => ex_move _ rfl (ov_in hn (by kernel_rfl))) ?_
              iterate 6 (refine ov_n hn (vj := .bool false) rfl rfl rfl rfl (by kernel_rfl) (by kernel_rfl) ?_)
              refine ov_qg hn rfl rfl rfl rfl (by kernel_rfl) (v := .bool false) (fun y => ex_pick _ _ _ rfl false (ov_in hn (by kernel_rfl)) ((if_neg (by decide)).trans rfl)) ?_
              refine ov_q rfl rfl rfl (v := .bool false) (fun y => ex_pick _ _ _ rfl false (ov_in hn (by kernel_rfl)) ((if_neg (by decide)).trans (ov_in hn (by kernel_rfl)))) ?_
              refine plan_end (hK.out _ _ ?_)
              exact hK' _ _ (Met.intro (hJ' _ _ ⟨.bool true, .bool true, .int .i64 (x), .bool false, .bool false, .bool false, undef, undef, undef, undef, undef, undef, undef, undef, undef, undef, undef, undef, undef, undef, undef, undef, undef, undef, undef, undef, undef, undef, undef, undef, undef, undef, .bool false, .bool false, .bool true, .bool true, .int .i64 (x), .bool false, .bool false, .bool false, undef, undef, .bool false, .bool false, .bool false, .slice (some ⟨b, off, none⟩) len c, .int .i64 (k), .pointer (some ⟨b, off + k * 6, none⟩), .pointer (some ⟨b, off + k * 6, none⟩), .int .i64 (8), .bool false, .bool false, undef, undef, undef, undef, .bool false, .bool false, .bool false, .bool false, .bool false, undef, undef, undef, undef, undef, undef, .bool false, .bool false, undef, undef, .bool false, .bool false, undef, undef, undef, undef, undef, undef, .bool false, .bool false, ⟨rfl, hS⟩, (ov_eq hn _).trans (by rw [HA.out]; kernel_rfl)⟩))
        have ek2 : (kind == 2) = false := by simpa using kd2
        have ek8 : (kind == 8) = false := by simpa using kd8
        obtain rfl : lays = false := by rw [← HL.out]; simp; omega
        clear HL
        by_cases kd7 : kind = 7
        · subst kd7
          obtain rfl : rm2 = rm := by have := HT.out.1; have := hR.crash rfl; omega
          clear hR HT
          cases was with
          | true =>
            as_aux_lemma =>
              have c5 : ∀ y : Above Ext wq, y.1.cell? ⟨q5, 0, none⟩ = _ := fun y => (HC.out y.1 (hx.trans y.2)).1
              have k0 : ∀ y : Above Ext wq, y.1.cell? ⟨b, off + k * 6, none⟩ = _ := fun y => (HC.out y.1 (hx.trans y.2)).2.1
              have k1 : ∀ y : Above Ext wq, y.1.cell? ⟨b, off + k * 6 + 1, none⟩ = _ := fun y => (HC.out y.1 (hx.trans y.2)).2.2.1
              have k2 : ∀ y : Above Ext wq, y.1.cell? ⟨b, off + k * 6 + 2, none⟩ = _ := fun y => (HC.out y.1 (hx.trans y.2)).2.2.2
              refine ov_open 201 (by kernel_rfl) ?_
              intro A hn hev hA
              have HA := Lib.hid hA
              clear hA
              have e1 : A.eval (.tmp 1) = .slice (some ⟨b, off, none⟩) len c := (hev 1).trans (by kernel_rfl)
              have e5 : A.eval (.tmp 5) = fptr q5 := (hev 5).trans (by kernel_rfl)
              have e7 : A.eval (.tmp 7) = .int .i64 (k) := (hev 7).trans (by kernel_rfl)
              have e8 : A.eval (.tmp 8) = .int .i64 (rm2) := (hev 8).trans (by kernel_rfl)
              have e9 : A.eval (.tmp 9) = .bool true := (hev 9).trans (by kernel_rfl)
              have e12 : A.eval (.tmp 12) = .bool false := (hev 12).trans (by kernel_rfl)
              clear hev
              refine ov_q rfl rfl rfl (v := .bool false) (fun y => ex_move _ rfl (ov_out hn (by kernel_rfl) e12)) ?_
              refine ov_q rfl rfl rfl (v := .bool false) (fun y => ex_move _ rfl (ov_in hn (by kernel_rfl))) ?_
              iterate 2 (refine ov_n hn (vj := .bool false) rfl rfl rfl rfl (by kernel_rfl) (by kernel_rfl) ?_)
              refine ov_q rfl rfl rfl (v := .bool false) (fun y => ex_pick _ _ _ rfl false (ov_in hn (by kernel_rfl)) ((if_neg (by decide)).trans rfl)) ?_
              refine ov_q rfl rfl rfl (v := .bool false) (fun y => ex_move _ rfl (ov_in hn (by kernel_rfl))) ?_
              iterate 5 (refine ov_n hn (vj := .bool false) rfl rfl rfl rfl (by kernel_rfl) (by kernel_rfl) ?_)
              iterate 5 (refine ov_n hn (vj := undef) rfl rfl rfl rfl (by kernel_rfl) (by kernel_rfl) ?_)
              iterate 2 (refine ov_n hn (vj := .bool false) rfl rfl rfl rfl (by kernel_rfl) (by kernel_rfl) ?_)
              iterate 13 (refine ov_n hn (vj := undef) rfl rfl rfl rfl (by kernel_rfl) (by kernel_rfl) ?_)
              refine ov_n hn (vj := .bool false) rfl rfl rfl rfl (by kernel_rfl) (by kernel_rfl) ?_
              refine ov_q rfl rfl rfl (v := .bool false) (fun y => ex_pick _ _ _ rfl false (ov_in hn (by kernel_rfl)) ((if_neg (by decide)).trans rfl)) ?_
              refine ov_q rfl rfl rfl (v := .bool false) (fun y => ex_move _ rfl (ov_in hn (by kernel_rfl))) ?_
              refine ov_qg hn rfl rfl rfl rfl (by kernel_rfl) (v := .bool false) (fun y => ex_move _ rfl (ov_out hn (by kernel_rfl) e12)) ?_
              refine ov_qg hn rfl rfl rfl rfl (by kernel_rfl) (v := .bool false) (fun y => ex_move _ rfl (ov_in hn (by kernel_rfl))) ?_
              iterate 2 (refine ov_n hn (vj := .bool false) rfl rfl rfl rfl (by kernel_rfl) (by kernel_rfl) ?_)
              refine ov_qg hn rfl rfl rfl rfl (by kernel_rfl) (v := .bool false) (fun y => ex_pick _ _ _ rfl false (ov_in hn (by kernel_rfl)) ((if_neg (by decide)).trans rfl)) ?_
              refine ov_qg hn rfl rfl rfl rfl (by kernel_rfl) (v := .bool false) (fun y => ex_move _ rfl (ov_in hn (by kernel_rfl))) ?_
              iterate 2 (refine ov_n hn (vj := .bool false) rfl rfl rfl rfl (by kernel_rfl) (by kernel_rfl) ?_)
              refine ov_qg hn rfl rfl rfl rfl (by kernel_rfl) (v := .bool false) (fun y => ex_pick _ _ _ rfl false (ov_in hn (by kernel_rfl)) ((if_neg (by decide)).trans rfl)) ?_
              refine ov_q rfl rfl rfl (v := .bool false) (fun y => ex_pick _ _ _ rfl false (ov_in hn (by kernel_rfl)) ((if_neg (by decide)).trans (ov_in hn (by kernel_rfl)))) ?_
              refine ov_q rfl rfl rfl (v := .bool false) (fun y => ex_move _ rfl (ov_in hn (by kernel_rfl))) ?_
              refine ov_qg hn rfl rfl rfl rfl (by kernel_rfl) (v := .slice (some ⟨b, off, none⟩) len c) (fun y => ex_move _ rfl (ov_out hn (by kernel_rfl) e1)) ?_
              refine ov_qg hn rfl rfl rfl rfl (by kernel_rfl) (v := .int .i64 (k)) (fun y => ex_move _ rfl (ov_out hn (by kernel_rfl) e7)) ?_
              refine ov_qg hn rfl rfl rfl rfl (by kernel_rfl) (v := .pointer (some ⟨b, off + k * 6, none⟩)) (fun y => ex_index _ _ _ rfl (vx := .slice (some ⟨b, off, none⟩) len c) (vy := .int .i64 (k)) (ov_in hn (by kernel_rfl)) (ov_in hn (by kernel_rfl)) (by go_simp)) ?_
              refine ov_qg hn rfl rfl rfl rfl (by kernel_rfl) (v := .pointer (some ⟨b, off + k * 6, none⟩)) (fun y => ex_field _ _ _ rfl (vx := .pointer (some ⟨b, off + k * 6, none⟩)) (ov_in hn (by kernel_rfl)) (by go_simp)) ?_
              refine ov_qg hn rfl rfl rfl rfl (by kernel_rfl) (v := .int .i64 (7)) (fun y => ex_load _ _ rfl (vx := .pointer (some ⟨b, off + k * 6, none⟩)) (ov_in hn (by kernel_rfl)) (by go_simp)) ?_
              refine ov_qg hn rfl rfl rfl rfl (by kernel_rfl) (v := .bool true) (fun y => ex_bin _ _ _ _ _ rfl (vx := .int .i64 (7)) (vy := .int .i64 7) (ov_in hn (by kernel_rfl)) rfl (by go_simp) (by go_simp)) ?_
              refine ov_qg hn rfl rfl rfl rfl (by kernel_rfl) (v := .bool true) (fun y => ex_move _ rfl (ov_in hn (by kernel_rfl))) ?_
              refine ov_qg hn rfl rfl rfl rfl (by kernel_rfl) (v := fptr d') (fun y => ex_load _ _ rfl (vx := fptr q5) (ov_out hn (by kernel_rfl) e5) (by go_simp)) ?_
              refine ov_qg hn rfl rfl rfl rfl (by kernel_rfl) (v := .int .i64 (rm2)) (fun y => ex_move _ rfl (ov_out hn (by kernel_rfl) e8)) ?_
              refine ov_lg hn rfl rfl rfl (by kernel_rfl) ?_
              intro K2 hK2
              refine ov_call 22 _ _ rfl rfl #[fptr d'] (map1 (ov_in hn (by kernel_rfl))) (callFunc_run Try.func22 (by kernel_rfl) (by kernel_rfl) _) ?_
              refine (HR.out _ hS).mono ?_
              rintro e W2 ⟨rfl, hxr⟩
              refine ⟨_, rfl, hK2.out _ _ hxr ?_⟩
              clear hK2 K2
              clear c5 k0 k1 k2
              replace hS := hS.ext hxr
              replace hx := hx.trans hxr
              clear hxr
              have c5 : ∀ y : Above Ext W2, y.1.cell? ⟨q5, 0, none⟩ = _ := fun y => (HC.out y.1 (hx.trans y.2)).1
              have k0 : ∀ y : Above Ext W2, y.1.cell? ⟨b, off + k * 6, none⟩ = _ := fun y => (HC.out y.1 (hx.trans y.2)).2.1
              have k1 : ∀ y : Above Ext W2, y.1.cell? ⟨b, off + k * 6 + 1, none⟩ = _ := fun y => (HC.out y.1 (hx.trans y.2)).2.2.1
              have k2 : ∀ y : Above Ext W2, y.1.cell? ⟨b, off + k * 6 + 2, none⟩ = _ := fun y => (HC.out y.1 (hx.trans y.2)).2.2.2
              refine ov_qg hn rfl rfl rfl rfl (by kernel_rfl) (v := .bool false) (fun y => ex_bin _ _ _ _ _ rfl (vx := .int .i64 (rm2)) (vy := .int .i64 (rm2)) (ov_in hn (by kernel_rfl)) (ov_in hn (by kernel_rfl)) (by go_simp) (by go_simp)) ?_
              refine ov_qg hn rfl rfl rfl rfl (by kernel_rfl) (v := .bool false) (fun y => ex_pick _ _ _ rfl true (ov_in hn (by kernel_rfl)) ((if_pos rfl).trans (ov_in hn (by kernel_rfl)))) ?_
              refine ov_q rfl rfl rfl (v := .bool false) (fun y => ex_pick _ _ _ rfl false (ov_in hn (by kernel_rfl)) ((if_neg (by decide)).trans (ov_in hn (by kernel_rfl)))) ?_
              refine ov_q rfl rfl rfl (v := .bool false) (fun y => ex_move _ rfl (ov_in hn (by kernel_rfl))) ?_
              refine ov_qg hn rfl rfl rfl rfl (by kernel_rfl) (v := .bool true) (fun y => ex_move _ rfl (ov_out hn (by kernel_rfl) e9)) ?_
              refine ov_qg hn rfl rfl rfl rfl (by kernel_rfl) (v := .bool true) (fun y => ex_move _ rfl (ov_in hn (by kernel_rfl))) ?_
              refine ov_qg hn rfl rfl rfl rfl (by kernel_rfl) (v := .slice (some ⟨b, off, none⟩) len c) (fun y => ex_move _ rfl (ov_out hn (by kernel_rfl) e1)) ?_
              refine ov_qg hn rfl rfl rfl rfl (by kernel_rfl) (v := .int .i64 (k)) (fun y => ex_move _ rfl (ov_out hn (by kernel_rfl) e7)) ?_
              refine ov_qg hn rfl rfl rfl rfl (by kernel_rfl) (v := .pointer (some ⟨b, off + k * 6, none⟩)) (fun y => ex_index _ _ _ rfl (vx := .slice (some ⟨b, off, none⟩) len c) (vy := .int .i64 (k)) (ov_in hn (by kernel_rfl)) (ov_in hn (by kernel_rfl)) (by go_simp)) ?_
              refine ov_qg hn rfl rfl rfl rfl (by kernel_rfl) (v := .pointer (some ⟨b, off + k * 6, none⟩)) (fun y => ex_field _ _ _ rfl (vx := .pointer (some ⟨b, off + k * 6, none⟩)) (ov_in hn (by kernel_rfl)) (by go_simp)) ?_
              refine ov_qg hn rfl rfl rfl rfl (by kernel_rfl) (v := .int .i64 (7)) (fun y => ex_load _ _ rfl (vx := .pointer (some ⟨b, off + k * 6, none⟩)) (ov_in hn (by kernel_rfl)) (by go_simp)) ?_
              refine ov_qg hn rfl rfl rfl rfl (by kernel_rfl) (v := .bool false) (fun y => ex_bin _ _ _ _ _ rfl (vx := .int .i64 (7)) (vy := .int .i64 6) (ov_in hn (by kernel_rfl)) rfl (by go_simp) (by go_simp)) ?_
              refine ov_qg hn rfl rfl rfl rfl (by kernel_rfl) (v := .bool false) (fun y => ex_pick _ _ _ rfl true (ov_in hn (by kernel_rfl)) ((if_pos rfl).trans (ov_in hn (by kernel_rfl)))) ?_
              refine ov_qg hn rfl rfl rfl rfl (by kernel_rfl) (v := .bool false) (fun y => ex_move _ rfl (ov_in hn (by kernel_rfl))) ?_
              iterate 2 (refine ov_n hn (vj := .bool false) rfl rfl rfl rfl (by kernel_rfl) (by kernel_rfl) ?_)
              refine ov_qg hn rfl rfl rfl rfl (by kernel_rfl) (v := .bool false) (fun y => ex_pick _ _ _ rfl false (ov_in hn (by kernel_rfl)) ((if_neg (by decide)).trans rfl)) ?_
              refine ov_qg hn rfl rfl rfl rfl (by kernel_rfl) (v := .bool false) (fun y => ex_move _ rfl (ov_in hn (by kernel_rfl))) ?_
              iterate 6 (refine ov_n hn (vj := .bool false) rfl rfl rfl rfl (by kernel_rfl) (by kernel_rfl) ?_)
              refine ov_qg hn rfl rfl rfl rfl (by kernel_rfl) (v := .bool false) (fun y => ex_pick _ _ _ rfl false (ov_in hn (by kernel_rfl)) ((if_neg (by decide)).trans rfl)) ?_
              refine ov_q rfl rfl rfl (v := .bool false) (fun y => ex_pick _ _ _ rfl false (ov_in hn (by kernel_rfl)) ((if_neg (by decide)).trans (ov_in hn (by kernel_rfl)))) ?_
              refine plan_end (hK.out _ _ ?_)
              exact hK' _ _ (Met.intro (hJ' _ _ ⟨.bool false, .bool false, undef, undef, .bool false, .bool false, undef, undef, undef, undef, undef, undef, undef, undef, undef, undef, undef, undef, undef, undef, undef, undef, undef, undef, undef, undef, undef, undef, undef, undef, undef, undef, .bool false, .bool false, .bool false, .bool false, undef, undef, .bool false, .bool false, undef, undef, .bool false, .bool false, .bool false, .slice (some ⟨b, off, none⟩) len c, .int .i64 (k), .pointer (some ⟨b, off + k * 6, none⟩), .pointer (some ⟨b, off + k * 6, none⟩), .int .i64 (7), .bool true, .bool true, fptr d', .int .i64 (rm2), .int .i64 (rm2), .bool false, .bool false, .bool false, .bool false, .bool true, .bool true, .slice (some ⟨b, off, none⟩) len c, .int .i64 (k), .pointer (some ⟨b, off + k * 6, none⟩), .pointer (some ⟨b, off + k * 6, none⟩), .int .i64 (7), .bool false, .bool false, .bool false, undef, undef, .bool false, .bool false, undef, undef, undef, undef, undef, undef, .bool false, .bool false, ⟨rfl, hS⟩, (ov_eq hn _).trans (by rw [HA.out]; kernel_rfl)⟩))
          | false =>
            as_aux_lemma =>
              have c5 : ∀ y : Above Ext wq, y.1.cell? ⟨q5, 0, none⟩ = _ := fun y => (HC.out y.1 (hx.trans y.2)).1
              have k0 : ∀ y : Above Ext wq, y.1.cell? ⟨b, off + k * 6, none⟩ = _ := fun y => (HC.out y.1 (hx.trans y.2)).2.1
              have k1 : ∀ y : Above Ext wq, y.1.cell? ⟨b, off + k * 6 + 1, none⟩ = _ := fun y => (HC.out y.1 (hx.trans y.2)).2.2.1
              have k2 : ∀ y : Above Ext wq, y.1.cell? ⟨b, off + k * 6 + 2, none⟩ = _ := fun y => (HC.out y.1 (hx.trans y.2)).2.2.2
              refine ov_open 201 (by kernel_rfl) ?_
              intro A hn hev hA
              have HA := Lib.hid hA
              clear hA
              have e1 : A.eval (.tmp 1) = .slice (some ⟨b, off, none⟩) len c := (hev 1).trans (by kernel_rfl)
              have e5 : A.eval (.tmp 5) = fptr q5 := (hev 5).trans (by kernel_rfl)
              have e7 : A.eval (.tmp 7) = .int .i64 (k) := (hev 7).trans (by kernel_rfl)
              have e8 : A.eval (.tmp 8) = .int .i64 (rm2) := (hev 8).trans (by kernel_rfl)
              have e9 : A.eval (.tmp 9) = .bool false := (hev 9).trans (by kernel_rfl)
              have e12 : A.eval (.tmp 12) = .bool false := (hev 12).trans (by kernel_rfl)
              clear hev
              refine ov_q rfl rfl rfl (v := .bool false) (fun y => ex_move _ rfl (ov_out hn (by kernel_rfl) e12)) ?_
              refine ov_q rfl rfl rfl (v := .bool false) (fun y => ex_move _ rfl (ov_in hn (by kernel_rfl))) ?_
              iterate 2 (refine ov_n hn (vj := .bool false) rfl rfl rfl rfl (by kernel_rfl) (by kernel_rfl) ?_)
              refine ov_q rfl rfl rfl (v := .bool false) (fun y => ex_pick _ _ _ rfl false (ov_in hn (by kernel_rfl)) ((if_neg (by decide)).trans rfl)) ?_
              refine ov_q rfl rfl rfl (v := .bool false) (fun y => ex_move _ rfl (ov_in hn (by kernel_rfl))) ?_
              iterate 5 (refine ov_n hn (vj := .bool false) rfl rfl rfl rfl (by kernel_rfl) (by kernel_rfl) ?_)
              iterate 5 (refine ov_n hn (vj := undef) rfl rfl rfl rfl (by kernel_rfl) (by kernel_rfl) ?_)
              iterate 2 (refine ov_n hn (vj := .bool false) rfl rfl rfl rfl (by kernel_rfl) (by kernel_rfl) ?_)
              iterate 13 (refine ov_n hn (vj := undef) rfl rfl rfl rfl (by kernel_rfl) (by kernel_rfl) ?_)
              refine ov_n hn (vj := .bool false) rfl rfl rfl rfl (by kernel_rfl) (by kernel_rfl) ?_
              refine ov_q rfl rfl rfl (v := .bool false) (fun y => ex_pick _ _ _ rfl false (ov_in hn (by kernel_rfl)) ((if_neg (by decide)).trans rfl)) ?_
              refine ov_q rfl rfl rfl (v := .bool false) (fun y => ex_move _ rfl (ov_in hn (by kernel_rfl))) ?_
              refine ov_qg hn rfl rfl rfl rfl (by kernel_rfl) (v := .bool false) (fun y => ex_move _ rfl (ov_out hn (by kernel_rfl) e12)) ?_
              refine ov_qg hn rfl rfl rfl rfl (by kernel_rfl) (v := .bool false) (fun y => ex_move _ rfl (ov_in hn (by kernel_rfl))) ?_
              iterate 2 (refine ov_n hn (vj := .bool false) rfl rfl rfl rfl (by kernel_rfl) (by kernel_rfl) ?_)
              refine ov_qg hn rfl rfl rfl rfl (by kernel_rfl) (v := .bool false) (fun y => ex_pick _ _ _ rfl false (ov_in hn (by kernel_rfl)) ((if_neg (by decide)).trans rfl)) ?_
              refine ov_qg hn rfl rfl rfl rfl (by kernel_rfl) (v := .bool false) (fun y => ex_move _ rfl (ov_in hn (by kernel_rfl))) ?_
              iterate 2 (refine ov_n hn (vj := .bool false) rfl rfl rfl rfl (by kernel_rfl) (by kernel_rfl) ?_)
              refine ov_qg hn rfl rfl rfl rfl (by kernel_rfl) (v := .bool false) (fun y => ex_pick _ _ _ rfl false (ov_in hn (by kernel_rfl)) ((if_neg (by decide)).trans rfl)) ?_
              refine ov_q rfl rfl rfl (v := .bool false) (fun y => ex_pick _ _ _ rfl false (ov_in hn (by kernel_rfl)) ((if_neg (by decide)).trans (ov_in hn (by kernel_rfl)))) ?_
              refine ov_q rfl rfl rfl (v := .bool false) (fun y => ex_move _ rfl (ov_in hn (by kernel_rfl))) ?_
              refine ov_qg hn rfl rfl rfl rfl (by kernel_rfl) (v := .slice (some ⟨b, off, none⟩) len c) (fun y => ex_move _ rfl (ov_out hn (by kernel_rfl) e1)) ?_
              refine ov_qg hn rfl rfl rfl rfl (by kernel_rfl) (v := .int .i64 (k)) (fun y => ex_move _ rfl (ov_out hn (by kernel_rfl) e7)) ?_
              refine ov_qg hn rfl rfl rfl rfl (by kernel_rfl) (v := .pointer (some ⟨b, off + k * 6, none⟩)) (fun y => ex_index _ _ _ rfl (vx := .slice (some ⟨b, off, none⟩) len c) (vy := .int .i64 (k)) (ov_in hn (by kernel_rfl)) (ov_in hn (by kernel_rfl)) (by go_simp)) ?_
              refine ov_qg hn rfl rfl rfl rfl (by kernel_rfl) (v := .pointer (some ⟨b, off + k * 6, none⟩)) (fun y => ex_field _ _ _ rfl (vx := .pointer (some ⟨b, off + k * 6, none⟩)) (ov_in hn (by kernel_rfl)) (by go_simp)) ?_
              refine ov_qg hn rfl rfl rfl rfl (by kernel_rfl) (v := .int .i64 (7)) (fun y => ex_load _ _ rfl (vx := .pointer (some ⟨b, off + k * 6, none⟩)) (ov_in hn (by kernel_rfl)) (by go_simp)) ?_
              refine ov_qg hn rfl rfl rfl rfl (by kernel_rfl) (v := .bool true) (fun y => ex_bin _ _ _ _ _ rfl (vx := .int .i64 (7)) (vy := .int .i64 7) (ov_in hn (by kernel_rfl)) rfl (by go_simp) (by go_simp)) ?_
              refine ov_qg hn rfl rfl rfl rfl (by kernel_rfl) (v := .bool true) (fun y => ex_move _ rfl (ov_in hn (by kernel_rfl))) ?_
              refine ov_qg hn rfl rfl rfl rfl (by kernel_rfl) (v := fptr d') (fun y => ex_load _ _ rfl (vx := fptr q5) (ov_out hn (by kernel_rfl) e5) (by go_simp)) ?_
              refine ov_qg hn rfl rfl rfl rfl (by kernel_rfl) (v := .int .i64 (rm2)) (fun y => ex_move _ rfl (ov_out hn (by kernel_rfl) e8)) ?_
              refine ov_lg hn rfl rfl rfl (by kernel_rfl) ?_
              intro K2 hK2
              refine ov_call 22 _ _ rfl rfl #[fptr d'] (map1 (ov_in hn (by kernel_rfl))) (callFunc_run Try.func22 (by kernel_rfl) (by kernel_rfl) _) ?_
              refine (HR.out _ hS).mono ?_
              rintro e W2 ⟨rfl, hxr⟩
              refine ⟨_, rfl, hK2.out _ _ hxr ?_⟩
              clear hK2 K2
              clear c5 k0 k1 k2
              replace hS := hS.ext hxr
              replace hx := hx.trans hxr
              clear hxr
              have c5 : ∀ y : Above Ext W2, y.1.cell? ⟨q5, 0, none⟩ = _ := fun y => (HC.out y.1 (hx.trans y.2)).1
              have k0 : ∀ y : Above Ext W2, y.1.cell? ⟨b, off + k * 6, none⟩ = _ := fun y => (HC.out y.1 (hx.trans y.2)).2.1
              have k1 : ∀ y : Above Ext W2, y.1.cell? ⟨b, off + k * 6 + 1, none⟩ = _ := fun y => (HC.out y.1 (hx.trans y.2)).2.2.1
              have k2 : ∀ y : Above Ext W2, y.1.cell? ⟨b, off + k * 6 + 2, none⟩ = _ := fun y => (HC.out y.1 (hx.trans y.2)).2.2.2
              refine ov_qg hn rfl rfl rfl rfl (by kernel_rfl) (v := .bool false) (fun y => ex_bin _ _ _ _ _ rfl (vx := .int .i64 (rm2)) (vy := .int .i64 (rm2)) (ov_in hn (by kernel_rfl)) (ov_in hn (by kernel_rfl)) (by go_simp) (by go_simp)) ?_
              refine ov_qg hn rfl rfl rfl rfl (by kernel_rfl) (v := .bool false) (fun y => ex_pick _ _ _ rfl true (ov_in hn (by kernel_rfl)) ((if_pos rfl).trans (ov_in hn (by kernel_rfl)))) ?_
              refine ov_q rfl rfl rfl (v := .bool false) (fun y => ex_pick _ _ _ rfl false (ov_in hn (by kernel_rfl)) ((if_neg (by decide)).trans (ov_in hn (by kernel_rfl)))) ?_
              refine ov_q rfl rfl rfl (v := .bool false) (fun y => ex_move _ rfl (ov_in hn (by kernel_rfl))) ?_
              refine ov_qg hn rfl rfl rfl rfl (by kernel_rfl) (v := .bool false) (fun y => ex_move _ rfl (ov_out hn (by kernel_rfl) e9)) ?_
              refine ov_qg hn rfl rfl rfl rfl (by kernel_rfl) (v := .bool false) (fun y => ex_move _ rfl (ov_in hn (by kernel_rfl))) ?_
              iterate 6 (refine ov_n hn (vj := .bool false) rfl rfl rfl rfl (by kernel_rfl) (by kernel_rfl) ?_)
              refine ov_qg hn rfl rfl rfl rfl (by kernel_rfl) (v := .bool false) (fun y => ex_pick _ _ _ rfl false (ov_in hn (by kernel_rfl)) ((if_neg (by decide)).trans rfl)) ?_
              refine ov_qg hn rfl rfl rfl rfl (by kernel_rfl) (v := .bool false) (fun y => ex_move _ rfl (ov_in hn (by kernel_rfl))) ?_
              iterate 2 (refine ov_n hn (vj := .bool false) rfl rfl rfl rfl (by kernel_rfl) (by kernel_rfl) ?_)
              refine ov_qg hn rfl rfl rfl rfl (by kernel_rfl) (v := .bool false) (fun y => ex_pick _ _ _ rfl false (ov_in hn (by kernel_rfl)) ((if_neg (by decide)).trans rfl)) ?_
              refine ov_qg hn rfl rfl rfl rfl (by kernel_rfl) (v := .bool false) (fun y => ex_move _ rfl (ov_in hn (by kernel_rfl))) ?_
              iterate 6 (refine ov_n hn (vj := .bool false) rfl rfl rfl rfl (by kernel_rfl) (by kernel_rfl) ?_)
              refine ov_qg hn rfl rfl rfl rfl (by kernel_rfl) (v := .bool false) (fun y => ex_pick _ _ _ rfl false (ov_in hn (by kernel_rfl)) ((if_neg (by decide)).trans rfl)) ?_
              refine ov_q rfl rfl rfl (v := .bool false) (fun y => ex_pick _ _ _ rfl false (ov_in hn (by kernel_rfl)) ((if_neg (by decide)).trans (ov_in hn (by kernel_rfl)))) ?_
              refine plan_end (hK.out _ _ ?_)
              exact hK' _ _ (Met.intro (hJ' _ _ ⟨.bool false, .bool false, undef, undef, .bool false, .bool false, undef, undef, undef, undef, undef, undef, undef, undef, undef, undef, undef, undef, undef, undef, undef, undef, undef, undef, undef, undef, undef, undef, undef, undef, undef, undef, .bool false, .bool false, .bool false, .bool false, undef, undef, .bool false, .bool false, undef, undef, .bool false, .bool false, .bool false, .slice (some ⟨b, off, none⟩) len c, .int .i64 (k), .pointer (some ⟨b, off + k * 6, none⟩), .pointer (some ⟨b, off + k * 6, none⟩), .int .i64 (7), .bool true, .bool true, fptr d', .int .i64 (rm2), .int .i64 (rm2), .bool false, .bool false, .bool false, .bool false, .bool false, .bool false, undef, undef, undef, undef, undef, undef, .bool false, .bool false, undef, undef, .bool false, .bool false, undef, undef, undef, undef, undef, undef, .bool false, .bool false, ⟨rfl, hS⟩, (ov_eq hn _).trans (by rw [HA.out]; kernel_rfl)⟩))
        have ek7 : (kind == 7) = false := by simpa using kd7
        cases was with
        | false =>
          clear hR HT
          as_aux_lemma =>
            have c5 : ∀ y : Above Ext wq, y.1.cell? ⟨q5, 0, none⟩ = _ := fun y => (HC.out y.1 (hx.trans y.2)).1
            have k0 : ∀ y : Above Ext wq, y.1.cell? ⟨b, off + k * 6, none⟩ = _ := fun y => (HC.out y.1 (hx.trans y.2)).2.1
            have k1 : ∀ y : Above Ext wq, y.1.cell? ⟨b, off + k * 6 + 1, none⟩ = _ := fun y => (HC.out y.1 (hx.trans y.2)).2.2.1
            have k2 : ∀ y : Above Ext wq, y.1.cell? ⟨b, off + k * 6 + 2, none⟩ = _ := fun y => (HC.out y.1 (hx.trans y.2)).2.2.2
            refine ov_open 201 (by kernel_rfl) ?_
            intro A hn hev hA
            have HA := Lib.hid hA
            clear hA
            have e1 : A.eval (.tmp 1) = .slice (some ⟨b, off, none⟩) len c := (hev 1).trans (by kernel_rfl)
            have e7 : A.eval (.tmp 7) = .int .i64 (k) := (hev 7).trans (by kernel_rfl)
            have e9 : A.eval (.tmp 9) = .bool false := (hev 9).trans (by kernel_rfl)
            have e12 : A.eval (.tmp 12) = .bool false := (hev 12).trans (by kernel_rfl)
            clear hev
            refine ov_q rfl rfl rfl (v := .bool false) (fun y => ex_move _ rfl (ov_out hn (by kernel_rfl) e12)) ?_
            refine ov_q rfl rfl rfl (v := .bool false) (fun y => ex_move _ rfl (ov_in hn (by kernel_rfl))) ?_
            iterate 2 (refine ov_n hn (vj := .bool false) rfl rfl rfl rfl (by kernel_rfl) (by kernel_rfl) ?_)
            refine ov_q rfl rfl rfl (v := .bool false) (fun y => ex_pick _ _ _ rfl false (ov_in hn (by kernel_rfl)) ((if_neg (by decide)).trans rfl)) ?_
            refine ov_q rfl rfl rfl (v := .bool false) (fun y => ex_move _ rfl (ov_in hn (by kernel_rfl))) ?_
            iterate 5 (refine ov_n hn (vj := .bool false) rfl rfl rfl rfl (by kernel_rfl) (by kernel_rfl) ?_)
            iterate 5 (refine ov_n hn (vj := undef) rfl rfl rfl rfl (by kernel_rfl) (by kernel_rfl) ?_)
            iterate 2 (refine ov_n hn (vj := .bool false) rfl rfl rfl rfl (by kernel_rfl) (by kernel_rfl) ?_)
            iterate 13 (refine ov_n hn (vj := undef) rfl rfl rfl rfl (by kernel_rfl) (by kernel_rfl) ?_)
            refine ov_n hn (vj := .bool false) rfl rfl rfl rfl (by kernel_rfl) (by kernel_rfl) ?_
            refine ov_q rfl rfl rfl (v := .bool false) (fun y => ex_pick _ _ _ rfl false (ov_in hn (by kernel_rfl)) ((if_neg (by decide)).trans rfl)) ?_
            refine ov_q rfl rfl rfl (v := .bool false) (fun y => ex_move _ rfl (ov_in hn (by kernel_rfl))) ?_
            refine ov_qg hn rfl rfl rfl rfl (by kernel_rfl) (v := .bool false) (fun y => ex_move _ rfl (ov_out hn (by kernel_rfl) e12)) ?_
            refine ov_qg hn rfl rfl rfl rfl (by kernel_rfl) (v := .bool false) (fun y => ex_move _ rfl (ov_in hn (by kernel_rfl))) ?_
            iterate 2 (refine ov_n hn (vj := .bool false) rfl rfl rfl rfl (by kernel_rfl) (by kernel_rfl) ?_)
            refine ov_qg hn rfl rfl rfl rfl (by kernel_rfl) (v := .bool false) (fun y => ex_pick _ _ _ rfl false (ov_in hn (by kernel_rfl)) ((if_neg (by decide)).trans rfl)) ?_
            refine ov_qg hn rfl rfl rfl rfl (by kernel_rfl) (v := .bool false) (fun y => ex_move _ rfl (ov_in hn (by kernel_rfl))) ?_
            iterate 2 (refine ov_n hn (vj := .bool false) rfl rfl rfl rfl (by kernel_rfl) (by kernel_rfl) ?_)
            refine ov_qg hn rfl rfl rfl rfl (by kernel_rfl) (v := .bool false) (fun y => ex_pick _ _ _ rfl false (ov_in hn (by kernel_rfl)) ((if_neg (by decide)).trans rfl)) ?_
            refine ov_q rfl rfl rfl (v := .bool false) (fun y => ex_pick _ _ _ rfl false (ov_in hn (by kernel_rfl)) ((if_neg (by decide)).trans (ov_in hn (by kernel_rfl)))) ?_
            refine ov_q rfl rfl rfl (v := .bool false) (fun y => ex_move _ rfl (ov_in hn (by kernel_rfl))) ?_
            refine ov_qg hn rfl rfl rfl rfl (by kernel_rfl) (v := .slice (some ⟨b, off, none⟩) len c) (fun y => ex_move _ rfl (ov_out hn (by kernel_rfl) e1)) ?_
            refine ov_qg hn rfl rfl rfl rfl (by kernel_rfl) (v := .int .i64 (k)) (fun y => ex_move _ rfl (ov_out hn (by kernel_rfl) e7)) ?_
            refine ov_qg hn rfl rfl rfl rfl (by kernel_rfl) (v := .pointer (some ⟨b, off + k * 6, none⟩)) (fun y => ex_index _ _ _ rfl (vx := .slice (some ⟨b, off, none⟩) len c) (vy := .int .i64 (k)) (ov_in hn (by kernel_rfl)) (ov_in hn (by kernel_rfl)) (by go_simp)) ?_
            refine ov_qg hn rfl rfl rfl rfl (by kernel_rfl) (v := .pointer (some ⟨b, off + k * 6, none⟩)) (fun y => ex_field _ _ _ rfl (vx := .pointer (some ⟨b, off + k * 6, none⟩)) (ov_in hn (by kernel_rfl)) (by go_simp)) ?_
            refine ov_qg hn rfl rfl rfl rfl (by kernel_rfl) (v := .int .i64 (kind)) (fun y => ex_load _ _ rfl (vx := .pointer (some ⟨b, off + k * 6, none⟩)) (ov_in hn (by kernel_rfl)) (by go_simp)) ?_
            refine ov_qg hn rfl rfl rfl rfl (by kernel_rfl) (v := .bool false) (fun y => ex_bin _ _ _ _ _ rfl (vx := .int .i64 (kind)) (vy := .int .i64 7) (ov_in hn (by kernel_rfl)) rfl (by go_simp) (by go_simp)) ?_
            refine ov_qg hn rfl rfl rfl rfl (by kernel_rfl) (v := .bool false) (fun y => ex_move _ rfl (ov_in hn (by kernel_rfl))) ?_
            iterate 4 (refine ov_n hn (vj := .bool false) rfl rfl rfl rfl (by kernel_rfl) (by kernel_rfl) ?_)
            refine ov_qg hn rfl rfl rfl rfl (by kernel_rfl) (v := .bool false) (fun y => ex_pick _ _ _ rfl false (ov_in hn (by kernel_rfl)) ((if_neg (by decide)).trans rfl)) ?_
            refine ov_q rfl rfl rfl (v := .bool false) (fun y => ex_pick _ _ _ rfl false (ov_in hn (by kernel_rfl)) ((if_neg (by decide)).trans (ov_in hn (by kernel_rfl)))) ?_
            refine ov_q rfl rfl rfl (v := .bool false) (fun y => ex_move _ rfl (ov_in hn (by kernel_rfl))) ?_
            refine ov_qg hn rfl rfl rfl rfl (by kernel_rfl) (v := .bool false) (fun y => ex_move _ rfl (ov_out hn (by kernel_rfl) e9)) ?_
            refine ov_qg hn rfl rfl rfl rfl (by kernel_rfl) (v := .bool false) (fun y => ex_move _ rfl (ov_in hn (by kernel_rfl))) ?_
            iterate 6 (refine ov_n hn (vj := .bool false) rfl rfl rfl rfl (by kernel_rfl) (by kernel_rfl) ?_)
            refine ov_qg hn rfl rfl rfl rfl (by kernel_rfl) (v := .bool false) (fun y => ex_pick _ _ _ rfl false (ov_in hn (by kernel_rfl)) ((if_neg (by decide)).trans rfl)) ?_
            refine ov_qg hn rfl rfl rfl rfl (by kernel_rfl) (v := .bool false) (fun y => ex_move _ rfl (ov_in hn (by kernel_rfl))) ?_
            iterate 2 (refine ov_n hn (vj := .bool false) rfl rfl rfl rfl (by kernel_rfl) (by kernel_rfl) ?_)
            refine ov_qg hn rfl rfl rfl rfl (by kernel_rfl) (v := .bool false) (fun y => ex_pick _ _ _ rfl false (ov_in hn (by kernel_rfl)) ((if_neg (by decide)).trans rfl)) ?_
            refine ov_qg hn rfl rfl rfl rfl (by kernel_rfl) (v := .bool false) (fun y => ex_move _ rfl (ov_in hn (by kernel_rfl))) ?_
            iterate 6 (refine ov_n hn (vj := .bool false) rfl rfl rfl rfl (by kernel_rfl) (by kernel_rfl) ?_)
            refine ov_qg hn rfl rfl rfl rfl (by kernel_rfl) (v := .bool false) (fun y => ex_pick _ _ _ rfl false (ov_in hn (by kernel_rfl)) ((if_neg (by decide)).trans rfl)) ?_
            refine ov_q rfl rfl rfl (v := .bool false) (fun y => ex_pick _ _ _ rfl false (ov_in hn (by kernel_rfl)) ((if_neg (by decide)).trans (ov_in hn (by kernel_rfl)))) ?_
            refine plan_end (hK.out _ _ ?_)
            exact hK' _ _ (Met.intro (hJ' _ _ ⟨.bool false, .bool false, undef, undef, .bool false, .bool false, undef, undef, undef, undef, undef, undef, undef, undef, undef, undef, undef, undef, undef, undef, undef, undef, undef, undef, undef, undef, undef, undef, undef, undef, undef, undef, .bool false, .bool false, .bool false, .bool false, undef, undef, .bool false, .bool false, undef, undef, .bool false, .bool false, .bool false, .slice (some ⟨b, off, none⟩) len c, .int .i64 (k), .pointer (some ⟨b, off + k * 6, none⟩), .pointer (some ⟨b, off + k * 6, none⟩), .int .i64 (kind), .bool false, .bool false, undef, undef, undef, undef, .bool false, .bool false, .bool false, .bool false, .bool false, undef, undef, undef, undef, undef, undef, .bool false, .bool false, undef, undef, .bool false, .bool false, undef, undef, undef, undef, undef, undef, .bool false, .bool false, ⟨rfl, hS⟩, (ov_eq hn _).trans (by rw [HA.out]; kernel_rfl)⟩))
        | true =>
          by_cases k6 : kind < 6
          · have k6' : decide (kind < 6) = true := by simpa using k6
            by_cases hx0 : x = 0
            · subst hx0
              have kp : ¬ 0 < kind := fun h => hR.dead HW.out (show 1 ≤ kind by omega) (show kind ≤ 5 by omega) rfl
              have kp' : decide (0 < kind) = false := by simpa using kp
              clear hR HT
              as_aux_lemma =>
                have c5 : ∀ y : Above Ext wq, y.1.cell? ⟨q5, 0, none⟩ = _ := fun y => (HC.out y.1 (hx.trans y.2)).1
                have k0 : ∀ y : Above Ext wq, y.1.cell? ⟨b, off + k * 6, none⟩ = _ := fun y => (HC.out y.1 (hx.trans y.2)).2.1
                have k1 : ∀ y : Above Ext wq, y.1.cell? ⟨b, off + k * 6 + 1, none⟩ = _ := fun y => (HC.out y.1 (hx.trans y.2)).2.2.1
                have k2 : ∀ y : Above Ext wq, y.1.cell? ⟨b, off + k * 6 + 2, none⟩ = _ := fun y => (HC.out y.1 (hx.trans y.2)).2.2.2
                refine ov_open 201 (by kernel_rfl) ?_
                intro A hn hev hA
                have HA := Lib.hid hA
                clear hA
                have e1 : A.eval (.tmp 1) = .slice (some ⟨b, off, none⟩) len c := (hev 1).trans (by kernel_rfl)
                have e7 : A.eval (.tmp 7) = .int .i64 (k) := (hev 7).trans (by kernel_rfl)
                have e9 : A.eval (.tmp 9) = .bool true := (hev 9).trans (by kernel_rfl)
                have e10 : A.eval (.tmp 10) = .int .i64 (0) := (hev 10).trans (by kernel_rfl)
                have e12 : A.eval (.tmp 12) = .bool false := (hev 12).trans (by kernel_rfl)
                clear hev
                refine ov_q rfl rfl rfl (v := .bool false) (fun y => ex_move _ rfl (ov_out hn (by kernel_rfl) e12)) ?_
                refine ov_q rfl rfl rfl (v := .bool false) (fun y => ex_move _ rfl (ov_in hn (by kernel_rfl))) ?_
                iterate 2 (refine ov_n hn (vj := .bool false) rfl rfl rfl rfl (by kernel_rfl) (by kernel_rfl) ?_)
                refine ov_q rfl rfl rfl (v := .bool false) (fun y => ex_pick _ _ _ rfl false (ov_in hn (by kernel_rfl)) ((if_neg (by decide)).trans rfl)) ?_
                refine ov_q rfl rfl rfl (v := .bool false) (fun y => ex_move _ rfl (ov_in hn (by kernel_rfl))) ?_
                iterate 5 (refine ov_n hn (vj := .bool false) rfl rfl rfl rfl (by kernel_rfl) (by kernel_rfl) ?_)
                iterate 5 (refine ov_n hn (vj := undef) rfl rfl rfl rfl (by kernel_rfl) (by kernel_rfl) ?_)
                iterate 2 (refine ov_n hn (vj := .bool false) rfl rfl rfl rfl (by kernel_rfl) (by kernel_rfl) ?_)
                iterate 13 (refine ov_n hn (vj := undef) rfl rfl rfl rfl (by kernel_rfl) (by kernel_rfl) ?_)
                refine ov_n hn (vj := .bool false) rfl rfl rfl rfl (by kernel_rfl) (by kernel_rfl) ?_
                refine ov_q rfl rfl rfl (v := .bool false) (fun y => ex_pick _ _ _ rfl false (ov_in hn (by kernel_rfl)) ((if_neg (by decide)).trans rfl)) ?_
                refine ov_q rfl rfl rfl (v := .bool false) (fun y => ex_move _ rfl (ov_in hn (by kernel_rfl))) ?_
                refine ov_qg hn rfl rfl rfl rfl (by kernel_rfl) (v := .bool false) (fun y => ex_move _ rfl (ov_out hn (by kernel_rfl) e12)) ?_
                refine ov_qg hn rfl rfl rfl rfl (by kernel_rfl) (v := .bool false) (fun y => ex_move _ rfl (ov_in hn (by kernel_rfl))) ?_
                iterate 2 (refine ov_n hn (vj := .bool false) rfl rfl rfl rfl (by kernel_rfl) (by kernel_rfl) ?_)
                refine ov_qg hn rfl rfl rfl rfl (by kernel_rfl) (v := .bool false) (fun y => ex_pick _ _ _ rfl false (ov_in hn (by kernel_rfl)) ((if_neg (by decide)).trans rfl)) ?_
                refine ov_qg hn rfl rfl rfl rfl (by kernel_rfl) (v := .bool false) (fun y => ex_move _ rfl (ov_in hn (by kernel_rfl))) ?_
                iterate 2 (refine ov_n hn (vj := .bool false) rfl rfl rfl rfl (by kernel_rfl) (by kernel_rfl) ?_)
                refine ov_qg hn rfl rfl rfl rfl (by kernel_rfl) (v := .bool false) (fun y => ex_pick _ _ _ rfl false (ov_in hn (by kernel_rfl)) ((if_neg (by decide)).trans rfl)) ?_
                refine ov_q rfl rfl rfl (v := .bool false) (fun y => ex_pick _ _ _ rfl false (ov_in hn (by kernel_rfl)) ((if_neg (by decide)).trans (ov_in hn (by kernel_rfl)))) ?_
                refine ov_q rfl rfl rfl (v := .bool false) (fun y => ex_move _ rfl (ov_in hn (by kernel_rfl))) ?_
                refine ov_qg hn rfl rfl rfl rfl (by kernel_rfl) (v := .slice (some ⟨b, off, none⟩) len c) (fun y => ex_move _ rfl (ov_out hn (by kernel_rfl) e1)) ?_
                refine ov_qg hn rfl rfl rfl rfl (by kernel_rfl) (v := .int .i64 (k)) (fun y => ex_move _ rfl (ov_out hn (by kernel_rfl) e7)) ?_
                refine ov_qg hn rfl rfl rfl rfl (by kernel_rfl) (v := .pointer (some ⟨b, off + k * 6, none⟩)) (fun y => ex_index _ _ _ rfl (vx := .slice (some ⟨b, off, none⟩) len c) (vy := .int .i64 (k)) (ov_in hn (by kernel_rfl)) (ov_in hn (by kernel_rfl)) (by go_simp)) ?_
                refine ov_qg hn rfl rfl rfl rfl (by kernel_rfl) (v := .pointer (some ⟨b, off + k * 6, none⟩)) (fun y => ex_field _ _ _ rfl (vx := .pointer (some ⟨b, off + k * 6, none⟩)) (ov_in hn (by kernel_rfl)) (by go_simp)) ?_
                refine ov_qg hn rfl rfl rfl rfl (by kernel_rfl) (v := .int .i64 (kind)) (fun y => ex_load _ _ rfl (vx := .pointer (some ⟨b, off + k * 6, none⟩)) (ov_in hn (by kernel_rfl)) (by go_simp)) ?_
                refine ov_qg hn rfl rfl rfl rfl (by kernel_rfl) (v := .bool false) (fun y => ex_bin _ _ _ _ _ rfl (vx := .int .i64 (kind)) (vy := .int .i64 7) (ov_in hn (by kernel_rfl)) rfl (by go_simp) (by go_simp)) ?_
                refine ov_qg hn rfl rfl rfl rfl (by kernel_rfl) (v := .bool false) (fun y => ex_move _ rfl (ov_in hn (by kernel_rfl))) ?_
                iterate 4 (refine ov_n hn (vj := .bool false) rfl rfl rfl rfl (by kernel_rfl) (by kernel_rfl) ?_)
                refine ov_qg hn rfl rfl rfl rfl (by kernel_rfl) (v := .bool false) (fun y => ex_pick _ _ _ rfl false (ov_in hn (by kernel_rfl)) ((if_neg (by decide)).trans rfl)) ?_
                refine ov_q rfl rfl rfl (v := .bool false) (fun y => ex_pick _ _ _ rfl false (ov_in hn (by kernel_rfl)) ((if_neg (by decide)).trans (ov_in hn (by kernel_rfl)))) ?_
                refine ov_q rfl rfl rfl (v := .bool false) (fun y => ex_move _ rfl (ov_in hn (by kernel_rfl))) ?_
                refine ov_qg hn rfl rfl rfl rfl (by kernel_rfl) (v := .bool true) (fun y => ex_move _ rfl (ov_out hn (by kernel_rfl) e9)) ?_
                refine ov_qg hn rfl rfl rfl rfl (by kernel_rfl) (v := .bool true) (fun y => ex_move _ rfl (ov_in hn (by kernel_rfl))) ?_
                refine ov_qg hn rfl rfl rfl rfl (by kernel_rfl) (v := .slice (some ⟨b, off, none⟩) len c) (fun y => ex_move _ rfl (ov_out hn (by kernel_rfl) e1)) ?_
                refine ov_qg hn rfl rfl rfl rfl (by kernel_rfl) (v := .int .i64 (k)) (fun y => ex_move _ rfl (ov_out hn (by kernel_rfl) e7)) ?_
                refine ov_qg hn rfl rfl rfl rfl (by kernel_rfl) (v := .pointer (some ⟨b, off + k * 6, none⟩)) (fun y => ex_index _ _ _ rfl (vx := .slice (some ⟨b, off, none⟩) len c) (vy := .int .i64 (k)) (ov_in hn (by kernel_rfl)) (ov_in hn (by kernel_rfl)) (by go_simp)) ?_
                refine ov_qg hn rfl rfl rfl rfl (by kernel_rfl) (v := .pointer (some ⟨b, off + k * 6, none⟩)) (fun y => ex_field _ _ _ rfl (vx := .pointer (some ⟨b, off + k * 6, none⟩)) (ov_in hn (by kernel_rfl)) (by go_simp)) ?_
                refine ov_qg hn rfl rfl rfl rfl (by kernel_rfl) (v := .int .i64 (kind)) (fun y => ex_load _ _ rfl (vx := .pointer (some ⟨b, off + k * 6, none⟩)) (ov_in hn (by kernel_rfl)) (by go_simp)) ?_
                refine ov_qg hn rfl rfl rfl rfl (by kernel_rfl) (v := .bool true) (fun y => ex_bin _ _ _ _ _ rfl (vx := .int .i64 (kind)) (vy := .int .i64 6) (ov_in hn (by kernel_rfl)) rfl (by go_simp) (by go_simp)) ?_
                refine ov_qg hn rfl rfl rfl rfl (by kernel_rfl) (v := .bool true) (fun y => ex_pick _ _ _ rfl true (ov_in hn (by kernel_rfl)) ((if_pos rfl).trans (ov_in hn (by kernel_rfl)))) ?_
                refine ov_qg hn rfl rfl rfl rfl (by kernel_rfl) (v := .bool true) (fun y => ex_move _ rfl (ov_in hn (by kernel_rfl))) ?_
                refine ov_qg hn rfl rfl rfl rfl (by kernel_rfl) (v := .int .i64 (0)) (fun y => ex_move _ rfl (ov_out hn (by kernel_rfl) e10)) ?_
                refine ov_qg hn rfl rfl rfl rfl (by kernel_rfl) (v := .bool true) (fun y => ex_bin _ _ _ _ _ rfl (vx := .int .i64 (0)) (vy := .int .i64 0) (ov_in hn (by kernel_rfl)) rfl (by go_simp) (by go_simp)) ?_
                refine ov_qg hn rfl rfl rfl rfl (by kernel_rfl) (v := .bool true) (fun y => ex_pick _ _ _ rfl true (ov_in hn (by kernel_rfl)) ((if_pos rfl).trans (ov_in hn (by kernel_rfl)))) ?_
                refine ov_qg hn rfl rfl rfl rfl (by kernel_rfl) (v := .bool true) (fun y => ex_move _ rfl (ov_in hn (by kernel_rfl))) ?_
                refine ov_qg hn rfl rfl rfl rfl (by kernel_rfl) (v := .slice (some ⟨b, off, none⟩) len c) (fun y => ex_move _ rfl (ov_out hn (by kernel_rfl) e1)) ?_
                refine ov_qg hn rfl rfl rfl rfl (by kernel_rfl) (v := .int .i64 (k)) (fun y => ex_move _ rfl (ov_out hn (by kernel_rfl) e7)) ?_
                refine ov_qg hn rfl rfl rfl rfl (by kernel_rfl) (v := .pointer (some ⟨b, off + k * 6, none⟩)) (fun y => ex_index _ _ _ rfl (vx := .slice (some ⟨b, off, none⟩) len c) (vy := .int .i64 (k)) (ov_in hn (by kernel_rfl)) (ov_in hn (by kernel_rfl)) (by go_simp)) ?_
                refine ov_qg hn rfl rfl rfl rfl (by kernel_rfl) (v := .pointer (some ⟨b, off + k * 6, none⟩)) (fun y => ex_field _ _ _ rfl (vx := .pointer (some ⟨b, off + k * 6, none⟩)) (ov_in hn (by kernel_rfl)) (by go_simp)) ?_
                refine ov_qg hn rfl rfl rfl rfl (by kernel_rfl) (v := .int .i64 (kind)) (fun y => ex_load _ _ rfl (vx := .pointer (some ⟨b, off + k * 6, none⟩)) (ov_in hn (by kernel_rfl)) (by go_simp)) ?_
                refine ov_qg hn rfl rfl rfl rfl (by kernel_rfl) (v := .bool false) (fun y => ex_bin _ _ _ _ _ rfl (vx := .int .i64 (kind)) (vy := .int .i64 0) (ov_in hn (by kernel_rfl)) rfl (by go_simp) (by go_simp)) ?_
                refine ov_qg hn rfl rfl rfl rfl (by kernel_rfl) (v := .bool false) (fun y => ex_pick _ _ _ rfl true (ov_in hn (by kernel_rfl)) ((if_pos rfl).trans (ov_in hn (by kernel_rfl)))) ?_
                refine ov_q rfl rfl rfl (v := .bool false) (fun y => ex_pick _ _ _ rfl false (ov_in hn (by kernel_rfl)) ((if_neg (by decide)).trans (ov_in hn (by kernel_rfl)))) ?_
                refine plan_end (hK.out _ _ ?_)
                exact hK' _ _ (Met.intro (hJ' _ _ ⟨.bool false, .bool false, undef, undef, .bool false, .bool false, undef, undef, undef, undef, undef, undef, undef, undef, undef, undef, undef, undef, undef, undef, undef, undef, undef, undef, undef, undef, undef, undef, undef, undef, undef, undef, .bool false, .bool false, .bool false, .bool false, undef, undef, .bool false, .bool false, undef, undef, .bool false, .bool false, .bool false, .slice (some ⟨b, off, none⟩) len c, .int .i64 (k), .pointer (some ⟨b, off + k * 6, none⟩), .pointer (some ⟨b, off + k * 6, none⟩), .int .i64 (kind), .bool false, .bool false, undef, undef, undef, undef, .bool false, .bool false, .bool false, .bool true, .bool true, .slice (some ⟨b, off, none⟩) len c, .int .i64 (k), .pointer (some ⟨b, off + k * 6, none⟩), .pointer (some ⟨b, off + k * 6, none⟩), .int .i64 (kind), .bool true, .bool true, .bool true, .int .i64 (0), .bool true, .bool true, .bool true, .slice (some ⟨b, off, none⟩) len c, .int .i64 (k), .pointer (some ⟨b, off + k * 6, none⟩), .pointer (some ⟨b, off + k * 6, none⟩), .int .i64 (kind), .bool false, .bool false, .bool false, ⟨rfl, hS⟩, (ov_eq hn _).trans (by rw [HA.out]; kernel_rfl)⟩))
            · have ex0 : (x == 0) = false := by simpa using hx0
              clear hR HT
              as_aux_lemma =>
                have c5 : ∀ y : Above Ext wq, y.1.cell? ⟨q5, 0, none⟩ = _ := fun y => (HC.out y.1 (hx.trans y.2)).1
                have k0 : ∀ y : Above Ext wq, y.1.cell? ⟨b, off + k * 6, none⟩ = _ := fun y => (HC.out y.1 (hx.trans y.2)).2.1
                have k1 : ∀ y : Above Ext wq, y.1.cell? ⟨b, off + k * 6 + 1, none⟩ = _ := fun y => (HC.out y.1 (hx.trans y.2)).2.2.1
                have k2 : ∀ y : Above Ext wq, y.1.cell? ⟨b, off + k * 6 + 2, none⟩ = _ := fun y => (HC.out y.1 (hx.trans y.2)).2.2.2
                refine ov_open 201 (by kernel_rfl) ?_
                intro A hn hev hA
                have HA := Lib.hid hA
                clear hA
                have e1 : A.eval (.tmp 1) = .slice (some ⟨b, off, none⟩) len c := (hev 1).trans (by kernel_rfl)
                have e7 : A.eval (.tmp 7) = .int .i64 (k) := (hev 7).trans (by kernel_rfl)
                have e9 : A.eval (.tmp 9) = .bool true := (hev 9).trans (by kernel_rfl)
                have e10 : A.eval (.tmp 10) = .int .i64 (x) := (hev 10).trans (by kernel_rfl)
                have e12 : A.eval (.tmp 12) = .bool false := (hev 12).trans (by kernel_rfl)
                clear hev
                refine ov_q rfl rfl rfl (v := .bool false) (fun y => ex_move _ rfl (ov_out hn (by kernel_rfl) e12)) ?_
                refine ov_q rfl rfl rfl (v := .bool false) (fun y => ex_move _ rfl (ov_in hn (by kernel_rfl))) ?_
                iterate 2 (refine ov_n hn (vj := .bool false) rfl rfl rfl rfl (by kernel_rfl) (by kernel_rfl) ?_)
                refine ov_q rfl rfl rfl (v := .bool false) (fun y => ex_pick _ _ _ rfl false (ov_in hn (by kernel_rfl)) ((if_neg (by decide)).trans rfl)) ?_
                refine ov_q rfl rfl rfl (v := .bool false) (fun y => ex_move _ rfl (ov_in hn (by kernel_rfl))) ?_
                iterate 5 (refine ov_n hn (vj := .bool false) rfl rfl rfl rfl (by kernel_rfl) (by kernel_rfl) ?_)
                iterate 5 (refine ov_n hn (vj := undef) rfl rfl rfl rfl (by kernel_rfl) (by kernel_rfl) ?_)
                iterate 2 (refine ov_n hn (vj := .bool false) rfl rfl rfl rfl (by kernel_rfl) (by kernel_rfl) ?_)
                iterate 13 (refine ov_n hn (vj := undef) rfl rfl rfl rfl (by kernel_rfl) (by kernel_rfl) ?_)
                refine ov_n hn (vj := .bool false) rfl rfl rfl rfl (by kernel_rfl) (by kernel_rfl) ?_
                refine ov_q rfl rfl rfl (v := .bool false) (fun y => ex_pick _ _ _ rfl false (ov_in hn (by kernel_rfl)) ((if_neg (by decide)).trans rfl)) ?_
                refine ov_q rfl rfl rfl (v := .bool false) (fun y => ex_move _ rfl (ov_in hn (by kernel_rfl))) ?_
                refine ov_qg hn rfl rfl rfl rfl (by kernel_rfl) (v := .bool false) (fun y => ex_move _ rfl (ov_out hn (by kernel_rfl) e12)) ?_
                refine ov_qg hn rfl rfl rfl rfl (by kernel_rfl) (v := .bool false) (fun y => ex_move _ rfl (ov_in hn (by kernel_rfl))) ?_
                iterate 2 (refine ov_n hn (vj := .bool false) rfl rfl rfl rfl (by kernel_rfl) (by kernel_rfl) ?_)
                refine ov_qg hn rfl rfl rfl rfl (by kernel_rfl) (v := .bool false) (fun y => ex_pick _ _ _ rfl false (ov_in hn (by kernel_rfl)) ((if_neg (by decide)).trans rfl)) ?_
                refine ov_qg hn rfl rfl rfl rfl (by kernel_rfl) (v := .bool false) (fun y => ex_move _ rfl (ov_in hn (by kernel_rfl))) ?_
                iterate 2 (refine ov_n hn (vj := .bool false) rfl rfl rfl rfl (by kernel_rfl) (by kernel_rfl) ?_)
                refine ov_qg hn rfl rfl rfl rfl (by kernel_rfl) (v := .bool false) (fun y => ex_pick _ _ _ rfl false (ov_in hn (by kernel_rfl)) ((if_neg (by decide)).trans rfl)) ?_
                refine ov_q rfl rfl rfl (v := .bool false) (fun y => ex_pick _ _ _ rfl false (ov_in hn (by kernel_rfl)) ((if_neg (by decide)).trans (ov_in hn (by kernel_rfl)))) ?_
                refine ov_q rfl rfl rfl (v := .bool false) (fun y => ex_move _ rfl (ov_in hn (by kernel_rfl))) ?_
                refine ov_qg hn rfl rfl rfl rfl (by kernel_rfl) (v := .slice (some ⟨b, off, none⟩) len c) (fun y => ex_move _ rfl (ov_out hn (by kernel_rfl) e1)) ?_
                refine ov_qg hn rfl rfl rfl rfl (by kernel_rfl) (v := .int .i64 (k)) (fun y => ex_move _ rfl (ov_out hn (by kernel_rfl) e7)) ?_
                refine ov_qg hn rfl rfl rfl rfl (by kernel_rfl) (v := .pointer (some ⟨b, off + k * 6, none⟩)) (fun y => ex_index _ _ _ rfl (vx := .slice (some ⟨b, off, none⟩) len c) (vy := .int .i64 (k)) (ov_in hn (by kernel_rfl)) (ov_in hn (by kernel_rfl)) (by go_simp)) ?_
                refine ov_qg hn rfl rfl rfl rfl (by kernel_rfl) (v := .pointer (some ⟨b, off + k * 6, none⟩)) (fun y => ex_field _ _ _ rfl (vx := .pointer (some ⟨b, off + k * 6, none⟩)) (ov_in hn (by kernel_rfl)) (by go_simp)) ?_
                refine ov_qg hn rfl rfl rfl rfl (by kernel_rfl) (v := .int .i64 (kind)) (fun y => ex_load _ _ rfl (vx := .pointer (some ⟨b, off + k * 6, none⟩)) (ov_in hn (by kernel_rfl)) (by go_simp)) ?_
                refine ov_qg hn rfl rfl rfl rfl (by kernel_rfl) (v := .bool false) (fun y => ex_bin _ _ _ _ _ rfl (vx := .int .i64 (kind)) (vy := .int .i64 7) (ov_in hn (by kernel_rfl)) rfl (by go_simp) (by go_simp)) ?_
                refine ov_qg hn rfl rfl rfl rfl (by kernel_rfl) (v := .bool false) (fun y => ex_move _ rfl (ov_in hn (by kernel_rfl))) ?_
                iterate 4 (refine ov_n hn (vj := .bool false) rfl rfl rfl rfl (by kernel_rfl) (by kernel_rfl) ?_)
                refine ov_qg hn rfl rfl rfl rfl (by kernel_rfl) (v := .bool false) (fun y => ex_pick _ _ _ rfl false (ov_in hn (by kernel_rfl)) ((if_neg (by decide)).trans rfl)) ?_
                refine ov_q rfl rfl rfl (v := .bool false) (fun y => ex_pick _ _ _ rfl false (ov_in hn (by kernel_rfl)) ((if_neg (by decide)).trans (ov_in hn (by kernel_rfl)))) ?_
                refine ov_q rfl rfl rfl (v := .bool false) (fun y => ex_move _ rfl (ov_in hn (by kernel_rfl))) ?_
                refine ov_qg hn rfl rfl rfl rfl (by kernel_rfl) (v := .bool true) (fun y => ex_move _ rfl (ov_out hn (by kernel_rfl) e9)) ?_
                refine ov_qg hn rfl rfl rfl rfl (by kernel_rfl) (v := .bool true) (fun y => ex_move _ rfl (ov_in hn (by kernel_rfl))) ?_
                refine ov_qg hn rfl rfl rfl rfl (by kernel_rfl) (v := .slice (some ⟨b, off, none⟩) len c) (fun y => ex_move _ rfl (ov_out hn (by kernel_rfl) e1)) ?_
                refine ov_qg hn rfl rfl rfl rfl (by kernel_rfl) (v := .int .i64 (k)) (fun y => ex_move _ rfl (ov_out hn (by kernel_rfl) e7)) ?_
                refine ov_qg hn rfl rfl rfl rfl (by kernel_rfl) (v := .pointer (some ⟨b, off + k * 6, none⟩)) (fun y => ex_index _ _ _ rfl (vx := .slice (some ⟨b, off, none⟩) len c) (vy := .int .i64 (k)) (ov_in hn (by kernel_rfl)) (ov_in hn (by kernel_rfl)) (by go_simp)) ?_
                refine ov_qg hn rfl rfl rfl rfl (by kernel_rfl) (v := .pointer (some ⟨b, off + k * 6, none⟩)) (fun y => ex_field _ _ _ rfl (vx := .pointer (some ⟨b, off + k * 6, none⟩)) (ov_in hn (by kernel_rfl)) (by go_simp)) ?_
                refine ov_qg hn rfl rfl rfl rfl (by kernel_rfl) (v := .int .i64 (kind)) (fun y => ex_load _ _ rfl (vx := .pointer (some ⟨b, off + k * 6, none⟩)) (ov_in hn (by kernel_rfl)) (by go_simp)) ?_
                refine ov_qg hn rfl rfl rfl rfl (by kernel_rfl) (v := .bool true) (fun y => ex_bin _ _ _ _ _ rfl (vx := .int .i64 (kind)) (vy := .int .i64 6) (ov_in hn (by kernel_rfl)) rfl (by go_simp) (by go_simp)) ?_
                refine ov_qg hn rfl rfl rfl rfl (by kernel_rfl) (v := .bool true) (fun y => ex_pick _ _ _ rfl true (ov_in hn (by kernel_rfl)) ((if_pos rfl).trans (ov_in hn (by kernel_rfl)))) ?_
                refine ov_qg hn rfl rfl rfl rfl (by kernel_rfl) (v := .bool true) (fun y => ex_move _ rfl (ov_in hn (by kernel_rfl))) ?_
                refine ov_qg hn rfl rfl rfl rfl (by kernel_rfl) (v := .int .i64 (x)) (fun y => ex_move _ rfl (ov_out hn (by kernel_rfl) e10)) ?_
                refine ov_qg hn rfl rfl rfl rfl (by kernel_rfl) (v := .bool false) (fun y => ex_bin _ _ _ _ _ rfl (vx := .int .i64 (x)) (vy := .int .i64 0) (ov_in hn (by kernel_rfl)) rfl (by go_simp) (by go_simp)) ?_
                refine ov_qg hn rfl rfl rfl rfl (by kernel_rfl) (v := .bool false) (fun y => ex_pick _ _ _ rfl true (ov_in hn (by kernel_rfl)) ((if_pos rfl).trans (ov_in hn (by kernel_rfl)))) ?_
                refine ov_qg hn rfl rfl rfl rfl (by kernel_rfl) (v := .bool false) (fun y => ex_move _ rfl (ov_in hn (by kernel_rfl))) ?_
                iterate 6 (refine ov_n hn (vj := .bool false) rfl rfl rfl rfl (by kernel_rfl) (by kernel_rfl) ?_)
                refine ov_qg hn rfl rfl rfl rfl (by kernel_rfl) (v := .bool false) (fun y => ex_pick _ _ _ rfl false (ov_in hn (by kernel_rfl)) ((if_neg (by decide)).trans rfl)) ?_
                refine ov_q rfl rfl rfl (v := .bool false) (fun y => ex_pick _ _ _ rfl false (ov_in hn (by kernel_rfl)) ((if_neg (by decide)).trans (ov_in hn (by kernel_rfl)))) ?_
                refine plan_end (hK.out _ _ ?_)
                exact hK' _ _ (Met.intro (hJ' _ _ ⟨.bool false, .bool false, undef, undef, .bool false, .bool false, undef, undef, undef, undef, undef, undef, undef, undef, undef, undef, undef, undef, undef, undef, undef, undef, undef, undef, undef, undef, undef, undef, undef, undef, undef, undef, .bool false, .bool false, .bool false, .bool false, undef, undef, .bool false, .bool false, undef, undef, .bool false, .bool false, .bool false, .slice (some ⟨b, off, none⟩) len c, .int .i64 (k), .pointer (some ⟨b, off + k * 6, none⟩), .pointer (some ⟨b, off + k * 6, none⟩), .int .i64 (kind), .bool false, .bool false, undef, undef, undef, undef, .bool false, .bool false, .bool false, .bool true, .bool true, .slice (some ⟨b, off, none⟩) len c, .int .i64 (k), .pointer (some ⟨b, off + k * 6, none⟩), .pointer (some ⟨b, off + k * 6, none⟩), .int .i64 (kind), .bool true, .bool true, .bool true, .int .i64 (x), .bool false, .bool false, .bool false, undef, undef, undef, undef, undef, undef, .bool false, .bool false, ⟨rfl, hS⟩, (ov_eq hn _).trans (by rw [HA.out]; kernel_rfl)⟩))
          · have k6' : decide (kind < 6) = false := by simpa using k6
            clear hR HT
            as_aux_lemma =>
              have c5 : ∀ y : Above Ext wq, y.1.cell? ⟨q5, 0, none⟩ = _ := fun y => (HC.out y.1 (hx.trans y.2)).1
              have k0 : ∀ y : Above Ext wq, y.1.cell? ⟨b, off + k * 6, none⟩ = _ := fun y => (HC.out y.1 (hx.trans y.2)).2.1
              have k1 : ∀ y : Above Ext wq, y.1.cell? ⟨b, off + k * 6 + 1, none⟩ = _ := fun y => (HC.out y.1 (hx.trans y.2)).2.2.1
              have k2 : ∀ y : Above Ext wq, y.1.cell? ⟨b, off + k * 6 + 2, none⟩ = _ := fun y => (HC.out y.1 (hx.trans y.2)).2.2.2
              refine ov_open 201 (by kernel_rfl) ?_
              intro A hn hev hA
              have HA := Lib.hid hA
              clear hA
              have e1 : A.eval (.tmp 1) = .slice (some ⟨b, off, none⟩) len c := (hev 1).trans (by kernel_rfl)
              have e7 : A.eval (.tmp 7) = .int .i64 (k) := (hev 7).trans (by kernel_rfl)
              have e9 : A.eval (.tmp 9) = .bool true := (hev 9).trans (by kernel_rfl)
              have e12 : A.eval (.tmp 12) = .bool false := (hev 12).trans (by kernel_rfl)
              clear hev
              refine ov_q rfl rfl rfl (v := .bool false) (fun y => ex_move _ rfl (ov_out hn (by kernel_rfl) e12)) ?_
              refine ov_q rfl rfl rfl (v := .bool false) (fun y => ex_move _ rfl (ov_in hn (by kernel_rfl))) ?_
              iterate 2 (refine ov_n hn (vj := .bool false) rfl rfl rfl rfl (by kernel_rfl) (by kernel_rfl) ?_)
              refine ov_q rfl rfl rfl (v := .bool false) (fun y => ex_pick _ _ _ rfl false (ov_in hn (by kernel_rfl)) ((if_neg (by decide)).trans rfl)) ?_
              refine ov_q rfl rfl rfl (v := .bool false) (fun y => ex_move _ rfl (ov_in hn (by kernel_rfl))) ?_
              iterate 5 (refine ov_n hn (vj := .bool false) rfl rfl rfl rfl (by kernel_rfl) (by kernel_rfl) ?_)
              iterate 5 (refine ov_n hn (vj := undef) rfl rfl rfl rfl (by kernel_rfl) (by kernel_rfl) ?_)
              iterate 2 (refine ov_n hn (vj := .bool false) rfl rfl rfl rfl (by kernel_rfl) (by kernel_rfl) ?_)
              iterate 13 (refine ov_n hn (vj := undef) rfl rfl rfl rfl (by kernel_rfl) (by kernel_rfl) ?_)
              refine ov_n hn (vj := .bool false) rfl rfl rfl rfl (by kernel_rfl) (by kernel_rfl) ?_
              refine ov_q rfl rfl rfl (v := .bool false) (fun y => ex_pick _ _ _ rfl false (ov_in hn (by kernel_rfl)) ((if_neg (by decide)).trans rfl)) ?_
              refine ov_q rfl rfl rfl (v := .bool false) (fun y => ex_move _ rfl (ov_in hn (by kernel_rfl))) ?_
              refine ov_qg hn rfl rfl rfl rfl (by kernel_rfl) (v := .bool false) (fun y => ex_move _ rfl (ov_out hn (by kernel_rfl) e12)) ?_
              refine ov_qg hn rfl rfl rfl rfl (by kernel_rfl) (v := .bool false) (fun y => ex_move _ rfl (ov_in hn (by kernel_rfl))) ?_
              iterate 2 (refine ov_n hn (vj := .bool false) rfl rfl rfl rfl (by kernel_rfl) (by kernel_rfl) ?_)
              refine ov_qg hn rfl rfl rfl rfl (by kernel_rfl) (v := .bool false) (fun y => ex_pick _ _ _ rfl false (ov_in hn (by kernel_rfl)) ((if_neg (by decide)).trans rfl)) ?_
              refine ov_qg hn rfl rfl rfl rfl (by kernel_rfl) (v := .bool false) (fun y => ex_move _ rfl (ov_in hn (by kernel_rfl))) ?_
              iterate 2 (refine ov_n hn (vj := .bool false) rfl rfl rfl rfl (by kernel_rfl) (by kernel_rfl) ?_)
              refine ov_qg hn rfl rfl rfl rfl (by kernel_rfl) (v := .bool false) (fun y => ex_pick _ _ _ rfl false (ov_in hn (by kernel_rfl)) ((if_neg (by decide)).trans rfl)) ?_
              refine ov_q rfl rfl rfl (v := .bool false) (fun y => ex_pick _ _ _ rfl false (ov_in hn (by kernel_rfl)) ((if_neg (by decide)).trans (ov_in hn (by kernel_rfl)))) ?_
              refine ov_q rfl rfl rfl (v := .bool false) (fun y => ex_move _ rfl (ov_in hn (by kernel_rfl))) ?_
              refine ov_qg hn rfl rfl rfl rfl (by kernel_rfl) (v := .slice (some ⟨b, off, none⟩) len c) (fun y => ex_move _ rfl (ov_out hn (by kernel_rfl) e1)) ?_
              refine ov_qg hn rfl rfl rfl rfl (by kernel_rfl) (v := .int .i64 (k)) (fun y => ex_move _ rfl (ov_out hn (by kernel_rfl) e7)) ?_
              refine ov_qg hn rfl rfl rfl rfl (by kernel_rfl) (v := .pointer (some ⟨b, off + k * 6, none⟩)) (fun y => ex_index _ _ _ rfl (vx := .slice (some ⟨b, off, none⟩) len c) (vy := .int .i64 (k)) (ov_in hn (by kernel_rfl)) (ov_in hn (by kernel_rfl)) (by go_simp)) ?_
              refine ov_qg hn rfl rfl rfl rfl (by kernel_rfl) (v := .pointer (some ⟨b, off + k * 6, none⟩)) (fun y => ex_field _ _ _ rfl (vx := .pointer (some ⟨b, off + k * 6, none⟩)) (ov_in hn (by kernel_rfl)) (by go_simp)) ?_
              refine ov_qg hn rfl rfl rfl rfl (by kernel_rfl) (v := .int .i64 (kind)) (fun y => ex_load _ _ rfl (vx := .pointer (some ⟨b, off + k * 6, none⟩)) (ov_in hn (by kernel_rfl)) (by go_simp)) ?_
              refine ov_qg hn rfl rfl rfl rfl (by kernel_rfl) (v := .bool false) (fun y => ex_bin _ _ _ _ _ rfl (vx := .int .i64 (kind)) (vy := .int .i64 7) (ov_in hn (by kernel_rfl)) rfl (by go_simp) (by go_simp)) ?_
              refine ov_qg hn rfl rfl rfl rfl (by kernel_rfl) (v := .bool false) (fun y => ex_move _ rfl (ov_in hn (by kernel_rfl))) ?_
              iterate 4 (refine ov_n hn (vj := .bool false) rfl rfl rfl rfl (by kernel_rfl) (by kernel_rfl) ?_)
              refine ov_qg hn rfl rfl rfl rfl (by kernel_rfl) (v := .bool false) (fun y => ex_pick _ _ _ rfl false (ov_in hn (by kernel_rfl)) ((if_neg (by decide)).trans rfl)) ?_
              refine ov_q rfl rfl rfl (v := .bool false) (fun y => ex_pick _ _ _ rfl false (ov_in hn (by kernel_rfl)) ((if_neg (by decide)).trans (ov_in hn (by kernel_rfl)))) ?_
              refine ov_q rfl rfl rfl (v := .bool false) (fun y => ex_move _ rfl (ov_in hn (by kernel_rfl))) ?_
              refine ov_qg hn rfl rfl rfl rfl (by kernel_rfl) (v := .bool true) (fun y => ex_move _ rfl (ov_out hn (by kernel_rfl) e9)) ?_
              refine ov_qg hn rfl rfl rfl rfl (by kernel_rfl) (v := .bool true) (fun y => ex_move _ rfl (ov_in hn (by kernel_rfl))) ?_
              refine ov_qg hn rfl rfl rfl rfl (by kernel_rfl) (v := .slice (some ⟨b, off, none⟩) len c) (fun y => ex_move _ rfl (ov_out hn (by kernel_rfl) e1)) ?_
              refine ov_qg hn rfl rfl rfl rfl (by kernel_rfl) (v := .int .i64 (k)) (fun y => ex_move _ rfl (ov_out hn (by kernel_rfl) e7)) ?_
              refine ov_qg hn rfl rfl rfl rfl (by kernel_rfl) (v := .pointer (some ⟨b, off + k * 6, none⟩)) (fun y => ex_index _ _ _ rfl (vx := .slice (some ⟨b, off, none⟩) len c) (vy := .int .i64 (k)) (ov_in hn (by kernel_rfl)) (ov_in hn (by kernel_rfl)) (by go_simp)) ?_
              refine ov_qg hn rfl rfl rfl rfl (by kernel_rfl) (v := .pointer (some ⟨b, off + k * 6, none⟩)) (fun y => ex_field _ _ _ rfl (vx := .pointer (some ⟨b, off + k * 6, none⟩)) (ov_in hn (by kernel_rfl)) (by go_simp)) ?_
              refine ov_qg hn rfl rfl rfl rfl (by kernel_rfl) (v := .int .i64 (kind)) (fun y => ex_load _ _ rfl (vx := .pointer (some ⟨b, off + k * 6, none⟩)) (ov_in hn (by kernel_rfl)) (by go_simp)) ?_
              refine ov_qg hn rfl rfl rfl rfl (by kernel_rfl) (v := .bool false) (fun y => ex_bin _ _ _ _ _ rfl (vx := .int .i64 (kind)) (vy := .int .i64 6) (ov_in hn (by kernel_rfl)) rfl (by go_simp) (by go_simp)) ?_
              refine ov_qg hn rfl rfl rfl rfl (by kernel_rfl) (v := .bool false) (fun y => ex_pick _ _ _ rfl true (ov_in hn (by kernel_rfl)) ((if_pos rfl).trans (ov_in hn (by kernel_rfl)))) ?_
              refine ov_qg hn rfl rfl rfl rfl (by kernel_rfl) (v := .bool false) (fun y => ex_move _ rfl (ov_in hn (by kernel_rfl))) ?_
              iterate 2 (refine ov_n hn (vj := .bool false) rfl rfl rfl rfl (by kernel_rfl) (by kernel_rfl) ?_)
              refine ov_qg hn rfl rfl rfl rfl (by kernel_rfl) (v := .bool false) (fun y => ex_pick _ _ _ rfl false (ov_in hn (by kernel_rfl)) ((if_neg (by decide)).trans rfl)) ?_
              refine ov_qg hn rfl rfl rfl rfl (by kernel_rfl) (v := .bool false) (fun y => ex_move _ rfl (ov_in hn (by kernel_rfl))) ?_
              iterate 6 (refine ov_n hn (vj := .bool false) rfl rfl rfl rfl (by kernel_rfl) (by kernel_rfl) ?_)
              refine ov_qg hn rfl rfl rfl rfl (by kernel_rfl) (v := .bool false) (fun y => ex_pick _ _ _ rfl false (ov_in hn (by kernel_rfl)) ((if_neg (by decide)).trans rfl)) ?_
              refine ov_q rfl rfl rfl (v := .bool false) (fun y => ex_pick _ _ _ rfl false (ov_in hn (by kernel_rfl)) ((if_neg (by decide)).trans (ov_in hn (by kernel_rfl)))) ?_
              refine plan_end (hK.out _ _ ?_)
              exact hK' _ _ (Met.intro (hJ' _ _ ⟨.bool false, .bool false, undef, undef, .bool false, .bool false, undef, undef, undef, undef, undef, undef, undef, undef, undef, undef, undef, undef, undef, undef, undef, undef, undef, undef, undef, undef, undef, undef, undef, undef, undef, undef, .bool false, .bool false, .bool false, .bool false, undef, undef, .bool false, .bool false, undef, undef, .bool false, .bool false, .bool false, .slice (some ⟨b, off, none⟩) len c, .int .i64 (k), .pointer (some ⟨b, off + k * 6, none⟩), .pointer (some ⟨b, off + k * 6, none⟩), .int .i64 (kind), .bool false, .bool false, undef, undef, undef, undef, .bool false, .bool false, .bool false, .bool true, .bool true, .slice (some ⟨b, off, none⟩) len c, .int .i64 (k), .pointer (some ⟨b, off + k * 6, none⟩), .pointer (some ⟨b, off + k * 6, none⟩), .int .i64 (kind), .bool false, .bool false, .bool false, undef, undef, .bool false, .bool false, undef, undef, undef, undef, undef, undef, .bool false, .bool false, ⟨rfl, hS⟩, (ov_eq hn _).trans (by rw [HA.out]; kernel_rfl)⟩))
      case rest =>
        obtain ⟨rfl, hS11⟩ := hcut
        have hcg' : g'.cap = cap := hR.cap.trans hcg
        clear hR HL Hrm hsc hcap
        have hx12 := (Ext.refl wc).alloc (.cells #[.int .i64 0] 3)
        have b13 := Blk.new wc 3 #[.int .i64 0]
        have hS12 := hS11.add hx12 (Nat.le_refl _) b13
        have z13 := Lib.hid (World.size_alloc wc (.cells #[.int .i64 0] 3))
        go_upto_region 19 with fail
        generalize wc.alloc (.cells #[.int .i64 0] 3) = w12 at *
        obtain ⟨q13, hq13⟩ : ∃ q13, wc.heap.size = q13 := ⟨_, rfl⟩
        rw [hq13] at b13 z13 hS12 ⊢
        have hw13 : w.heap.size ≤ q13 := by have := hS11.st.low.size; omega
        have hn13 : q4 < q13 ∧ q5 < q13 := by
          have h1 := (hS11.st.blk (b := q5) (t := 26) (cs := #[fptr d']) (by simp)).lt
          have h2 := (hS11.st.blk (b := q4) (t := 4) (cs := #[.bool false]) (by simp)).lt
          omega
        clear hq13 hS11 hx12
        have c5 := (hS12.st.blk (b := q5) (t := 26) (cs := #[fptr d']) (by simp)).cell 0
        go_wp2_with fail
        refine (st_files hS12.st).mono ?_
        rintro e w13 ⟨bn, bc, ns2, rfl, hns2, hsort, hFn, hx13⟩
        have hfn := run_eql_fn Try.underlying56 (.func 48) #[] #[fptr bn, fptr bc] w13
        clear c5
        have b13' := b13.ext hx13
        have hx14 := (Ext.refl w13).alloc (.cells #[.string ⟨#[]⟩] 9)
        have b15 := Blk.new w13 9 #[.string ⟨#[]⟩]
        have z15 := Lib.hid (World.size_alloc w13 (.cells #[.string ⟨#[]⟩] 9))
        have hS14 := (hS12.ext hx13).add hx14 (Nat.le_refl _) b15
        have b13'' := b13'.ext hx14
        go_upto_region 23 with fail
        generalize w13.alloc (.cells #[.string ⟨#[]⟩] 9) = w14 at *
        obtain ⟨q15, hq15⟩ : ∃ q15, w13.heap.size = q15 := ⟨_, rfl⟩
        rw [hq15] at b15 z15 hS14 ⊢
        clear hfn hx12
        have hz12 : w12.heap.size = q13 + 1 := z13.out
        have hz14 : w14.heap.size = q15 + 1 := z15.out
        have hz13 := hx13.size
        have hl32 : ns2.length ≤ 32 := by
          obtain ⟨ns3, h3, h4⟩ := st_names hS14.st
          rw [(h3.perm hns2).length_eq] at h4
          exact h4
        go_wp2_with fail
        refine' range_filesB (fun b => b = q13 ∨ b = q15 ∨ b = q4) (w0 := w13) (lo := w12.heap.size) hFn (by simp) hl32 hx14 hx13.size ?hS rfl (RanI w14 g' ns2 q13 q15) (fun _ xs _ => ¬ ∃ k, Upto xs k) ?hw ?hI ?hIx ?h0 _ ?assign ?body ?done ?stop
        case hS =>
          rintro b (rfl | rfl | rfl)
          · exact ⟨by omega, .inl (by omega)⟩
          · exact ⟨by omega, .inr (by omega)⟩
          · exact ⟨by omega, .inl (by omega)⟩
        case hw => exact fun pre W h => h.1.size
        case hI =>
          rintro pre W W' ⟨t, v, ls, b1, b2, h3⟩ t'
          exact ⟨t.then_ t' (fun k h1 h2 => by omega), v, ls, b1.tu t' (by have := b13''.lt; omega), b2.tu t' (by omega), h3⟩
        case hIx => exact fun c pre W W' h _ => h
        case h0 =>
          refine ⟨Tu.refl _ _, 0, [], b13'', b15, by simp, Int.le_refl _, by simp, fun k hk => ?_⟩
          obtain rfl : 0 = k := hk.len
          exact ⟨by simp, fun _ => rfl, fun j hj e => by omega⟩
        case assign =>
          intro l x W K hK
          gi_wp2
          exact hK
        case stop => exact fun D c pre W _ ⟨k, _, hu⟩ hix _ => absurd ⟨k, hu⟩ hix
        case done =>
          rintro D xs W hD hup ⟨t14, v, ls, bv, bl, hls, hv0, hv1, hcont⟩ hK
          have hv : v = (total g' ns2 : Nat) := by
            rw [(hcont _ hup).1, List.take_of_length_le (Nat.le_refl _)]
            rfl
          have hS16 : StM w W d' g' [(q5, 26, #[fptr d']), (q4, 4, #[.bool false])] ([D] ++ Ds) := StM.far (L1 := [(q15, 9, #[.string ⟨#[]⟩]), (q13, 3, #[.int .i64 0])]) hS14 t14 (by rintro b (rfl | rfl) <;> simp) (by intro q hq; simp at hq; rcases hq with rfl | rfl <;> simp only <;> omega) (by rintro b (rfl | rfl) <;> omega) [D] (by intro k hk; obtain rfl := List.mem_singleton.1 hk; exact ⟨hD, hK⟩)
          have hDn : D ∉ Ds := fun h => by have := mark_lt (hS14.mark h); omega
          have htl := st_total hS16.st hns2
          obtain ⟨T, hT⟩ : ∃ T, total g' ns2 = T := ⟨_, rfl⟩
          obtain ⟨r3, hr3⟩ : ∃ r3, g'.cap - (T : Int) = r3 := ⟨_, rfl⟩
          have hroomF : ∀ W', Ext W W' → Calls Try.prog 22 #[fptr d'] W' fun e w' => e = .returned (.int .i64 r3) ∧ Ext W' w' := fun W' hx => by
            have := st_room (hS16.ext hx).st hns2
            rw [hT, hr3] at this
            exact this
          rw [hT] at htl hv
          subst hv
          have hb1 : -3000000 ≤ r3 := by omega
          have hb2 : r3 ≤ 3000000 := by omega
          have hsum : (T : Int) + r3 = cap := by omega
          have HF := Lib.hid (And.intro hroomF hsum)
          clear hT hr3 hsum hcont hup hroomF hsort
          have HG := Lib.hid hcg'
          clear hcg'
          go_wp2_with fail
          have hxd := (Ext.refl W).drew
          refine wp_region_plan Ext [(0, true), (1, true), (4, true), (2, false), (3, true), (5, true)] (fun _ _ _ x y => (fun x y => Ext.trans x y) x y) Ext.refl (by kernel_rfl) (by kernel_rfl) ?_
          intro K hK
          have c13 : ∀ y : Above Ext W.drew, y.1.cell? ⟨q13, 0, none⟩ = some (.int .i64 (T : Int)) := fun y => ((bv.ext hxd).ext y.2).cell 0
          have c5 : ∀ y : Above Ext W.drew, y.1.cell? ⟨q5, 0, none⟩ = some (fptr d') := fun y => (((hS16.st.blk (b := q5) (t := 26) (cs := #[fptr d']) (by simp)).ext hxd).ext y.2).cell 0
          refine plan_q (v := .int .i64 (T : Int)) rfl (by kernel_rfl) (fun y => ?_) ?_
          · go_simp
          simp only [Act.put, List.getElem_toArray, List.getElem_cons_zero, List.getElem_cons_succ, List.setIfInBounds_toArray, List.set_cons_zero, List.set_cons_succ]
          refine plan_q (v := fptr d') rfl (by kernel_rfl) (fun y => ?_) ?_
          · go_simp
          simp only [Act.put, List.getElem_toArray, List.getElem_cons_zero, List.getElem_cons_succ, List.setIfInBounds_toArray, List.set_cons_zero, List.set_cons_succ]
          refine plan_q (v := .int .i64 cap) rfl (by kernel_rfl) (fun y => ?_) ?_
          · go_simp
          simp only [Act.put, List.getElem_toArray, List.getElem_cons_zero, List.getElem_cons_succ, List.setIfInBounds_toArray, List.set_cons_zero, List.set_cons_succ]
          clear c13 c5
          refine plan_l rfl (by kernel_rfl) ?_
          intro K2 hK2
          go_simp
          refine (HF.out.1 _ hxd).mono ?_
          rintro e W2 ⟨rfl, hx2⟩
          go_simp
          refine hK2.out _ _ hx2 ?_
          clear hK2 K2
          try simp only [Act.put, List.getElem_toArray, List.getElem_cons_zero, List.getElem_cons_succ, List.setIfInBounds_toArray, List.set_cons_zero, List.set_cons_succ]
          have hwr : IntKind.i64.wrap ((T : Int) + r3) = (T : Int) + r3 := IntWalk.i64_in _ (by omega)
          refine plan_q (v := .int .i64 ((T : Int) + r3)) rfl (by kernel_rfl) (fun y => ?_) ?_
          · go_simp
          simp only [Act.put, List.getElem_toArray, List.getElem_cons_zero, List.getElem_cons_succ, List.setIfInBounds_toArray, List.set_cons_zero, List.set_cons_succ]
          clear hwr
          have hsum := HF.out.2
          refine plan_q (v := .bool false) rfl (by kernel_rfl) (fun y => ?_) ?_
          · go_simp
          simp only [Act.put, List.getElem_toArray, List.getElem_cons_zero, List.getElem_cons_succ, List.setIfInBounds_toArray, List.set_cons_zero, List.set_cons_succ]
          clear hsum
          refine plan_end (hK.out _ _ ?_)
          clear hK K
          go_wp2_with fail
          have hlow := hS14.st.low.size
          have hDs' : ∀ E ∈ D :: Ds, w.heap.size ≤ E := by
            intro E hE
            rcases List.mem_cons.1 hE with rfl | hE
            · omega
            · exact hDs E hE
          refine Handed.intro (len - (k + 1)) (by omega) (HJh.out _ _ _ _ ?_ (by kernel_rfl))
          exact ⟨D :: Ds, k + 1, d', g', rfl, by simp, by omega, rfl, hsrc', HG.out, List.nodup_cons.2 ⟨hDn, hnd⟩, hDs', hS16.ext (hxd.trans hx2)⟩
        case body =>
          rintro lr pre ⟨x2, hx2⟩ W ⟨t14, v, ls, bv, bl, hls, hv0, hv1, hcont⟩ hlt2
          obtain ⟨m, hm⟩ : ∃ m, ns2[x2] = m := ⟨_, rfl⟩
          have hmem : m ∈ ns2 := by rw [← hm]; exact List.getElem_mem hx2
          have hcv : (((Option.map (cntOf g') ns2[x2]?).getD 0 : Nat) : Int) = (cntOf g' m : Int) := by
            rw [← hm]
            simp [List.getElem?_eq_getElem hx2]
          dsimp only
          rw [hm, hcv]
          clear hcv
          obtain ⟨hmn, c, hcf, hcn1, hcn2⟩ := st_may hS14.st hns2 hmem
          rw [cntOf_some hcf]
          have hco := countI_of hmn hcf
          have hml : m.length ≤ 32 := by
            have := hmn
            simp [mayName] at this
            omega
          have hml2 : m.length ≤ maxLen := by unfold maxLen; omega
          have hm0 : m ≠ [] := by
            intro e
            subst e
            simp [mayName] at hmn
          have hSW : ∀ W', Ext W W' → StM w W' d' g' [(q5, 26, #[fptr d']), (q4, 4, #[.bool false])] ([] ++ Ds) := fun W' hx => (StM.far (L1 := [(q15, 9, #[.string ⟨#[]⟩]), (q13, 3, #[.int .i64 0])]) hS14 t14 (by rintro b (rfl | rfl) <;> simp) (by intro q hq; simp at hq; rcases hq with rfl | rfl <;> simp only <;> omega) (by rintro b (rfl | rfl) <;> omega) [] (by intro k hk; cases hk)).ext hx
          have hS := hSW W (Ext.refl W)
          clear hSW
          obtain ⟨bq, hbq⟩ : ∃ bq, (Op.bytesLess m ls || m == ls) = bq := ⟨_, rfl⟩
          have hord : ∀ k, Upto (pre ++ [⟨x2, hx2⟩]) k → bq = false := fun k hk => by
            obtain ⟨u1, u2, u3⟩ := hk.back
            simp only at u2
            obtain ⟨_, w2', w3'⟩ := hcont _ u1
            rw [← hbq]
            rcases Nat.eq_zero_or_pos pre.length with e0 | e0
            · rw [w2' e0]
              cases m with
              | nil => exact absurd rfl hm0
              | cons a t => rfl
            · have hj : pre.length - 1 < ns2.length := by omega
              rw [w3' (pre.length - 1) hj (by omega)]
              have hlt3 : pre.length - 1 < x2 := by omega
              have h1 := List.pairwise_iff_getElem.1 hsort _ _ hj hx2 hlt3
              have h2 := List.pairwise_iff_getElem.1 hns2.1 _ _ hj hx2 hlt3
              rw [hm] at h1 h2
              obtain ⟨z1, z2⟩ := less_no h1 h2
              rw [z1, z2]
              rfl
          have HB := Lib.hid hbq
          have HC := Lib.hid (And.intro hcont hord)
          clear hcont hord hsort
          have c15 := bl.cell 0
          have c13 := bv.cell 0
          have c5 := (hS.st.blk (b := q5) (t := 26) (cs := #[fptr d']) (by simp)).cell 0
          have hleq : ∀ W : World, (binOp .leq 9 (nv m) (nv ls)).run Try.prog W = .ok (.bool bq) W := fun W => by
            rw [bleq, ByteArray.toList_eq, ByteArray.toList_eq, ← HB.out]
            rfl
          cases bq with
          | true =>
            have b4r := hS.st.blk (b := q4) (t := 4) (cs := #[.bool false]) (by simp)
            have f4 := b4r.free 0
            have e4 := b4r.cell 0
            have t4 : Tu (fun b => b = q13 ∨ b = q15 ∨ b = q4) W (W.setCell ⟨q4, 0, none⟩ (.bool false)) := Tu.of_grown (setCell_grownBy _ _ _) (by rintro k e; cases e; exact .inr (.inr rfl))
            gi_wp2_with fail
            refine ⟨trivial, ?_⟩
            gi_wp2_with fail
            refine ⟨trivial, ?_⟩
            gi_wp2_with fail
            refine ⟨trivial, ?_⟩
            gi_wp2_with fail
            refine ⟨t4, ?_⟩
            rintro ⟨k, hk⟩
            have := HC.out.2 k hk
            cases this
          | false =>
            gi_wp2_with fail
            refine ⟨trivial, rfl, ?_⟩
            refine (call_round lr _ (mayName_any m W hml2)).mono ?_
            rw [hmn]
            rintro e w9 ⟨rfl, rfl⟩
            gi_wp2_with fail
            refine ⟨trivial, rfl, ?_⟩
            refine (call_round lr _ (st_has hS.st m hml2)).mono ?_
            rw [hco.2]
            rintro e w9 ⟨rfl, rfl⟩
            gi_wp2_with fail
            refine ⟨trivial, rfl, ?_⟩
            refine (call_round lr _ (st_count hS.st m hml2)).mono ?_
            rw [hco.1]
            rintro e w9 ⟨rfl, rfl⟩
            have hcn3 : decide (c.fin < (c.cnt : Int)) = false := by simpa using hcn1
            have hcn4 : ¬ c.fin < (c.cnt : Int) := by omega
            have hcn5 : decide ((c.cnt : Int) < 0) = false := decide_eq_false (by omega)
            have hcn6 : ¬ (c.cnt : Int) < 0 := by omega
            have f15 := bl.free 0
            have B15 := bl.set_ 0 (nv m)
            have T15 : Tu (fun b => b = q15) W (W.setCell ⟨q15, 0, none⟩ (nv m)) := Tu.of_grown (setCell_grownBy _ _ _) (by rintro k e; cases e; rfl)
            have hne : q13 ≠ q15 := by omega
            have Bv := bv.tu T15 hne
            have c13b := Bv.cell 0
            have f13b := Bv.free 0
            have hpl : pre.length < 32 := by omega
            have hwr : IntKind.i64.wrap (v + (c.cnt : Int)) = v + (c.cnt : Int) := IntWalk.i64_in _ (by omega)
            have T13 : Tu (fun b => b = q13) (W.setCell ⟨q15, 0, none⟩ (nv m)) ((W.setCell ⟨q15, 0, none⟩ (nv m)).setCell ⟨q13, 0, none⟩ (.int .i64 (v + (c.cnt : Int)))) := Tu.of_grown (setCell_grownBy _ _ _) (by rintro k e; cases e; rfl)
            have B13 := Bv.set_ 0 (.int .i64 (v + (c.cnt : Int)))
            have B15' := B15.tu T13 (fun e => hne e.symm)
            gi_wp2_with fail
            have TT : Tu (fun b => b = q13 ∨ b = q15) W ((W.setCell ⟨q15, 0, none⟩ (nv m)).setCell ⟨q13, 0, none⟩ (.int .i64 (v + (c.cnt : Int)))) := (T15.mono (fun k e => .inr e)).trans (T13.mono (fun k e => .inl e))
            have TT3 : ∀ k, (k = q13 ∨ k = q15) → (k = q13 ∨ k = q15 ∨ k = q4) := fun k e => e.elim .inl (fun e => .inr (.inl e))
            refine ⟨TT.mono TT3, t14.trans TT, v + (c.cnt : Int), m, by simpa using B13, by simpa using B15', hml, by omega, by simp only [List.length_append, List.length_cons, List.length_nil]; push_cast; omega, fun k hk => ?_⟩
            obtain ⟨u1, u2, u3⟩ := hk.back
            simp only at u2
            obtain ⟨w1', _, _⟩ := HC.out.1 _ u1
            subst u3
            refine ⟨?_, fun e => by omega, fun j hj e => ?_⟩
            · have hpx : pre.length < ns2.length := by omega
              rw [List.take_succ_eq_append_getElem hpx, List.map_append, List.sum_append, w1']
              have : ns2[pre.length] = m := by rw [← hm]; congr 1; exact u2.symm
              rw [this]
              simp [cntOf_some hcf]
            · have : j = pre.length := by omega
              subst this
              rw [← hm]
              congr 1

set_option maxRecDepth 100000 in
theorem lifted (os : Os) (started : os.Started) (H : Type) (enc : TypeId × Value → H) :
    ReturnsInHanded {} Try.checked os 5 .any (Rows.diskRoomsSpec.pre6 enc Try.prog Try.f5 Rows.diskRoomsRow.domain false) (Rows.diskRoomsSpec.post enc Try.prog Try.f5 false true false false) := by
  refine returnsInHanded_of_change (C := Try.checked) own started (by kernel_rfl) Try.func5
    (ChangeSpec.witness6 (enc := enc) (C := Try.checked) false ⟨#[], #[.int .i64 0, .slice none 0 0], []⟩ 8 (by kernel_rfl) (by kernel_rfl) (by kernel_rfl) (by kernel_rfl)) ?_
  intro W base args ds gs before hval0 hW hcnd _
  have hval : ∀ (j : Nat) t v, Try.f5.params[j]? = some t → args[j]? = some v → Value.okWide Try.prog W .any base t v := hval0
  have hW' := hW
  obtain ⟨p, q, hA0, hV, rfl, hfz, hnd⟩ := hW
  have hA : DataW.TrodAll enc Try.prog W 0 (fun _ => true) true Try.f5.params.toList args.toList ds p := hA0
  rw [Try.params5] at hA hval
  obtain ⟨v0, vs0, d0, ds0, p0, q0, hargs, rfl, rfl, h0, r0⟩ := trodAll_cons hA
  obtain ⟨v1, vs1, d1, ds1, p1, q1, rfl, rfl, rfl, h1, r1⟩ := trodAll_cons r0
  obtain ⟨rfl, rfl, rfl⟩ := trodAll_nil r1
  obtain rfl : args = #[v0, v1] := by cases args; simp_all
  obtain ⟨rfl, rfl⟩ := trodVars_none hV
  obtain ⟨a0, rfl, rfl, rfl, w0⟩ := open_int Try.underlying3 (hval 0 3 v0 rfl rfl) h0
  obtain ⟨a1, n1, c1, rfl⟩ := okWide_slice Try.underlying22 (hval 1 22 v1 rfl rfl)
  have k1 := h1
  have lt1 : ∀ x ∈ p1, x.block < W.heap.size := by obtain ⟨m, hm⟩ := k1; exact DataW.trod_lt m _ _ _ hm
  obtain ⟨l1, w1, y1⟩ := open_steps h1
  clear hA0 hval0
  refine (walk W a0 w0 a1 n1 c1 l1 w1 y1).mono fun e W' ⟨he, bel⟩ => ?_
  subst he
  exact ⟨_, rfl, _, _, _, [], _, [], hW', trodAll_mk1 (shut_bool Try.underlying4 _), (trodAll_cons_mk (shut_int Try.underlying3 w0) (trodAll_cons_mk (Below.trod laidOut (by kernel_rfl) (of_decide_eq_true (by kernel_rfl)) k1 bel lt1) trodAll_mk0)), rfl, Below.frame bel _, fun h => by cases h⟩

theorem over_ : Rows.diskRoomsRow.holds Try.pinned (OpenSpec.ofChange Rows.diskRoomsSpec) :=
  OpenClaim.holds_of_wide 5 Try.f5 rfl rfl rfl rfl rfl rfl rfl ⟨rfl, rfl, rfl, rfl, rfl⟩ rfl rfl rfl rfl rfl (by kernel_rfl) Try.func5 (by kernel_rfl)
    (of_decide_eq_true (by kernel_rfl)) (by unfold Func.isWrapper; first | (rw [if_pos (by decide +kernel)]; kernel_rfl) | (rw [if_neg (by decide +kernel)]; exact ⟨rfl, rfl⟩))
    (fun os started H enc _ => lifted os started H enc)

theorem proved : Rows.DiskRoomsSaid := over_
end Go.Proofs.Ytenmdhdloibemaa.lawRm
