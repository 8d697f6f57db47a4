/- Rename, and changes of no disk. Conditions: the disk is in memory as told, or there is none. -/
import Derived.Test.YtenmdhdloibemaaMutc
namespace Go.Proofs.Ytenmdhdloibemaa
open Go.RowKit Go.Maps Go.Sort
set_option linter.unusedVariables false
set_option linter.unusedSimpArgs false

/-- Rename: what it answers -/
def renameOut (g : DC) (n nt : Nm) : Int × DC := if mayName n = false ∨ mayName nt = false then (2, g) else match g.file n with | none => (6, g) | some c => chg g (fun g => (g.set n none).set nt (some c)) id

set_option maxRecDepth 100000 in
set_option maxHeartbeats 1600000 in
theorem rename_any (w : World) (O : Ow) (d fm : Nat) (F : DataW Value) (g : DC) (h : DiskX w O d fm F g) (n nt : Nm) (hn : n.length ≤ maxLen) (hnt : nt.length ≤ maxLen) :
    Calls Try.prog 19 #[fptr d, nv n, nv nt] w fun e w' => e = .returned (.int .i64 (renameOut g n nt).1) ∧ After w w' O d (renameOut g n nt).2 := by
  have hO := h.inn
  go_enter Try.func19, Try.ntmps19
  have hx2 := (((Ext.refl w).alloc (.cells #[fptr d] 26)).alloc (.cells #[nv n] 9)).alloc (.cells #[nv nt] 9)
  have k1 : (((w.alloc (.cells #[fptr d] 26)).alloc (.cells #[nv n] 9)).alloc (.cells #[nv nt] 9)).cell? ⟨w.heap.size, 0, none⟩ = some (fptr d) := ((Blk.new w 26 #[fptr d]).ext (((Ext.refl _).alloc _).alloc _)).cell 0
  have k2 : (((w.alloc (.cells #[fptr d] 26)).alloc (.cells #[nv n] 9)).alloc (.cells #[nv nt] 9)).cell? ⟨w.heap.size + 1, 0, none⟩ = some (nv n) := by
    have := ((Blk.new (w.alloc (.cells #[fptr d] 26)) 9 #[nv n]).ext ((Ext.refl _).alloc (.cells #[nv nt] 9))).cell 0
    rw [World.size_alloc] at this
    exact this
  have k3 : (((w.alloc (.cells #[fptr d] 26)).alloc (.cells #[nv n] 9)).alloc (.cells #[nv nt] 9)).cell? ⟨w.heap.size + 1 + 1, 0, none⟩ = some (nv nt) := by
    have := (Blk.new ((w.alloc (.cells #[fptr d] 26)).alloc (.cells #[nv n] 9)) 9 #[nv nt]).cell 0
    rw [World.size_alloc, World.size_alloc] at this
    exact this
  go_wp2_with fail
  generalize ((w.alloc (Obj.cells #[fptr d] 26)).alloc (Obj.cells #[nv n] 9)).alloc (Obj.cells #[nv nt] 9) = W at *
  have hX := h.ext hx2
  have stay : ∀ W', Ext W W' → After w W' O d g := fun W' hx => After.ext h (hx2.trans hx)
  refine (none_at W O d fm F g hX).mono ?_
  rintro e w1 ⟨rfl, rfl⟩
  go_wp2_with fail
  refine (mayName_any n W hn).mono ?_
  rintro e w1 ⟨rfl, rfl⟩
  cases hm : mayName n with
  | false =>
    go_wp2_with fail
    go_ret
    rw [renameOut, if_pos (.inl hm)]
    exact ⟨rfl, stay W (Ext.refl _)⟩
  | true =>
    go_wp2_with fail
    refine (mayName_any nt W hnt).mono ?_
    rintro e w1 ⟨rfl, rfl⟩
    cases hm2 : mayName nt with
    | false =>
      go_wp2_with fail
      go_ret
      rw [renameOut, if_pos (.inr hm2)]
      exact ⟨rfl, stay W (Ext.refl _)⟩
    | true =>
      have a0 : ∀ x : Above Ext W.drew, x.1.cell? ⟨w.heap.size, 0, none⟩ = some (fptr d) := fun x => (((Ext.refl W).drew).trans x.2).cellSome k1
      have a1 : ∀ x : Above Ext W.drew, x.1.cell? ⟨w.heap.size + 1, 0, none⟩ = some (nv n) := fun x => (((Ext.refl W).drew).trans x.2).cellSome k2
      have a2 : ∀ x : Above Ext W.drew, x.1.cell? ⟨d, 1, none⟩ = some (.map (some fm)) := fun x => (hX.blk.ext (((Ext.refl W).drew).trans x.2)).cell 1
      have hXd := hX.ext ((Ext.refl W).drew)
      have hl := hXd.look hn
      obtain ⟨_, _, b1, m1, hsz, hc, hfu, hch, hnm, q0, q1, q2, hO1⟩ := id hX
      go_wp2_with fail
      cases hf : g.file n with
      | none =>
        rw [q0 n hf, Option.getD_none] at hl
        refine wp_region_plan Ext [(0, true), (1, true), (2, true), (3, true), (4, true), (5, false), (6, true), (7, true)] (fun _ _ _ x y => (fun x y => Ext.trans x y) x y) Ext.refl (by kernel_rfl) (by kernel_rfl) ?_
        intro K hK
        iterate 5 (
          refine plan_q (v := ?_) rfl rfl ?_ ?_
          rotate_left
          · intro x
            go_simp
            first | done | rfl
          simp only [Act.put, List.getElem_toArray, List.getElem_cons_zero, List.getElem_cons_succ, List.setIfInBounds_toArray, List.set_cons_zero, List.set_cons_succ])
        refine plan_l rfl rfl ?_
        intro K2 hK2
        go_simp
        refine hK2.out _ _ (Ext.refl _) ?_
        clear hK2 K2
        try simp only [Act.put, List.getElem_toArray, List.getElem_cons_zero, List.getElem_cons_succ, List.setIfInBounds_toArray, List.set_cons_zero, List.set_cons_succ]
        iterate 2 (
          refine plan_q (v := ?_) rfl rfl ?_ ?_
          rotate_left
          · intro x
            go_simp
            first | done | rfl
          simp only [Act.put, List.getElem_toArray, List.getElem_cons_zero, List.getElem_cons_succ, List.setIfInBounds_toArray, List.set_cons_zero, List.set_cons_succ])
        refine plan_end (hK.out _ _ ?_)
        clear hK K
        go_wp2_with fail
        go_ret
        rw [renameOut, if_neg (by simp [hm, hm2])]
        simp only [hf]
        exact ⟨rfl, stay _ ((Ext.refl W).drew)⟩
      | some c =>
        obtain ⟨fb, r1, r2⟩ := q1 n c hf
        rw [r1, Option.getD_some] at hl
        refine wp_region_plan Ext [(0, true), (1, true), (2, true), (3, true), (4, true), (5, false), (6, true), (7, true)] (fun _ _ _ x y => (fun x y => Ext.trans x y) x y) Ext.refl (by kernel_rfl) (by kernel_rfl) ?_
        intro K hK
        iterate 5 (
          refine plan_q (v := ?_) rfl rfl ?_ ?_
          rotate_left
          · intro x
            go_simp
            first | done | rfl
          simp only [Act.put, List.getElem_toArray, List.getElem_cons_zero, List.getElem_cons_succ, List.setIfInBounds_toArray, List.set_cons_zero, List.set_cons_succ])
        refine plan_l rfl rfl ?_
        intro K2 hK2
        go_simp
        refine hK2.out _ _ (Ext.refl _) ?_
        clear hK2 K2
        try simp only [Act.put, List.getElem_toArray, List.getElem_cons_zero, List.getElem_cons_succ, List.setIfInBounds_toArray, List.set_cons_zero, List.set_cons_succ]
        iterate 2 (
          refine plan_q (v := ?_) rfl rfl ?_ ?_
          rotate_left
          · intro x
            go_simp
            first | done | rfl
          simp only [Act.put, List.getElem_toArray, List.getElem_cons_zero, List.getElem_cons_succ, List.setIfInBounds_toArray, List.set_cons_zero, List.set_cons_succ])
        refine plan_end (hK.out _ _ ?_)
        clear hK K
        have k1d : W.drew.cell? ⟨w.heap.size, 0, none⟩ = some (fptr d) := k1
        have k2d : W.drew.cell? ⟨w.heap.size + 1, 0, none⟩ = some (nv n) := k2
        have k3d : W.drew.cell? ⟨w.heap.size + 1 + 1, 0, none⟩ = some (nv nt) := k3
        have ob : ∀ b, w.heap.size ≤ b → O b = none := fun b hb => hO.none hb
        have nd : ∀ b, O b = none → b ≠ d := fun b e e2 => by rw [e2, h.own_d.1] at e; cases e
        have updr : ∀ w' g', After W.drew w' O d g' → After w w' O d g' := fun w' g' hA => After.mono (Tu.of_ext (hx2.trans ((Ext.refl W).drew))) hA hO
        generalize W.drew = Wd at *
        go_wp2_with fail
        refine (chg_any Wd O d fm F g hXd 41 40 #[] _ #[] #[] (fun g => (g.set n none).set nt (some c)) id (enters_of Try.func41 (by kernel_rfl) rfl) (enters_of Try.func40 (by kernel_rfl) rfl) (fun w1 hX1 _ => leave_after w1 O d fm F _ hX1) (fun w1 hX1 hT1 => ?_)).mono ?_
        · refine rename1_any w1 O d fm F g.next hX1 n nt hn hm2 c hf w.heap.size (w.heap.size + 1) (w.heap.size + 1 + 1) ?_ ?_ ?_ (ob _ (Nat.le_refl _)) (ob _ (Nat.le_succ _)) (ob _ (Nat.le_succ_of_le (Nat.le_succ _)))
          · exact (World.cell?_of_block (w := Wd) (hT1.blk _ (World.block_lt_of_cell? Wd ⟨_, 0, none⟩ k1d) (nd _ (ob _ (Nat.le_refl _))))).trans k1d
          · exact (World.cell?_of_block (w := Wd) (hT1.blk _ (World.block_lt_of_cell? Wd ⟨_, 0, none⟩ k2d) (nd _ (ob _ (Nat.le_succ _))))).trans k2d
          · exact (World.cell?_of_block (w := Wd) (hT1.blk _ (World.block_lt_of_cell? Wd ⟨_, 0, none⟩ k3d) (nd _ (ob _ (Nat.le_succ_of_le (Nat.le_succ _)))))).trans k3d
        · rintro e w2 ⟨rfl, hA⟩
          go_wp2_with fail
          go_ret
          rw [renameOut, if_neg (by simp [hm, hm2])]
          simp only [hf]
          exact ⟨rfl, updr _ _ hA⟩

/-! ### no disk -/
theorem NoDisk.alloc {w : World} {v : Value} (h : NoDisk w v) (o : Obj) : NoDisk (w.alloc o) v := h.ext ((Ext.refl w).alloc o)

set_option maxRecDepth 100000 in
theorem make_no (w : World) (p : Option Addr) (n : Nm) (h : NoDisk w (.pointer p)) : Calls Try.prog 18 #[.pointer p, nv n] w fun e w' => e = .returned (.int .i64 1) ∧ Ext w w' := by
  have hx2 := ((Ext.refl w).alloc (.cells #[.pointer p] 26)).alloc (.cells #[nv n] 9)
  have h2 := h.ext hx2
  go_enter Try.func18, Try.ntmps18
  go_wp2_with fail
  refine (none_no _ _ h2).mono ?_
  rintro e w1 ⟨rfl, rfl⟩
  go_wp2_with fail
  go_ret
  exact ⟨rfl, hx2⟩
set_option maxRecDepth 100000 in
theorem rename_no (w : World) (p : Option Addr) (n nt : Nm) (h : NoDisk w (.pointer p)) : Calls Try.prog 19 #[.pointer p, nv n, nv nt] w fun e w' => e = .returned (.int .i64 1) ∧ Ext w w' := by
  have hx2 := (((Ext.refl w).alloc (.cells #[.pointer p] 26)).alloc (.cells #[nv n] 9)).alloc (.cells #[nv nt] 9)
  have h2 := h.ext hx2
  go_enter Try.func19, Try.ntmps19
  go_wp2_with fail
  refine (none_no _ _ h2).mono ?_
  rintro e w1 ⟨rfl, rfl⟩
  go_wp2_with fail
  go_ret
  exact ⟨rfl, hx2⟩
set_option maxRecDepth 100000 in
theorem remove_no (w : World) (p : Option Addr) (n : Nm) (h : NoDisk w (.pointer p)) : Calls Try.prog 29 #[.pointer p, nv n] w fun e w' => e = .returned (.int .i64 1) ∧ Ext w w' := by
  have hx2 := ((Ext.refl w).alloc (.cells #[.pointer p] 26)).alloc (.cells #[nv n] 9)
  have h2 := h.ext hx2
  have k1 : ((w.alloc (.cells #[.pointer p] 26)).alloc (.cells #[nv n] 9)).cell? ⟨w.heap.size, 0, none⟩ = some (.pointer p) := ((Blk.new w 26 #[.pointer p]).ext ((Ext.refl _).alloc _)).cell 0
  have k2 : ((w.alloc (.cells #[.pointer p] 26)).alloc (.cells #[nv n] 9)).cell? ⟨w.heap.size + 1, 0, none⟩ = some (nv n) := by
    have := (Blk.new (w.alloc (.cells #[.pointer p] 26)) 9 #[nv n]).cell 0
    rw [World.size_alloc] at this
    exact this
  go_enter Try.func29, Try.ntmps29
  go_wp2_with fail
  refine (find_no _ _ h2 _ _).mono ?_
  rintro e w1 ⟨rfl, rfl⟩
  go_wp2_with fail
  go_ret
  exact ⟨rfl, hx2⟩
set_option maxRecDepth 100000 in
theorem sync_no (w : World) (v n : Value) (h : NoDisk w v) : Calls Try.prog 27 #[v, n] w fun e w' => e = .returned (.int .i64 1) ∧ Ext w w' := by
  go_enter Try.func27, Try.ntmps27
  go_wp2_with fail
  refine (find_no _ _ h _ _).mono ?_
  rintro e w1 ⟨rfl, rfl⟩
  go_wp2_with fail
  go_ret
  exact ⟨rfl, Ext.refl _⟩
set_option maxRecDepth 100000 in
theorem write_no (w : World) (v n : Value) (s : Int) (l : Sc) (h : NoDisk w v) : Calls Try.prog 20 #[v, n, .int .i64 s, sec l] w fun e w' => e = .returned (.int .i64 1) ∧ Ext w w' := by
  have hx2 := ((Ext.refl w).alloc (.cells #[.int .i64 s] 3)).alloc (.cells (sv l) 39)
  have h2 := h.ext hx2
  go_enter Try.func20, Try.ntmps20
  go_wp2_with fail
  refine (place_no _ _ h2 _ _).mono ?_
  rintro e w1 ⟨rfl, rfl⟩
  go_wp2_with fail
  go_ret
  exact ⟨rfl, hx2.alloc _⟩
set_option maxRecDepth 100000 in
theorem spoil_no (w : World) (v n s : Value) (l : Sc) (h : NoDisk w v) : Calls Try.prog 30 #[v, n, s, sec l] w fun e w' => e = .returned (.int .i64 1) ∧ Ext w w' := by
  have hx2 := (Ext.refl w).alloc (.cells (sv l) 39)
  have h2 := h.ext hx2
  go_enter Try.func30, Try.ntmps30
  go_wp2_with fail
  refine (place_no _ _ h2 _ _).mono ?_
  rintro e w1 ⟨rfl, rfl⟩
  go_wp2_with fail
  go_ret
  exact ⟨rfl, hx2⟩
set_option maxRecDepth 100000 in
theorem copy_no (w : World) (v : Value) (h : NoDisk w v) : Calls Try.prog 31 #[v] w fun e w' => e = .returned (.pointer none) ∧ Ext w w' := by
  go_enter Try.func31, Try.ntmps31
  go_wp2_with fail
  refine (none_no _ _ h).mono ?_
  rintro e w1 ⟨rfl, rfl⟩
  go_wp2_with fail
  go_ret
  exact ⟨rfl, Ext.refl _⟩
set_option maxRecDepth 100000 in
theorem crash_no (w : World) (v : Value) (A : Option Addr) (n c : Nat) (h : NoDisk w v) : Calls Try.prog 11 #[v, .slice A n c] w fun e w' => e = .returned (.pointer none) ∧ Ext w w' := by
  have hx2 := (Ext.refl w).alloc (.cells #[.slice A n c] 23)
  have h2 := h.ext hx2
  go_enter Try.func11, Try.ntmps11
  go_wp2_with fail
  refine (copy_no _ _ h2).mono ?_
  rintro e w1 ⟨rfl, hx3⟩
  go_wp2_with fail
  go_ret
  exact ⟨rfl, (hx2.trans hx3).alloc _⟩
end Go.Proofs.Ytenmdhdloibemaa
