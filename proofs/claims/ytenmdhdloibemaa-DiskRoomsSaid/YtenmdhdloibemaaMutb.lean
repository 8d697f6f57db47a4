/- What Write, Sync, Spoil, Fuse do to a disk. Conditions: the disk is in memory as told. -/
import Derived.Test.YtenmdhdloibemaaMut
namespace Go.Proofs.Ytenmdhdloibemaa
open Go.RowKit Go.Maps Go.Sort
set_option linter.unusedVariables false
set_option linter.unusedSimpArgs false

/-- what a Write, a Spoil answers; T sectors count -/
def wOut (g : DC) (n : Nm) (s : Int) (T : Nat) (k : FC → Int × DC) : Int × DC :=
  if findE g n s ≠ 0 then (findE g n s, g) else match g.file n with | none => (6, g) | some c => if c.lasts s = none ∧ g.cap - (T : Int) = 0 then (5, g) else k c

theorem DiskX.fileAt {w : World} {O : Ow} {d fm fb : Nat} {F : DataW Value} {g : DC} {n : Nm} {c : FC} (h : DiskX w O d fm F g) (hf : g.file n = some c) (hv : val F (sk n) = some (fptr fb)) : FileAt w O fb c := by
  obtain ⟨_, c', h1, h2⟩ := h.vlt hv
  rw [hf] at h1
  cases h1
  exact h2

set_option maxRecDepth 100000 in
set_option maxHeartbeats 1600000 in
theorem write1_any (w : World) (O : Ow) (d fm : Nat) (F : DataW Value) (g : DC) (h : DiskX w O d fm F g) (n : Nm) (c : FC) (fb : Nat) (hf : g.file n = some c) (hv : val F (sk n) = some (fptr fb)) (s : Int) (s0 : 0 ≤ s) (s1 : s < 65536) (l : Sc) (hl : l.length = 256)
    (hbig : (c.S s).length < 1000000) (bf bs bx : Nat) (k1 : w.cell? ⟨bf, 0, none⟩ = some (fptr fb)) (k2 : w.cell? ⟨bs, 0, none⟩ = some (.int .i64 s)) (k3 : Blk w bx 39 (sv l)) :
    Calls Try.prog 43 (#[] ++ #[fptr bf, fptr bs, fptr bx]) w fun e w' => e = .returned (.tuple #[]) ∧ After w w' O d (g.set n (some (c.write s l))) := by
  have hF := h.fileAt hf hv
  have e0 : (#[] ++ #[fptr bf, fptr bs, fptr bx] : Array Value) = #[fptr bf, fptr bs, fptr bx] := rfl
  rw [e0]
  go_enter Try.func43, Try.ntmps43
  go_wp2_with (refine wpList_lsec rfl _ rfl bx rfl k3 hl ?_)
  refine (write_any w O fb c s l hF h.inn s0 s1 hl hbig).mono ?_
  rintro e w1 ⟨rfl, O', f1, i1, g1, t1⟩
  go_wp2_with fail
  go_end0
  exact ⟨rfl, O', ⟨fm, F, h.setF hv hF t1 g1 i1 f1⟩, g1, t1.mono fun b hb => hb.owned⟩

theorem findE_zero {g : DC} {n : Nm} {s : Int} (h : findE g n s = 0) : mayName n = true ∧ 0 ≤ s ∧ s < 65536 := by
  rw [findE] at h
  split at h
  · cases h
  · rename_i h1
    simp only [not_or, Bool.not_eq_false] at h1
    exact ⟨h1.1, by omega, by omega⟩

set_option maxRecDepth 100000 in
set_option maxHeartbeats 1600000 in
theorem write__any (w : World) (O : Ow) (d fm : Nat) (F : DataW Value) (g : DC) (h : DiskX w O d fm F g) (n : Nm) (hn : n.length ≤ maxLen) (s : Int) (hs : (Lit.int .i64 s).wf = true) (l : Sc) (hl : l.length = 256) (hbig : ∀ c, g.file n = some c → (c.S s).length < 1000000) :
    Calls Try.prog 20 #[fptr d, nv n, .int .i64 s, sec l] w fun e w' => e = .returned (.int .i64 (wOut g n s (total g (strKeys F)) fun c => chg g (fun g => g.set n (some (c.write s l))) (fun g => g.set n (some (c.write s l)))).1) ∧
      After w w' O d (wOut g n s (total g (strKeys F)) fun c => chg g (fun g => g.set n (some (c.write s l))) (fun g => g.set n (some (c.write s l)))).2 := by
  have hO := h.inn
  go_enter Try.func20, Try.ntmps20
  have hx2 := ((Ext.refl w).alloc (.cells #[.int .i64 s] 3)).alloc (.cells (sv l) 39)
  have k2 : ((w.alloc (.cells #[.int .i64 s] 3)).alloc (.cells (sv l) 39)).cell? ⟨w.heap.size, 0, none⟩ = some (.int .i64 s) := ((Blk.new w 3 #[.int .i64 s]).ext ((Ext.refl _).alloc _)).cell 0
  have k3 : Blk ((w.alloc (.cells #[.int .i64 s] 3)).alloc (.cells (sv l) 39)) (w.heap.size + 1) 39 (sv l) := by
    have := Blk.new (w.alloc (.cells #[.int .i64 s] 3)) 39 (sv l)
    rw [World.size_alloc] at this
    exact this
  go_wp2_with fail
  generalize (w.alloc (Obj.cells #[.int .i64 s] 3)).alloc (.cells (sv l) 39) = W at *
  have hX := h.ext hx2
  refine (place_any W O d fm F g hX n hn s hs).mono ?_
  rintro e w2 ⟨hx3, ⟨c, fb, e1, e2, e3, e4, e5, rfl⟩ | ⟨e1, rfl⟩ | ⟨c, e1, e2, e3, e4, rfl⟩⟩
  · have bB := Blk.new w2 62 #[fptr fb]
    have hx4 := (Ext.refl w2).alloc (.cells #[fptr fb] 62)
    go_wp2_with fail
    generalize w2.alloc (Obj.cells #[.pointer (some ⟨fb, 0, none⟩)] 62) = W4 at *
    have hx5 := hx3.trans hx4
    have hxw := hx2.trans hx5
    have hX4 := h.ext hxw
    obtain ⟨_, z0, z1⟩ := findE_zero e1
    have hs2 := hx2.size
    have hs3 := hx3.size
    have k2' := hx5.cellSome k2
    have k3' := k3.ext hx5
    have ob : ∀ b, w.heap.size ≤ b → O b = none := fun b hb => hO.none hb
    have nd : ∀ b, O b = none → b ≠ d := fun b e e2 => by rw [e2, h.own_d.1] at e; cases e
    have key : ∀ g2, g2.file = g.file → ∀ w1, DiskX w1 O d fm F g2 → Tu (fun b => b = d) W4 w1 → Calls Try.prog 43 (#[] ++ #[fptr w2.heap.size, fptr w.heap.size, fptr (w.heap.size + 1)]) w1 fun e w2 => e = .returned (.tuple #[]) ∧ After w1 w2 O d (g2.set n (some (c.write s l))) := by
      intro g2 hg2 w1 hX1 hT1
      refine write1_any w1 O d fm F g2 hX1 n c fb (by rw [hg2]; exact e2) e3 s z0 z1 l hl (hbig c e2) _ _ _ ?_ ?_ ?_
      · exact (bB.tu hT1 (nd _ (ob _ (by omega)))).cell 0
      · exact (World.cell?_of_block (w := W4) (hT1.blk _ (World.block_lt_of_cell? W4 ⟨_, 0, none⟩ k2') (nd _ (ob _ (Nat.le_refl _))))).trans k2'
      · exact k3'.tu hT1 (nd _ (ob _ (Nat.le_succ _)))
    refine (chg_any W4 O d fm F g hX4 43 43 #[] _ #[] _ (fun g => g.set n (some (c.write s l))) (fun g => g.set n (some (c.write s l))) (enters_of Try.func43 (by kernel_rfl) rfl) (enters_of Try.func43 (by kernel_rfl) rfl) (fun w1 hX1 hT1 => key g.met rfl w1 hX1 hT1) (fun w1 hX1 hT1 => key g.next rfl w1 hX1 hT1)).mono ?_
    rintro e w5 ⟨rfl, hA⟩
    go_wp2_with fail
    go_ret
    have eo : (wOut g n s (total g (strKeys F)) fun c => chg g (fun g => g.set n (some (c.write s l))) (fun g => g.set n (some (c.write s l)))) = chg g (fun g => g.set n (some (c.write s l))) (fun g => g.set n (some (c.write s l))) := by
      rw [wOut, if_neg (by simp [e1])]
      simp only [e2]
      rw [if_neg]
      rintro ⟨q1, q2⟩
      rcases e5 with q | q
      · rw [q1] at q; cases q
      · exact q q2
    rw [eo]
    exact ⟨rfl, After.mono (Tu.of_ext hxw) hA hO⟩
  · obtain ⟨E, hE⟩ : ∃ E, findE g n s = E := ⟨_, rfl⟩
    rw [hE] at e1 ⊢
    have hb : (E == 0) = false := by simpa using e1
    have hx4 := (Ext.refl w2).alloc (.cells #[.pointer none] 62)
    go_wp2_with fail
    go_ret
    rw [wOut, if_pos (by rw [hE]; exact e1), hE]
    exact ⟨rfl, After.ext h (hx2.trans (hx3.trans hx4))⟩
  · have hx4 := (Ext.refl w2).alloc (.cells #[.pointer none] 62)
    go_wp2_with fail
    go_ret
    rw [wOut, if_neg (by simp [e1])]
    simp only [e2]
    rw [if_pos ⟨e3, e4⟩]
    exact ⟨rfl, After.ext h (hx2.trans (hx3.trans hx4))⟩

set_option maxRecDepth 100000 in
theorem spoil__any (w : World) (O : Ow) (d fm : Nat) (F : DataW Value) (g : DC) (h : DiskX w O d fm F g) (n : Nm) (hn : n.length ≤ maxLen) (s : Int) (hs : (Lit.int .i64 s).wf = true) (l : Sc) (hl : l.length = 256) :
    Calls Try.prog 30 #[fptr d, nv n, .int .i64 s, sec l] w fun e w' => e = .returned (.int .i64 (wOut g n s (total g (strKeys F)) fun c => (0, g.set n (some (c.spoil s l)))).1) ∧
      After w w' O d (wOut g n s (total g (strKeys F)) fun c => (0, g.set n (some (c.spoil s l)))).2 := by
  have hO := h.inn
  go_enter Try.func30, Try.ntmps30
  have hx2 := (Ext.refl w).alloc (.cells (sv l) 39)
  have k3 := Blk.new w 39 (sv l)
  go_wp2_with fail
  generalize w.alloc (.cells (sv l) 39) = W at *
  have hX := h.ext hx2
  refine (place_any W O d fm F g hX n hn s hs).mono ?_
  rintro e w2 ⟨hx3, ⟨c, fb, e1, e2, e3, e4, e5, rfl⟩ | ⟨e1, rfl⟩ | ⟨c, e1, e2, e3, e4, rfl⟩⟩
  · have k3' := k3.ext hx3
    obtain ⟨_, z0, z1⟩ := findE_zero e1
    have hX2 := hX.ext hx3
    have hF := hX2.fileAt e2 e3
    go_wp2_with (refine wpList_lsec rfl _ rfl w.heap.size rfl k3' hl ?_)
    refine (spoil_any w2 O fb c s l hF hX2.inn z0 z1 hl).mono ?_
    rintro e w5 ⟨rfl, f1, t1⟩
    go_wp2_with fail
    go_ret
    have eo : (wOut g n s (total g (strKeys F)) fun c => (0, g.set n (some (c.spoil s l)))) = (0, g.set n (some (c.spoil s l))) := by
      rw [wOut, if_neg (by simp [e1])]
      simp only [e2]
      rw [if_neg]
      rintro ⟨q1, q2⟩
      rcases e5 with q | q
      · rw [q1] at q; cases q
      · exact q q2
    rw [eo]
    exact ⟨rfl, After.mono (Tu.of_ext (hx2.trans hx3)) ⟨O, ⟨fm, F, hX2.setF e3 hF t1 (Og.refl O w2) (hX2.inn.ext t1.size) f1⟩, Og.refl O w2, t1.mono fun b hb => hb.owned⟩ hO⟩
  · obtain ⟨E, hE⟩ : ∃ E, findE g n s = E := ⟨_, rfl⟩
    rw [hE] at e1 ⊢
    have hb : (E == 0) = false := by simpa using e1
    go_wp2_with fail
    go_ret
    rw [wOut, if_pos (by rw [hE]; exact e1), hE]
    exact ⟨rfl, After.ext h (hx2.trans hx3)⟩
  · go_wp2_with fail
    go_ret
    rw [wOut, if_neg (by simp [e1])]
    simp only [e2]
    rw [if_pos ⟨e3, e4⟩]
    exact ⟨rfl, After.ext h (hx2.trans hx3)⟩

/-- Sync: what it answers -/
def syncOut (g : DC) (n : Nm) : Int × DC := if findE g n 0 ≠ 0 then (findE g n 0, g) else match g.file n with | none => (6, g) | some c => chg g (fun g => g.set n (some c.sync)) id
set_option maxRecDepth 100000 in
theorem sync__any (w : World) (O : Ow) (d fm : Nat) (F : DataW Value) (g : DC) (h : DiskX w O d fm F g) (n : Nm) (hn : n.length ≤ maxLen) :
    Calls Try.prog 27 #[fptr d, nv n] w fun e w' => e = .returned (.int .i64 (syncOut g n).1) ∧ After w w' O d (syncOut g n).2 := by
  have hO := h.inn
  go_enter Try.func27, Try.ntmps27
  go_wp2_with fail
  refine (find_any w O d fm F g h n hn 0 (by decide)).mono ?_
  rintro e w1 ⟨rfl, ⟨c, fb, e1, e2, e3, e4, rfl⟩ | ⟨e1, rfl⟩⟩
  · go_wp2_with fail
    refine (chg_any w O d fm F g h 49 40 #[fptr fb] #[] #[] #[] (fun g => g.set n (some c.sync)) id (enters_of Try.func49 (by kernel_rfl) rfl) (enters_of Try.func40 (by kernel_rfl) rfl) (fun w1 hX1 _ => leave_after w1 O d fm F _ hX1) (fun w1 hX1 hT1 => ?_)).mono ?_
    · have hF := hX1.fileAt (c := c) e2 e3
      refine (sync_any w1 O fb c hF hX1.inn).mono ?_
      rintro e w2 ⟨rfl, f1, t1⟩
      exact ⟨rfl, O, ⟨fm, F, hX1.setF e3 hF t1 (Og.refl O w1) (hX1.inn.ext t1.size) f1⟩, Og.refl O w1, t1.mono fun b hb => hb.owned⟩
    · rintro e w2 ⟨rfl, hA⟩
      go_wp2_with fail
      go_ret
      rw [syncOut, if_neg (by simp [e1])]
      simp only [e2]
      exact ⟨rfl, hA⟩
  · obtain ⟨E, hE⟩ : ∃ E, findE g n 0 = E := ⟨_, rfl⟩
    rw [hE] at e1 ⊢
    have hb : (E == 0) = false := by simpa using e1
    go_wp2_with fail
    go_ret
    rw [syncOut, if_pos (by rw [hE]; exact e1), hE]
    exact ⟨rfl, After.ext h (Ext.refl _)⟩

/-- Fuse: what becomes of the disk -/
def fuseSet (g : DC) (k : Int) : DC := if g.dead then g else { g with fuse := k }
theorem fuse_any (w : World) (O : Ow) (d fm : Nat) (F : DataW Value) (g : DC) (h : DiskX w O d fm F g) (k : Int) (hk : (Lit.int .i64 k).wf = true) :
    Calls Try.prog 28 #[fptr d, .int .i64 k] w fun e w' => e = .returned (.tuple #[]) ∧ After w w' O d (fuseSet g k) := by
  have c3 := h.blk.cell 3
  have c2 := h.blk.cell 2
  have f2 := h.blk.free 2
  have bA := h.blk.set_ 2 (.int .i64 k)
  go_enter Try.func28, Try.ntmps28
  go_wp2_with fail
  refine (none_at w O d fm F g h).mono ?_
  rintro e w1 ⟨rfl, rfl⟩
  have hg := h.2.2.2.2.2.2.2.1
  cases hd : g.dead with
  | true =>
    rw [hd] at c3
    go_wp2_with fail
    refine bodyPost_ret (results_none rfl _ _ _) rfl ⟨rfl, ?_⟩
    rw [fuseSet, if_pos hd]
    exact After.ext h (Ext.refl _)
  | false =>
    rw [hd] at c3
    have tA : Tu (fun b => b = d) w (w.setCell ⟨d, 2, none⟩ (.int .i64 k)) := Tu.of_grown (setCell_grownBy _ _ _) (by rintro k e; cases e; rfl)
    go_wp2_with fail
    go_end0
    rw [fuseSet, if_neg (by simp [hd])]
    exact ⟨rfl, O, ⟨fm, F, h.setD (g' := { g with fuse := k }) tA bA rfl rfl hk hg⟩, Og.refl O w, tA.mono (by rintro b rfl; simp [Owned, h.own_d.1])⟩
theorem fuse_no (w : World) (v k : Value) (h : NoDisk w v) : Calls Try.prog 28 #[v, k] w fun e w' => e = .returned (.tuple #[]) ∧ w = w' := by
  go_enter Try.func28, Try.ntmps28
  go_wp2_with fail
  refine (none_no w v h).mono ?_
  rintro e w1 ⟨rfl, rfl⟩
  go_wp2_with fail
  exact bodyPost_ret (results_none rfl _ _ _) rfl ⟨rfl, rfl⟩
end Go.Proofs.Ytenmdhdloibemaa
