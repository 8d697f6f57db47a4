/- What Remove and Rename do to a disk. Conditions: the disk is in memory as told. -/
import Derived.Test.YtenmdhdloibemaaMutb
namespace Go.Proofs.Ytenmdhdloibemaa
open Go.RowKit Go.Maps Go.Sort
set_option linter.unusedVariables false
set_option linter.unusedSimpArgs false

theorem DiskX.szF {w : World} {O : Ow} {d fm : Nat} {F : DataW Value} {g : DC} (h : DiskX w O d fm F g) : Maps.size F ≤ 32 := h.2.2.2.2.1
theorem DiskX.mapF {w : World} {O : Ow} {d fm : Nat} {F : DataW Value} {g : DC} (h : DiskX w O d fm F g) : MapOf Try.prog w 9 fm F := h.2.2.2.1

/-- a delete in the map of files -/
theorem DiskX.del {w w' : World} {O : Ow} {d fm : Nat} {F : DataW Value} {g : DC} {n : Nm} (h : DiskX w O d fm F g) (m' : MapOf Try.prog w' 9 fm (F.del (sk n))) (t : Tu (fun b => b = fm) w w') : DiskX w' O d fm (F.del (sk n)) (g.set n none) := by
  obtain ⟨o1, o2, b1, m1, hsz, hc, hfu, hch, hnm, q0, q1, q2, hO⟩ := id h
  refine h.setM t (Og.refl O w) (hO.ext t.size) m' ?_ (fun kl hk => hnm kl (has_del hk).2) ?_ ?_ ?_
  · have := m1.size_del (kl := sk n) law_s
    omega
  · intro m e
    rw [val_del (kl := sk n) F trivial, sk_same]
    by_cases em : m = n
    · rw [if_pos (by simpa using em)]
    · rw [if_neg (by simpa using em)]
      exact q0 m (by simpa [em] using e)
  · intro m c e
    by_cases em : m = n
    · simp [em] at e
    · obtain ⟨fb, r1, r2⟩ := q1 m c (by simpa [em] using e)
      exact ⟨fb, by rw [val_del (kl := sk n) F trivial, sk_same, if_neg (by simpa using em)]; exact r1, h.fileFar t (Og.refl O w) r2⟩
  · intro a b x ea eb
    rw [val_del (kl := sk n) F trivial, sk_same] at ea eb
    by_cases e1 : a = n
    · rw [if_pos (by simpa using e1)] at ea; cases ea
    by_cases e2 : b = n
    · rw [if_pos (by simpa using e2)] at eb; cases eb
    rw [if_neg (by simpa using e1)] at ea
    rw [if_neg (by simpa using e2)] at eb
    exact q2 a b x ea eb
/-- a file that is in no map is put into it -/
theorem DiskX.put {w w' : World} {O : Ow} {d fm fb : Nat} {F : DataW Value} {g : DC} {n : Nm} {c : FC} (h : DiskX w O d fm F g) (hm : mayName n = true) (hf : FileAt w O fb c) (hno : ∀ m, val F (sk m) ≠ some (fptr fb)) (hs : Maps.size F < 32)
    (m' : MapOf Try.prog w' 9 fm (F.put (sk n) (.held (fptr fb)))) (t : Tu (fun b => b = fm) w w') : DiskX w' O d fm (F.put (sk n) (.held (fptr fb))) (g.set n (some c)) := by
  obtain ⟨o1, o2, b1, m1, hsz, hc, hfu, hch, hnm, q0, q1, q2, hO⟩ := id h
  refine h.setM t (Og.refl O w) (hO.ext t.size) m' ?_ (fun kl hk => ?_) ?_ ?_ ?_
  · rw [m1.size_put law_s]
    split <;> omega
  · rcases has_put hk with e | e
    · exact ⟨n, e, hm⟩
    · exact hnm kl e
  · intro m e
    by_cases em : m = n
    · simp [em] at e
    · rw [val_put (kl := sk n) m1.isMap trivial, sk_same, if_neg (by simpa using em)]
      exact q0 m (by simpa [em] using e)
  · intro m c' e
    by_cases em : m = n
    · subst em
      simp only [if_pos, Option.some.injEq] at e
      subst e
      exact ⟨fb, by rw [val_put (kl := sk m) m1.isMap trivial, sk_same, if_pos (by simp)], h.fileFar t (Og.refl O w) hf⟩
    · obtain ⟨fb2, r1, r2⟩ := q1 m c' (by simpa [em] using e)
      exact ⟨fb2, by rw [val_put (kl := sk n) m1.isMap trivial, sk_same, if_neg (by simpa using em)]; exact r1, h.fileFar t (Og.refl O w) r2⟩
  · intro a b x ea eb
    rw [val_put (kl := sk n) m1.isMap trivial, sk_same] at ea eb
    by_cases e1 : a = n <;> by_cases e2 : b = n
    · rw [e1, e2]
    · rw [if_pos (by simpa using e1)] at ea
      rw [if_neg (by simpa using e2)] at eb
      rw [← ea] at eb
      exact absurd eb (hno b)
    · rw [if_neg (by simpa using e1)] at ea
      rw [if_pos (by simpa using e2)] at eb
      rw [← eb] at ea
      exact absurd ea (hno a)
    · rw [if_neg (by simpa using e1)] at ea
      rw [if_neg (by simpa using e2)] at eb
      exact q2 a b x ea eb

set_option maxRecDepth 100000 in
set_option maxHeartbeats 1600000 in
theorem remove1_any (w : World) (O : Ow) (d fm : Nat) (F : DataW Value) (g : DC) (h : DiskX w O d fm F g) (n : Nm) (hn : n.length ≤ maxLen) (bd bn : Nat)
    (k1 : w.cell? ⟨bd, 0, none⟩ = some (fptr d)) (k2 : w.cell? ⟨bn, 0, none⟩ = some (nv n)) (o1 : O bd = none) (o2 : O bn = none) :
    Calls Try.prog 50 (#[] ++ #[fptr bd, fptr bn]) w fun e w' => e = .returned (.tuple #[]) ∧ After w w' O d (g.set n none) := by
  have e0 : (#[] ++ #[fptr bd, fptr bn] : Array Value) = #[fptr bd, fptr bn] := rfl
  rw [e0]
  obtain ⟨od, om⟩ := h.own_d
  have nfm : ∀ b, O b = none → b ≠ fm := fun b e e2 => by rw [e2, om] at e; cases e
  have ndm : d ≠ fm := fun e => by rw [e, om] at od; simp at od
  go_enter Try.func50, Try.ntmps50
  have a0 : ∀ x : Above (Tu (fun b => b = fm)) w.drew, x.1.cell? ⟨bd, 0, none⟩ = some (fptr d) := fun x => (World.cell?_of_block (w := w.drew) (x.2.blk bd (World.block_lt_of_cell? w ⟨bd, 0, none⟩ k1) (nfm bd o1))).trans k1
  have a1 : ∀ x : Above (Tu (fun b => b = fm)) w.drew, x.1.cell? ⟨bn, 0, none⟩ = some (nv n) := fun x => (World.cell?_of_block (w := w.drew) (x.2.blk bn (World.block_lt_of_cell? w ⟨bn, 0, none⟩ k2) (nfm bn o2))).trans k2
  have a2 : ∀ x : Above (Tu (fun b => b = fm)) w.drew, x.1.cell? ⟨d, 1, none⟩ = some (.map (some fm)) := fun x => (Blk.tu (w := w.drew) h.blk x.2 ndm).cell 1
  refine wp_region_plan (Tu (fun b => b = fm)) [(0, true), (1, true), (2, true), (3, true), (4, true), (5, false)] (fun _ _ _ x y => x.trans y) (fun a => Tu.refl _ a) (by kernel_rfl) (by kernel_rfl) ?_
  intro K hK
  iterate 5 (
    refine plan_q (v := ?_) rfl rfl ?_ ?_
    rotate_left
    · intro x
      go_simp
      first | done | rfl
    simp only [Act.put, List.getElem_toArray, List.getElem_cons_zero, List.getElem_cons_succ, List.setIfInBounds_toArray, List.set_cons_zero, List.set_cons_succ])
  refine plan_l rfl rfl ?_
  intro K2 hK2
  refine wp_one rfl ?_
  have hd := h.ext ((Ext.refl w).drew)
  refine wpList_del _ _ _ law_s Try.underlying51 rfl rfl hd.mapF (nv n) rfl rfl (key_s hn) ?_
  intro w2 m2 g2
  show K2 _ _
  have t2 : Tu (fun b => b = fm) w.drew w2 := Tu.of_grown g2 (by rintro k e; cases e; rfl)
  refine hK2.out _ _ t2 ?_
  clear hK2 K2
  try simp only [Act.put, List.getElem_toArray, List.getElem_cons_zero, List.getElem_cons_succ, List.setIfInBounds_toArray, List.set_cons_zero, List.set_cons_succ]
  refine plan_end (hK.out _ _ ?_)
  clear hK K
  go_end0
  exact ⟨rfl, O, ⟨fm, _, hd.del m2 t2⟩, Og.refl O w, (Tu.of_ext ((Ext.refl w).drew)).trans (t2.mono (by rintro b rfl; simp [Owned, om]))⟩

/-- Remove: what it answers -/
def removeOut (g : DC) (n : Nm) : Int × DC := if findE g n 0 ≠ 0 then (findE g n 0, g) else chg g (fun g => g.set n none) id
set_option maxRecDepth 100000 in
set_option maxHeartbeats 1600000 in
theorem remove_any (w : World) (O : Ow) (d fm : Nat) (F : DataW Value) (g : DC) (h : DiskX w O d fm F g) (n : Nm) (hn : n.length ≤ maxLen) :
    Calls Try.prog 29 #[fptr d, nv n] w fun e w' => e = .returned (.int .i64 (removeOut g n).1) ∧ After w w' O d (removeOut g n).2 := by
  have hO := h.inn
  go_enter Try.func29, Try.ntmps29
  have hx2 := ((Ext.refl w).alloc (.cells #[fptr d] 26)).alloc (.cells #[nv n] 9)
  have k1 : ((w.alloc (.cells #[fptr d] 26)).alloc (.cells #[nv n] 9)).cell? ⟨w.heap.size, 0, none⟩ = some (fptr d) := ((Blk.new w 26 #[fptr d]).ext ((Ext.refl _).alloc _)).cell 0
  have k2 : ((w.alloc (.cells #[fptr d] 26)).alloc (.cells #[nv n] 9)).cell? ⟨w.heap.size + 1, 0, none⟩ = some (nv n) := by
    have := (Blk.new (w.alloc (.cells #[fptr d] 26)) 9 #[nv n]).cell 0
    rw [World.size_alloc] at this
    exact this
  go_wp2_with fail
  generalize (w.alloc (Obj.cells #[fptr d] 26)).alloc (Obj.cells #[nv n] 9) = W at *
  have hX := h.ext hx2
  refine (find_any W O d fm F g hX n hn 0 (by decide)).mono ?_
  rintro e w1 ⟨rfl, ⟨c, fb, e1, e2, e3, e4, rfl⟩ | ⟨e1, rfl⟩⟩
  · have ob : ∀ b, w.heap.size ≤ b → O b = none := fun b hb => hO.none hb
    have nd : ∀ b, O b = none → b ≠ d := fun b e e2 => by rw [e2, h.own_d.1] at e; cases e
    go_wp2_with fail
    refine (chg_any W O d fm F g hX 50 40 #[] _ #[] #[] (fun g => g.set n none) id (enters_of Try.func50 (by kernel_rfl) rfl) (enters_of Try.func40 (by kernel_rfl) rfl) (fun w1 hX1 _ => leave_after w1 O d fm F _ hX1) (fun w1 hX1 hT1 => ?_)).mono ?_
    · refine remove1_any w1 O d fm F g.next hX1 n hn w.heap.size (w.heap.size + 1) ?_ ?_ (ob _ (Nat.le_refl _)) (ob _ (Nat.le_succ _))
      · exact (World.cell?_of_block (w := W) (hT1.blk _ (World.block_lt_of_cell? W ⟨_, 0, none⟩ k1) (nd _ (ob _ (Nat.le_refl _))))).trans k1
      · exact (World.cell?_of_block (w := W) (hT1.blk _ (World.block_lt_of_cell? W ⟨_, 0, none⟩ k2) (nd _ (ob _ (Nat.le_succ _))))).trans k2
    · rintro e w2 ⟨rfl, hA⟩
      go_wp2_with fail
      go_ret
      rw [removeOut, if_neg (by simp [e1])]
      exact ⟨rfl, After.mono (Tu.of_ext hx2) hA hO⟩
  · obtain ⟨E, hE⟩ : ∃ E, findE g n 0 = E := ⟨_, rfl⟩
    rw [hE] at e1 ⊢
    have hb : (E == 0) = false := by simpa using e1
    go_wp2_with fail
    go_ret
    rw [removeOut, if_pos (by rw [hE]; exact e1), hE]
    exact ⟨rfl, After.ext h hx2⟩

set_option maxRecDepth 100000 in
set_option maxHeartbeats 3200000 in
theorem rename1_any (w : World) (O : Ow) (d fm : Nat) (F : DataW Value) (g : DC) (h : DiskX w O d fm F g) (n nt : Nm) (hn : n.length ≤ maxLen) (hto : mayName nt = true) (c : FC) (hf : g.file n = some c) (bd bn bt : Nat)
    (k1 : w.cell? ⟨bd, 0, none⟩ = some (fptr d)) (k2 : w.cell? ⟨bn, 0, none⟩ = some (nv n)) (k3 : w.cell? ⟨bt, 0, none⟩ = some (nv nt)) (o1 : O bd = none) (o2 : O bn = none) (o3 : O bt = none) :
    Calls Try.prog 41 (#[] ++ #[fptr bd, fptr bn, fptr bt]) w fun e w' => e = .returned (.tuple #[]) ∧ After w w' O d ((g.set n none).set nt (some c)) := by
  have e0 : (#[] ++ #[fptr bd, fptr bn, fptr bt] : Array Value) = #[fptr bd, fptr bn, fptr bt] := rfl
  rw [e0]
  have htl : nt.length ≤ maxLen := by
    have : nt.length ≤ 32 := by simp [mayName] at hto; omega
    unfold maxLen
    omega
  obtain ⟨od, om⟩ := h.own_d
  have nfm : ∀ b, O b = none → b ≠ fm := fun b e e2 => by rw [e2, om] at e; cases e
  have ndm : d ≠ fm := fun e => by rw [e, om] at od; simp at od
  obtain ⟨fb, r1, r2⟩ : ∃ fb, val F (sk n) = some (fptr fb) ∧ FileAt w O fb c := by
    obtain ⟨_, _, _, _, _, _, _, _, _, _, q1, _, _⟩ := id h
    exact q1 n c hf
  go_enter Try.func41, Try.ntmps41
  have hlk := (h.ext ((Ext.refl w).drew)).look hn
  rw [r1, Option.getD_some] at hlk
  have a0 : ∀ x : Above Ext w.drew, x.1.cell? ⟨bd, 0, none⟩ = some (fptr d) := fun x => (((Ext.refl w).drew).trans x.2).cellSome k1
  have a1 : ∀ x : Above Ext w.drew, x.1.cell? ⟨bn, 0, none⟩ = some (nv n) := fun x => (((Ext.refl w).drew).trans x.2).cellSome k2
  have a2 : ∀ x : Above Ext w.drew, x.1.cell? ⟨d, 1, none⟩ = some (.map (some fm)) := fun x => (h.blk.ext (((Ext.refl w).drew).trans x.2)).cell 1
  go_wp2_with fail
  refine wp_region_plan Ext [(0, true), (1, true), (2, true), (3, true), (4, true), (5, false), (6, true)] (fun _ _ _ x y => (fun x y => Ext.trans x y) x y) Ext.refl (by kernel_rfl) (by kernel_rfl) ?_
  intro K hK
  iterate 5 (
    refine plan_q (v := ?_) rfl rfl ?_ ?_
    rotate_left
    · intro x
      go_simp
      first | done | rfl
    simp only [Act.put, List.getElem_toArray, List.getElem_cons_zero, List.getElem_cons_succ, List.setIfInBounds_toArray, List.set_cons_zero, List.set_cons_succ])
  refine plan_l rfl rfl ?_
  intro K2 hK2
  go_simp
  refine hK2.out _ _ (Ext.refl _) ?_
  clear hK2 K2
  try simp only [Act.put, List.getElem_toArray, List.getElem_cons_zero, List.getElem_cons_succ, List.setIfInBounds_toArray, List.set_cons_zero, List.set_cons_succ]
  iterate 1 (
    refine plan_q (v := ?_) rfl rfl ?_ ?_
    rotate_left
    · intro x
      go_simp
      first | done | rfl
    simp only [Act.put, List.getElem_toArray, List.getElem_cons_zero, List.getElem_cons_succ, List.setIfInBounds_toArray, List.set_cons_zero, List.set_cons_succ])
  refine plan_end (hK.out _ _ ?_)
  clear hK K
  clear a0 a1 a2 hlk
  have hX1 := h.ext ((Ext.refl w).drew)
  have k1d : w.drew.cell? ⟨bd, 0, none⟩ = some (fptr d) := k1
  have k2d : w.drew.cell? ⟨bn, 0, none⟩ = some (nv n) := k2
  have k3d : w.drew.cell? ⟨bt, 0, none⟩ = some (nv nt) := k3
  have hxd := (Ext.refl w).drew
  generalize w.drew = W1 at *
  have a0 : ∀ x : Above (Tu (fun b => b = fm)) W1.drew, x.1.cell? ⟨bd, 0, none⟩ = some (fptr d) := fun x => (World.cell?_of_block (w := W1.drew) (x.2.blk bd (World.block_lt_of_cell? W1 ⟨bd, 0, none⟩ k1d) (nfm bd o1))).trans k1d
  have a1 : ∀ x : Above (Tu (fun b => b = fm)) W1.drew, x.1.cell? ⟨bn, 0, none⟩ = some (nv n) := fun x => (World.cell?_of_block (w := W1.drew) (x.2.blk bn (World.block_lt_of_cell? W1 ⟨bn, 0, none⟩ k2d) (nfm bn o2))).trans k2d
  have a2 : ∀ x : Above (Tu (fun b => b = fm)) W1.drew, x.1.cell? ⟨d, 1, none⟩ = some (.map (some fm)) := fun x => (Blk.tu (w := W1.drew) hX1.blk x.2 ndm).cell 1
  go_wp2_with fail
  refine wp_region_plan (Tu (fun b => b = fm)) [(0, true), (1, true), (2, true), (3, true), (4, true), (5, false)] (fun _ _ _ x y => x.trans y) (fun a => Tu.refl _ a) (by kernel_rfl) (by kernel_rfl) ?_
  intro K hK
  iterate 5 (
    refine plan_q (v := ?_) rfl rfl ?_ ?_
    rotate_left
    · intro x
      go_simp
      first | done | rfl
    simp only [Act.put, List.getElem_toArray, List.getElem_cons_zero, List.getElem_cons_succ, List.setIfInBounds_toArray, List.set_cons_zero, List.set_cons_succ])
  refine plan_l rfl rfl ?_
  intro K2 hK2
  refine wp_one rfl ?_
  have hdd := hX1.ext ((Ext.refl W1).drew)
  refine wpList_del _ _ _ law_s Try.underlying51 rfl rfl hdd.mapF (nv n) rfl rfl (key_s hn) ?_
  intro w2 m2 g2
  show K2 _ _
  have t2 : Tu (fun b => b = fm) W1.drew w2 := Tu.of_grown g2 (by rintro k e; cases e; rfl)
  refine hK2.out _ _ t2 ?_
  clear hK2 K2
  try simp only [Act.put, List.getElem_toArray, List.getElem_cons_zero, List.getElem_cons_succ, List.setIfInBounds_toArray, List.set_cons_zero, List.set_cons_succ]
  refine plan_end (hK.out _ _ ?_)
  clear hK K
  clear a0 a1 a2
  have hX2 := hdd.del m2 t2
  have f2 : FileAt w2 O fb c := hdd.fileFar t2 (Og.refl O _) ((r2.ext hxd).ext ((Ext.refl W1).drew))
  have k1e : w2.cell? ⟨bd, 0, none⟩ = some (fptr d) := (World.cell?_of_block (w := W1.drew) (t2.blk bd (World.block_lt_of_cell? W1 ⟨bd, 0, none⟩ k1d) (nfm bd o1))).trans k1d
  have k3e : w2.cell? ⟨bt, 0, none⟩ = some (nv nt) := (World.cell?_of_block (w := W1.drew) (t2.blk bt (World.block_lt_of_cell? W1 ⟨bt, 0, none⟩ k3d) (nfm bt o3))).trans k3d
  have hsz : Maps.size (F.del (sk n)) < 32 := by
    have := h.mapF.size_del (kl := sk n) law_s
    rw [r1] at this
    have := h.szF
    simp at *
    omega
  have hno : ∀ m, val (F.del (sk n)) (sk m) ≠ some (fptr fb) := by
    intro m e
    rw [val_del (kl := sk n) F trivial, sk_same] at e
    by_cases em : m = n
    · rw [if_pos (by simpa using em)] at e; cases e
    · rw [if_neg (by simpa using em)] at e
      obtain ⟨_, _, _, _, _, _, _, _, _, _, _, q2, _⟩ := id h
      exact em (q2 m n fb e r1)
  have a0 : ∀ x : Above (Tu (fun b => b = fm)) w2.drew, x.1.cell? ⟨bd, 0, none⟩ = some (fptr d) := fun x => (World.cell?_of_block (w := w2.drew) (x.2.blk bd (World.block_lt_of_cell? w2 ⟨bd, 0, none⟩ k1e) (nfm bd o1))).trans k1e
  have a1 : ∀ x : Above (Tu (fun b => b = fm)) w2.drew, x.1.cell? ⟨bt, 0, none⟩ = some (nv nt) := fun x => (World.cell?_of_block (w := w2.drew) (x.2.blk bt (World.block_lt_of_cell? w2 ⟨bt, 0, none⟩ k3e) (nfm bt o3))).trans k3e
  have a2 : ∀ x : Above (Tu (fun b => b = fm)) w2.drew, x.1.cell? ⟨d, 1, none⟩ = some (.map (some fm)) := fun x => (Blk.tu (w := w2.drew) hX2.blk x.2 ndm).cell 1
  go_wp2_with fail
  refine wp_region_plan (Tu (fun b => b = fm)) [(0, true), (1, true), (2, true), (3, true), (4, true), (5, true), (6, false)] (fun _ _ _ x y => x.trans y) (fun a => Tu.refl _ a) (by kernel_rfl) (by kernel_rfl) ?_
  intro K hK
  iterate 6 (
    refine plan_q (v := ?_) rfl rfl ?_ ?_
    rotate_left
    · intro x
      go_simp
      first | done | rfl
    simp only [Act.put, List.getElem_toArray, List.getElem_cons_zero, List.getElem_cons_succ, List.setIfInBounds_toArray, List.set_cons_zero, List.set_cons_succ])
  refine plan_l rfl rfl ?_
  intro K2 hK2
  refine wp_one rfl ?_
  have hde := hX2.ext ((Ext.refl w2).drew)
  refine wpList_put _ _ _ _ law_s Try.underlying51 rfl rfl hde.mapF (by unfold maxLen; omega) (nv nt) (fptr fb) rfl rfl rfl (key_s htl) ?_
  intro w3 m3 g3
  show K2 _ _
  have t3 : Tu (fun b => b = fm) w2.drew w3 := Tu.of_grown g3 (by rintro k e; cases e; rfl)
  refine hK2.out _ _ t3 ?_
  clear hK2 K2
  try simp only [Act.put, List.getElem_toArray, List.getElem_cons_zero, List.getElem_cons_succ, List.setIfInBounds_toArray, List.set_cons_zero, List.set_cons_succ]
  refine plan_end (hK.out _ _ ?_)
  clear hK K
  go_end0
  have tt : Tu (fun b => b = fm) w w3 := ((Tu.of_ext (hxd.trans ((Ext.refl W1).drew))).trans t2).trans ((Tu.of_ext ((Ext.refl w2).drew)).trans t3)
  exact ⟨rfl, O, ⟨fm, _, hde.put hto (f2.ext ((Ext.refl w2).drew)) hno hsz m3 t3⟩, Og.refl O w, tt.mono (by rintro b rfl; simp [Owned, om])⟩
end Go.Proofs.Ytenmdhdloibemaa
