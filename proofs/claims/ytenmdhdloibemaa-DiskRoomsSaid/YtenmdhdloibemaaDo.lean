/- One step, done to a disk. Conditions: the disk is in memory as told, and so is the step. -/
import Derived.Test.YtenmdhdloibemaaStep
namespace Go.Proofs.Ytenmdhdloibemaa
open Go.RowKit Go.Maps Go.Sort Go.Shelf
set_option linter.unusedVariables false
set_option linter.unusedSimpArgs false
attribute [local go_sem] Oper.semAt_some

def crashedDC (g : DC) : DC := { g with fuse := -1, dead := false, chg := 0 }
/-- what a step does -/
inductive DoR (g : DC) (s : Sp) : Int → DC → Prop
  | make {x : Int} {g' : DC} {ns : List Nm} (h : s.kind = 1) (hn : IsNames g ns) (e : makeOut ns.length g s.name = (x, g')) : DoR g s x g'
  | write {x : Int} {g' : DC} {ns : List Nm} (h : s.kind = 2) (hn : IsNames g ns) (e : (wOut g s.name s.n (total g ns) fun c => chg g (fun g => g.set s.name (some (c.write s.n (fsec s.byt)))) (fun g => g.set s.name (some (c.write s.n (fsec s.byt))))) = (x, g')) : DoR g s x g'
  | sync {x : Int} {g' : DC} (h : s.kind = 3) (e : syncOut g s.name = (x, g')) : DoR g s x g'
  | remove {x : Int} {g' : DC} (h : s.kind = 4) (e : removeOut g s.name = (x, g')) : DoR g s x g'
  | rename {x : Int} {g' : DC} (h : s.kind = 5) (e : renameOut g s.name s.name2 = (x, g')) : DoR g s x g'
  | fuse (h : s.kind = 6) : DoR g s 0 (fuseSet g s.n)
  | crash {g' : DC} {ns : List Nm} {rest : List Int} (h : s.kind = 7) (hn : IsNames g ns) (e : Crashed ns s.picks g g' rest) : DoR g s 0 (crashedDC g')
  | spoil {x : Int} {g' : DC} {ns : List Nm} (h : s.kind = 8) (hn : IsNames g ns) (e : (wOut g s.name s.n (total g ns) fun c => (0, g.set s.name (some (c.spoil s.n (fsec s.byt))))) = (x, g')) : DoR g s x g'
  | other (h : s.kind < 1 ∨ 8 < s.kind) : DoR g s 0 g

theorem St.names' {w0 w : World} {d : Nat} {g : DC} {L : List (Nat × TypeId × Array Value)} (h : St w0 w d g L) : ∃ ns, IsNames g ns := by
  obtain ⟨ns, h1, _⟩ := st_names h
  exact ⟨ns, h1⟩
/-- what do leaves -/
def Done (w0 w' : World) (g : DC) (s : Sp) (L : List (Nat × TypeId × Array Value)) (e : Ending) : Prop :=
  ∃ x d' g', e = .returned (.tuple #[.int .i64 x, fptr d']) ∧ DoR g s x g' ∧ St w0 w' d' g' L

set_option maxRecDepth 100000 in
set_option maxHeartbeats 3200000 in
theorem do_any (w0 w : World) (d : Nat) (g : DC) (L : List (Nat × TypeId × Array Value)) (hS : St w0 w d g L) (hbig : ∀ n c, g.file n = some c → ∀ m, (c.S m).length < 1000000) (s : Sp) (hs : s.ok w) :
    Calls Try.prog 10 #[fptr d, .agg s.vals.toArray] w fun e w' => Done w0 w' g s L e := by
  obtain ⟨kind, n, name, name2, byt, A, pn, pc, picks⟩ := s
  obtain ⟨h1, h2, h3, h4, h5⟩ := hs
  simp only [Sp.vals] at *
  have hx1 := (Ext.refl w).alloc (.cells #[.int .i64 kind, .int .i64 n, nv name, nv name2, .int .u8 (byt.toNat : Int), .slice A pn pc] 34)
  have bS := Blk.new w 34 #[.int .i64 kind, .int .i64 n, nv name, nv name2, .int .u8 (byt.toNat : Int), .slice A pn pc]
  go_enter Try.func10, Try.ntmps10
  go_upto_region 1 with fail
  generalize w.alloc (.cells #[.int .i64 kind, .int .i64 n, nv name, nv name2, .int .u8 (byt.toNat : Int), .slice A pn pc] 34) = W at *
  have hSW := hS.add hx1 (Nat.le_refl _) bS
  have h5W := h5.ext hx1
  clear hx1
  generalize w.heap.size = bs at *
  have c0 := bS.cell 0
  have c1 := bS.cell 1
  have c2 := bS.cell 2
  have c3 := bS.cell 3
  have c5 := bS.cell 5
  by_cases k1 : kind = 1
  · subst k1
    rcases hS.names' with ⟨ns, hns⟩
    obtain ⟨x, g', ho⟩ : ∃ x g', makeOut ns.length g name = (x, g') := ⟨_, _, rfl⟩
    go_wp2_with fail
    refine (st_make hSW hns name h3 ho).mono ?_
    rintro e w1 ⟨rfl, hS1⟩
    go_wp2_with fail
    refine ((num_any _ x)).mono ?_
    rintro e w1 ⟨rfl, rfl⟩
    go_wp2_with fail
    go_ret2
    exact ⟨x, d, g', rfl, .make rfl hns ho, hS1.sub (fun q hq => List.mem_cons_of_mem _ hq)⟩
  by_cases k2 : kind = 2
  · subst k2
    rcases hS.names' with ⟨ns, hns⟩
    obtain ⟨x, g', ho⟩ : ∃ x g', (wOut g name n (total g ns) fun c => chg g (fun g => g.set name (some (c.write n (fsec byt)))) (fun g => g.set name (some (c.write n (fsec byt))))) = (x, g') := ⟨_, _, rfl⟩
    go_wp2_with fail
    have b0 := bS.ext (Ext.refl W).drew
    replace hSW := hSW.ext (Ext.refl W).drew
    have m1 : ∀ y : Above (fun u u' => Blk u bs 34 #[.int .i64 2, .int .i64 n, nv name, nv name2, .int .u8 (byt.toNat : Int), .slice A pn pc] → Blk u' bs 34 #[.int .i64 2, .int .i64 n, nv name, nv name2, .int .u8 (byt.toNat : Int), .slice A pn pc]) W.drew, y.1.cell? ⟨bs, 1, none⟩ = some (.int .i64 n) := fun y => (y.2 b0).cell 1
    have m2 : ∀ y : Above (fun u u' => Blk u bs 34 #[.int .i64 2, .int .i64 n, nv name, nv name2, .int .u8 (byt.toNat : Int), .slice A pn pc] → Blk u' bs 34 #[.int .i64 2, .int .i64 n, nv name, nv name2, .int .u8 (byt.toNat : Int), .slice A pn pc]) W.drew, y.1.cell? ⟨bs, 2, none⟩ = some (nv name) := fun y => (y.2 b0).cell 2
    have m4 : ∀ y : Above (fun u u' => Blk u bs 34 #[.int .i64 2, .int .i64 n, nv name, nv name2, .int .u8 (byt.toNat : Int), .slice A pn pc] → Blk u' bs 34 #[.int .i64 2, .int .i64 n, nv name, nv name2, .int .u8 (byt.toNat : Int), .slice A pn pc]) W.drew, y.1.cell? ⟨bs, 4, none⟩ = some (.int .u8 (byt.toNat : Int)) := fun y => (y.2 b0).cell 4
    refine wp_region_plan (fun u u' => Blk u bs 34 #[.int .i64 2, .int .i64 n, nv name, nv name2, .int .u8 (byt.toNat : Int), .slice A pn pc] → Blk u' bs 34 #[.int .i64 2, .int .i64 n, nv name, nv name2, .int .u8 (byt.toNat : Int), .slice A pn pc]) [(0, true), (1, true), (2, true), (3, true), (4, true), (5, true), (6, true), (10, true), (7, false), (8, false), (9, false), (11, true), (12, true)] (fun _ _ _ x y h => y (x h)) (fun _ h => h) (by kernel_rfl) (by kernel_rfl) ?_
    intro K hK
    generalize W.drew = W2 at *
    iterate 8 (
      refine plan_q (v := ?_) rfl rfl ?_ ?_
      rotate_left
      · intro x
        go_simp
        first | done | rfl
      simp only [Act.put, List.getElem_toArray, List.getElem_cons_zero, List.getElem_cons_succ, List.setIfInBounds_toArray, List.set_cons_zero, List.set_cons_succ])
    refine plan_l rfl rfl ?_
    intro K2 hK2
    go_simp
    refine (full_any byt W2).mono ?_
    rintro e w20 ⟨rfl, hx20⟩
    go_simp
    refine hK2.out _ _ (fun h => h.ext hx20) ?_
    clear hK2 K2
    try simp only [Act.put, List.getElem_toArray, List.getElem_cons_zero, List.getElem_cons_succ, List.setIfInBounds_toArray, List.set_cons_zero, List.set_cons_succ]
    replace hSW := hSW.ext hx20
    clear m1 m2 m4
    refine plan_l rfl rfl ?_
    intro K2 hK2
    go_simp
    refine (st_write hSW hns name h3 n h2 (fsec byt) (fsec_len _) (fun c e => hbig _ c e n) ho).mono ?_
    rintro e w1 ⟨rfl, hS1⟩
    go_simp
    refine hK2.out _ _ (fun _ => hS1.blk (by simp)) ?_
    clear hK2 K2
    try simp only [Act.put, List.getElem_toArray, List.getElem_cons_zero, List.getElem_cons_succ, List.setIfInBounds_toArray, List.set_cons_zero, List.set_cons_succ]
    refine plan_l rfl rfl ?_
    intro K2 hK2
    go_simp
    refine (num_any _ x).mono ?_
    rintro e w2 ⟨rfl, rfl⟩
    go_simp
    refine hK2.out _ _ (fun h => h) ?_
    clear hK2 K2
    try simp only [Act.put, List.getElem_toArray, List.getElem_cons_zero, List.getElem_cons_succ, List.setIfInBounds_toArray, List.set_cons_zero, List.set_cons_succ]
    iterate 2 (
      refine plan_q (v := ?_) rfl rfl ?_ ?_
      rotate_left
      · intro x
        go_simp
        first | done | rfl
      simp only [Act.put, List.getElem_toArray, List.getElem_cons_zero, List.getElem_cons_succ, List.setIfInBounds_toArray, List.set_cons_zero, List.set_cons_succ])
    refine plan_end (hK.out _ _ ?_)
    clear hK K
    go_wp2_with fail
    go_ret2
    exact ⟨x, d, g', rfl, .write rfl hns ho, hS1.sub (fun q hq => List.mem_cons_of_mem _ hq)⟩
  by_cases k3 : kind = 3
  · subst k3
    obtain ⟨x, g', ho⟩ : ∃ x g', syncOut g name = (x, g') := ⟨_, _, rfl⟩
    go_wp2_with fail
    refine (st_sync hSW name h3 ho).mono ?_
    rintro e w1 ⟨rfl, hS1⟩
    go_wp2_with fail
    refine ((num_any _ x)).mono ?_
    rintro e w1 ⟨rfl, rfl⟩
    go_wp2_with fail
    go_ret2
    exact ⟨x, d, g', rfl, .sync rfl ho, hS1.sub (fun q hq => List.mem_cons_of_mem _ hq)⟩
  by_cases k4 : kind = 4
  · subst k4
    obtain ⟨x, g', ho⟩ : ∃ x g', removeOut g name = (x, g') := ⟨_, _, rfl⟩
    go_wp2_with fail
    refine (st_remove hSW name h3 ho).mono ?_
    rintro e w1 ⟨rfl, hS1⟩
    go_wp2_with fail
    refine ((num_any _ x)).mono ?_
    rintro e w1 ⟨rfl, rfl⟩
    go_wp2_with fail
    go_ret2
    exact ⟨x, d, g', rfl, .remove rfl ho, hS1.sub (fun q hq => List.mem_cons_of_mem _ hq)⟩
  by_cases k5 : kind = 5
  · subst k5
    obtain ⟨x, g', ho⟩ : ∃ x g', renameOut g name name2 = (x, g') := ⟨_, _, rfl⟩
    go_wp2_with fail
    refine (st_rename hSW name name2 h3 h4 ho).mono ?_
    rintro e w1 ⟨rfl, hS1⟩
    go_wp2_with fail
    refine ((num_any _ x)).mono ?_
    rintro e w1 ⟨rfl, rfl⟩
    go_wp2_with fail
    go_ret2
    exact ⟨x, d, g', rfl, .rename rfl ho, hS1.sub (fun q hq => List.mem_cons_of_mem _ hq)⟩
  by_cases k6 : kind = 6
  · subst k6
    go_wp2_with fail
    refine (st_fuse hSW n h2).mono ?_
    rintro e w1 ⟨rfl, hS1⟩
    go_wp2_with fail
    go_ret2
    exact ⟨0, d, _, rfl, .fuse rfl, hS1.sub (fun q hq => List.mem_cons_of_mem _ hq)⟩
  by_cases k7 : kind = 7
  · subst k7
    go_wp2_with fail
    refine (st_crash hSW (fun n c e m => Nat.le_of_lt (hbig n c e m)) A pn pc picks h5W.1 h5W.2.1 h5W.2.2).mono ?_
    rintro e w1 ⟨d', g', ns, rest, rfl, q1, q2, _, _, hS1⟩
    go_wp2_with fail
    go_ret2
    exact ⟨0, d', _, rfl, .crash rfl q1 q2, hS1.sub (fun q hq => List.mem_cons_of_mem _ hq)⟩
  by_cases k8 : kind = 8
  · subst k8
    rcases hS.names' with ⟨ns, hns⟩
    obtain ⟨x, g', ho⟩ : ∃ x g', (wOut g name n (total g ns) fun c => (0, g.set name (some (c.spoil n (fsec byt))))) = (x, g') := ⟨_, _, rfl⟩
    go_wp2_with fail
    have b0 := bS.ext (Ext.refl W).drew
    replace hSW := hSW.ext (Ext.refl W).drew
    have m1 : ∀ y : Above (fun u u' => Blk u bs 34 #[.int .i64 8, .int .i64 n, nv name, nv name2, .int .u8 (byt.toNat : Int), .slice A pn pc] → Blk u' bs 34 #[.int .i64 8, .int .i64 n, nv name, nv name2, .int .u8 (byt.toNat : Int), .slice A pn pc]) W.drew, y.1.cell? ⟨bs, 1, none⟩ = some (.int .i64 n) := fun y => (y.2 b0).cell 1
    have m2 : ∀ y : Above (fun u u' => Blk u bs 34 #[.int .i64 8, .int .i64 n, nv name, nv name2, .int .u8 (byt.toNat : Int), .slice A pn pc] → Blk u' bs 34 #[.int .i64 8, .int .i64 n, nv name, nv name2, .int .u8 (byt.toNat : Int), .slice A pn pc]) W.drew, y.1.cell? ⟨bs, 2, none⟩ = some (nv name) := fun y => (y.2 b0).cell 2
    have m4 : ∀ y : Above (fun u u' => Blk u bs 34 #[.int .i64 8, .int .i64 n, nv name, nv name2, .int .u8 (byt.toNat : Int), .slice A pn pc] → Blk u' bs 34 #[.int .i64 8, .int .i64 n, nv name, nv name2, .int .u8 (byt.toNat : Int), .slice A pn pc]) W.drew, y.1.cell? ⟨bs, 4, none⟩ = some (.int .u8 (byt.toNat : Int)) := fun y => (y.2 b0).cell 4
    refine wp_region_plan (fun u u' => Blk u bs 34 #[.int .i64 8, .int .i64 n, nv name, nv name2, .int .u8 (byt.toNat : Int), .slice A pn pc] → Blk u' bs 34 #[.int .i64 8, .int .i64 n, nv name, nv name2, .int .u8 (byt.toNat : Int), .slice A pn pc]) [(0, true), (1, true), (2, true), (3, true), (4, true), (5, true), (6, true), (10, true), (7, false), (8, false), (9, false), (11, true), (12, true)] (fun _ _ _ x y h => y (x h)) (fun _ h => h) (by kernel_rfl) (by kernel_rfl) ?_
    intro K hK
    generalize W.drew = W2 at *
    iterate 8 (
      refine plan_q (v := ?_) rfl rfl ?_ ?_
      rotate_left
      · intro x
        go_simp
        first | done | rfl
      simp only [Act.put, List.getElem_toArray, List.getElem_cons_zero, List.getElem_cons_succ, List.setIfInBounds_toArray, List.set_cons_zero, List.set_cons_succ])
    refine plan_l rfl rfl ?_
    intro K2 hK2
    go_simp
    refine (full_any byt W2).mono ?_
    rintro e w20 ⟨rfl, hx20⟩
    go_simp
    refine hK2.out _ _ (fun h => h.ext hx20) ?_
    clear hK2 K2
    try simp only [Act.put, List.getElem_toArray, List.getElem_cons_zero, List.getElem_cons_succ, List.setIfInBounds_toArray, List.set_cons_zero, List.set_cons_succ]
    replace hSW := hSW.ext hx20
    clear m1 m2 m4
    refine plan_l rfl rfl ?_
    intro K2 hK2
    go_simp
    refine (st_spoil hSW hns name h3 n h2 (fsec byt) (fsec_len _) ho).mono ?_
    rintro e w1 ⟨rfl, hS1⟩
    go_simp
    refine hK2.out _ _ (fun _ => hS1.blk (by simp)) ?_
    clear hK2 K2
    try simp only [Act.put, List.getElem_toArray, List.getElem_cons_zero, List.getElem_cons_succ, List.setIfInBounds_toArray, List.set_cons_zero, List.set_cons_succ]
    refine plan_l rfl rfl ?_
    intro K2 hK2
    go_simp
    refine (num_any _ x).mono ?_
    rintro e w2 ⟨rfl, rfl⟩
    go_simp
    refine hK2.out _ _ (fun h => h) ?_
    clear hK2 K2
    try simp only [Act.put, List.getElem_toArray, List.getElem_cons_zero, List.getElem_cons_succ, List.setIfInBounds_toArray, List.set_cons_zero, List.set_cons_succ]
    iterate 2 (
      refine plan_q (v := ?_) rfl rfl ?_ ?_
      rotate_left
      · intro x
        go_simp
        first | done | rfl
      simp only [Act.put, List.getElem_toArray, List.getElem_cons_zero, List.getElem_cons_succ, List.setIfInBounds_toArray, List.set_cons_zero, List.set_cons_succ])
    refine plan_end (hK.out _ _ ?_)
    clear hK K
    go_wp2_with fail
    go_ret2
    exact ⟨x, d, g', rfl, .spoil rfl hns ho, hS1.sub (fun q hq => List.mem_cons_of_mem _ hq)⟩
  go_wp2_with fail
  go_ret2
  exact ⟨0, d, g, rfl, .other (by simp only; omega), hSW.sub (fun q hq => List.mem_cons_of_mem _ hq)⟩
end Go.Proofs.Ytenmdhdloibemaa
