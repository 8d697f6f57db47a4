/- The disk of the chapter's rows: one file. Conditions: none. -/
import Derived.Test.YtenmdhdloibemaaSt
namespace Go.Proofs.Ytenmdhdloibemaa
open Go.RowKit Go.Maps Go.Sort Go.Shelf
set_option linter.unusedVariables false
set_option linter.unusedSimpArgs false

def kst (cap fuse : Int) (dead : Bool) (k : Int) (nm : Nm) (c : FC) : DC := ⟨cap, fuse, dead, k, fun m => if m = nm then some c else none⟩
theorem kst_set (cap fuse : Int) (dead : Bool) (k : Int) (nm : Nm) (c c' : FC) : (kst cap fuse dead k nm c).set nm (some c') = kst cap fuse dead k nm c' := by
  simp only [kst, DC.set]
  congr 1
  funext m
  split <;> rfl
theorem kst_names (cap fuse : Int) (dead : Bool) (k : Int) (nm : Nm) (c : FC) : IsNames (kst cap fuse dead k nm c) [nm] := by
  refine ⟨by simp, fun m => ?_⟩
  by_cases e : m = nm <;> simp [kst, e]
theorem kst_total (cap fuse : Int) (dead : Bool) (k : Int) (nm : Nm) (c : FC) : total (kst cap fuse dead k nm c) [nm] = c.cnt := by
  simp [total, cntOf, kst]
theorem kst_file (cap fuse : Int) (dead : Bool) (k : Int) (nm : Nm) (c : FC) : (kst cap fuse dead k nm c).file nm = some c := by simp [kst]
theorem kst_find (cap fuse : Int) (dead : Bool) (k : Int) (nm : Nm) (c : FC) (s : Int) (hm : mayName nm = true) (h0 : 0 ≤ s) (h1 : s < 65536) : findE (kst cap fuse dead k nm c) nm s = 0 := by
  rw [findE, if_neg (by simp [hm]; omega), if_neg (by simp [kst])]

theorem kst_make (k : Int) (nm : Nm) (hm : mayName nm = true) : makeOut 0 (freshDC k) nm = (0, kst k (-1) false (wrap64 (0 + 1)) nm FC.none_) := by
  simp [makeOut, hm, freshDC, chg, DC.next, DC.set, kst, fuseNext]
theorem kst_met (cap fuse : Int) (dead : Bool) (k : Int) (nm : Nm) (c : FC) : (kst cap fuse dead k nm c).met = kst cap fuse true (wrap64 (k + 1)) nm c := rfl
theorem kst_next (cap fuse : Int) (dead : Bool) (k : Int) (nm : Nm) (c : FC) : (kst cap fuse dead k nm c).next = kst cap (fuseNext fuse) dead (wrap64 (k + 1)) nm c := rfl
theorem kst_chg (cap : Int) (k : Int) (nm : Nm) (c : FC) (a b : DC → DC) : chg (kst cap (-1) false k nm c) a b = (0, a (kst cap (-1) false (wrap64 (k + 1)) nm c)) := by
  rw [chg, if_neg (by simp [kst]), if_neg (by simp [kst]), kst_next]
  rfl
theorem kst_write (cap k : Int) (nm : Nm) (c : FC) (s : Int) (l : Sc) (hm : mayName nm = true) (h0 : 0 ≤ s) (h1 : s < 65536) (hc : ¬ (c.lasts s = none ∧ cap - (c.cnt : Int) = 0)) :
    (wOut (kst cap (-1) false k nm c) nm s (total (kst cap (-1) false k nm c) [nm]) fun c' => chg (kst cap (-1) false k nm c) (fun g => g.set nm (some (c'.write s l))) (fun g => g.set nm (some (c'.write s l)))) = (0, kst cap (-1) false (wrap64 (k + 1)) nm (c.write s l)) := by
  rw [wOut, kst_find _ _ _ _ _ _ _ hm h0 h1, if_neg (by simp), kst_file]
  simp only [kst_total]
  rw [if_neg (show ¬ (c.lasts s = none ∧ (kst cap _ false k nm c).cap - (c.cnt : Int) = 0) from hc), kst_chg, kst_set]
theorem kst_sync (cap k : Int) (nm : Nm) (c : FC) (hm : mayName nm = true) : syncOut (kst cap (-1) false k nm c) nm = (0, kst cap (-1) false (wrap64 (k + 1)) nm c.sync) := by
  rw [syncOut, kst_find _ _ _ _ _ _ _ hm (by omega) (by omega), if_neg (by simp), kst_file]
  simp only []
  rw [kst_chg, kst_set]
theorem kst_fuse (cap k x : Int) (nm : Nm) (c : FC) : fuseSet (kst cap (-1) false k nm c) x = kst cap x false k nm c := by
  rw [fuseSet, if_neg (by simp [kst])]
  rfl
theorem kst_rename (cap k : Int) (nm nt : Nm) (c : FC) (hm : mayName nm = true) (ht : mayName nt = true) : renameOut (kst cap 1 false k nm c) nm nt = (0, kst cap 0 false (wrap64 (k + 1)) nt c) := by
  rw [renameOut, if_neg (by simp [hm, ht]), kst_file]
  simp only []
  rw [chg, if_neg (by simp [kst]), if_neg (by simp [kst]), kst_next]
  simp only [kst, DC.set, fuseNext]
  rw [if_pos (by omega)]
  congr 2
  funext m
  split
  · rfl
  · split <;> rfl
/-- the change at which the power goes -/
theorem kst_last (cap k : Int) (nm : Nm) (c : FC) (s : Int) (l : Sc) (hm : mayName nm = true) (h0 : 0 ≤ s) (h1 : s < 65536) (hc : ¬ (c.lasts s = none ∧ cap - (c.cnt : Int) = 0)) :
    (wOut (kst cap 0 false k nm c) nm s (total (kst cap 0 false k nm c) [nm]) fun c' => chg (kst cap 0 false k nm c) (fun g => g.set nm (some (c'.write s l))) (fun g => g.set nm (some (c'.write s l)))) = (8, kst cap 0 true (wrap64 (k + 1)) nm (c.write s l)) := by
  rw [wOut, kst_find _ _ _ _ _ _ _ hm h0 h1, if_neg (by simp), kst_file]
  simp only [kst_total]
  rw [if_neg (show ¬ (c.lasts s = none ∧ (kst cap _ false k nm c).cap - (c.cnt : Int) = 0) from hc), chg, if_neg (by simp [kst]), if_pos (by simp [kst]), kst_met, kst_set]
theorem kst_dead_sync (cap k : Int) (nm : Nm) (c : FC) (hm : mayName nm = true) : syncOut (kst cap 0 true k nm c) nm = (8, kst cap 0 true k nm c) := by
  rw [syncOut, kst_find _ _ _ _ _ _ _ hm (by omega) (by omega), if_neg (by simp), kst_file]
  simp only []
  rw [chg, if_pos (by simp [kst])]

/-! ### the chapter's file -/
def kc4 : FC := (((FC.none_.write 3 (fsec 120)).sync.write 3 (fsec 121)).write 3 (fsec 122))
theorem kc4_S (m : Int) : kc4.S m = if m = 3 then [fsec 121, fsec 122] else [] := by
  by_cases e : m = 3
  · subst e
    rfl
  · simp [kc4, FC.write, FC.add, FC.sync, FC.none_, FC.keep, e]
theorem kc4_lasts : kc4.lasts 3 = some (fsec 120) := rfl
theorem kc4_cnt : kc4.cnt = 1 := rfl
theorem kc4_open {ks : List Int} (h : kc4.Open ks) : ks = [3] := by
  obtain ⟨h1, h2⟩ := h
  have h3 : ∀ n, n ∈ ks ↔ n = 3 := fun n => by rw [h2, kc4_S]; by_cases e : n = 3 <;> simp [e]
  have hn : ks.Nodup := h1.imp fun h => by omega
  have : ks.Perm [3] := (List.perm_ext_iff_of_nodup hn (by simp)).2 fun n => by rw [h3]; simp
  exact List.perm_singleton.1 this
theorem kc4_settles {picks rest : List Int} {c' : FC} (h : kc4.Settles picks c' rest) : c'.lasts 3 = kc4.pick 3 (picks.headD 0) ∧ c'.S 3 = [] := by
  obtain ⟨ks, h1, rfl, _⟩ := h
  obtain rfl := kc4_open h1
  exact ⟨rfl, rfl⟩
theorem names_one {cap fuse : Int} {dead : Bool} {k : Int} {nm : Nm} {c : FC} {ns : List Nm} (h : IsNames (kst cap fuse dead k nm c) ns) : ns = [nm] := List.perm_singleton.1 (h.perm (kst_names cap fuse dead k nm c))
/-- behind the loss of power -/
theorem kc4_crashed {cap fuse : Int} {dead : Bool} {k : Int} {nm : Nm} {ns : List Nm} {picks rest : List Int} {g' : DC} (hm : mayName nm = true) (h : IsNames (kst cap fuse dead k nm kc4) ns) (hc : Crashed ns picks (kst cap fuse dead k nm kc4) g' rest) :
    findE g' nm 3 = 0 ∧ readS g' nm 3 = ((kc4.pick 3 (picks.headD 0)).getD zsec) := by
  obtain rfl := names_one h
  obtain ⟨c, c', r, e1, e2, e3, _⟩ := hc
  rw [kst_file] at e1
  cases e1
  rw [kst_set] at e3
  subst e3
  obtain ⟨q1, q2⟩ := kc4_settles e2
  have hf := kst_find cap fuse dead k nm c' 3 hm (by omega) (by omega)
  refine ⟨hf, ?_⟩
  rw [readS, if_pos hf, kst_file]
  simp [FC.has, q1, q2]
theorem kc4_pick2 : (kc4.pick 3 2).getD zsec = fsec 122 := rfl
theorem kc4_pick0 : (kc4.pick 3 0).getD zsec = fsec 120 := rfl
end Go.Proofs.Ytenmdhdloibemaa
