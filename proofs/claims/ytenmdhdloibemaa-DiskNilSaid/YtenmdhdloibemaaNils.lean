/- Disks with as many files as may be. Conditions: none. -/
import Derived.Test.YtenmdhdloibemaaKnown
namespace Go.Proofs.Ytenmdhdloibemaa
open Go.RowKit Go.Maps Go.Sort Go.Shelf
set_option linter.unusedVariables false
set_option linter.unusedSimpArgs false
attribute [local go_sem] Oper.semAt_some

def gl (k : Int) (l : List Nm) (f : Nm → FC) : DC := ⟨1048576, -1, false, k, fun m => if m ∈ l then some (f m) else none⟩
theorem gl_names (k : Int) (l : List Nm) (f : Nm → FC) (h : l.Nodup) : IsNames (gl k l f) l := ⟨h, fun m => by by_cases e : m ∈ l <;> simp [gl, e]⟩
theorem gl_make (k : Int) (l : List Nm) (n : Nm) (hm : mayName n = true) (hn : n ∉ l) (hl : l.length < 32) : makeOut l.length (gl k l fun _ => FC.none_) n = (0, gl (wrap64 (k + 1)) (l ++ [n]) fun _ => FC.none_) := by
  rw [makeOut, if_neg (by simp [hm]), if_neg (by simp [gl, hn]), if_neg (by omega), chg, if_neg (by simp [gl]), if_neg (by simp [gl])]
  simp only [DC.next, DC.set, gl, fuseNext]
  congr 2
  funext m
  by_cases e : m = n
  · simp [e]
  · simp [e]
theorem gl_full (k : Int) (l : List Nm) (n : Nm) (f : Nm → FC) (hm : mayName n = true) (hn : n ∉ l) (hl : l.length = 32) : makeOut l.length (gl k l f) n = (5, gl k l f) := by
  rw [makeOut, if_neg (by simp [hm]), if_neg (by simp [gl, hn]), if_pos hl]
theorem gl_rename (k : Int) (l : List Nm) (n nt : Nm) (hm : mayName n = true) (ht : mayName nt = true) (hn : n ∈ l) (hnt : nt ∉ l) (hd : l.Nodup) :
    renameOut (gl k l fun _ => FC.none_) n nt = (0, gl (wrap64 (k + 1)) (nt :: l.erase n) fun _ => FC.none_) := by
  rw [renameOut, if_neg (by simp [hm, ht]), show (gl k l fun _ => FC.none_).file n = some FC.none_ by simp [gl, hn]]
  simp only []
  rw [chg, if_neg (by simp [gl]), if_neg (by simp [gl])]
  simp only [DC.next, DC.set, gl, fuseNext]
  congr 2
  funext m
  by_cases e : m = nt
  · simp [e]
  · by_cases e2 : m = n
    · subst e2
      simp [e, hd.not_mem_erase]
    · simp [e, e2, List.mem_erase_of_ne e2]
theorem gl_total (k : Int) (l : List Nm) (f : Nm → FC) (h : ∀ n ∈ l, (f n).cnt = 0) : total (gl k l f) l = 0 := by
  have : ∀ l' : List Nm, (∀ n ∈ l', n ∈ l) → total (gl k l f) l' = 0 := by
    intro l' hs
    induction l' with
    | nil => rfl
    | cons a r ih =>
      have h1 := hs a (by simp)
      have h2 := ih fun n hn => hs n (by simp [hn])
      simp only [total, List.map_cons, List.sum_cons] at h2 ⊢
      rw [h2]
      simp [cntOf, gl, h1, h a h1]
  exact this l fun _ h => h
theorem gl_set (k : Int) (l : List Nm) (f : Nm → FC) (n : Nm) (c : FC) (hn : n ∈ l) : (gl k l f).set n (some c) = gl k l fun m => if m = n then c else f m := by
  simp only [DC.set, gl]
  congr 1
  funext m
  by_cases e : m = n
  · simp [e, hn]
  · simp [e]
theorem gl_write (k : Int) (l : List Nm) (n : Nm) (s : Int) (x : Sc) (hm : mayName n = true) (hn : n ∈ l) (h0 : 0 ≤ s) (h1 : s < 65536) :
    (wOut (gl k l fun _ => FC.none_) n s (total (gl k l fun _ => FC.none_) l) fun c => chg (gl k l fun _ => FC.none_) (fun g => g.set n (some (c.write s x))) (fun g => g.set n (some (c.write s x)))) = (0, gl (wrap64 (k + 1)) l fun m => if m = n then FC.none_.write s x else FC.none_) := by
  have hf : findE (gl k l fun _ => FC.none_) n s = 0 := by
    rw [findE, if_neg (by simp [hm]; omega), if_neg (by simp [gl, hn])]
  rw [wOut, hf, if_neg (by simp), show (gl k l fun _ => FC.none_).file n = some FC.none_ by simp [gl, hn], gl_total _ _ _ (fun _ _ => rfl)]
  simp only []
  rw [if_neg (by simp [gl]), chg, if_neg (by simp [gl]), if_neg (by simp [gl])]
  have e : (gl k l fun _ => FC.none_).next = gl (wrap64 (k + 1)) l fun _ => FC.none_ := rfl
  rw [e, gl_set _ _ _ _ _ hn]

def fname (i : Nat) : Nm := [102, UInt8.ofNat (97 + i / 26), UInt8.ofNat (97 + i % 26)]
def fnames (i : Nat) : List Nm := (List.range i).map fname
theorem fnames_succ (i : Nat) : fnames (i + 1) = fnames i ++ [fname i] := by simp [fnames, List.range_succ]
theorem fnames_len (i : Nat) : (fnames i).length = i := by simp [fnames]
theorem fname_ok : ∀ i, i < 32 → mayName (fname i) = true := by decide
theorem fnames_nodup32 : (fnames 32).Nodup := by decide
theorem fnames_nodup (i : Nat) (h : i ≤ 32) : (fnames i).Nodup := fnames_nodup32.sublist ((List.range_sublist.2 h).map fname)
theorem fname_new (i : Nat) (h : i < 32) : fname i ∉ fnames i := by
  have := fnames_nodup (i + 1) (by omega)
  rw [fnames_succ, List.nodup_append] at this
  intro hm
  exact this.2.2 _ hm _ (by simp) rfl
theorem st_count {w0 w : World} {d : Nat} {g : DC} {L : List (Nat × TypeId × Array Value)} (h : St w0 w d g L) (n : Nm) (hn : n.length ≤ maxLen) :
    Calls Try.prog 21 #[fptr d, nv n] w fun e w' => e = .returned (.int .i64 (countI g n)) ∧ w = w' := by
  obtain ⟨O, fm, F, hX, h0, hx, hL⟩ := h
  exact count_any w O d fm F g hX n hn
theorem st_room {w0 w : World} {d : Nat} {g : DC} {L : List (Nat × TypeId × Array Value)} {ns : List Nm} (h : St w0 w d g L) (hns : IsNames g ns) :
    Calls Try.prog 22 #[fptr d] w fun e w' => e = .returned (.int .i64 (g.cap - total g ns)) ∧ Ext w w' := by
  obtain ⟨O, fm, F, hX, h0, hx, hL⟩ := h
  refine (room_any w O d fm F g hX).mono ?_
  rw [hX.totF hns]
  exact fun _ _ h => h

theorem st_nothing {w0 w : World} {d : Nat} {g : DC} {L : List (Nat × TypeId × Array Value)} (h : St w0 w d g L) (p : Option Addr) (hN : NoDisk w (.pointer p)) :
    Calls Try.prog 23 #[.pointer p, fptr d] w fun e w' => e = .returned (.bool true) ∧ Ext w w' := by
  obtain ⟨O, fm, F, hX, h0, hx, hL⟩ := h
  exact nothing_any w p hN O d fm F g hX

def one_ : Nm := [111, 110, 101, 45, 109, 111, 114, 101]
def l2 : List Nm := one_ :: (fnames 32).erase [102, 97, 97]
def f2 : Nm → FC := fun m => if m = one_ then FC.none_.write 65535 (fsec 1) else FC.none_
theorem l2_nodup : l2.Nodup := by decide
theorem g2_count (k : Int) : countI (gl k l2 f2) one_ = 65536 := by
  have h1 : (gl k l2 f2).file one_ = some (FC.none_.write 65535 (fsec 1)) := by simp [gl, l2, f2]
  rw [countI, if_pos (by rw [findE, if_neg (by decide), if_neg (by rw [h1]; simp)]), h1]
  rfl
theorem g2_total (k : Int) : total (gl k l2 f2) l2 = 1 := by
  have h : ∀ m ∈ l2, cntOf (gl k l2 f2) m = if m = one_ then 1 else 0 := by
    intro m hm
    simp only [cntOf, gl, if_pos hm, f2]
    split
    · rfl
    · rfl
  rw [total, List.map_congr_left h]
  decide
end Go.Proofs.Ytenmdhdloibemaa
