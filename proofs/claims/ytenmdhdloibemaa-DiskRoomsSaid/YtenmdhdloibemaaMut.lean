/- What the changes of a disk do: Make, Write, Sync, Remove, Rename, Spoil, Fuse. Conditions: the disk is in memory as told. -/
import Derived.Test.YtenmdhdloibemaaChange
namespace Go.Proofs.Ytenmdhdloibemaa
open Go.RowKit Go.Maps Go.Sort
set_option linter.unusedVariables false
set_option linter.unusedSimpArgs false

def DC.set (g : DC) (n : Nm) (c : Option FC) : DC := { g with file := fun m => if m = n then c else g.file m }
def chg (g : DC) (act en : DC → DC) : Int × DC := if g.dead then (8, g) else if g.fuse = 0 then (8, en g.met) else (0, act g.next)

section
variable {w w' : World} {O O' : Ow} {d fm fb : Nat} {F F' : DataW Value} {g : DC} {n : Nm} {c c' : FC}
/-- a file changes -/
theorem DiskX.setF (h : DiskX w O d fm F g) (hv : val F (sk n) = some (fptr fb)) (hf : FileAt w O fb c) (t : Tu (Of O fb) w w') (hg : Og O O' w) (hi : In O' w') (hf' : FileAt w' O' fb c') : DiskX w' O' d fm F (g.set n (some c')) := by
  obtain ⟨o1, o2, b1, m1, hs, hc, hfu, hch, hn, h0, h1, h2, hO⟩ := h
  have hfo := hf.own
  have nd : ¬ Of O fb d := by
    rintro ⟨x, e⟩
    rw [o1] at e
    simp at e
    rw [← e.1, o1] at hfo
    simp at hfo
  have nm : ¬ Of O fb fm := by
    rintro ⟨x, e⟩
    rw [o2] at e
    simp at e
    rw [← e.1, o1] at hfo
    simp at hfo
  refine ⟨(hg d b1.lt).trans o1, (hg fm m1.lt).trans o2, b1.tu t nd, m1.tu t nm, hs, hc, hfu, hch, hn, fun m e => ?_, fun m x e => ?_, h2, hi⟩
  · by_cases em : m = n
    · simp [DC.set, em] at e
    · exact h0 m (by simpa [DC.set, em] using e)
  · by_cases em : m = n
    · subst em
      simp only [DC.set, if_pos, Option.some.injEq] at e
      subst e
      exact ⟨fb, hv, hf'⟩
    · obtain ⟨fb2, q1, q2⟩ := h1 m x (by simpa [DC.set, em] using e)
      refine ⟨fb2, q1, q2.far t hg ?_⟩
      rintro b ⟨x1, e1⟩ ⟨x2, e2⟩
      rw [e1] at e2
      simp at e2
      have : fb2 = fb := e2.1
      subst this
      exact em (h2 m n fb2 q1 hv)
/-- the map of files changes -/
theorem DiskX.setM {file' : Nm → Option FC} (h : DiskX w O d fm F g) (t : Tu (fun b => b = fm) w w') (hg : Og O O' w) (hi : In O' w') (m' : MapOf Try.prog w' 9 fm F') (hs : Maps.size F' ≤ 32) (hn : ∀ kl, Maps.has F' kl = true → ∃ n, kl = sk n ∧ mayName n = true)
    (h0 : ∀ n, file' n = none → val F' (sk n) = none) (h1 : ∀ n c, file' n = some c → ∃ fb, val F' (sk n) = some (fptr fb) ∧ FileAt w' O' fb c) (h2 : ∀ n m fb, val F' (sk n) = some (fptr fb) → val F' (sk m) = some (fptr fb) → n = m) : DiskX w' O' d fm F' { g with file := file' } := by
  obtain ⟨o1, o2, b1, m1, hs', hc, hfu, hch, hn', h0', h1', h2', hO⟩ := h
  exact ⟨(hg d b1.lt).trans o1, (hg fm m1.lt).trans o2, b1.tu t (fun e => by rw [e, o2] at o1; simp at o1), m', hs, hc, hfu, hch, hn, h0, h1, h2, hi⟩
theorem DiskX.vlt (h : DiskX w O d fm F g) {x : Nat} (e : val F (sk n) = some (fptr x)) : x < w.heap.size ∧ ∃ c, g.file n = some c ∧ FileAt w O x c := by
  obtain ⟨o1, o2, b1, m1, hs', hc, hfu, hch, hn', h0', h1', h2', hO⟩ := h
  cases hf : g.file n with
  | none => rw [h0' n hf] at e; cases e
  | some c =>
    obtain ⟨fb, q1, q2⟩ := h1' n c hf
    rw [q1] at e
    simp at e
    subst e
    exact ⟨q2.lt, c, rfl, q2⟩
theorem DiskX.fileFar (h : DiskX w O d fm F g) (t : Tu (fun b => b = fm) w w') (hg : Og O O' w) (hv : FileAt w O fb c) : FileAt w' O' fb c := by
  obtain ⟨o1, o2, b1, m1, hs', hc, hfu, hch, hn', h0', h1', h2', hO⟩ := h
  refine hv.far t hg ?_
  rintro b ⟨x, e⟩ rfl
  rw [o2] at e
  simp at e
  have := hv.own
  rw [← e.1, o1] at this
  simp at this
end

set_option maxRecDepth 100000 in
theorem newFile_any (w : World) : Calls Try.prog 39 #[] w fun e w' => Ext w w' ∧ ∃ fb, e = .returned (fptr fb) ∧ w.heap.size ≤ fb ∧ ∀ O, In O w → ∃ O', Newly O O' w w' fb ∧ FileAt w' O' fb FC.none_ := by
  have hmm := @run_makeMap Try.prog
  have hx1 := (Ext.refl w).alloc (.map #[] 0)
  have s1 := World.size_alloc w (.map #[] 0)
  have m1 := MapOf.made w Try.prog 3
  go_enter Try.func39, Try.ntmps39
  go_wp2_with fail
  go_ret
  generalize w.alloc (.map #[] 0) = W1 at *
  have m2 := MapOf.made W1 Try.prog 3
  have hx2 := (Ext.refl W1).alloc (.map #[] 0)
  have s2 := World.size_alloc W1 (.map #[] 0)
  generalize W1.alloc (.map #[] 0) = W2 at *
  have b3 := Blk.new W2 72 #[.map (some w.heap.size), .map (some (w.heap.size + 1)), .int .i64 0]
  have hx3 := (Ext.refl W2).alloc (.cells #[.map (some w.heap.size), .map (some (w.heap.size + 1)), .int .i64 0] 72)
  have s3 := World.size_alloc W2 (.cells #[.map (some w.heap.size), .map (some (w.heap.size + 1)), .int .i64 0] 72)
  generalize W2.alloc (.cells #[.map (some w.heap.size), .map (some (w.heap.size + 1)), .int .i64 0] 72) = W3 at *
  refine ⟨(hx1.trans hx2).trans hx3, W2.heap.size, by rw [s2, s1]; rfl, by omega, fun O hO => ?_⟩
  obtain ⟨O', hO'⟩ : ∃ O' : Ow, (fun b => if b = W2.heap.size then some (W2.heap.size, -3) else if b = w.heap.size then some (W2.heap.size, -2) else if b = W1.heap.size then some (W2.heap.size, -1) else O b) = O' := ⟨_, rfl⟩
  have p1 : O' W2.heap.size = some (W2.heap.size, -3) := by rw [← hO']; dsimp only; rw [if_pos rfl]
  have p2 : O' w.heap.size = some (W2.heap.size, -2) := by rw [← hO']; dsimp only; rw [if_neg (by omega), if_pos rfl]
  have p3 : O' W1.heap.size = some (W2.heap.size, -1) := by rw [← hO']; dsimp only; rw [if_neg (by omega), if_neg (by omega), if_pos rfl]
  have p4 : ∀ b, b ≠ W2.heap.size → b ≠ w.heap.size → b ≠ W1.heap.size → O' b = O b := by intro b q1 q2 q3; rw [← hO']; dsimp only; rw [if_neg q1, if_neg q2, if_neg q3]
  refine ⟨O', ⟨fun b hb => p4 b (by omega) (by omega) (by omega), fun b hb ho => ?_, by omega⟩, FileX.at_ (lb := w.heap.size) (sb := W1.heap.size) ⟨.map [], .map [], p1, p2, p3, by rw [s1]; exact b3, (m1.ext hx2).ext hx3, m2.ext hx3, ⟨rfl, fun n => val_nil _, fun n l e => (by cases e), fun kl hk => (by simp [Maps.has] at hk)⟩, ⟨fun n _ => val_nil _, fun n hn => absurd rfl hn, fun kl hk => (by simp [Maps.has] at hk)⟩, by decide, by decide⟩⟩
  by_cases q1 : b = W2.heap.size
  · rw [q1]; exact ⟨by omega, _, p1⟩
  by_cases q2 : b = w.heap.size
  · rw [q2]; exact ⟨by omega, _, p2⟩
  by_cases q3 : b = W1.heap.size
  · rw [q3]; exact ⟨by omega, _, p3⟩
  rw [Owned, p4 b q1 q2 q3] at ho
  have := hO b ho
  omega

theorem leave_any (w : World) : Calls Try.prog 40 #[] w fun e w' => e = .returned (.tuple #[]) ∧ w = w' := by
  go_enter Try.func40, Try.ntmps40
  go_wp2_with fail
  go_end0
  exact ⟨rfl, rfl⟩

/-- A disk behind a change. -/
def After (w w' : World) (O : Ow) (d : Nat) (g' : DC) : Prop := ∃ O', DiskAt w' O' d g' ∧ Og O O' w ∧ Tu (Owned O) w w'
theorem After.refl {w : World} {O : Ow} {d : Nat} {g : DC} (h : DiskAt w O d g) : After w w O d g := ⟨O, h, Og.refl O w, Tu.refl _ w⟩

theorem After.ext {w w' : World} {O : Ow} {d fm : Nat} {F : DataW Value} {g : DC} (h : DiskX w O d fm F g) (hx : Ext w w') : After w w' O d g := ⟨O, ⟨fm, F, h.ext hx⟩, Og.refl O w, Tu.of_ext hx⟩
theorem DiskX.own_d {w : World} {O : Ow} {d fm : Nat} {F : DataW Value} {g : DC} (h : DiskX w O d fm F g) : O d = some (d, -5) ∧ O fm = some (d, -4) := ⟨h.1, h.2.1⟩

set_option maxRecDepth 100000 in
set_option maxHeartbeats 1600000 in
theorem make1_any (w : World) (O : Ow) (d fm : Nat) (F : DataW Value) (g : DC) (h : DiskX w O d fm F g) (n : Nm) (hm : mayName n = true) (hf : g.file n = none) (hs : Maps.size F < 32) (bd bn : Nat)
    (k1 : w.cell? ⟨bd, 0, none⟩ = some (fptr d)) (k2 : w.cell? ⟨bn, 0, none⟩ = some (nv n)) (o1 : O bd = none) (o2 : O bn = none) :
    Calls Try.prog 38 #[fptr bd, fptr bn] w fun e w' => e = .returned (.tuple #[]) ∧ After w w' O d (g.set n (some FC.none_)) := by
  have hn32 : n.length ≤ 32 := by simp [mayName] at hm; omega
  have hn : n.length ≤ maxLen := by unfold maxLen; omega
  obtain ⟨od, om⟩ := h.own_d
  have hO := h.inn
  have nfm : ∀ b, O b = none → b ≠ fm := fun b e e2 => by rw [e2, om] at e; cases e
  have ndm : d ≠ fm := fun e => by rw [e, om] at od; simp at od
  go_enter Try.func38, Try.ntmps38
  have a0 : ∀ x : Above (Tu (fun b => b = fm)) w.drew, x.1.cell? ⟨bd, 0, none⟩ = some (fptr d) := fun x => (World.cell?_of_block (w := w.drew) (x.2.blk bd (World.block_lt_of_cell? w ⟨bd, 0, none⟩ k1) (nfm bd o1))).trans k1
  have a1 : ∀ x : Above (Tu (fun b => b = fm)) w.drew, x.1.cell? ⟨bn, 0, none⟩ = some (nv n) := fun x => (World.cell?_of_block (w := w.drew) (x.2.blk bn (World.block_lt_of_cell? w ⟨bn, 0, none⟩ k2) (nfm bn o2))).trans k2
  have a2 : ∀ x : Above (Tu (fun b => b = fm)) w.drew, x.1.cell? ⟨d, 1, none⟩ = some (.map (some fm)) := fun x => (Blk.tu (w := w.drew) h.blk x.2 ndm).cell 1
  refine wp_region_plan (Tu (fun b => b = fm)) [(0, true), (1, true), (2, true), (3, true), (4, true), (5, false), (6, false)] (fun _ _ _ x y => x.trans y) (fun a => Tu.refl _ a) (by kernel_rfl) (by kernel_rfl) ?_
  intro K hK
  iterate 5 (
    refine plan_q (v := ?_) rfl rfl ?_ ?_
    rotate_left
    · intro x
      go_simp
      first | done | rfl
    simp only [Act.put, List.getElem_toArray, List.getElem_cons_zero, List.getElem_cons_succ, List.setIfInBounds_toArray, List.set_cons_zero, List.set_cons_succ])
  refine plan_l rfl rfl ?_
  intro K2 hK2
  go_simp
  refine (newFile_any w.drew).mono ?_
  rintro e w1 ⟨hx1, fb, rfl, hfb, hall⟩
  go_simp
  refine hK2.out _ _ (Tu.of_ext hx1) ?_
  clear hK2 K2
  try simp only [Act.put, List.getElem_toArray, List.getElem_cons_zero, List.getElem_cons_succ, List.setIfInBounds_toArray, List.set_cons_zero, List.set_cons_succ]
  obtain ⟨O', ⟨n1, n2, n3⟩, hf1⟩ := hall O hO
  have hxd : Ext w w1 := ((Ext.refl w).drew).trans hx1
  have h1 := h.ext hxd
  obtain ⟨_, _, b1, m1, hsz, hc, hfu, hch, hnm, q0, q1, q2, hO1⟩ := id h1
  refine plan_l rfl rfl ?_
  intro K2 hK2
  refine wp_one rfl ?_
  refine wpList_put _ _ _ _ law_s Try.underlying51 rfl rfl m1 (by unfold maxLen; omega) (nv n) (fptr fb) rfl rfl rfl (key_s hn) ?_
  intro w2 m2 g2
  show K2 _ _
  refine hK2.out _ _ (Tu.of_grown g2 (by rintro k e; cases e; rfl)) ?_
  clear hK2 K2
  try simp only [Act.put, List.getElem_toArray, List.getElem_cons_zero, List.getElem_cons_succ, List.setIfInBounds_toArray, List.set_cons_zero, List.set_cons_succ]
  refine plan_end (hK.out _ _ ?_)
  clear hK K
  go_end0
  have t2 : Tu (fun b => b = fm) w1 w2 := Tu.of_grown g2 (by rintro k e; cases e; rfl)
  have t : Tu (fun b => b = fm) w w2 := (Tu.of_ext hxd).trans t2
  have hfb' : w.heap.size ≤ fb := hfb
  have hdlt := h.blk.lt
  have hi : In O' w2 := by
    intro b hb
    by_cases hlt : b < w.heap.size
    · have := t.size; omega
    · have := (n2 b (by show w.heap.size ≤ b; omega) hb).1
      have := t2.size
      omega
  have hfn : ¬ Of O' fb fm := by
    rintro ⟨x, e⟩
    have hfl : fm < w.heap.size := hO fm (by simp [Owned, om])
    rw [n1 fm hfl, om] at e
    simp at e
    omega
  have hf2 : FileAt w2 O' fb FC.none_ := hf1.far t2 (Og.refl O' w1) (by rintro b ho rfl; exact hfn ho)
  refine ⟨rfl, O', ⟨fm, _, h.setM t n1 hi m2 ?_ ?_ ?_ ?_ ?_⟩, n1, t.mono (by rintro b rfl; simp [Owned, om])⟩
  · rw [m1.size_put law_s, q0 n hf]
    simp
    omega
  · intro kl hk
    rcases has_put hk with e | e
    · exact ⟨n, e, hm⟩
    · exact hnm kl e
  · intro m e
    by_cases em : m = n
    · simp [em] at e
    · rw [val_put (kl := sk n) m1.isMap trivial, sk_same, if_neg (by simpa using em)]
      exact q0 m (by simpa [em] using e)
  · intro m c e
    by_cases em : m = n
    · subst em
      simp only [if_pos, Option.some.injEq] at e
      subst e
      exact ⟨fb, by rw [val_put (kl := sk m) m1.isMap trivial, sk_same, if_pos (by simp)], hf2⟩
    · obtain ⟨_, _, _, _, _, _, _, _, _, _, q1', _, _⟩ := id h
      obtain ⟨fb2, r1, r2⟩ := q1' m c (by simpa [em] using e)
      exact ⟨fb2, by rw [val_put (kl := sk n) m1.isMap trivial, sk_same, if_neg (by simpa using em)]; exact r1, h.fileFar t n1 r2⟩
  · intro a b x ea eb
    rw [val_put (kl := sk n) m1.isMap trivial, sk_same] at ea eb
    by_cases e1 : a = n <;> by_cases e2 : b = n
    · rw [e1, e2]
    · rw [if_pos (by simpa using e1)] at ea
      rw [if_neg (by simpa using e2)] at eb
      have := h.vlt eb
      simp at ea <;> omega
    · rw [if_neg (by simpa using e1)] at ea
      rw [if_pos (by simpa using e2)] at eb
      have := h.vlt ea
      simp at eb <;> omega
    · rw [if_neg (by simpa using e1)] at ea
      rw [if_neg (by simpa using e2)] at eb
      exact q2 a b x ea eb

/-- a box of one's own is not the disk's -/
theorem In.none {O : Ow} {w : World} (h : In O w) {b : Nat} (hb : w.heap.size ≤ b) : O b = none := by
  cases e : O b with
  | none => rfl
  | some y => exact absurd (h b (by simp [Owned, e])) (by omega)

theorem After.mono {w w1 w' : World} {O : Ow} {d : Nat} {g : DC} (hx : Tu (Owned O) w w1) (h : After w1 w' O d g) (hi : In O w) : After w w' O d g := by
  obtain ⟨O', h1, h2, h3⟩ := h
  exact ⟨O', h1, fun b hb => h2 b (Nat.lt_of_lt_of_le hb hx.size), hx.trans h3⟩
theorem chg_any (w : World) (O : Ow) (d fm : Nat) (F : DataW Value) (g : DC) (h : DiskX w O d fm F g) (f1 f2 : Nat) (b1 c1 b2 c2 : Array Value) (act en : DC → DC)
    (e1 : ∀ args w, (callFunc f1 args).run Try.prog w = .ok (.enter f1 args) w) (e2 : ∀ args w, (callFunc f2 args).run Try.prog w = .ok (.enter f2 args) w)
    (hend : ∀ w1, DiskX w1 O d fm F g.met → Tu (fun b => b = d) w w1 → Calls Try.prog f2 (b2 ++ c2) w1 fun e w2 => e = .returned (.tuple #[]) ∧ After w1 w2 O d (en g.met))
    (hdo : ∀ w1, DiskX w1 O d fm F g.next → Tu (fun b => b = d) w w1 → Calls Try.prog f1 (b1 ++ c1) w1 fun e w2 => e = .returned (.tuple #[]) ∧ After w1 w2 O d (act g.next)) :
    Calls Try.prog 37 #[fptr d, .func (.func f1) b1 c1, .func (.func f2) b2 c2] w fun e w' => e = .returned (.int .i64 (chg g act en).1) ∧ After w w' O d (chg g act en).2 := by
  have hO := h.inn
  have od := h.own_d.1
  have up : ∀ w1, Tu (fun b => b = d) w w1 → Tu (Owned O) w w1 := fun w1 t => t.mono (by rintro b rfl; simp [Owned, od])
  refine (change_any w O d fm F g h f1 f2 b1 c1 b2 c2 e1 e2 (fun E w' => E = (chg g act en).1 ∧ After w w' O d (chg g act en).2) (fun hd => ?_) (fun hd h0 w1 hX hT => (hend w1 hX hT).mono ?_) (fun hd h0 w1 hX hT => (hdo w1 hX hT).mono ?_)).mono ?_
  · rw [chg, if_pos hd]
    exact ⟨rfl, After.refl ⟨fm, F, h⟩⟩
  · rintro e w2 ⟨rfl, hA⟩
    rw [chg, if_neg (by simp [hd]), if_pos h0]
    exact ⟨rfl, rfl, After.mono (up w1 hT) hA hO⟩
  · rintro e w2 ⟨rfl, hA⟩
    rw [chg, if_neg (by simp [hd]), if_neg h0]
    exact ⟨rfl, rfl, After.mono (up w1 hT) hA hO⟩
  · rintro e w' ⟨E, rfl, rfl, hA⟩
    exact ⟨rfl, hA⟩
theorem leave_after (w1 : World) (O : Ow) (d fm : Nat) (F : DataW Value) (g : DC) (h : DiskX w1 O d fm F g) : Calls Try.prog 40 (#[] ++ #[]) w1 fun e w2 => e = .returned (.tuple #[]) ∧ After w1 w2 O d (id g) := by
  refine (leave_any w1).mono ?_
  rintro e w2 ⟨rfl, rfl⟩
  exact ⟨rfl, After.refl ⟨fm, F, h⟩⟩

/-- Make: what it answers, and what becomes of the disk; k files there are -/
def makeOut (k : Nat) (g : DC) (n : Nm) : Int × DC :=
  if mayName n = false then (2, g) else if (g.file n).isSome then (14, g) else if k = 32 then (5, g) else chg g (fun g => g.set n (some FC.none_)) id

set_option maxRecDepth 100000 in
set_option maxHeartbeats 1600000 in
theorem make_any (w : World) (O : Ow) (d fm : Nat) (F : DataW Value) (g : DC) (h : DiskX w O d fm F g) (n : Nm) (hn : n.length ≤ maxLen) :
    Calls Try.prog 18 #[fptr d, nv n] w fun e w' => e = .returned (.int .i64 (makeOut (Maps.size F) g n).1) ∧ After w w' O d (makeOut (Maps.size F) g n).2 := by
  have hO := h.inn
  go_enter Try.func18, Try.ntmps18
  have hx2 := ((Ext.refl w).alloc (.cells #[fptr d] 26)).alloc (.cells #[nv n] 9)
  have k1 : ((w.alloc (.cells #[fptr d] 26)).alloc (.cells #[nv n] 9)).cell? ⟨w.heap.size, 0, none⟩ = some (fptr d) := ((Blk.new w 26 #[fptr d]).ext ((Ext.refl _).alloc _)).cell 0
  have k2 : ((w.alloc (.cells #[fptr d] 26)).alloc (.cells #[nv n] 9)).cell? ⟨w.heap.size + 1, 0, none⟩ = some (nv n) := by
    have := (Blk.new (w.alloc (.cells #[fptr d] 26)) 9 #[nv n]).cell 0
    rw [World.size_alloc] at this
    exact this
  go_wp2_with fail
  generalize (w.alloc (Obj.cells #[fptr d] 26)).alloc (Obj.cells #[nv n] 9) = W at *
  have hX := h.ext hx2
  have up : ∀ w' g', After W w' O d g' → After w w' O d g' := fun w' g' hA => After.mono (Tu.of_ext hx2) hA hO
  have stay : ∀ W', Ext W W' → After w W' O d g := fun W' hx => After.ext h (hx2.trans hx)
  refine (none_at W O d fm F g hX).mono ?_
  rintro e w1 ⟨rfl, rfl⟩
  go_wp2_with fail
  refine (mayName_any n W hn).mono ?_
  rintro e w1 ⟨rfl, rfl⟩
  cases hm : mayName n with
  | false =>
    go_wp2_with fail
    go_ret
    rw [makeOut, if_pos hm]
    exact ⟨rfl, stay W (Ext.refl _)⟩
  | true =>
    have c1 := hX.blk.cell 1
    have a0 : ∀ x : Above Ext W.drew, x.1.cell? ⟨w.heap.size, 0, none⟩ = some (fptr d) := fun x => (((Ext.refl W).drew).trans x.2).cellSome k1
    have a1 : ∀ x : Above Ext W.drew, x.1.cell? ⟨w.heap.size + 1, 0, none⟩ = some (nv n) := fun x => (((Ext.refl W).drew).trans x.2).cellSome k2
    have a2 : ∀ x : Above Ext W.drew, x.1.cell? ⟨d, 1, none⟩ = some (.map (some fm)) := fun x => (hX.blk.ext (((Ext.refl W).drew).trans x.2)).cell 1
    have hl := (hX.ext ((Ext.refl W).drew)).look hn
    obtain ⟨_, _, b1, m1, hsz, hc, hfu, hch, hnm, q0, q1, q2, hO1⟩ := id hX
    go_wp2_with fail
    cases hf : g.file n with
    | some c =>
      obtain ⟨fb, r1, r2⟩ := q1 n c hf
      rw [r1, Option.getD_some] at hl
      refine wp_region_plan Ext [(0, true), (1, true), (2, true), (3, true), (4, true), (5, false), (6, true), (7, true)] (fun _ _ _ x y => (fun x y => Ext.trans x y) x y) Ext.refl (by kernel_rfl) (by kernel_rfl) ?_
      intro K hK
      iterate 5 (
        refine plan_q (v := ?_) rfl rfl ?_ ?_
        rotate_left
        · intro x
          go_simp
          first | done | rfl
        simp only [Act.put, List.getElem_toArray, List.getElem_cons_zero, List.getElem_cons_succ, List.setIfInBounds_toArray, List.set_cons_zero, List.set_cons_succ])
      refine plan_l rfl rfl ?_
      intro K2 hK2
      go_simp
      refine hK2.out _ _ (Ext.refl _) ?_
      clear hK2 K2
      try simp only [Act.put, List.getElem_toArray, List.getElem_cons_zero, List.getElem_cons_succ, List.setIfInBounds_toArray, List.set_cons_zero, List.set_cons_succ]
      iterate 2 (
        refine plan_q (v := ?_) rfl rfl ?_ ?_
        rotate_left
        · intro x
          go_simp
          first | done | rfl
        simp only [Act.put, List.getElem_toArray, List.getElem_cons_zero, List.getElem_cons_succ, List.setIfInBounds_toArray, List.set_cons_zero, List.set_cons_succ])
      refine plan_end (hK.out _ _ ?_)
      clear hK K
      go_wp2_with fail
      go_ret
      rw [makeOut, if_neg (by simp [hm]), if_pos (by simp [hf])]
      exact ⟨rfl, stay _ ((Ext.refl W).drew)⟩
    | none =>
      rw [q0 n hf, Option.getD_none] at hl
      refine wp_region_plan Ext [(0, true), (1, true), (2, true), (3, true), (4, true), (5, false), (6, true), (7, true)] (fun _ _ _ x y => (fun x y => Ext.trans x y) x y) Ext.refl (by kernel_rfl) (by kernel_rfl) ?_
      intro K hK
      iterate 5 (
        refine plan_q (v := ?_) rfl rfl ?_ ?_
        rotate_left
        · intro x
          go_simp
          first | done | rfl
        simp only [Act.put, List.getElem_toArray, List.getElem_cons_zero, List.getElem_cons_succ, List.setIfInBounds_toArray, List.set_cons_zero, List.set_cons_succ])
      refine plan_l rfl rfl ?_
      intro K2 hK2
      go_simp
      refine hK2.out _ _ (Ext.refl _) ?_
      clear hK2 K2
      try simp only [Act.put, List.getElem_toArray, List.getElem_cons_zero, List.getElem_cons_succ, List.setIfInBounds_toArray, List.set_cons_zero, List.set_cons_succ]
      iterate 2 (
        refine plan_q (v := ?_) rfl rfl ?_ ?_
        rotate_left
        · intro x
          go_simp
          first | done | rfl
        simp only [Act.put, List.getElem_toArray, List.getElem_cons_zero, List.getElem_cons_succ, List.setIfInBounds_toArray, List.set_cons_zero, List.set_cons_succ])
      refine plan_end (hK.out _ _ ?_)
      clear hK K
      have hXd := hX.ext ((Ext.refl W).drew)
      have k1d : W.drew.cell? ⟨w.heap.size, 0, none⟩ = some (fptr d) := k1
      have k2d : W.drew.cell? ⟨w.heap.size + 1, 0, none⟩ = some (nv n) := k2
      have ob : ∀ b, w.heap.size ≤ b → O b = none := fun b hb => hO.none hb
      have c1d := hXd.blk.cell 1
      have hln := m1.len Try.underlying51 3
      have hlnd : (Builtin.len_ #[51] 3 #[.map (some fm)]).run Try.prog W.drew = .ok (.int .i64 (Maps.size F)) W.drew := (m1.ext ((Ext.refl W).drew)).len Try.underlying51 3
      have staydr := stay _ ((Ext.refl W).drew)
      have updr : ∀ w' g', After W.drew w' O d g' → After w w' O d g' := fun w' g' hA => After.mono (Tu.of_ext (hx2.trans ((Ext.refl W).drew))) hA hO
      generalize W.drew = Wd at *
      by_cases hk : Maps.size F = 32
      · have hk' : ((Maps.size F : Nat) : Int) = 32 := by omega
        go_wp2_with fail
        go_ret
        rw [makeOut, if_neg (by simp [hm]), if_neg (by simp [hf]), if_pos hk]
        exact ⟨rfl, staydr⟩
      · have hk' : (((Maps.size F : Nat) : Int) == 32) = false := by simp; omega
        have hk2 : ¬ ((Maps.size F : Nat) : Int) = 32 := by omega
        go_wp2_with fail
        refine (chg_any Wd O d fm F g hXd 38 40 #[] _ #[] #[] (fun g => g.set n (some FC.none_)) id (enters_of Try.func38 (by kernel_rfl) rfl) (enters_of Try.func40 (by kernel_rfl) rfl) (fun w1 hX1 _ => leave_after w1 O d fm F _ hX1) (fun w1 hX1 hT1 => ?_)).mono ?_
        · have nd : ∀ b, O b = none → b ≠ d := fun b e e2 => by rw [e2, h.own_d.1] at e; cases e
          refine make1_any w1 O d fm F g.next hX1 n hm hf (by omega) w.heap.size (w.heap.size + 1) ?_ ?_ (ob _ (by omega)) (ob _ (by omega))
          · exact (World.cell?_of_block (w := Wd) (hT1.blk _ (World.block_lt_of_cell? Wd ⟨_, 0, none⟩ k1d) (nd _ (ob _ (Nat.le_refl _))))).trans k1d
          · exact (World.cell?_of_block (w := Wd) (hT1.blk _ (World.block_lt_of_cell? Wd ⟨_, 0, none⟩ k2d) (nd _ (ob _ (Nat.le_succ _))))).trans k2d
        · rintro e w2 ⟨rfl, hA⟩
          go_wp2_with fail
          go_ret
          rw [makeOut, if_neg (by simp [hm]), if_neg (by simp [hf]), if_neg hk]
          exact ⟨rfl, updr _ _ hA⟩
end Go.Proofs.Ytenmdhdloibemaa
