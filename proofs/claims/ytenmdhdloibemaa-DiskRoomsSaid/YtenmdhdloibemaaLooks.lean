/- What a disk's looks answer. Conditions: the disk is in memory as told, or there is none. -/
import Derived.Test.YtenmdhdloibemaaDsk
namespace Go.Proofs.Ytenmdhdloibemaa
open Go.RowKit Go.Maps Go.Sort
set_option linter.unusedVariables false
set_option linter.unusedSimpArgs false

theorem results_sec2 {fn : Func} {p u : Tmp} (h : fn.results = #[.cell p 39, .tmp u]) (tmps : Array Value) (w : World) (g : Nat) {t : TypeId} {l : Sc} (hp : tmps.getD p undef = .pointer (some ⟨g, 0, none⟩)) (hb : Blk w g t (sv l)) (hl : l.length = 256) :
    (results fn tmps).run Try.prog w = .ok (.tuple #[sec l, tmps.getD u undef]) w := by
  have hp' : tmps[p]?.getD undef = .pointer (some ⟨g, 0, none⟩) := by simpa using hp
  simp [results, h, hp', asAddr, run_loadVar_row w g t 39 (sv l) (0, 0) _ hb Try.underlying39 rfl (size256 hl), Result.andThen]

/-- Read: what it answers -/
def readS (g : DC) (n : Nm) (s : Int) : Sc := if findE g n s = 0 then match g.file n with | some c => c.has s | none => zsec else zsec

set_option maxRecDepth 100000 in
set_option maxHeartbeats 1600000 in
theorem read_any (w : World) (O : Ow) (d fm : Nat) (F : DataW Value) (g : DC) (h : DiskX w O d fm F g) (n : Nm) (hn : n.length ≤ maxLen) (s : Int) (hs : (Lit.int .i64 s).wf = true) :
    Calls Try.prog 15 #[fptr d, nv n, .int .i64 s] w fun e w' => e = .returned (.tuple #[sec (readS g n s), .int .i64 (findE g n s)]) ∧ Ext w w' ∧ (readS g n s).length = 256 := by
  go_enter Try.func15, Try.ntmps15
  have bz := blk_zero w
  have hx0 := (Ext.refl w).alloc (Obj.cells Try.zeroCells39 39)
  go_wp2_with fail
  generalize w.alloc (Obj.cells Try.zeroCells39 39) = W1 at *
  refine (find_any W1 O d fm F g (h.ext hx0) n hn s hs).mono ?_
  rintro e w1 ⟨rfl, ⟨c, fb, e1, e2, e3, e4, rfl⟩ | ⟨e1, rfl⟩⟩
  · obtain ⟨lb, sb, hX⟩ := e4.x
    have er : readS g n s = c.has s := by simp [readS, e1, e2]
    have hl := hX.has_len s
    go_wp2_with fail
    refine (has_any W1 O fb lb sb c s hX hs).mono ?_
    obtain ⟨l, hle⟩ : ∃ l, c.has s = l := ⟨_, rfl⟩
    rw [hle] at hl ⊢
    rintro e w2 ⟨rfl, hx2⟩
    have b2 := bz.ext hx2
    go_wp2_with (refine wpList_ssec rfl _ _ rfl w.heap.size rfl rfl b2 zsec_len hl ?_)
    refine bodyPost_ret (v := .tuple #[sec l, .int .i64 0]) ((results_sec2 rfl _ _ w.heap.size rfl (b2.setRow (sv l)) hl).trans rfl) rfl ?_
    rw [er, e1, hle]
    exact ⟨rfl, (hx0.trans hx2).grown (setRow_grownBy _ w.heap.size (sv l)) (by simp), hl⟩
  · have er : readS g n s = zsec := by simp [readS, e1]
    obtain ⟨E, hE⟩ : ∃ E, findE g n s = E := ⟨_, rfl⟩
    rw [hE] at e1 ⊢
    have hb : (E == 0) = false := by simpa using e1
    have hbs := build_sec W1
    go_wp2_with (refine wpList_ssec rfl _ _ rfl w.heap.size rfl rfl bz zsec_len zsec_len ?_)
    refine bodyPost_ret (v := .tuple #[sec zsec, .int .i64 E]) ((results_sec2 rfl _ _ w.heap.size rfl (bz.setRow (sv zsec)) zsec_len).trans rfl) rfl ?_
    rw [er, hE]
    exact ⟨rfl, hx0.grown (setRow_grownBy _ w.heap.size (sv zsec)) (by simp), zsec_len⟩
set_option maxRecDepth 100000 in
set_option maxHeartbeats 1600000 in
theorem read_no (w : World) (v n s : Value) (h : NoDisk w v) :
    Calls Try.prog 15 #[v, n, s] w fun e w' => e = .returned (.tuple #[sec zsec, .int .i64 1]) ∧ Ext w w' := by
  go_enter Try.func15, Try.ntmps15
  have bz := blk_zero w
  have hx0 := (Ext.refl w).alloc (Obj.cells Try.zeroCells39 39)
  have h' := h.ext hx0
  go_wp2_with fail
  generalize w.alloc (Obj.cells Try.zeroCells39 39) = W1 at *
  refine (find_no W1 v h' n s).mono ?_
  rintro e w1 ⟨rfl, rfl⟩
  have hbs := build_sec W1
  go_wp2_with (refine wpList_ssec rfl _ _ rfl w.heap.size rfl rfl bz zsec_len zsec_len ?_)
  refine bodyPost_ret (v := .tuple #[sec zsec, .int .i64 1]) ((results_sec2 rfl _ _ w.heap.size rfl (bz.setRow (sv zsec)) zsec_len).trans rfl) rfl ?_
  exact ⟨rfl, hx0.grown (setRow_grownBy _ w.heap.size (sv zsec)) (by simp)⟩

/-- Lasts: what it answers -/
def lastsB (g : DC) (n : Nm) (s : Int) : Bool := if findE g n s = 0 then match g.file n with | some c => decide ((c.S s).length = 0) | none => false else false
set_option maxRecDepth 100000 in
set_option maxHeartbeats 1600000 in
theorem lasts_any (w : World) (O : Ow) (d fm : Nat) (F : DataW Value) (g : DC) (h : DiskX w O d fm F g) (n : Nm) (hn : n.length ≤ maxLen) (s : Int) (hs : (Lit.int .i64 s).wf = true) :
    Calls Try.prog 16 #[fptr d, nv n, .int .i64 s] w fun e w' => e = .returned (.tuple #[.bool (lastsB g n s), .int .i64 (findE g n s)]) ∧ w = w' := by
  go_enter Try.func16, Try.ntmps16
  go_wp2_with fail
  refine (find_any w O d fm F g h n hn s hs).mono ?_
  rintro e w1 ⟨rfl, ⟨c, fb, e1, e2, e3, e4, rfl⟩ | ⟨e1, rfl⟩⟩
  · obtain ⟨lb, sb, hX⟩ := e4.x
    have er : lastsB g n s = decide ((c.S s).length = 0) := by simp [lastsB, e1, e2]
    obtain ⟨A, cap, hl⟩ := hX.since_len hs
    have hl := hl w (Ext.refl w)
    have c1 := hX.blk.cell 1
    obtain ⟨L, hL⟩ : ∃ L, (c.S s).length = L := ⟨_, rfl⟩
    rw [hL] at er hl
    have hb : ((L : Int) == 0) = decide (L = 0) := by
      rw [Bool.eq_iff_iff]; simp
    go_wp2_with fail
    go_ret2
    rw [er, e1]
    exact ⟨by first | rfl | (rw [← hb]; rfl), rfl⟩
  · have er : lastsB g n s = false := by simp [lastsB, e1]
    obtain ⟨E, hE⟩ : ∃ E, findE g n s = E := ⟨_, rfl⟩
    rw [hE] at e1 ⊢
    have hb : (E == 0) = false := by simpa using e1
    go_wp2_with fail
    go_ret2
    rw [er, hE]
    exact ⟨rfl, rfl⟩
theorem lasts_no (w : World) (v n s : Value) (h : NoDisk w v) :
    Calls Try.prog 16 #[v, n, s] w fun e w' => e = .returned (.tuple #[.bool false, .int .i64 1]) ∧ w = w' := by
  go_enter Try.func16, Try.ntmps16
  go_wp2_with fail
  refine (find_no w v h n s).mono ?_
  rintro e w1 ⟨rfl, rfl⟩
  go_wp2_with fail
  go_ret2
  exact ⟨rfl, rfl⟩

theorem has__any (w : World) (O : Ow) (d fm : Nat) (F : DataW Value) (g : DC) (h : DiskX w O d fm F g) (n : Nm) (hn : n.length ≤ maxLen) :
    Calls Try.prog 26 #[fptr d, nv n] w fun e w' => e = .returned (.bool (findE g n 0 == 0)) ∧ w = w' := by
  go_enter Try.func26, Try.ntmps26
  go_wp2_with fail
  refine (find_any w O d fm F g h n hn 0 (by decide)).mono ?_
  rintro e w1 ⟨rfl, ⟨c, fb, e1, e2, e3, e4, rfl⟩ | ⟨e1, rfl⟩⟩
  · go_wp2_with fail
    go_ret
    rw [e1]
    exact ⟨rfl, rfl⟩
  · obtain ⟨E, hE⟩ : ∃ E, findE g n 0 = E := ⟨_, rfl⟩
    rw [hE] at e1 ⊢
    go_wp2_with fail
    go_ret
    rw [hE]
    exact ⟨rfl, rfl⟩
theorem has__no (w : World) (v n : Value) (h : NoDisk w v) : Calls Try.prog 26 #[v, n] w fun e w' => e = .returned (.bool false) ∧ w = w' := by
  go_enter Try.func26, Try.ntmps26
  go_wp2_with fail
  refine (find_no w v h n _).mono ?_
  rintro e w1 ⟨rfl, rfl⟩
  go_wp2_with fail
  go_ret
  exact ⟨rfl, rfl⟩

/-- Count: what it answers -/
def countI (g : DC) (n : Nm) : Int := if findE g n 0 = 0 then match g.file n with | some c => c.fin | none => 0 else 0
theorem count_any (w : World) (O : Ow) (d fm : Nat) (F : DataW Value) (g : DC) (h : DiskX w O d fm F g) (n : Nm) (hn : n.length ≤ maxLen) :
    Calls Try.prog 21 #[fptr d, nv n] w fun e w' => e = .returned (.int .i64 (countI g n)) ∧ w = w' := by
  go_enter Try.func21, Try.ntmps21
  go_wp2_with fail
  refine (find_any w O d fm F g h n hn 0 (by decide)).mono ?_
  rintro e w1 ⟨rfl, ⟨c, fb, e1, e2, e3, e4, rfl⟩ | ⟨e1, rfl⟩⟩
  · obtain ⟨lb, sb, hX⟩ := e4.x
    have er : countI g n = c.fin := by simp [countI, e1, e2]
    have c2 := hX.blk.cell 2
    go_wp2_with fail
    go_ret
    rw [er]
    exact ⟨rfl, rfl⟩
  · have er : countI g n = 0 := by simp [countI, e1]
    obtain ⟨E, hE⟩ : ∃ E, findE g n 0 = E := ⟨_, rfl⟩
    rw [hE] at e1 ⊢
    have hb : (E == 0) = false := by simpa using e1
    go_wp2_with fail
    go_ret
    rw [er]
    exact ⟨rfl, rfl⟩
theorem count_no (w : World) (v n : Value) (h : NoDisk w v) : Calls Try.prog 21 #[v, n] w fun e w' => e = .returned (.int .i64 0) ∧ w = w' := by
  go_enter Try.func21, Try.ntmps21
  go_wp2_with fail
  refine (find_no w v h n _).mono ?_
  rintro e w1 ⟨rfl, rfl⟩
  go_wp2_with fail
  go_ret
  exact ⟨rfl, rfl⟩
theorem room_no (w : World) (v : Value) (h : NoDisk w v) : Calls Try.prog 22 #[v] w fun e w' => e = .returned (.int .i64 0) ∧ w = w' := by
  go_enter Try.func22, Try.ntmps22
  go_wp2_with fail
  refine (none_no w v h).mono ?_
  rintro e w1 ⟨rfl, rfl⟩
  go_wp2_with fail
  go_ret
  exact ⟨rfl, rfl⟩
theorem dead_any (w : World) (O : Ow) (d fm : Nat) (F : DataW Value) (g : DC) (h : DiskX w O d fm F g) : Calls Try.prog 12 #[fptr d] w fun e w' => e = .returned (.bool g.dead) ∧ w = w' := by
  have c3 := h.blk.cell 3
  go_enter Try.func12, Try.ntmps12
  go_wp2_with fail
  refine (none_at w O d fm F g h).mono ?_
  rintro e w1 ⟨rfl, rfl⟩
  go_wp2_with fail
  go_ret
  exact ⟨rfl, rfl⟩
theorem dead_no (w : World) (v : Value) (h : NoDisk w v) : Calls Try.prog 12 #[v] w fun e w' => e = .returned (.bool false) ∧ w = w' := by
  go_enter Try.func12, Try.ntmps12
  go_wp2_with fail
  refine (none_no w v h).mono ?_
  rintro e w1 ⟨rfl, rfl⟩
  go_wp2_with fail
  go_ret
  exact ⟨rfl, rfl⟩
theorem changes_any (w : World) (O : Ow) (d fm : Nat) (F : DataW Value) (g : DC) (h : DiskX w O d fm F g) : Calls Try.prog 13 #[fptr d] w fun e w' => e = .returned (.int .i64 g.chg) ∧ w = w' := by
  have c4 := h.blk.cell 4
  go_enter Try.func13, Try.ntmps13
  go_wp2_with fail
  refine (none_at w O d fm F g h).mono ?_
  rintro e w1 ⟨rfl, rfl⟩
  go_wp2_with fail
  go_ret
  exact ⟨rfl, rfl⟩
theorem changes_no (w : World) (v : Value) (h : NoDisk w v) : Calls Try.prog 13 #[v] w fun e w' => e = .returned (.int .i64 0) ∧ w = w' := by
  go_enter Try.func13, Try.ntmps13
  go_wp2_with fail
  refine (none_no w v h).mono ?_
  rintro e w1 ⟨rfl, rfl⟩
  go_wp2_with fail
  go_ret
  exact ⟨rfl, rfl⟩
end Go.Proofs.Ytenmdhdloibemaa
