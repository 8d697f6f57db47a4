/- A copy of a disk. Conditions: the disk is in memory as told. -/
import Derived.Test.YtenmdhdloibemaaMutd
import Derived.Deep.CutRange
import Derived.Deep.CutBlock
namespace Go.Proofs.Ytenmdhdloibemaa
open Go.RowKit Go.Maps Go.Sort
set_option linter.unusedVariables false
set_option linter.unusedSimpArgs false

theorem size_disk (cs : Array Value) (h : cs.size = 5) : (Try.prog.info? 53).map (·.size) = some cs.size := by rw [h]; kernel_rfl

/-- under way: the copy's files, those that are no longer left -/
def Copied (w : World) (N : Ow) (fm : Nat) (F' : DataW Value) (g : DC) (left : Lit → Bool) : Prop :=
  MapOf Try.prog w 9 fm F' ∧ (∀ n, left (sk n) = true ∨ g.file n = none → val F' (sk n) = none) ∧ (∀ n c, left (sk n) = false → g.file n = some c → ∃ fb, val F' (sk n) = some (fptr fb) ∧ FileAt w N fb c) ∧
    (∀ n m fb, val F' (sk n) = some (fptr fb) → val F' (sk m) = some (fptr fb) → n = m) ∧ ∀ kl, Maps.has F' kl = true → ∃ n, kl = sk n ∧ mayName n = true

set_option maxRecDepth 100000 in
set_option maxHeartbeats 3200000 in
theorem copy__any (w : World) (O : Ow) (d fm : Nat) (F : DataW Value) (g : DC) (h : DiskX w O d fm F g) (hbig : ∀ n c, g.file n = some c → ∀ m, (c.S m).length ≤ 1000000) :
    Calls Try.prog 31 #[fptr d] w fun e w' => ∃ d' O', e = .returned (fptr d') ∧ DiskAt w' O' d' g ∧ (∀ b, b < w.heap.size → O' b = none) ∧ Ext w w' := by
  obtain ⟨o1, o2, b1, m1, hsz, hc, hfu, hch, hnm, h0, h1, h2, hO⟩ := id h
  have bA := Blk.new w 53 #[.int .i64 g.cap, .map (some fm), .int .i64 g.fuse, .bool g.dead, .int .i64 g.chg]
  have hx1 := (Ext.refl w).alloc (.cells #[.int .i64 g.cap, .map (some fm), .int .i64 g.fuse, .bool g.dead, .int .i64 g.chg] 53)
  have s1 := World.size_alloc w (.cells #[.int .i64 g.cap, .map (some fm), .int .i64 g.fuse, .bool g.dead, .int .i64 g.chg] 53)
  go_enter Try.func31, Try.ntmps31
  go_wp2_with fail
  refine (none_at w O d fm F g h).mono ?_
  rintro e w1 ⟨rfl, rfl⟩
  go_upto_region 4 with (refine wpList_load_row rfl 53 _ rfl d rfl 53 _ (0, 0) _ b1 Try.underlying53 rfl (size_disk _ rfl) ?_)
  generalize w.alloc (Obj.cells #[.int .i64 g.cap, .map (some fm), .int .i64 g.fuse, .bool g.dead, .int .i64 g.chg] 53) = W1 at *
  have b1' := b1.ext hx1
  have c1 := b1'.cell 1
  have hln := (m1.ext hx1).len Try.underlying51 3
  have hmm := run_makeMapH Try.underlying51 (Maps.size F) W1
  have mk := MapOf.made W1 Try.prog 9
  have hx2 := (Ext.refl W1).alloc (.map #[] 0)
  have s2 := World.size_alloc W1 (.map #[] 0)
  have bA2 := bA.ext hx2
  have ca := bA2.cell 1
  have fa := bA2.free 1
  have mk3 := mk.keep (w' := (W1.alloc (.map #[] 0)).setCell ⟨w.heap.size, 1, none⟩ (.map (some W1.heap.size))) ((setCell_grownBy _ ⟨w.heap.size, 1, none⟩ _).block _ mk.lt (by simp; omega))
  have bA3 := bA2.set_ 1 (.map (some W1.heap.size))
  have hx3 : Ext w ((W1.alloc (.map #[] 0)).setCell ⟨w.heap.size, 1, none⟩ (.map (some W1.heap.size))) := (hx1.trans hx2).setCell (p := ⟨w.heap.size, 1, none⟩) (Nat.le_refl _) _
  have s3 := (setCell_grownBy (W1.alloc (.map #[] 0)) ⟨w.heap.size, 1, none⟩ (.map (some W1.heap.size))).size
  have s1h := Lib.hid s1
  have s2h := Lib.hid s2
  clear s1 s2
  go_upto_region 5 with fail
  generalize (W1.alloc (.map #[] 0)).setCell ⟨w.heap.size, 1, none⟩ (.map (some W1.heap.size)) = W3 at *
  generalize (W1.alloc (.map #[] 0)) = W2 at *
  have c1d := (b1.ext hx3).cell 1
  go_wp2_with (at_range; refine wpList_rng _ _ law_s Try.underlying51 rfl rfl (m1.ext hx3) rfl ?_; intro w4 hr4 hx4 hs4)
  go_frame
  have hx34 := hx3.trans hx4
  have bA4 := bA3.ext hx4
  have mk4 := mk3.ext hx4
  have q1 := s1h.out
  have q2 := s2h.out
  have bA5 : Blk w4 w.heap.size 53 #[.int .i64 g.cap, .map (some W1.heap.size), .int .i64 g.fuse, .bool g.dead, .int .i64 g.chg] := by simpa using bA4
  have hN0 : ∃ N : Ow, N w.heap.size = some (w.heap.size, -5) ∧ N W1.heap.size = some (w.heap.size, -4) ∧ ∀ b, b ≠ w.heap.size → b ≠ W1.heap.size → N b = none := by
    refine ⟨fun b => if b = w.heap.size then some (w.heap.size, -5) else if b = W1.heap.size then some (w.heap.size, -4) else none, ?_, ?_, ?_⟩
    · dsimp only; rw [if_pos rfl]
    · dsimp only; rw [if_neg (by omega), if_pos rfl]
    · intro b e1 e2; dsimp only; rw [if_neg e1, if_neg e2]
  obtain ⟨N0, n1, n2, n3⟩ := hN0
  have s3' : W1.heap.size < W3.heap.size := by omega
  have k5 := Lib.hid hs4
  clear hs4 q1 q2 s3 b1' c1 hln hmm mk hx2 bA2 ca fa mk3 bA3 hx3 bA4 c1d hx1
  go_loopw [4, 5] (fun _ _ wr => ∃ left cnt, ∃ (N : Ow) (F' : DataW Value), Ranging Try.prog wr 9 fm W3.heap.size F left cnt ∧ Copied wr N W1.heap.size F' g left ∧ Maps.size F' + cnt ≤ Maps.size F ∧ In N wr ∧ (∀ b, b < w.heap.size → N b = none) ∧
    N w.heap.size = some (w.heap.size, -5) ∧ N W1.heap.size = some (w.heap.size, -4) ∧ Blk wr w.heap.size 53 #[.int .i64 g.cap, .map (some W1.heap.size), .int .i64 g.fuse, .bool g.dead, .int .i64 g.chg] ∧ Ext w wr ∧ (∀ n, left (sk n) = true → (g.file n).isSome = true) ∧ (∀ b, Owned N b → b ≠ W3.heap.size)) (fun _ _ wr => wr.rangeLeft fm W3.heap.size)
  case atStart =>
    have q1 := s1h.out
    have q5 := k5.out
    refine ⟨_, _, N0, .map [], hr4, ⟨mk4, fun n _ => val_nil _, fun n c hl hf => ?_, fun n m fb e => (by rw [val_nil] at e; cases e), fun kl hk => (by simp [Maps.has] at hk)⟩, by simp [Maps.size], fun b hb => ?_, fun b hb => n3 b (by omega) (by omega), n1, n2, bA5, hx34, fun n hn => ?_, fun b hb => ?_⟩
    · obtain ⟨fb, r1, _⟩ := h1 n c hf
      rw [m1.has_iff, r1] at hl
      cases hl
    · by_cases e1 : b = w.heap.size
      · omega
      by_cases e2 : b = W1.heap.size
      · omega
      rw [Owned, n3 b e1 e2] at hb
      cases hb
    · cases e : g.file n with
      | none => rw [m1.has_iff, h0 n e] at hn; cases hn
      | some c => rfl
    · intro e0
      by_cases e1 : b = w.heap.size
      · omega
      by_cases e2 : b = W1.heap.size
      · omega
      rw [Owned, n3 b e1 e2] at hb
      cases hb
  case round =>
    obtain ⟨left, cnt, N, F', hrg, ⟨mc, p0, p1, p2, p3⟩, hsz', hN, hNo, hNd, hNm, hB, hxr, hleft, rN⟩ := hrel
    go_wp2_with (at_next; refine wpList_nxt nv keyS_inv _ law_s W3.heap.size left cnt rfl rfl rfl hrg ?_ ?_)
    · intro hl0
      go_wp2_with fail
      go_ret
      refine ⟨w.heap.size, N, rfl, ⟨W1.heap.size, F', hNd, hNm, hB, mc, by omega, hc, hfu, hch, p3, fun n e => p0 n (.inr e), fun n c e => p1 n c (hl0 _) e, p2, hN⟩, hNo, hxr⟩
    · intro x v kl w3 cnt' hkey hlk hv hrg3 hlt hg3 hs3 hen
      obtain ⟨rfl, hlen⟩ := keyS_val hkey
      replace hs3 := Lib.hid hs3
      have hx3 : Ext w w3 := hxr.grown hg3 (by intro k e; cases e; have := s1h.out; omega)
      have hT3 : Tu (fun b => b = W3.heap.size) wr w3 := Tu.of_grown hg3 (by rintro k e; cases e; rfl)
      obtain ⟨c, hcf⟩ := Option.isSome_iff_exists.1 (hleft x hlk)
      obtain ⟨fb, r1, r2⟩ := h1 x c hcf
      obtain rfl : v = fptr fb := Option.some.inj (hv.symm.trans r1)
      have hN3 : In N w3 := hN.ext (by have := hs3.out; omega)
      have B3 := hB.tu hT3 (by have := s1h.out; omega)
      have c3 : ∀ y : Above (Tu (fun b => b = W1.heap.size)) w3.drew, y.1.cell? ⟨w.heap.size, 1, none⟩ = some (.map (some W1.heap.size)) := fun y => (Blk.tu (w := w3.drew) B3 y.2 (by have := s1h.out; omega)).cell 1
      go_wp2_with fail
      refine wp_region_plan (Tu (fun b => b = W1.heap.size)) [(0, true), (1, true), (2, true), (3, true), (4, false), (5, false)] (fun _ _ _ x y => x.trans y) (fun a => Tu.refl _ a) (by kernel_rfl) (by kernel_rfl) ?_
      intro K hK
      iterate 4 (
        refine plan_q (v := ?_) rfl rfl ?_ ?_
        rotate_left
        · intro x
          go_simp
          first | done | rfl
        simp only [Act.put, List.getElem_toArray, List.getElem_cons_zero, List.getElem_cons_succ, List.setIfInBounds_toArray, List.set_cons_zero, List.set_cons_succ])
      refine plan_l rfl rfl ?_
      intro K2 hK2
      go_simp
      refine (copy_any w3.drew O fb c (r2.ext (hx3.trans ((Ext.refl w3).drew))) (hO.ext (hx3.trans ((Ext.refl w3).drew)).size) N (hN3.ext (Nat.le_refl _)) (hbig x c hcf)).mono ?_
      rintro e w5 ⟨fb', N', rfl, f5, ⟨a1, a2, a3⟩, hx5⟩
      go_simp
      refine hK2.out _ _ (Tu.of_ext hx5) ?_
      clear hK2 K2
      try simp only [Act.put, List.getElem_toArray, List.getElem_cons_zero, List.getElem_cons_succ, List.setIfInBounds_toArray, List.set_cons_zero, List.set_cons_succ]
      have hx35 : Ext w3 w5 := ((Ext.refl w3).drew).trans hx5
      have mc3 := mc.tu hT3 (by have := s1h.out; omega)
      have mc5 := mc3.ext hx35
      have z3 := hrg3.lt
      have z5 := hx35.size
      have z0 := hs3.out
      have a3' : w3.heap.size ≤ fb' := a3
      have hcnt : cnt' < cnt := by
        rw [hrg3.left_eq, hrg.left_eq] at hlt
        exact hlt
      refine plan_l rfl rfl ?_
      intro K2 hK2
      refine wp_one rfl ?_
      refine wpList_put _ _ _ _ law_s Try.underlying51 rfl rfl mc5 (by unfold maxLen; omega) (nv x) (fptr fb') rfl rfl rfl (key_s hlen) ?_
      intro w6 m6 g6
      show K2 _ _
      have t6 : Tu (fun b => b = W1.heap.size) w5 w6 := Tu.of_grown g6 (by rintro k e; cases e; rfl)
      refine hK2.out _ _ t6 ?_
      clear hK2 K2
      try simp only [Act.put, List.getElem_toArray, List.getElem_cons_zero, List.getElem_cons_succ, List.setIfInBounds_toArray, List.set_cons_zero, List.set_cons_succ]
      refine plan_end (hK.out _ _ ?_)
      clear hK K
      have z6 := t6.size
      have q1 := s1h.out
      have q2 := s2h.out
      have q1' := Lib.hid q1
      have zN : ∀ b, b < w3.heap.size → N' b = N b := a1
      have hdn : w.heap.size < w3.heap.size := by omega
      have hfn : W1.heap.size < w3.heap.size := by omega
      have hrg6 : Ranging Try.prog w6 9 fm W3.heap.size F _ cnt' := (hrg3.keep (w' := w5) (hx35.blk hrg3.map.lt) (hx35.blk hrg3.lt)).keep (t6.blk fm (by have := m1.lt; omega) (by have := m1.lt; omega)) (t6.blk W3.heap.size (by omega) (by omega))
      have vlt : ∀ m y, val F' (sk m) = some (fptr y) → y < wr.heap.size := by
        intro m y e
        cases hl : left (sk m) with
        | true => rw [p0 m (.inl hl)] at e; cases e
        | false =>
          cases hm : g.file m with
          | none => rw [p0 m (.inr hm)] at e; cases e
          | some c2 =>
            obtain ⟨f2, k1, k2⟩ := p1 m c2 hl hm
            rw [k1] at e
            simp at e
            have := k2.lt
            omega
      have far : ∀ f2 c2, FileAt wr N f2 c2 → FileAt w6 N' f2 c2 := by
        intro f2 c2 k2
        refine k2.keep fun b hb hlt2 => ⟨?_, zN b (by omega)⟩
        have nfn : b ≠ W1.heap.size := by
          rintro rfl
          obtain ⟨t, e⟩ := hb
          rw [hNm] at e
          simp at e
          have := k2.own
          rw [← e.1, hNd] at this
          simp at this
        rw [t6.blk b (by omega) nfn, hx35.blk (by omega), hT3.blk b hlt2 (rN b hb.owned)]
      have f6 : FileAt w6 N' fb' c := f5.far t6 (Og.refl N' w5) (by
        rintro b ⟨t, e⟩ rfl
        rw [zN _ hfn, hNm] at e
        simp at e
        omega)
      clear q1 q2
      go_wp2_with fail
      have q1 := s1h.out
      refine ⟨⟨_, cnt', N', _, hrg6, ⟨m6, fun n hn => ?_, fun n c2 hl hf => ?_, fun a b y ea eb => ?_, fun kl hk => ?_⟩, ?_, fun b hb => ?_, fun b hb => (zN b (by omega)).trans (hNo b hb), (zN _ hdn).trans hNd, (zN _ hfn).trans hNm, (B3.ext hx35).tu t6 (by omega), (hx3.trans hx35).grown g6 (by rintro k e; cases e; omega), fun n hn => hleft n (by simp at hn; exact hn.1), fun b hb => ?_⟩, ?_⟩
      · have hnx : n ≠ x := by
          rintro rfl
          rcases hn with e | e
          · simp [sk_same] at e
          · rw [hcf] at e; cases e
        rw [val_put (kl := sk x) mc.isMap trivial, sk_same, if_neg (by simpa using hnx)]
        refine p0 n (hn.imp (fun e => ?_) id)
        simp at e
        exact e.1
      · by_cases hnx : n = x
        · subst hnx
          rw [hcf] at hf
          cases hf
          exact ⟨fb', by rw [val_put (kl := sk n) mc.isMap trivial, sk_same, if_pos (by simp)], f6⟩
        · have hl2 : left (sk n) = false := by simpa [sk_same, hnx] using hl
          obtain ⟨f2, k1, k2⟩ := p1 n c2 hl2 hf
          exact ⟨f2, by rw [val_put (kl := sk x) mc.isMap trivial, sk_same, if_neg (by simpa using hnx)]; exact k1, far f2 c2 k2⟩
      · rw [val_put (kl := sk x) mc.isMap trivial, sk_same] at ea eb
        by_cases e1 : a = x <;> by_cases e2 : b = x
        · rw [e1, e2]
        · rw [if_pos (by simpa using e1)] at ea
          rw [if_neg (by simpa using e2)] at eb
          have := vlt b y eb
          simp at ea <;> omega
        · rw [if_neg (by simpa using e1)] at ea
          rw [if_pos (by simpa using e2)] at eb
          have := vlt a y ea
          simp at eb <;> omega
        · rw [if_neg (by simpa using e1)] at ea
          rw [if_neg (by simpa using e2)] at eb
          exact p2 a b y ea eb
      · rcases has_put hk with e | e
        · obtain ⟨n, en, hm⟩ := hnm (sk x) (by rw [m1.has_iff, r1]; rfl)
          exact ⟨n, e.trans en, hm⟩
        · exact p3 kl e
      · rw [mc.size_put law_s, p0 x (.inl hlk)]
        simp
        omega
      · by_cases hb3 : b < w3.heap.size
        · omega
        · have := (a2 b (by show w3.heap.size ≤ b; omega) hb).1
          omega
      · by_cases hb3 : b < w3.heap.size
        · rw [Owned, zN b hb3] at hb
          exact rN b hb
        · omega
      · rw [hrg6.left_eq, hrg.left_eq]
        exact hcnt
end Go.Proofs.Ytenmdhdloibemaa
