/- Copy. Conditions: the net is in memory as told. -/
import Derived.Test.YtekbdpfiommmbaaNclear
import Derived.Deep.CutBlock
namespace Go.Proofs.Ytekbdpfiommmbaa
open Go.RowKit Go.Maps
set_option linter.unusedVariables false
set_option linter.unusedSimpArgs false
attribute [local go_sem] Oper.semAt_some

theorem size_net (cs : Array Value) (h : cs.size = 3) : (Try.prog.info? 75).map (·.size) = some cs.size := by rw [h]; kernel_rfl
theorem run_makeMapH {t k e : TypeId} (ht : Try.prog.underlying t = some (.map k e)) (n : Int) (w : World) : (Instr.makeMap t (some (.int .i64 n))).run Try.prog w = .ok (.map (some w.heap.size)) (w.alloc (.map #[] 0)) := by
  simp [Instr.makeMap, run_underlying ht, go_sem, Result.andThen]
/-- the owners of before, and the copy's -/
def Jn (d : Nat) (O N : Ow) : Ow := fun b => if b < d then O b else N b
theorem Jn.new {d b : Nat} {O N : Ow} (h : d ≤ b) : Jn d O N b = N b := by unfold Jn; rw [if_neg (by omega)]
theorem Jn.old {d b : Nat} {O N : Ow} (h : b < d) : Jn d O N b = O b := by unfold Jn; rw [if_pos h]
set_option maxRecDepth 100000 in
set_option maxHeartbeats 3200000 in
theorem copyN_any (w : World) (O : Ow) (n fm : Nat) (F : DataW Value) (g : NC) (h : NetX w O n fm F g) :
    Calls Try.prog 34 #[fptr n] w fun x w' => ∃ n' O', x = .returned (fptr n') ∧ (∃ fm F, NetX w' O' n' fm F g ∧ NetX w' (Jn w.heap.size O O') n' fm F g) ∧ (∀ b, b < w.heap.size → O' b = none) ∧ Ext w w' := by
  have heb := h.endsb
  have b1 := h.blk
  have m1 := h.2.2.2.1
  have hszF := h.2.2.2.2.2.1.2
  have hkeys := h.2.2.2.2.2.2.1
  have hlines := h.2.2.2.2.2.2.2.1
  have q0 := b1.cell 0
  have q1 := b1.cell 1
  have q2 := b1.cell 2
  have bA := Blk.new w 75 #[.int .i64 g.ends, .map (some fm), .int .i64 g.lost]
  have hx1 := (Ext.refl w).alloc (.cells #[.int .i64 g.ends, .map (some fm), .int .i64 g.lost] 75)
  have s1 := World.size_alloc w (.cells #[.int .i64 g.ends, .map (some fm), .int .i64 g.lost] 75)
  go_enter Try.func34, Try.ntmps34
  go_wp2_with fail
  refine (none_at w O n fm F g h).mono ?_
  rintro e w1 ⟨rfl, rfl⟩
  go_upto_region 4 with fail
  clear q0 q1 q2
  generalize w.alloc (.cells #[.int .i64 g.ends, .map (some fm), .int .i64 g.lost] 75) = W1 at *
  obtain ⟨d, hd⟩ : ∃ d, w.heap.size = d := ⟨_, rfl⟩
  have hdH := Lib.hid hd
  rw [hd] at bA s1 ⊢
  clear hd
  have b1' := b1.ext hx1
  have c1 := b1'.cell 1
  have hln := (m1.ext hx1).len Try.underlying73 3
  have hmm := run_makeMapH Try.underlying73 (Maps.size F) W1
  have mk := MapOf.made W1 Try.prog 77
  have hx2 := (Ext.refl W1).alloc (.map #[] 0)
  have s2 := World.size_alloc W1 (.map #[] 0)
  have bA2 := bA.ext hx2
  have ca := bA2.cell 1
  have fa := bA2.free 1
  have mk3 := mk.keep (w' := (W1.alloc (.map #[] 0)).setCell ⟨d, 1, none⟩ (.map (some W1.heap.size))) ((setCell_grownBy _ ⟨d, 1, none⟩ _).block _ mk.lt (by simp; omega))
  have bA3 := bA2.set_ 1 (.map (some W1.heap.size))
  have hx3 : Ext w ((W1.alloc (.map #[] 0)).setCell ⟨d, 1, none⟩ (.map (some W1.heap.size))) := (hx1.trans hx2).setCell (p := ⟨d, 1, none⟩) (by have := hdH.out; show w.heap.size ≤ d; omega) _
  have s3 := (setCell_grownBy (W1.alloc (.map #[] 0)) ⟨d, 1, none⟩ (.map (some W1.heap.size))).size
  have s1h := Lib.hid s1
  have s2h := Lib.hid s2
  have s3h := Lib.hid s3
  clear s1 s2 s3
  go_upto_region 5 with fail
  generalize (W1.alloc (.map #[] 0)).setCell ⟨d, 1, none⟩ (.map (some W1.heap.size)) = W3 at *
  generalize (W1.alloc (.map #[] 0)) = W2 at *
  have bA3' : Blk W3 d 75 #[.int .i64 g.ends, .map (some W1.heap.size), .int .i64 g.lost] := by simpa using bA3
  have c1d := (b1.ext hx3).cell 1
  clear c1 hln hmm mk bA bA2 ca fa bA3 b1'
  go_wp2_with (at_range; refine wpList_rng _ _ law_l Try.underlying73 rfl rfl (m1.ext hx3) rfl ?_; intro w4 hr4 hx4 hs4)
  go_frame
  obtain ⟨r, hr⟩ : ∃ r, W3.heap.size = r := ⟨_, rfl⟩
  have hrH := Lib.hid (And.intro hr hs4)
  rw [hr] at hr4 ⊢
  obtain ⟨f2, hf2⟩ : ∃ f2, W1.heap.size = f2 := ⟨_, rfl⟩
  have hf2H := Lib.hid hf2
  rw [hf2] at bA3' mk3 ⊢
  clear hr hf2 hs4 c1d
  have hx34 := hx3.trans hx4
  have bA4 := bA3'.ext hx4
  have mk4 := mk3.ext hx4
  have hord : w.heap.size = d ∧ d < f2 ∧ f2 < r ∧ w4.heap.size = r + 1 := by
    have e1 := hdH.out; have e2 := s1h.out; have e3 := s2h.out; have e4 := s3h.out; have e5 := hrH.out; have e6 := hf2H.out
    omega
  have hN0 : ∃ N : Ow, N d = some (-5, -5) ∧ N f2 = some (-4, -4) ∧ N r = some (-6, -6) ∧ ∀ b, b ≠ d → b ≠ f2 → b ≠ r → N b = none := by
    refine ⟨fun b => if b = d then some (-5, -5) else if b = f2 then some (-4, -4) else if b = r then some (-6, -6) else none, ?_, ?_, ?_, ?_⟩
    · dsimp only; rw [if_pos rfl]
    · dsimp only; rw [if_neg (by omega), if_pos rfl]
    · dsimp only; rw [if_neg (by omega), if_neg (by omega), if_pos rfl]
    · intro b e1 e2 e3; dsimp only; rw [if_neg e1, if_neg e2, if_neg e3]
  obtain ⟨N0, n1, n2, n3, n4⟩ := hN0
  have HO := Lib.hid hord
  clear hord
  go_loopw [4] (fun _ wr => ∃ (left : Lit → Bool) (cnt : Nat) (N : Ow) (F' : DataW Value), Ranging Try.prog wr 77 fm r F left cnt ∧ MI' wr f2 F' ∧ SizeOk F' ∧ (∀ a b, g.ok a b → left (lnk a b) = true → val F' (lnk a b) = none) ∧ (∀ a b, g.ok a b → left (lnk a b) = false → LineAt wr N a b (val F' (lnk a b)) (g.L a b) ∧ LineAt wr (Jn d O N) a b (val F' (lnk a b)) (g.L a b)) ∧
    (∀ kl, Maps.has F' kl = true → ∃ a b, kl = lnk a b ∧ g.ok a b) ∧ In N wr ∧ (∀ b, b < d → N b = none) ∧ (N d = some (-5, -5) ∧ N f2 = some (-4, -4) ∧ N r = some (-6, -6)) ∧ Blk wr d 75 #[.int .i64 g.ends, .map (some f2), .int .i64 g.lost] ∧ Ext w wr ∧ (∀ kl, left kl = true → Maps.has F kl = true)) (fun _ wr => wr.rangeLeft fm r)
  case atStart =>
    have ho := HO.out
    refine ⟨_, _, N0, .map [], hr4, mk4, by simp [SizeOk, Maps.size], fun a b _ _ => val_nil _, fun a b hab hl => ?_, fun kl hk => (by simp [Maps.has] at hk), fun b hb => ?_, fun b hb => n4 b (by omega) (by omega) (by omega), ⟨n1, n2, n3⟩, bA4, hx34, fun kl hl => hl⟩
    · rw [val_nil]
      rcases hlines a b hab with ⟨q1, q2⟩ | ⟨v, cs, q1, _⟩
      · exact ⟨.inl ⟨rfl, q2⟩, .inl ⟨rfl, q2⟩⟩
      · rw [m1.has_iff, q1] at hl
        cases hl
    · by_cases e1 : b = d
      · omega
      by_cases e2 : b = f2
      · omega
      by_cases e3 : b = r
      · omega
      rw [n4 b e1 e2 e3] at hb
      cases hb
  case round =>
    obtain ⟨left, cnt, N, F', hrg, mc, hszc, p0, p1, p3, hN, hNo, ⟨hNd, hNm, hNr⟩, hB, hxr, hleft⟩ := hrel
    go_wp2_with (at_next; refine wpList_nxt (fun x : Int × Int => lnv x.1 x.2) (fun key kl hkey => by obtain ⟨x, q, _⟩ := keyL_inv key kl hkey; exact ⟨x, q⟩) _ law_l r left cnt rfl rfl rfl hrg ?_ ?_)
    · intro hl0
      go_wp2_with fail
      go_ret
      have ho := HO.out
      have hwd : w.heap.size = d := by omega
      rw [hwd]
      refine ⟨d, N, rfl, ⟨f2, F', ⟨hNd, hNm, hB, mc, h.2.2.2.2.1, ⟨h.2.2.2.2.2.1.1, hszc⟩, p3, fun a b hab => (p1 a b hab (hl0 _)).1, h.2.2.2.2.2.2.2.2.1, h.2.2.2.2.2.2.2.2.2.1, hN⟩, (Jn.new (Nat.le_refl _)).trans hNd, (Jn.new (by omega)).trans hNm, hB, mc, h.2.2.2.2.1, ⟨h.2.2.2.2.2.1.1, hszc⟩, p3, fun a b hab => (p1 a b hab (hl0 _)).2, h.2.2.2.2.2.2.2.2.1, h.2.2.2.2.2.2.2.2.2.1, fun b hb => ?_⟩, fun b hb => hNo b hb, hxr⟩
      rcases Nat.lt_or_ge b d with e | e
      · have := hxr.size
        omega
      · rw [Jn.new e] at hb
        exact hN b hb
    · intro a b v kl w3 cnt' hkey hlk hv hrg3 hlt hg3 hs3 hen
      obtain ⟨⟨a', b'⟩, ex, wa, wb⟩ := keyL_inv _ _ hkey
      simp only [Value.agg.injEq, Array.mk.injEq, List.cons.injEq, Value.int.injEq, true_and, and_true] at ex
      obtain ⟨rfl, rfl⟩ := ex
      rw [key_l wa wb] at hkey
      obtain rfl := Option.some.inj hkey
      obtain ⟨a2, b2, e2, hok⟩ := hkeys _ (hleft _ hlk)
      obtain ⟨wa2, wb2⟩ := ok_wf g heb.2 hok
      obtain ⟨rfl, rfl⟩ := lnk_inj wa wb wa2 wb2 e2
      clear e2 wa2 wb2 hkey
      obtain ⟨cs, hrow, hR⟩ : ∃ cs, w.ownsRow 0 38 1 v (g.L a b).length cs ∧ RowsAt w O cs (g.L a b) := by
        rcases hlines a b hok with ⟨q1, q2⟩ | ⟨v', cs, q1, _, q3, q4⟩
        · rw [q1] at hv; cases hv
        · rw [q1] at hv
          obtain rfl := Option.some.inj hv
          exact ⟨cs, q3, q4⟩
      have hl32 := h.2.2.2.2.2.2.2.2.2.1 a b
      have h1c : ∀ u ∈ cs, u.oneCell' = true := by
        intro u hu
        obtain ⟨j, hj, rfl⟩ := List.getElem_of_mem hu
        obtain ⟨_, A, c, q1, _⟩ := hR.2 j (by rw [← hR.1]; exact hj)
        rw [List.getElem?_eq_getElem hj] at q1
        rw [Option.some.inj q1]
        rfl
      replace hs3 := Lib.hid hs3
      have T3 : Tu (fun q => q = r) wr w3 := Tu.of_grown hg3 (by rintro k e; cases e; rfl)
      have hx3' : Ext w w3 := T3.ext_of hxr (fun k e => by have := HO.out; omega)
      have hxA := (Ext.refl w3).alloc (.cells #[.int .i64 a, .int .i64 b] 77)
      have b3 := Blk.new w3 77 #[.int .i64 a, .int .i64 b]
      have B3 := hB.tu T3 (by have := HO.out; omega)
      obtain ⟨q, hq⟩ : ∃ q, w3.heap.size = q := ⟨_, rfl⟩
      have hqH := Lib.hid hq
      rw [hq] at b3
      clear hq
      go_wp2_with fail
      have hqv := hqH.out
      simp only [hqv]
      generalize w3.alloc (.cells #[.int .i64 a, .int .i64 b] 77) = w5 at *
      have hxd := (Ext.refl w5).drew
      have hne : q ≠ f2 ∧ d ≠ f2 ∧ d ≠ r ∧ f2 ≠ r ∧ r < w3.heap.size := by have := HO.out; have := hrg3.lt; have := hrg3.map.lt; have := T3.size; have := mc.lt; omega
      refine wp_region_plan (Tu (fun b => b = f2)) [(0, true), (1, true), (2, true), (3, true), (4, false), (5, false)] (fun _ _ _ x y => (fun x y => Tu.trans x y) x y) (Tu.refl (fun b => b = f2)) (by kernel_rfl) (by kernel_rfl) ?_
      intro K hK
      have cd : ∀ y : Above (Tu (fun b => b = f2)) w5.drew, y.1.cell? ⟨d, 1, none⟩ = some (.map (some f2)) := fun y => (((B3.ext hxA).ext hxd).tu y.2 hne.2.1).cell 1
      have c0 : ∀ y : Above (Tu (fun b => b = f2)) w5.drew, y.1.cell? ⟨q, 0, none⟩ = some (.int .i64 a) := fun y => ((b3.ext hxd).tu y.2 hne.1).cell 0
      have c1 : ∀ y : Above (Tu (fun b => b = f2)) w5.drew, y.1.cell? ⟨q, 1, none⟩ = some (.int .i64 b) := fun y => ((b3.ext hxd).tu y.2 hne.1).cell 1
      iterate 4 (
        refine plan_q (v := ?_) rfl rfl ?_ ?_
        rotate_left
        · intro x
          go_simp
          first | done | rfl
        simp only [Act.put, List.getElem_toArray, List.getElem_cons_zero, List.getElem_cons_succ, List.setIfInBounds_toArray, List.set_cons_zero, List.set_cons_succ])
      clear cd c0 c1
      have hx36 := hxA.trans hxd
      generalize w5.drew = w6 at *
      have hx6 := hx3'.trans hx36
      have hrow6 : w6.ownsRow 0 38 1 v (g.L a b).length cs := ownsRow_blk hrow (fun k e => hx6.blk (hrow.lt k e).2)
      refine plan_l rfl (by kernel_rfl) ?_
      intro K2 hK2
      go_simp
      refine (clone_any w6 v (g.L a b).length cs hrow6 (by omega) h1c).mono ?_
      rintro x w7 ⟨v', rfl, row7, hx7⟩
      go_simp
      refine hK2.out _ _ (Tu.of_ext hx7) ?_
      clear hK2 K2
      try simp only [Act.put, List.getElem_toArray, List.getElem_cons_zero, List.getElem_cons_succ, List.setIfInBounds_toArray, List.set_cons_zero, List.set_cons_succ]
      have mc3 := mc.tu T3 hne.2.2.2.1
      have mc7 := (mc3.ext hx36).ext hx7
      refine plan_l rfl rfl ?_
      intro K2 hK2
      refine wp_one rfl ?_
      refine wpList_put _ _ _ _ law_l Try.underlying73 rfl rfl mc7 (by have := hszc.le; unfold maxLen; omega) (lnv a b) v' rfl rfl rfl (key_l wa wb) ?_
      intro w8 m8 g8
      show K2 _ _
      have t8 : Tu (fun b => b = f2) w7 w8 := Tu.of_grown g8 (by rintro k e; cases e; rfl)
      refine hK2.out _ _ t8 ?_
      clear hK2 K2
      try simp only [Act.put, List.getElem_toArray, List.getElem_cons_zero, List.getElem_cons_succ, List.setIfInBounds_toArray, List.set_cons_zero, List.set_cons_succ]
      refine plan_end (hK.out _ _ ?_)
      clear hK K
      go_wp2_with fail
      have ho := HO.out
      have z3 := T3.size
      have z36 := hx36.size
      have z7 := hx7.size
      have z8 := t8.size
      have hx38 : Ext w w8 := t8.ext_of (hx6.trans hx7) (fun k e => by omega)
      have T38 : Tu (fun q => q = r ∨ q = f2) wr w8 := ((T3.mono (fun _ e => .inl e)).trans (Tu.of_ext (hx36.trans hx7))).trans (t8.mono (fun _ e => .inr e))
      have hvb : ∀ kb, v'.ownBlock = some kb → w6.heap.size ≤ kb ∧ kb < w7.heap.size := fun kb e => row7.lt kb e
      obtain ⟨N', hN'⟩ : ∃ N' : Ow, (fun kb => if v'.ownBlock = some kb then some (a, b) else N kb) = N' := ⟨_, rfl⟩
      have hN'e : ∀ kb, N' kb = if v'.ownBlock = some kb then some (a, b) else N kb := fun kb => by rw [← hN']
      clear hN'
      have hsame : ∀ kb, kb < wr.heap.size → N' kb = N kb := fun kb hlt => by
        rw [hN'e, if_neg]
        intro e
        have := hvb kb e
        omega
      have row8 : w8.ownsRow 0 38 1 v' (g.L a b).length cs := by
        have r0 : w7.ownsRow 0 38 1 v' (g.L a b).length cs := ⟨row7.1, row7.2.imp id (fun ⟨gb, cap, cur, e1, _, e3⟩ => ⟨gb, cap, cur, e1, Nat.zero_le _, e3⟩)⟩
        exact ownsRow_blk r0 (fun kb e => t8.blk kb (hvb kb e).2 (by have := hvb kb e; have := mc.lt; omega))
      have hrg8 : Ranging Try.prog w8 77 fm r F (fun z => left z && !z.sameKey (lnk a b)) cnt' := ((hrg3.keep (hx36.blk hrg3.map.lt) (hx36.blk hrg3.lt)).keep (hx7.blk (by have := hrg3.map.lt; omega)) (hx7.blk (by have := hrg3.lt; omega))).keep (t8.blk fm (by have := hrg3.map.lt; omega) (by have := m1.lt; omega)) (t8.blk r (by omega) (fun e => hne.2.2.2.1 e.symm))
      have hcwr := mc.lt
      have hrwr := hrg.lt
      refine ⟨⟨_, cnt', N', _, hrg8, m8, hszc.put mc7 hok.1 (by have := hok.2.2.1; omega) hok.2.1 (by have := hok.2.2.2.1; omega) wa wb _, fun c dd hcd hl => ?_, fun c dd hcd hl => ?_, fun kl hh => ?_, fun kb hkb => ?_, fun kb hkb => (hsame kb (by omega)).trans (hNo kb hkb), ⟨(hsame d (by omega)).trans hNd, (hsame f2 hcwr).trans hNm, (hsame r hrwr).trans hNr⟩, ((B3.ext hx36).ext hx7).tu t8 hne.2.1, hx38, fun kl hh => hleft kl (by cases e1 : left kl <;> simp [e1] at hh ⊢)⟩, ?_⟩
      · obtain ⟨w1, w2⟩ := ok_wf g heb.2 hcd
        rw [val_put (kl := lnk a b) mc7.isMap trivial, lnk_same wa wb w1 w2]
        rw [lnk_same wa wb w1 w2] at hl
        simp only [Bool.and_eq_true, Bool.not_eq_true', decide_eq_false_iff_not] at hl
        rw [if_neg (by simpa using hl.2)]
        exact p0 c dd hcd hl.1
      · obtain ⟨w1, w2⟩ := ok_wf g heb.2 hcd
        rw [val_put (kl := lnk a b) mc7.isMap trivial, lnk_same wa wb w1 w2]
        rw [lnk_same wa wb w1 w2] at hl
        by_cases e2 : c = a ∧ dd = b
        · obtain ⟨rfl, rfl⟩ := e2
          rw [if_pos (by simp)]
          refine ⟨.inr ⟨v', cs, rfl, fun kb e => by rw [hN'e, if_pos e], row8, hR.keep hx38.size (fun kb hlt eo => ⟨hx38.blk hlt, (hsame kb (by have := hxr.size; omega)).trans (hNo kb (by omega))⟩)⟩, .inr ⟨v', cs, rfl, fun kb e => ?_, row8, hR.keep hx38.size (fun kb hlt eo => ⟨hx38.blk hlt, (Jn.old (by omega)).trans eo⟩)⟩⟩
          have := hvb kb e
          rw [Jn.new (by omega), hN'e, if_pos e]
        · rw [if_neg (by simpa using e2)]
          rw [decide_eq_false e2] at hl
          have hJ : ∀ kb, kb < wr.heap.size → Jn d O N' kb = Jn d O N kb := fun kb hlt => by
            unfold Jn
            rw [hsame kb hlt]
          have hJr : Jn d O N r = some (-6, -6) := (Jn.new (by omega)).trans hNr
          have hJm : Jn d O N f2 = some (-4, -4) := (Jn.new (by omega)).trans hNm
          refine ⟨?_, ?_⟩
          · refine (p1 c dd hcd (by simpa using hl)).1.keep T38.size (fun kb hlt eo => ⟨T38.blk kb hlt ?_, hsame kb hlt⟩) (fun kb hlt eo => ⟨T38.blk kb hlt ?_, (hsame kb hlt).trans eo⟩)
            · rintro (e | e)
              · rw [e, hNr] at eo; simp at eo; have := hcd.1; omega
              · rw [e, hNm] at eo; simp at eo; have := hcd.1; omega
            · rintro (e | e)
              · rw [e, hNr] at eo; simp at eo
              · rw [e, hNm] at eo; simp at eo
          · refine (p1 c dd hcd (by simpa using hl)).2.keep T38.size (fun kb hlt eo => ⟨T38.blk kb hlt ?_, hJ kb hlt⟩) (fun kb hlt eo => ⟨T38.blk kb hlt ?_, (hJ kb hlt).trans eo⟩)
            · rintro (e | e)
              · rw [e, hJr] at eo; simp at eo; have := hcd.1; omega
              · rw [e, hJm] at eo; simp at eo; have := hcd.1; omega
            · rintro (e | e)
              · rw [e, hJr] at eo; simp at eo
              · rw [e, hJm] at eo; simp at eo
      · rcases has_put hh with e | e
        · exact ⟨a, b, e, hok⟩
        · exact p3 kl e
      · rw [hN'e] at hkb
        split at hkb
        · rename_i e
          have := hvb kb e
          omega
        · have := hN kb hkb
          omega
      · rw [hrg3.left_eq, hrg.left_eq] at hlt
        rw [hrg8.left_eq, hrg.left_eq]
        exact hlt
