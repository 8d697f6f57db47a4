/- Clear. Conditions: the net is in memory as told. -/
import Derived.Test.YtekbdpfiommmbaaNclone
import Derived.Test.YtekbdpfiommmbaaNkey
import Derived.Test.YtekbdpfiommmbaaMaps
import Derived.Maps.RangeWalk
import Derived.Deep.CutRange
namespace Go.Proofs.Ytekbdpfiommmbaa
open Go.RowKit Go.Maps
open Go.WideElems (Fit rd rg)
set_option linter.unusedVariables false
set_option linter.unusedSimpArgs false
attribute [local go_sem] Oper.semAt_some

abbrev MI' (u : World) (b : Nat) (D : DataW Value) : Prop := MapOf Try.prog u 77 b D
def NC.clr (g : NC) (k : Int) : NC := { g with L := fun a b => if b = k then [] else g.L a b }
theorem countP_less {α : Type} [DecidableEq α] {p q : α → Bool} {x : α} : ∀ (l : List α), l.Nodup → (∀ y ∈ l, y ≠ x → p y = q y) → l.countP p ≤ l.countP q + 1
  | [], _, _ => by simp
  | a :: l, hd, h => by
    obtain ⟨h1, h2⟩ := List.nodup_cons.1 hd
    rw [List.countP_cons, List.countP_cons]
    by_cases e : a = x
    · subst e
      have : l.countP p = l.countP q := List.countP_congr fun y hy => by
        rw [h y (List.mem_cons_of_mem _ hy) (fun e => h1 (e ▸ hy))]
      rw [this]
      split <;> split <;> omega
    · have := countP_less l h2 (fun y hy => h y (List.mem_cons_of_mem _ hy))
      rw [h a (List.mem_cons_self ..) e]
      omega
theorem Ranging.of {P : Program} {w : World} {k : TypeId} {b r n cnt : Nat} {D : DataW Value} {left : Lit → Bool} (h : w.ranges P k anyR b r n D left cnt) : Ranging P w k b r D left cnt := by
  obtain ⟨es, clock, since, seen, c0, h1, F, hs, rfl, rest⟩ := h
  refine ⟨es, clock, since, seen, c0, h1, F, ?_, rfl, rest⟩
  have : ((es.toList.map (rg P k anyR)).foldr DataW.insert []).length = es.size := by rw [length_sorted]; simp
  rw [Maps.size_eq, this]
  exact Nat.le_refl _
theorem prs_nodup : prs.Nodup := by decide
theorem SizeOk.del {w : World} {fm : Nat} {F : DataW Value} (h : SizeOk F) (hm : MI' w fm F) {a b : Int} (ha : (Lit.int .i64 a).wf = true) (hb : (Lit.int .i64 b).wf = true) : SizeOk (F.del (lnk a b)) := by
  have hs := hm.size_del (kl := lnk a b) law_l
  have hv : ∀ p ∈ prs, val (F.del (lnk a b)) (lnk p.1 p.2) = if p = (a, b) then none else val F (lnk p.1 p.2) := fun p hp => by
    obtain ⟨w1, w2⟩ := prs_wf hp
    rw [val_del F (kl := lnk a b) trivial, lnk_same ha hb w1 w2]
    by_cases e : p = (a, b)
    · subst e; simp
    · rw [if_neg e, if_neg]
      simp only [decide_eq_true_eq]
      rintro ⟨e1, e2⟩
      exact e (Prod.ext e1 e2)
  unfold SizeOk at h ⊢
  have hle := countP_less (p := fun p => (val F (lnk p.1 p.2)).isSome) (q := fun p => (val (F.del (lnk a b)) (lnk p.1 p.2)).isSome) (x := (a, b)) prs prs_nodup (fun y hy hne => by rw [hv y hy, if_neg hne])
  by_cases hp : (val F (lnk a b)).isSome = true
  · rw [if_pos hp] at hs
    omega
  · rw [if_neg hp] at hs
    have : prs.countP (fun p => (val F (lnk p.1 p.2)).isSome) = prs.countP (fun p => (val (F.del (lnk a b)) (lnk p.1 p.2)).isSome) := List.countP_congr fun p hpm => by
      rw [hv p hpm]
      split
      · rename_i e
        subst e
        have : val F (lnk a b) = none := by simpa using hp
        rw [this]
      · rfl
    omega
theorem sum_one {α : Type} {f f' : α → Nat} {x : α} {d : Nat} : ∀ (l : List α), l.Nodup → x ∈ l → (∀ y ∈ l, y ≠ x → f' y = f y) → f' x = f x + d → (l.map f').sum = (l.map f).sum + d
  | [], _, hx, _, _ => by cases hx
  | a :: l, hd, hx, h, he => by
    obtain ⟨h1, h2⟩ := List.nodup_cons.1 hd
    simp only [List.map_cons, List.sum_cons]
    rcases List.mem_cons.1 hx with rfl | hx
    · have : l.map f' = l.map f := List.map_congr_left fun y hy => h y (List.mem_cons_of_mem _ hy) (fun e => h1 (e ▸ hy))
      rw [this, he]
      omega
    · have := sum_one l h2 hx (fun y hy hne => h y (List.mem_cons_of_mem _ hy) hne) he
      rw [h a (List.mem_cons_self ..) (fun e => h1 (e ▸ hx))]
      omega
theorem sum_le {α : Type} {f : α → Nat} {N : Nat} : ∀ (l : List α), (∀ y ∈ l, f y ≤ N) → (l.map f).sum ≤ l.length * N
  | [], _ => by simp
  | a :: l, h => by
    have h1 := h a (List.mem_cons_self ..)
    have h2 := sum_le l (fun y hy => h y (List.mem_cons_of_mem _ hy))
    simp only [List.map_cons, List.sum_cons, List.length_cons, Nat.succ_mul]
    omega
theorem orderL_nodup (e m : Nat) (he : 0 < e) : (orderL e m).Nodup := by
  unfold orderL
  rw [List.Nodup, List.pairwise_map]
  exact List.pairwise_lt_range.imp (fun h e' => by have := ordAt_inj he e'; omega)
theorem ord_of {e : Nat} {a b : Int} (h1 : 1 ≤ a) (h2 : a ≤ e) (h3 : 1 ≤ b) (h4 : b ≤ e) : ∃ m, m < e * e ∧ ordAt e m = (a, b) := by
  have he : 0 < e := by omega
  refine ⟨(a - 1).toNat * e + (b - 1).toNat, ?_, ?_⟩
  · have : (a - 1).toNat + 1 ≤ e := by omega
    have h5 := Nat.mul_le_mul_right e this
    rw [Nat.add_mul, Nat.one_mul] at h5
    omega
  · have e1 : ((a - 1).toNat * e + (b - 1).toNat) / e = (a - 1).toNat := by
      rw [Nat.mul_comm, Nat.mul_add_div he, Nat.div_eq_of_lt (by omega), Nat.add_zero]
    have e2 : ((a - 1).toNat * e + (b - 1).toNat) % e = (b - 1).toNat := by
      rw [Nat.mul_comm, Nat.mul_add_mod, Nat.mod_eq_of_lt (by omega)]
    simp only [ordAt, e1, e2]
    ext <;> simp <;> omega
theorem ord_mem {g : NC} {e : Nat} (he : g.ends = (e : Int)) {a b : Int} (h : g.ok a b) : (a, b) ∈ orderL e (e * e) := by
  obtain ⟨h1, h2, h3, h4, _⟩ := h
  rw [he] at h3 h4
  obtain ⟨m, q1, q2⟩ := ord_of h1 h3 h2 h4
  exact List.mem_map.2 ⟨m, List.mem_range.2 q1, q2⟩
/-- how many flights to k are in lines that are left no more; how many there are -/
def clS (g : NC) (e : Nat) (k : Int) (left : Lit → Bool) : Nat := ((orderL e (e * e)).map fun p => if p.2 = k ∧ left (lnk p.1 p.2) = false then (g.L p.1 p.2).length else 0).sum
def clN (g : NC) (e : Nat) (k : Int) : Nat := ((orderL e (e * e)).map fun p => if p.2 = k then (g.L p.1 p.2).length else 0).sum
theorem clS_all {g : NC} {e : Nat} {k : Int} {left : Lit → Bool} (h : ∀ kl, left kl = false) : clS g e k left = clN g e k := by
  unfold clS clN
  congr 1
  exact List.map_congr_left fun p _ => by simp [h]
theorem clS_start {g : NC} {e : Nat} {k : Int} {left : Lit → Bool} (h : ∀ p ∈ orderL e (e * e), left (lnk p.1 p.2) = false → g.L p.1 p.2 = []) : clS g e k left = 0 := by
  have h1 := sum_le (N := 0) (f := fun p : Int × Int => if p.2 = k ∧ left (lnk p.1 p.2) = false then (g.L p.1 p.2).length else 0) (orderL e (e * e)) (fun p hp => by
    split
    · rename_i hc
      rw [h p hp hc.2]
      exact Nat.le_refl _
    · exact Nat.le_refl _)
  unfold clS
  omega
theorem clS_le {w : World} {O : Ow} {n fm : Nat} {F : DataW Value} {g : NC} (h : NetX w O n fm F g) {e : Nat} (he : g.ends = (e : Int)) (k : Int) (left : Lit → Bool) : clS g e k left ≤ 800 := by
  have heb := h.endsb
  have h1 := sum_le (N := 32) (f := fun p : Int × Int => if p.2 = k ∧ left (lnk p.1 p.2) = false then (g.L p.1 p.2).length else 0) (orderL e (e * e)) (fun p _ => by
    split
    · exact h.2.2.2.2.2.2.2.2.2.1 p.1 p.2
    · omega)
  rw [orderL_len] at h1
  have hk25 : e * e ≤ 25 := Nat.le_trans (Nat.mul_le_mul (show e ≤ 5 by omega) (show e ≤ 5 by omega)) (by omega)
  unfold clS
  omega
theorem clS_step {g : NC} {e : Nat} (hg : g.ends = (e : Int)) (he5 : e ≤ 5) {k : Int} {left : Lit → Bool} {a b : Int} (hab : g.ok a b) (ha : (Lit.int .i64 a).wf = true) (hb : (Lit.int .i64 b).wf = true) (hl : left (lnk a b) = true) :
    clS g e k (fun z => left z && !z.sameKey (lnk a b)) = clS g e k left + if b = k then (g.L a b).length else 0 := by
  have he0 : 0 < e := by have := hab.1; have := hab.2.2.1; omega
  refine sum_one (x := (a, b)) (orderL e (e * e)) (orderL_nodup e (e * e) he0) (ord_mem hg hab) (fun p hp hne => ?_) ?_
  · obtain ⟨m, hm, rfl⟩ := List.mem_map.1 hp
    obtain ⟨_, w1, w2⟩ := ordAt_wf he5 (List.mem_range.1 hm)
    have : (lnk (ordAt e m).1 (ordAt e m).2).sameKey (lnk a b) = false := by
      rw [lnk_same ha hb w1 w2, decide_eq_false_iff_not]
      rintro ⟨e1, e2⟩
      exact hne (Prod.ext e1 e2)
    simp only [this, Bool.not_false, Bool.and_true]
  · simp only [lnk_same ha hb ha hb, and_self, decide_true, Bool.not_true, Bool.and_false, hl, Bool.true_eq_false, and_false, and_true, if_false, Nat.zero_add]
set_option maxRecDepth 100000 in
set_option maxHeartbeats 3200000 in
theorem clear_any (w : World) (O : Ow) (n fm : Nat) (F : DataW Value) (g : NC) (h : NetX w O n fm F g) (e : Nat) (he : g.ends = (e : Int)) (k : Int) (hk : (Lit.int .i64 k).wf = true) :
    Calls Try.prog 25 #[fptr n, .int .i64 k] w fun x w' => x = .returned (.int .i64 (clN g e k : Nat)) ∧ AfterO w w' O n (g.clr k) := by
  have heb := h.endsb
  have c1 := h.blk.cell 1
  have hm1 := h.2.2.2.1
  have hfmw := hm1.lt
  have hn5 : O n = some (-5, -5) := h.1
  have hf4 : O fm = some (-4, -4) := h.2.1
  have hnfm : n ≠ fm := fun e => by rw [e, hf4] at hn5; simp at hn5
  have hkeys := h.2.2.2.2.2.2.1
  have hlines := h.2.2.2.2.2.2.2.1
  go_enter Try.func25, Try.ntmps25
  go_wp2_with fail
  refine (none_at w O n fm F g h).mono ?_
  rintro x w1 ⟨rfl, rfl⟩
  go_wp2_with (at_range; refine wpList_rng _ _ law_l Try.underlying73 rfl rfl hm1 rfl ?_; intro w4 hr4 hx4 hs4)
  go_frame
  obtain ⟨r, hr⟩ : ∃ r, w.heap.size = r := ⟨_, rfl⟩
  have hs4' := Lib.hid hs4
  rw [hr] at hr4 ⊢
  clear hs4
  go_loopw [5] (fun gv wr => ∃ (left : Lit → Bool) (cnt : Nat) (D : DataW Value), gv = .int .i64 (clS g e k left : Nat) ∧ Ranging Try.prog wr 77 fm r D left cnt ∧ SizeOk D ∧ (∀ a b, g.ok a b → val D (lnk a b) = if b = k ∧ left (lnk a b) = false then none else val F (lnk a b)) ∧
    (∀ kl, Maps.has D kl = true → Maps.has F kl = true) ∧ (∀ kl, left kl = true → Maps.has F kl = true) ∧ Tu (fun b => b = fm) w wr) (fun _ wr => wr.rangeLeft fm r)
  case atStart =>
    refine ⟨_, _, F, ?_, hr4, h.2.2.2.2.2.1.2, fun a b hab => ?_, fun _ h => h, fun _ h => h, Tu.of_ext hx4⟩
    · suffices e0 : clS g e k (Maps.has F) = 0 by
        rw [e0]
        rfl
      refine clS_start fun p hp hl => ?_
      by_cases hab : g.ok p.1 p.2
      · rcases hlines _ _ hab with ⟨q1, q2⟩ | ⟨v, cs, q1, _⟩
        · exact q2
        · rw [hm1.has_iff, q1] at hl
          cases hl
      · exact h.2.2.2.2.2.2.2.2.1 _ _ hab
    · split
      · rename_i hc
        have := hc.2
        rw [hm1.has_iff] at this
        cases e1 : val F (lnk a b) with
        | none => rfl
        | some v => rw [e1] at this; cases this
      · rfl
  case round =>
    obtain ⟨left, cnt, D, rfl, hrg, hsz, hval, hsub, hleft, T⟩ := hrel
    go_wp2_with (at_next; refine wpList_nxt (fun x : Int × Int => lnv x.1 x.2) (fun key kl hkey => by obtain ⟨x, q, _⟩ := keyL_inv key kl hkey; exact ⟨x, q⟩) _ law_l r left cnt rfl rfl rfl hrg ?_ ?_)
    · intro hl0
      go_wp2_with fail
      go_ret
      rw [clS_all hl0]
      have md := hrg.map
      refine ⟨rfl, ⟨fm, D, hn5, hf4, h.blk.tu T hnfm, md, h.2.2.2.2.1, ⟨h.2.2.2.2.2.1.1, hsz⟩, fun kl hh => hkeys kl (hsub kl hh), fun a b hab => ?_, fun a b hab => ?_, fun a b => ?_, h.inn.ext T.size⟩, T.mono (fun b e => by rw [e, Owned, hf4]; rfl)⟩
      · have hv := hval a b hab
        rw [hv]
        by_cases hb : b = k
        · rw [if_pos ⟨hb, hl0 _⟩]
          exact .inl ⟨rfl, by simp [NC.clr, hb]⟩
        · rw [if_neg (fun e => hb e.1)]
          simp only [NC.clr, hb, if_false]
          exact (hlines a b hab).keep T.size (fun q hq eo => ⟨T.blk q hq (fun e => by rw [e, hf4] at eo; simp at eo; have := hab.1; omega), rfl⟩) (fun q hq eo => ⟨T.blk q hq (fun e => by rw [e, hf4] at eo; simp at eo), eo⟩)
      · have := h.2.2.2.2.2.2.2.2.1 a b hab
        simp only [NC.clr]
        split
        · rfl
        · exact this
      · simp only [NC.clr]
        split
        · simp
        · exact h.2.2.2.2.2.2.2.2.2.1 a b
    · intro a b v kl w3 cnt' hkey hlk hv hrg3 hlt hg3 hs3 hen
      obtain ⟨⟨a', b'⟩, ex, wa, wb⟩ := keyL_inv _ _ hkey
      simp only [Value.agg.injEq, Array.mk.injEq, List.cons.injEq, Value.int.injEq, true_and, and_true] at ex
      obtain ⟨rfl, rfl⟩ := ex
      rw [key_l wa wb] at hkey
      obtain rfl := Option.some.inj hkey
      obtain ⟨a2, b2, e2, hok⟩ := hkeys _ (hleft _ hlk)
      obtain ⟨wa2, wb2⟩ := ok_wf g heb.2 hok
      obtain ⟨rfl, rfl⟩ := lnk_inj wa wb wa2 wb2 e2
      clear e2 wa2 wb2 hkey
      have hvF := hval a b hok
      rw [if_neg (fun e => by rw [hlk] at e; cases e.2), hv] at hvF
      obtain ⟨A, c, rfl⟩ : ∃ A c, v = .slice A (g.L a b).length c := by
        rcases hlines a b hok with ⟨q1, q2⟩ | ⟨v', cs, q1, _, q3, _⟩
        · rw [q1] at hvF; cases hvF
        · rw [q1] at hvF
          obtain rfl := Option.some.inj hvF
          exact own_slice q3
      clear hvF
      have T3 : Tu (fun b => b = fm) w w3 := T.then_ (Tu.of_grown (S := fun b => b = r) hg3 (by rintro k e; cases e; rfl)) (fun q hq e => by omega)
      have hx3 := (Ext.refl w3).alloc (.cells #[.int .i64 a, .int .i64 b] 77)
      have b3 := Blk.new w3 77 #[.int .i64 a, .int .i64 b]
      have hr3 := hrg3.lt
      replace hs3 := Lib.hid hs3
      by_cases hb : b = k
      · subst hb
        have hcl := clS_le h he b left
        have hst := clS_step he (by omega) (k := b) hok wa wb hlk
        have hl32 := h.2.2.2.2.2.2.2.2.2.1 a b
        rw [if_pos rfl] at hst
        go_wp2_with fail
        obtain ⟨q, hq⟩ : ∃ q, w3.heap.size = q := ⟨_, rfl⟩
        rw [hq] at b3 ⊢
        generalize w3.alloc (.cells #[.int .i64 a, .int .i64 b] 77) = w5 at *
        have hxd := (Ext.refl w5).drew
        have hqf : q ≠ fm := fun e => by have := T3.size; omega
        have T5 : Tu (fun b => b = fm) w w5.drew := (T3.trans (Tu.of_ext hx3)).trans (Tu.of_ext hxd)
        refine wp_region_plan (Tu (fun b => b = fm)) [(0, true), (1, true), (2, true), (3, true), (4, true), (5, false)] (fun _ _ _ x y => (fun x y => Tu.trans x y) x y) (Tu.refl (fun b => b = fm)) (by kernel_rfl) (by kernel_rfl) ?_
        intro K hK
        have cn : ∀ y : Above (Tu (fun b => b = fm)) w5.drew, y.1.cell? ⟨n, 1, none⟩ = some (.map (some fm)) := fun y => (h.blk.tu (T5.trans y.2) hnfm).cell 1
        have c0 : ∀ y : Above (Tu (fun b => b = fm)) w5.drew, y.1.cell? ⟨q, 0, none⟩ = some (.int .i64 a) := fun y => ((b3.ext hxd).tu y.2 hqf).cell 0
        have c1 : ∀ y : Above (Tu (fun b => b = fm)) w5.drew, y.1.cell? ⟨q, 1, none⟩ = some (.int .i64 b) := fun y => ((b3.ext hxd).tu y.2 hqf).cell 1
        iterate 5 (
          refine plan_q (v := ?_) rfl rfl ?_ ?_
          rotate_left
          · intro x
            go_simp
            first | done | rfl
          simp only [Act.put, List.getElem_toArray, List.getElem_cons_zero, List.getElem_cons_succ, List.setIfInBounds_toArray, List.set_cons_zero, List.set_cons_succ])
        clear cn c0 c1
        have hx35 := hx3.trans hxd
        generalize w5.drew = w6 at *
        have hrg6 : Ranging Try.prog w6 77 fm r D _ cnt' := hrg3.keep (hx35.blk hrg3.map.lt) (hx35.blk hr3)
        refine plan_l rfl rfl ?_
        intro K2 hK2
        refine wp_one rfl ?_
        refine wpList_delete_ranges w6 rfl _ _ 73 77 rfl _ law_l Try.underlying73 anyR fm r _ D _ cnt' rfl hrg6 (lnv a b) (lnk a b) rfl (key_l wa wb) ?_
        intro w7 cnt2 hrg7 hle7 hmt
        have T7 : Tu (fun b => b = fm) w6 w7 := Tu.of_grown hmt.grown (by rintro k e; cases e; rfl)
        show K2 _ _
        refine hK2.out _ _ T7 ?_
        clear hK2 K2
        try simp only [Act.put, List.getElem_toArray, List.getElem_cons_zero, List.getElem_cons_succ, List.setIfInBounds_toArray, List.set_cons_zero, List.set_cons_succ]
        refine plan_end (hK.out _ _ ?_)
        clear hK K
        go_wp2_with fail
        have hll : (fun z => (left z && !z.sameKey (lnk a b)) && !z.sameKey (lnk a b)) = fun z => left z && !z.sameKey (lnk a b) := by
          funext z
          cases left z <;> cases z.sameKey (lnk a b) <;> rfl
        rw [hll] at hrg7
        have hrg7' : Ranging Try.prog w7 77 fm r (D.del (lnk a b)) (fun z => left z && !z.sameKey (lnk a b)) cnt2 := Ranging.of hrg7
        refine ⟨⟨_, cnt2, D.del (lnk a b), by rw [hst]; simp, hrg7', hsz.del hrg6.map wa wb, fun a2 b2 hab2 => ?_, fun kl hh => ?_, fun kl hh => hleft kl (by cases e1 : left kl <;> simp [e1] at hh ⊢), T5.trans T7⟩, ?_⟩
        · obtain ⟨w1, w2⟩ := ok_wf g heb.2 hab2
          rw [val_del D (kl := lnk a b) trivial, hval a2 b2 hab2, lnk_same wa wb w1 w2]
          by_cases e2 : a2 = a ∧ b2 = b
          · simp [e2]
          · simp [e2]
        · by_cases e2 : kl = lnk a b
          · rw [e2, has_del_same] at hh
            cases hh
          · rw [has_del_other e2] at hh
            exact hsub kl hh
        · rw [hrg3.left_eq, hrg.left_eq] at hlt
          rw [hrg7'.left_eq, hrg.left_eq]
          omega
      · have hst := clS_step he (by omega) (k := k) hok wa wb hlk
        rw [if_neg hb, Nat.add_zero] at hst
        have hbe : (b == k) = false := by simpa using hb
        have HB := Lib.hid hb
        clear hb
        go_wp2_with fail
        have hrg5 := hrg3.keep (w' := w3.alloc (.cells #[.int .i64 a, .int .i64 b] 77)) (hx3.blk hrg3.map.lt) (hx3.blk hr3)
        refine ⟨⟨_, cnt', D, by rw [hst], hrg5, hsz, fun a2 b2 hab2 => ?_, hsub, fun kl hh => hleft kl (by cases e1 : left kl <;> simp [e1] at hh ⊢), T3.trans (Tu.of_ext hx3)⟩, ?_⟩
        · obtain ⟨w1, w2⟩ := ok_wf g heb.2 hab2
          rw [hval a2 b2 hab2, lnk_same wa wb w1 w2]
          by_cases e2 : b2 = k
          · have e3 : ¬ (a2 = a ∧ b2 = b) := fun e => HB.out (e.2 ▸ e2)
            rw [decide_eq_false e3]
            simp
          · simp [e2]
        · rw [hrg3.left_eq, hrg.left_eq] at hlt
          rw [hrg5.left_eq, hrg.left_eq]
          exact hlt
