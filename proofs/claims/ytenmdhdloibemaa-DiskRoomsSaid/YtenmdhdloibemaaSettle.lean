/- What a loss of power does to a file. Conditions: the file and the picks are in memory as told. -/
import Derived.Test.YtenmdhdloibemaaSync
import Derived.Test.YtenmdhdloibemaaInts
namespace Go.Proofs.Ytenmdhdloibemaa
open Go.RowKit Go.Maps Go.Sort
set_option linter.unusedVariables false
set_option linter.unusedSimpArgs false

theorem settl_snoc (c : FC) (x : Int) : ∀ (l picks : List Int) (f : Int → Option Sc), c.settl (l ++ [x]) picks f = ((fun m => if m = x then c.pick x ((c.settl l picks f).2.headD 0) else (c.settl l picks f).1 m), (c.settl l picks f).2.tail)
  | [], picks, f => rfl
  | n :: l, picks, f => settl_snoc c x l picks.tail _
theorem settl_off (c : FC) (m : Int) : ∀ (l picks : List Int) (f : Int → Option Sc), m ∉ l → (c.settl l picks f).1 m = f m
  | [], picks, f, _ => rfl
  | n :: l, picks, f, h => by
    simp only [List.mem_cons, not_or] at h
    rw [FC.settl, settl_off c m l _ _ h.2, if_neg h.1]
/-- what stands at a sector behind it: what lasted, or one of the writes -/
theorem settl_from (c : FC) (m : Int) : ∀ (l picks : List Int) (f : Int → Option Sc), (f m = c.lasts m ∨ ∃ s ∈ c.S m, f m = some s) → ((c.settl l picks f).1 m = c.lasts m ∨ ∃ s ∈ c.S m, (c.settl l picks f).1 m = some s)
  | [], picks, f, h => h
  | n :: l, picks, f, h => by
    refine settl_from c m l picks.tail _ ?_
    by_cases e : m = n
    · subst e
      simp only [if_pos]
      rw [FC.pick]
      split
      · exact .inl rfl
      · cases hs : (c.S m)[(max (picks.headD 0) 0).toNat % ((c.S m).length + 1) - 1]? with
        | none =>
          rename_i h2
          rw [List.getElem?_eq_none_iff] at hs
          have := Nat.mod_lt (max (picks.headD 0) 0).toNat (show 0 < (c.S m).length + 1 by omega)
          omega
        | some s => exact .inr ⟨s, List.mem_of_getElem? hs, rfl⟩
    · simp only [if_neg e]
      exact h
theorem settl_rest (c : FC) : ∀ (l picks : List Int) (f : Int → Option Sc), (c.settl l picks f).2 = picks.drop l.length
  | [], picks, f => rfl
  | n :: l, picks, f => by
    rw [FC.settl, settl_rest c l]
    cases picks <;> simp
theorem settl_some (c : FC) (l picks : List Int) (m : Int) (h : (c.lasts m).isSome = true) : ((c.settl l picks c.lasts).1 m).isSome = true := by
  rcases settl_from c m l picks c.lasts (.inl rfl) with e | ⟨s, _, e⟩
  · rw [e]; exact h
  · rw [e]; rfl
/-- the picked write's place -/
theorem pick_num (p : Int) (N : Nat) : Int.tmod (max p 0) ((N : Int) + 1) = (((max p 0).toNat % (N + 1) : Nat) : Int) := by
  obtain ⟨q, hq⟩ : ∃ q : Nat, max p 0 = (q : Int) := ⟨(max p 0).toNat, by omega⟩
  rw [hq, Int.toNat_natCast, Int.natCast_emod]
  exact Int.tmod_eq_emod_of_nonneg (by omega)

theorem sorted_open {w : World} {O : Ow} {fb sb : Nat} {DL DS : DataW Value} {c : FC} (m2 : MapOf Try.prog w 3 sb DS) (hL : LastsAt DL c) (hS : SinceAt w O fb DS c) {ss : List Int} (hp : ss.Perm (intKeys DS)) :
    c.Open (ss.mergeSort fun x y => decide (x ≤ y)) := by
  obtain ⟨k1, k2, k3⟩ := int_keys m2 law_i hS.2.2
  have hp2 : (ss.mergeSort fun x y => decide (x ≤ y)).Perm (intKeys DS) := (List.mergeSort_perm _ _).trans hp
  constructor
  · have h1 : (ss.mergeSort fun x y => decide (x ≤ y)).Pairwise (fun x y => decide (x ≤ y) = true) := List.pairwise_mergeSort (fun a b c => by simp; omega) (fun a b => by simp; omega) _
    have h2 : (ss.mergeSort fun x y => decide (x ≤ y)).Nodup := hp2.nodup_iff.2 (k1.imp fun h => by omega)
    refine (h1.and h2).imp fun {a b} h => ?_
    have := h.1
    have := h.2
    simp at *
    omega
  · intro n
    rw [hp2.mem_iff, k2, m2.has_iff]
    by_cases e : c.S n = []
    · rw [hS.1 n e]; simp [e]
    · obtain ⟨_, v, hv, _⟩ := hS.2.1 n e
      rw [hv]; simp [e]

theorem RdI.tuP {w w' : World} {S : Nat → Prop} {A : Option Addr} {n : Nat} {ps : List Int} (h : RdI w A n ps) (x : Tu S w w') (hn : 0 < n → ∀ a, A = some a → ¬ S a.block) : RdI w' A n ps :=
  ⟨h.1.keepP x.size (fun hp a e hb => x.blk _ hb (hn hp a e)), h.2⟩

/-- what settle leaves -/
def Settled (Z : Nat → Prop) (w w' : World) (O : Ow) (fb : Nat) (c : FC) (picks : List Int) (A' : Option Addr) (n' cap' : Nat) : Prop :=
  ∃ c' rest, FileAt w' O fb c' ∧ c.Settles picks c' rest ∧ RdI w' A' n' rest ∧ n' ≤ cap' ∧ (0 < n' → ∀ a, A' = some a → O a.block = none ∧ Z a.block) ∧ Tu (Of O fb) w w'

set_option maxRecDepth 100000 in
set_option maxHeartbeats 3200000 in
theorem settle_any (Z : Nat → Prop) (w : World) (O : Ow) (fb : Nat) (c : FC) (h : FileAt w O fb c) (hO : In O w) (A : Option Addr) (n cap : Nat) (picks : List Int) (hr : RdI w A n picks) (hc : n ≤ cap) (hA : 0 < n → ∀ a, A = some a → O a.block = none ∧ Z a.block) (hbig : ∀ m, (c.S m).length ≤ 1000000) :
    Calls Try.prog 32 #[fptr fb, .slice A n cap] w fun e w' => ∃ A' n' cap', e = .returned (.slice A' n' cap') ∧ Settled Z w w' O fb c picks A' n' cap' := by
  obtain ⟨lb, sb, hX⟩ := h.x
  obtain ⟨DL, DS, o1, o2, o3, b1, m1, m2, hL, hS, hf⟩ := id hX
  have c1 := b1.cell 1
  have hsz : Maps.size DS ≤ 65536 := by
    obtain ⟨k1, k2, k3⟩ := int_keys m2 law_i hS.2.2
    have := rising_len (intKeys DS) 0 65536 k1 (fun x hx => by
      have := (k2 x).1 hx
      have := since_pos hL hS x (fun e => by rw [m2.has_iff, hS.1 x e] at this; cases this)
      omega) (by omega)
    rw [k3] at this
    omega
  go_enter Try.func32, Try.ntmps32
  go_wp2_with fail
  refine (keys_I (some sb) w).mono ?_
  rintro e W ⟨rfl, rfl⟩
  go_wp2_with fail
  refine (sorted_I sb _ DS anyR w m2 (by unfold maxLen; omega) (by omega)).mono ?_
  rintro e w1 ⟨v, ss, rfl, hp, hown, hnil, hx1⟩
  have hopen := sorted_open m2 hL hS hp
  obtain ⟨ks, hks⟩ : ∃ ks, (ss.mergeSort fun x y => decide (x ≤ y)) = ks := ⟨_, rfl⟩
  have hlen : ss.length = ks.length := by rw [← hks, List.length_mergeSort]
  rw [hks] at hown hopen
  rw [hlen] at hown
  have hk65 : ks.length ≤ 65536 := by
    rw [← hlen, hp.length_eq, (int_keys m2 law_i hS.2.2).2.2]
    exact hsz
  clear hks hp hnil
  obtain ⟨B, kc, rfl⟩ : ∃ B kc, v = .slice B ks.length kc := by
    rcases hown.2 with ⟨h1, h2⟩ | ⟨g, kc, cur, h1, _⟩
    · exact ⟨none, 0, by rw [h1, h2]⟩
    · exact ⟨_, kc, h1⟩
  obtain ⟨hkr, hkc, hkm, hkb⟩ := RdV.of_own (vs := iv ks) hown
  clear hown
  have hxw : Ext w w1 := ((Ext.refl w).alloc _).trans hx1
  have hB : ∀ a, B = some a → 0 < ks.length → O a.block = none := by
    intro a e hpos
    cases h : O a.block with
    | none => rfl
    | some y =>
      have := hO a.block (by simp [Owned, h])
      have := hkb a e hpos
      omega
  go_simp
  go_wp2_with fail
  go_loopw [1, 16] (fun p i wr => ∃ k, k ≤ ks.length ∧ i = .int .i64 k ∧ (∃ A' n' cap', p = .slice A' n' cap' ∧ RdI wr A' n' (picks.drop k) ∧ n' ≤ cap' ∧ (0 < n' → ∀ a, A' = some a → O a.block = none ∧ Z a.block)) ∧ RdV wr B ks.length (iv ks) ∧
    FileX wr O fb lb sb ⟨(c.settl (ks.take k) picks c.lasts).1, c.cnt, c.S, c.fin⟩ ∧ Tu (Of O fb) w wr) (fun _ i _ => ks.length - (nOf i).toNat)
  case atStart => exact ⟨0, Nat.zero_le _, rfl, ⟨A, n, cap, rfl, by simpa using hr.ext hxw, hc, hA⟩, hkr, hX.ext hxw, Tu.of_ext hxw⟩
  case round =>
    obtain ⟨k, hk, rfl, ⟨A', n', cap', rfl, hr', hc', hA'⟩, hkr', hXr, hT⟩ := hrel
    by_cases hlt : k < ks.length
    · obtain ⟨x, hx⟩ : ∃ x, ks[k] = x := ⟨_, rfl⟩
      have hx0 : c.S x ≠ [] := (hopen.2 x).1 (by rw [← hx]; exact List.getElem_mem hlt)
      obtain ⟨q1, q2, q3⟩ := since_pos hL hS x hx0
      have hwf : (Lit.int .i64 x).wf = true := WalkArith.wf_i64 (by omega)
      obtain ⟨b, off, rfl, hb, hcell⟩ := hkr'.pos (by omega)
      have hck := hcell k (by simpa [iv] using hlt)
      have e1 : (iv ks)[k]'(by simpa [iv] using hlt) = .int .i64 x := by simp [iv, hx]
      rw [e1] at hck
      have hki : (k : Int) < (ks.length : Int) := by omega
      have c1r := hXr.blk.cell 1
      obtain ⟨p, hp⟩ : ∃ p, (picks.drop k).headD 0 = p := ⟨_, rfl⟩
      have hpwf : (Lit.int .i64 p).wf = true := by
        rw [← hp]
        cases e : picks.drop k with
        | nil => decide
        | cons a r => exact hr'.2 a (by rw [e]; simp)
      have hl' := hr'.len
      go_upto_if 22 with fail
      go_cut [1, 7] from 23 to 27 (fun pv q wc => ∃ A' n' cap', pv = .slice A' n' cap' ∧ q = .int .i64 p ∧ RdI wc A' n' (picks.drop (k + 1)) ∧ n' ≤ cap' ∧ (0 < n' → ∀ a, A' = some a → O a.block = none ∧ Z a.block) ∧ Ext wr wc)
      case first =>
        cases e : picks.drop k with
        | nil =>
          rw [e] at hp hr' hl'
          obtain rfl : n' = 0 := by simpa using hl'.symm
          go_wp2_with fail
          go_meet
          refine ⟨A', 0, cap', rfl, by rw [← hp]; rfl, ?_, hc', hA', Ext.refl _⟩
          have : picks.drop (k + 1) = [] := by rw [← List.drop_drop, e]; rfl
          rw [this]
          exact hr'
        | cons a r =>
          rw [e] at hp hr' hl'
          obtain rfl : a = p := hp
          obtain ⟨n2, rfl⟩ : ∃ n2, n' = n2 + 1 := ⟨n' - 1, by simp at hl'; omega⟩
          have hd := hr'.drop (k := 1) (cap := cap') (by omega) hc'
          obtain ⟨b2, off2, rfl, hb2, hcell2⟩ := hr'.pos (by omega)
          have hc0 := hcell2 0 (by simp)
          have hca : ∀ y : Above Ext wr.drew, y.1.cell? ⟨b2, off2, none⟩ = some (.int .i64 a) := fun y => (((Ext.refl wr).drew).trans y.2).cellSome hc0
          have hn0 : (0 : Int) < (n2 : Int) + 1 := by omega
          have hn1 : (1 : Int) ≤ (n2 : Int) + 1 := by omega
          go_wp2_with fail
          refine wp_region_plan Ext [(0, true), (1, true), (2, true), (3, true), (4, true), (5, true), (6, true)] (fun _ _ _ x y => (fun x y => Ext.trans x y) x y) Ext.refl (by kernel_rfl) (by kernel_rfl) ?_
          intro K hK
          obtain ⟨A3, hA3⟩ : ∃ A3 : Option Addr, (if cap' = 1 then some (⟨b2, off2, none⟩ : Addr) else some ⟨b2, off2 + 1, none⟩) = A3 := ⟨_, rfl⟩
          iterate 4 (
            refine plan_q (v := ?_) rfl rfl ?_ ?_
            rotate_left
            · intro x
              go_simp
              first | done | rfl
            simp only [Act.put, List.getElem_toArray, List.getElem_cons_zero, List.getElem_cons_succ, List.setIfInBounds_toArray, List.set_cons_zero, List.set_cons_succ])
          refine plan_q (v := .slice A3 n2 (cap' - 1)) rfl rfl ?_ ?_
          · intro x
            go_simp
          simp only [Act.put, List.getElem_toArray, List.getElem_cons_zero, List.getElem_cons_succ, List.setIfInBounds_toArray, List.set_cons_zero, List.set_cons_succ]
          iterate 2 (
            refine plan_q (v := ?_) rfl rfl ?_ ?_
            rotate_left
            · intro x
              go_simp
              first | done | rfl
            simp only [Act.put, List.getElem_toArray, List.getElem_cons_zero, List.getElem_cons_succ, List.setIfInBounds_toArray, List.set_cons_zero, List.set_cons_succ])
          refine plan_end (hK.out _ _ ?_)
          clear hK K
          go_wp2_with fail
          go_meet
          refine ⟨A3, n2, cap' - 1, rfl, rfl, ?_, by omega, ?_, (Ext.refl wr).drew⟩
          · have e2 : picks.drop (k + 1) = r := by rw [← List.drop_drop, e]; rfl
            rw [e2]
            have hd2 := hd.ext ((Ext.refl wr).drew)
            have e4 : (if cap' = 1 then some (⟨b2, off2, none⟩ : Addr) else (some (⟨b2, off2, none⟩ : Addr)).map (·.add 1)) = A3 := by
              rw [← hA3]
              rfl
            rw [e4] at hd2
            exact hd2
          · intro _ y hy
            have e3 : y.block = b2 := by
              rw [← hA3] at hy
              split at hy <;> cases hy <;> rfl
            rw [e3]
            exact hA' (by omega) ⟨b2, off2, none⟩ rfl
      case rest =>
        obtain ⟨A2, n2, cap2, rfl, rfl, hr2, hc2, hA2, hxc⟩ := hcut
        have hXc := hXr.ext hxc
        have hkc' := hkr'.ext hxc
        have hTc := hT.trans (Tu.of_ext hxc)
        have c1c := hXc.blk.cell 1
        obtain ⟨v0, hv, hcase⟩ := hXc.since hwf
        rcases hcase with ⟨e, _⟩ | ⟨_, _, hrow⟩
        · exact absurd e hx0
        obtain ⟨rb, rcap, rfl, ro, rown, rls⟩ := id hrow
        have hrow' : RowAt wc O fb x (.slice (some ⟨rb, 0, none⟩) (c.S x).length rcap) (c.S x) := hrow
        have hbnd := hrow'.bnd
        have hN := hbig x
        obtain ⟨N, hNe⟩ : ∃ N, (c.S x).length = N := ⟨_, rfl⟩
        have hpick := pick_num p N
        obtain ⟨idx, hidx⟩ : ∃ idx, (max p 0).toNat % (N + 1) = idx := ⟨_, rfl⟩
        have hidlt : idx < N + 1 := by rw [← hidx]; exact Nat.mod_lt _ (by omega)
        rw [hidx] at hpick
        have e2 : (⟨(c.settl (ks.take k) picks c.lasts).1, c.cnt, c.S, c.fin⟩ : FC).S x = c.S x := rfl
        rw [e2, hNe] at hv
        have htake : ks.take (k + 1) = ks.take k ++ [x] := by rw [List.take_add_one, List.getElem?_eq_getElem hlt, hx]; rfl
        have hsn := settl_snoc c x (ks.take k) picks c.lasts
        rw [← htake] at hsn
        have hrest : (c.settl (ks.take k) picks c.lasts).2 = picks.drop k := by rw [settl_rest, List.length_take, Nat.min_eq_left (by omega)]
        rw [hrest, hp] at hsn
        have hpk : c.pick x p = if idx = 0 then c.lasts x else (c.S x)[idx - 1]? := by rw [FC.pick, hNe, hidx]
        have hsome : (c.lasts x).isSome = true := (hS.2.1 x hx0).1
        have hnot : x ∉ ks.take k := by
          intro hm
          obtain ⟨j, hj, hje⟩ := List.getElem_of_mem hm
          have hjk : j < k := by simp at hj; omega
          have hje' : ks[j]'(by omega) = x := by rw [← hje]; simp
          have := List.pairwise_iff_getElem.1 hopen.1 j k (by omega) hlt hjk
          omega
        rcases Nat.eq_zero_or_pos idx with h0 | h0
        · subst h0
          go_wp2_with fail
          refine ⟨⟨k + 1, by omega, by go_num, ⟨_, _, _, rfl, hr2, hc2, hA2⟩, hkc', ?_, hTc⟩, by simp [nOf]; omega⟩
          have e3 : (fun m => if m = x then c.pick x p else (c.settl (ks.take k) picks c.lasts).1 m) = (c.settl (ks.take k) picks c.lasts).1 := by
            funext m
            by_cases e : m = x
            · subst e
              rw [if_pos rfl, hpk, if_pos rfl, settl_off c m _ _ _ hnot]
            · rw [if_neg e]
          rw [hsn, e3]
          exact hXc
        · obtain ⟨j, rfl⟩ : ∃ j, idx = j + 1 := ⟨idx - 1, by omega⟩
          obtain ⟨l, hl⟩ : ∃ l, (c.S x)[j]? = some l := ⟨_, List.getElem?_eq_getElem (by omega)⟩
          obtain ⟨hjl, hget⟩ := List.getElem?_eq_some_iff.1 hl
          have hl256 := rls l (by rw [← hget]; exact List.getElem_mem hjl)
          have hcl := hrow'.cell j hjl
          rw [hget] at hcl
          have hjN : (j : Int) < (N : Int) := by omega
          go_wp2_with (refine wpList_lsecAt rfl _ rfl rb (j * 256) rfl hcl hl256 ?_)
          refine (keep_any wc O fb lb sb _ x l hXc (hO.ext hTc.size) q1 q2 hl256).mono ?_
          rintro e w5 ⟨rfl, hX5, hT5⟩
          go_wp2_with fail
          have nO : ∀ a : Addr, O a.block = none → ¬ Lk O fb a.block := by
            rintro a h (e | e) <;> rw [h] at e <;> cases e
          refine ⟨⟨k + 1, by omega, by go_num, ⟨_, _, _, rfl, hr2.tuP hT5 (fun hn a e => nO a (hA2 hn a e).1), hc2, hA2⟩, hkc'.tu hT5 (fun a e => nO a (hB a e (by omega))), ?_, hTc.trans (hT5.mono (by rintro k (e | e) <;> exact ⟨_, e⟩))⟩, by simp [nOf]; omega⟩
          have e3 : (⟨(c.settl (ks.take k) picks c.lasts).1, c.cnt, c.S, c.fin⟩ : FC).keep x l = ⟨(c.settl (ks.take (k + 1)) picks c.lasts).1, c.cnt, c.S, c.fin⟩ := by
            rw [hsn]
            simp only [FC.keep, FC.mk.injEq, true_and]
            refine ⟨?_, ?_, by omega⟩
            · funext m
              by_cases e : m = x
              · subst e
                rw [if_pos rfl, if_pos rfl, hpk, if_neg (by omega), Nat.add_sub_cancel, hl]
              · rw [if_neg e, if_neg e]
            · rw [settl_off c x _ _ _ hnot, hsome]
              rfl
          rw [← e3]
          exact hX5
    · obtain rfl : k = ks.length := by omega
      have hm := hXr
      obtain ⟨DL', DS', p1, p2, p3, b2, n1, n2, hL2, hS2, hf2⟩ := hXr
      have c1r := b2.cell 1
      obtain ⟨w5, hclr, m5, g5⟩ := n2.clear Try.underlying70 0
      go_wp2_with fail
      go_ret
      have tC : Tu (fun b => b = sb) wr w5 := Tu.of_grown g5 (fun k e => by cases e; rfl)
      have nO : ∀ a : Addr, O a.block = none → a.block ≠ sb := fun a h e => by rw [e, o3] at h; cases h
      rw [List.take_length] at hL2
      refine ⟨_, _, _, rfl, ⟨(c.settl ks picks c.lasts).1, c.cnt, fun _ => [], c.fin⟩, _, FileX.at_ (lb := lb) (sb := sb) ⟨DL', _, p1, p2, p3, ?_, n1.tu tC (fun e => by rw [e, p3] at p2; simp at p2), m5, hL2, ⟨fun n _ => val_nil _, fun n hn => absurd rfl hn, fun kl hk => by simp [Maps.has] at hk⟩, hf⟩,
        ⟨ks, hopen, rfl, rfl⟩, ?_, hc', hA', hT.trans (tC.mono (by rintro k rfl; exact ⟨_, o3⟩))⟩
      · exact b2.tu tC (fun e => by rw [e, p3] at p1; simp at p1)
      · rw [settl_rest]
        exact hr'.tuP tC (fun hn a e => nO a (hA' hn a e).1)
end Go.Proofs.Ytenmdhdloibemaa
