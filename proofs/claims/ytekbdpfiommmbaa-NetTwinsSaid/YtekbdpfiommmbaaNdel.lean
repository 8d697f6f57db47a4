/- slices.Delete of one element, of slices of slices of bytes. Conditions: told at it. -/
import Derived.Test.YtekbdpfiommmbaaNsend
import Derived.Lib.SlicesDelete
import Derived.Lib.SliceRun
import Derived.Deep.RegionLaw
namespace Go.Proofs.Ytekbdpfiommmbaa
open Go.RowKit Go.Maps Go.Lib
set_option linter.unusedVariables false
set_option linter.unusedSimpArgs false
attribute [local go_sem] Oper.semAt_some

theorem Blk.setL {g : Nat} {t : TypeId} : ∀ (vs : List Value) (o : Nat) (W : World) (cs : Array Value), Blk W g t cs → Blk (W.setCells g o vs) g t (lay cs o vs)
  | [], _, _, _, h => h
  | v :: r, o, W, cs, h => Blk.setL r (o + 1) _ _ (h.set_ o v)
theorem setL_tu {g : Nat} : ∀ (vs : List Value) (o : Nat) (W : World), Tu (fun k => k = g) W (W.setCells g o vs)
  | [], _, W => Tu.refl _ _
  | v :: r, o, W => (Tu.of_grown (setCell_grownBy _ _ _) (by rintro k e; cases e; rfl)).trans (setL_tu r (o + 1) _)
theorem wp_append_room {P : Program} {o : Oper} {a : Act} {w : World} {K : Act → World → Prop} {Q : Exit → Act → World → Prop}
    (hg : o.guard = none) (s x : Operand) (t : TypeId) (hop : o.op = Op.call { callee := Callee.builtin Builtin.append, args := #[s, x], argTypes := #[t, t] })
    (e : TypeId) (i : TypeInfo) (size : Nat) (h1 : P.underlying t = some (.slice e)) (h2 : P.info? e = some i) (h4 : i.size = size)
    (b off n cap : Nat) (hs : a.eval s = .slice (some ⟨b, off, none⟩) n cap)
    (ad : Addr) (m c : Nat) (news : List Value) (hx : a.eval x = .slice (some ad) m c) (hn : news.length = m * size) (hc : ∀ j u, news[j]? = some u → w.cell? (ad.add j) = some u) (h1c : ∀ u ∈ news, u.oneCell' = true)
    (hroom : n + m ≤ cap) (hspare : ∀ j, j < news.length → (w.cell? ⟨b, off + n * size + j, none⟩).isSome = true ∧ w.frozen? ⟨b, off + n * size + j, none⟩ = false)
    (hK : K (a.put o.dst (.slice (some ⟨b, off, none⟩) (n + m) cap)) (w.setCells b (off + n * size) news)) : o.wp P a w K Q := by
  have h := step_append_room (ops := #[]) (E := True) (Q := Q) hg s x t hop e i size h1 h2 h4 b off n cap hs ad m c news hx hn hc h1c hroom hspare hK
  rwa [if_pos (by simp [Region.wanted, hg])] at h
set_option maxRecDepth 100000 in
set_option maxHeartbeats 3200000 in
theorem del_any (w : World) (gb n cap i : Nat) (xs : List Value) (h : w.ownsRow 0 38 1 (.slice (some ⟨gb, 0, none⟩) n cap) n xs) (hi : i < n) (hn : n ≤ 1000) (h1c : ∀ u ∈ xs, u.oneCell' = true) :
    Calls Try.prog 50 #[.slice (some ⟨gb, 0, none⟩) n cap, .int .i64 i, .int .i64 ((i : Int) + 1)] w fun e w' => e = .returned (.slice (some ⟨gb, 0, none⟩) (n - 1) cap) ∧ w'.ownsRow 0 38 1 (.slice (some ⟨gb, 0, none⟩) (n - 1) cap) (n - 1) (xs.take i ++ xs.drop (i + 1)) ∧ Tu (fun k => k = gb) w w' := by
  obtain ⟨hxl, h2⟩ := h
  obtain ⟨cur, hb, hnc, hcm, hcs, htk⟩ : ∃ cur, Blk w gb 38 cur ∧ n ≤ cap ∧ cap ≤ maxLen ∧ cur.size = cap * 1 ∧ cur.toList.take (n * 1) = xs := by
    rcases h2 with ⟨q1, q2⟩ | ⟨g2, cap2, cur, q1, q2, q3, q4, q5, q6, q7⟩
    · cases q1
    · injection q1 with q1 _ q8
      injection q1 with q1
      injection q1 with q1
      subst q1 q8
      exact ⟨cur, q3, q4, q5, q6, q7⟩
  rw [Nat.mul_one] at hxl hcs htk
  unfold maxLen at hcm
  obtain ⟨m, rfl⟩ : ∃ m, n = i + 1 + m := ⟨n - (i + 1), by omega⟩
  have hxd := (Ext.refl w).drew
  have hbd := hb.ext hxd
  have hic : i ≤ cap := by omega
  have hjc : i + 1 ≤ cap := by omega
  go_enter Try.func50, Try.ntmps50
  go_wp2_with fail
  have hcs' : ∃ ad : Addr, (if cap = i + 1 then (some ⟨gb, 0, none⟩ : Option Addr) else some ⟨gb, i + 1, none⟩) = some ad ∧ (m = 0 ∨ ad = ⟨gb, i + 1, none⟩) := by
    by_cases h : cap = i + 1
    · exact ⟨_, by rw [if_pos h], .inl (by omega)⟩
    · exact ⟨_, by rw [if_neg h], .inr rfl⟩
  obtain ⟨ad, had, had2⟩ := hcs'
  have hlo : (0 : Int) ≤ (i : Int) + 1 ∧ (i : Int) + 1 ≤ (i : Int) + 1 + (m : Int) := by omega
  refine wp_region_plan (Tu (fun k => k = gb)) [(0, true), (1, true), (2, true), (3, true), (4, true), (5, true), (6, false), (7, true)] (fun _ _ _ x y => (fun x y => Tu.trans x y) x y) (Tu.refl (fun k => k = gb)) (by kernel_rfl) (by kernel_rfl) ?_
  intro K hK
  iterate 6 (
    refine plan_q (v := ?_) rfl rfl ?_ ?_
    rotate_left
    · intro x
      go_simp
      first | done | rfl
    simp only [Act.put, List.getElem_toArray, List.getElem_cons_zero, List.getElem_cons_succ, List.setIfInBounds_toArray, List.set_cons_zero, List.set_cons_succ])
  generalize w.drew = wd at *
  obtain ⟨i0, hi0, hz0, hz1, hz2⟩ := info_parts info_bs
  have hxsl : (xs.drop (i + 1)).length = m := by rw [List.length_drop]; omega
  have hget : ∀ j u, (xs.drop (i + 1))[j]? = some u → cur[i + 1 + j]? = some u := fun j u hu => by
    rw [List.getElem?_drop, ← htk, List.getElem?_take] at hu
    split at hu
    · rw [← hu]
      simp
    · cases hu
  refine plan_l rfl rfl ?_
  intro K2 hK2
  refine wp_append_room rfl _ _ 31 rfl 38 i0 1 Try.underlying31 hi0 hz1 gb 0 i cap rfl ad m (cap - (i + 1)) (xs.drop (i + 1)) rfl (by omega) ?_ (fun u hu => h1c u (List.mem_of_mem_drop hu)) (by omega) ?_ ?_
  · intro j u hu
    rcases had2 with e | e
    · have := (List.getElem?_eq_some_iff.1 hu).1
      omega
    · subst e
      have hadd : (⟨gb, i + 1, none⟩ : Addr).add j = ⟨gb, i + 1 + j, none⟩ := by unfold Addr.add; split <;> simp_all
      rw [hadd, hbd.cell]
      exact hget j u hu
  · intro j hj
    have hjj : 0 + i * 1 + j < cur.size := by omega
    rw [hbd.cell]
    exact ⟨by rw [Array.getElem?_eq_getElem hjj]; rfl, hbd.free _⟩
  have B1 := Blk.setL (xs.drop (i + 1)) (0 + i * 1) wd cur hbd
  have T1 := setL_tu (g := gb) (xs.drop (i + 1)) (0 + i * 1) wd
  refine hK2.out _ _ T1 ?_
  clear hK2 K2
  try simp only [Act.put, List.getElem_toArray, List.getElem_cons_zero, List.getElem_cons_succ, List.setIfInBounds_toArray, List.set_cons_zero, List.set_cons_succ]
  generalize wd.setCells gb (0 + i * 1) (xs.drop (i + 1)) = w5 at *
  iterate 1 (
    refine plan_q (v := ?_) rfl rfl ?_ ?_
    rotate_left
    · intro x
      go_simp
      first | done | rfl
    simp only [Act.put, List.getElem_toArray, List.getElem_cons_zero, List.getElem_cons_succ, List.setIfInBounds_toArray, List.set_cons_zero, List.set_cons_succ])
  refine plan_end (hK.out _ _ ?_)
  clear hK K
  have hcl := fun ty => run_clear_slice (P := Try.prog) w5 31 38 ty (.slice none 0 0) Try.underlying31 (fun w => Try.zeroValue38 w) rfl rfl gb (i + m) (i + 1 + m - (i + m)) (cap - (i + m)) (by omega) (fun j hj => by
    rw [B1.cell, Array.getElem?_eq_getElem (by rw [lay_size]; omega)]; rfl) (fun j hj => B1.free _)
  have hone : i + 1 + m - (i + m) = 1 := by omega
  simp only [hone, List.replicate_succ, List.replicate_zero] at hcl
  have B2 := Blk.setL [Value.slice none 0 0] (i + m) w5 _ B1
  have T2 := setL_tu (g := gb) [Value.slice none 0 0] (i + m) w5
  go_wp2_with fail
  generalize w5.setCells gb (i + m) [Value.slice none 0 0] = w6 at *
  go_ret
  have hs1 : (i + 1 + m - 1) = i + m := by omega
  rw [hs1]
  refine ⟨rfl, ⟨?_, .inr ⟨gb, cap, _, rfl, Nat.zero_le _, B2, by omega, by unfold maxLen; omega, by rw [lay_size, lay_size, hcs]; omega, ?_⟩⟩, ((Tu.of_ext hxd).trans T1).trans T2⟩
  · rw [List.length_append, List.length_take, hxsl]; omega
  · apply List.ext_getElem?
    intro j
    rw [Nat.mul_one, List.getElem?_take]
    split
    · rename_i hj
      rw [Array.getElem?_toList, lay_get? _ _ _ _ (by rw [lay_size, hcs]; simp; omega)]
      rw [if_neg (by simp; omega), lay_get? _ _ _ _ (by omega)]
      by_cases hji : j < i
      · rw [if_neg (by omega), List.getElem?_append_left (by rw [List.length_take]; omega), List.getElem?_take, if_pos hji, ← htk, List.getElem?_take, if_pos (by omega), Array.getElem?_toList]
      · rw [if_pos (by omega), List.getElem?_append_right (by rw [List.length_take]; omega), List.length_take, show min i xs.length = i by omega]
        simp
    · rename_i hj
      rw [List.getElem?_eq_none]
      rw [List.length_append, List.length_take, hxsl]
      omega
