/- WireBlobs answers true, whatever two rows of bytes it is given. No conditions. -/
import Derived.Test.YtbikncgabmgphaaKnown
import Derived.Test.YtbikncgabmgphaaFrame
import Derived.Test.YtbikncgabmgphaaPlan
namespace Go.Proofs.Ytbikncgabmgphaa.lawBlobs
open Go.ChangeShapes Go.WideShapes Go.ChangeAt Go.RowKit
open Go.ChangeMaps (open_string shut_string)
set_option linter.unusedVariables false
set_option linter.unusedSimpArgs false

theorem blob_drop (l : List UInt8) : (blob l).drop 2 = l := by
  unfold blob
  rw [List.drop_append, List.drop_eq_nil_of_le (by rw [beb_length]; exact Nat.le_refl _), beb_length]
  rfl
theorem blob_take (l : List UInt8) : (blob l).take 2 = beb l.length 2 := by
  unfold blob
  rw [List.take_append_of_le_length (by rw [beb_length]; exact Nat.le_refl _), List.take_of_length_le (by rw [beb_length]; exact Nat.le_refl _)]
/-- no blob is the beginning of another one -/
theorem blob_front (l k : List UInt8) (hl : l.length ≤ k.length) (hk : k.length ≤ 65535) : ((blob k).take (l.length + 2) == blob l) = (l == k) := by
  by_cases h : l = k
  · subst h
    rw [List.take_of_length_le (by rw [blob_length]; exact Nat.le_refl _)]
    simp
  · have h1 : (l == k) = false := by simpa using h
    rw [h1, beq_eq_false_iff_ne]
    intro e
    have e2 := congrArg (List.take 2) e
    rw [List.take_take, Nat.min_eq_left (by omega), blob_take, blob_take] at e2
    have e3 : k.length = l.length := by
      have := congrArg bnum e2
      rwa [bnum_beb _ _ (by omega), bnum_beb _ _ (by omega)] at this
    rw [List.take_of_length_le (by rw [blob_length]; omega)] at e
    exact h (by rw [← blob_drop l, ← e, blob_drop])

/-- what Blob answers, whatever the row -/
theorem blob_gen (A : Option Addr) (n c lo : Nat) (l : List UInt8) (w : World) (hr : Rd w lo A n l) :
    Calls Try.prog 18 #[.slice A n c] w fun e w' => ∃ A' m c' er, e = .returned (.tuple #[.slice A' m c', .int .i64 er]) ∧ Ext w w' := by
  by_cases h : n ≤ 65535
  · exact (blob_any A n c lo l w hr h).mono fun e w' ⟨A', c', h1, h2, h3⟩ => ⟨A', _, c', _, h1, h3⟩
  · exact (blob_not A n c w (by omega)).mono fun e w' ⟨h1, h2⟩ => ⟨_, _, _, _, h1, by rw [h2]; exact Ext.refl _⟩

/-- what Blob answers, whatever the row, and what it reads as -/
def Blobbed (w : World) (m : Nat) (k : List UInt8) (e : Ending) (w' : World) : Prop :=
  ∃ A' m' c' er, e = .returned (.tuple #[.slice A' m' c', .int .i64 er]) ∧ Ext w w' ∧ ((er = 3 ∧ m' = 0 ∧ 65535 < m) ∨ (er = 0 ∧ m' = m + 2 ∧ m ≤ 65535 ∧ Rd w' 0 A' (m + 2) (blob k) ∧ m + 2 ≤ c'))
theorem blob_two (A : Option Addr) (n c lo : Nat) (l : List UInt8) (w : World) (hr : Rd w lo A n l) :
    Calls Try.prog 18 #[.slice A n c] w fun e w' => Blobbed w n l e w' := by
  by_cases h : n ≤ 65535
  · exact (blob_cap A n c lo l w hr h).mono fun e w' ⟨A', c', h1, h2, h3, h4⟩ => ⟨A', _, c', _, h1, h3, .inr ⟨rfl, rfl, h, h2.low (Nat.zero_le _), h4⟩⟩
  · exact (blob_not A n c w (by omega)).mono fun e w' ⟨h1, h2⟩ => ⟨_, _, _, _, h1, by rw [h2]; exact Ext.refl _, .inl ⟨rfl, rfl, by omega⟩⟩
theorem wrap_two (n : Nat) (h : n ≤ 65535) : IntKind.i64.wrap ((n : Int) + 2) = (n : Int) + 2 := by
  rw [IntKind.wrap_i64]; omega
theorem wrap_u (n : Nat) (h : n ≤ 65535) : IntKind.u64.wrap (n : Int) = (n : Int) := by
  rw [IntKind.wrap_u64]; omega
theorem blob_rest {w : World} {lo c : Nat} {A : Option Addr} {n : Nat} {l : List UInt8} (h : Rd w lo A (n + 2) (blob l)) (hc : n + 2 ≤ c) : Rd w lo (if c = 2 then A else A.map fun x => { block := x.block, off := x.off + 2 }) n l := by
  have := h.drop (k := 2) (by omega) hc
  rwa [blob_drop, Nat.add_sub_cancel] at this

set_option maxRecDepth 100000 in
set_option maxHeartbeats 1600000 in
theorem walk (w : World) (A : Option Addr) (n c : Nat) (l : List UInt8) (hr : Rd w 0 A n l) (hc : n ≤ c) (B : Option Addr) (m d : Nat) (k : List UInt8) (ks : Rd w 0 B m k) (kc : m ≤ d) :
    Calls Try.prog 5 #[.slice A n c, .slice B m d] w fun e w' => e = .returned (.bool true) ∧ Ext w w' := by
  by_cases hA : 70000 < n
  · have hA' : (70000 : Int) < (n : Int) := by omega
    clear hA
    go_enter Try.func5, Try.ntmps5
    go_wp2_with fail
    refine (known_any _).mono ?_
    rintro e w4 ⟨rfl, hx4⟩
    go_wp2_with fail
    go_ret
    exact ⟨rfl, hx4⟩
  have hA' : ¬ (70000 : Int) < (n : Int) := by omega
  by_cases hB : 70000 < m
  · have hB' : (70000 : Int) < (m : Int) := by omega
    clear hA hB
    go_enter Try.func5, Try.ntmps5
    go_wp2_with fail
    refine (known_any _).mono ?_
    rintro e w4 ⟨rfl, hx4⟩
    go_wp2_with fail
    go_ret
    exact ⟨rfl, hx4⟩
  have hB' : ¬ (70000 : Int) < (m : Int) := by omega
  by_cases hn : 65535 < n
  · have hn' : (65535 : Int) < (n : Int) := by omega
    clear hA hB
    go_enter Try.func5, Try.ntmps5
    go_wp2_with fail
    refine (blob_not A n c _ hn).mono ?_
    rintro e w1 ⟨rfl, rfl⟩
    go_wp2_with fail
    refine (blob_gen B m d _ k _ ks).mono ?_
    rintro e w2 ⟨A2, m2, c2, er, rfl, hx2⟩
    go_wp2_with (go_at_call 13; refine (num_any _ _).mono ?_; rintro e w1 ⟨rfl, rfl⟩)
    refine (known_any _).mono ?_
    rintro e w4 ⟨rfl, hx4⟩
    go_wp2_with fail
    go_ret
    exact ⟨rfl, hx2.trans hx4⟩
  have hn' : ¬ (65535 : Int) < (n : Int) := by omega
  have hn2 : n ≤ 65535 := by omega
  clear hA hB hn
  go_enter Try.func5, Try.ntmps5
  go_wp2_with fail
  refine (blob_cap A n c _ l _ hr hn2).mono ?_
  rintro e w1 ⟨A1, c1, rfl, h1, hx1, hc1⟩
  go_wp2_with fail
  refine (blob_two B m d _ k _ (ks.ext hx1)).mono ?_
  rintro e w2 ⟨A2, m2, c2, er, rfl, hx2, hb2⟩
  go_wp2_with fail
  have r1 := (h1.low (Nat.zero_le _)).ext (hx2.trans (Ext.refl _).drew)
  have r0 := hr.ext ((hx1.trans hx2).trans (Ext.refl _).drew)
  have hs1 := later_string (R := Ext) (fun _ _ h => h) (blob_rest r1 hc1) (c1 - 2) Try.underlying23 Try.underlying5 Try.underlying9
  have hs2 := later_string (R := Ext) (fun _ _ h => h) r0 c Try.underlying23 Try.underlying5 Try.underlying9
  have hs3 := later_string (R := Ext) (fun _ _ h => h) r1 c1 Try.underlying23 Try.underlying5 Try.underlying9
  have h22 : (2 : Int) ≤ (n : Int) + 2 := by omega
  have h2c : (2 : Int) ≤ (c1 : Int) := by omega
  have hbn := Lib.hid (show (bnum ((blob l).take 2) : Int) = (n : Int) by rw [blob_take, bnum_beb _ _ (by rw [hr.len]; omega), hr.len])
  have hw3 : IntKind.u64.wrap (n : Int) = (n : Int) := wrap_u n (by omega)
  have hw2 : IntKind.i64.wrap ((n : Int) + 2) = (n : Int) + 2 := wrap_two n (by omega)
  refine wp_region_plan Ext [(0, true), (1, false), (2, true), (3, true), (4, true), (5, true), (6, true), (7, true), (8, true), (9, true), (10, true), (11, true), (12, true), (13, true), (14, true), (15, true), (16, true), (17, true), (18, true), (19, true), (20, true), (21, true), (23, true), (24, true), (25, true), (22, false), (26, true), (27, true), (28, true), (29, true), (30, true), (31, true), (32, false), (33, true), (34, true), (35, true)] (fun _ _ _ => Ext.trans) Ext.refl (by kernel_rfl) (by kernel_rfl) ?_
  intro K hK
  iterate 1 (
    refine plan_q (v := ?_) rfl rfl ?_ ?_
    rotate_left
    · intro x
      go_simp
      first | done | rfl
    simp only [Act.put, List.getElem_toArray, List.getElem_cons_zero, List.getElem_cons_succ, List.setIfInBounds_toArray, List.set_cons_zero, List.set_cons_succ])
  refine plan_l rfl rfl ?_
  intro K2 hK2
  go_simp
  refine (num_any _ _).mono ?_
  rintro e w3 ⟨rfl, rfl⟩
  go_simp
  refine hK2.out _ _ (Ext.refl _) ?_
  clear hK2 K2
  try simp only [Act.put, List.getElem_toArray, List.getElem_cons_zero, List.getElem_cons_succ, List.setIfInBounds_toArray, List.set_cons_zero, List.set_cons_succ]
  iterate 23 (
    refine plan_q (v := ?_) rfl rfl ?_ ?_
    rotate_left
    · intro x
      go_simp
      first | done | rfl
    simp only [Act.put, List.getElem_toArray, List.getElem_cons_zero, List.getElem_cons_succ, List.setIfInBounds_toArray, List.set_cons_zero, List.set_cons_succ])
  refine plan_l rfl rfl ?_
  intro K2 hK2
  go_simp
  refine (rget_any A1 2 c1 _ _ _ (r1.take (k := 2) (by omega)) (by omega)).mono ?_
  rintro e w3 ⟨rfl, hd3⟩
  rw [hbn.out]
  go_simp
  refine hK2.out _ _ hd3.ext ?_
  clear hK2 K2
  try simp only [Act.put, List.getElem_toArray, List.getElem_cons_zero, List.getElem_cons_succ, List.setIfInBounds_toArray, List.set_cons_zero, List.set_cons_succ]
  have r13 := r1.ext hd3.ext
  have r03 := r0.ext hd3.ext
  have hs4 := later_string (R := Ext) (fun _ _ h => h) r13 c1 Try.underlying23 Try.underlying5 Try.underlying9
  iterate 6 (
    refine plan_q (v := ?_) rfl rfl ?_ ?_
    rotate_left
    · intro x
      go_simp
      first | done | rfl
    simp only [Act.put, List.getElem_toArray, List.getElem_cons_zero, List.getElem_cons_succ, List.setIfInBounds_toArray, List.set_cons_zero, List.set_cons_succ])
  refine plan_l rfl rfl ?_
  intro K2 hK2
  go_simp
  refine (rblob_any A n c _ l _ r03 hn2).mono ?_
  rintro e w4 ⟨A4, c4, rfl, h4, hx4⟩
  go_simp
  refine hK2.out _ _ hx4 ?_
  clear hK2 K2
  try simp only [Act.put, List.getElem_toArray, List.getElem_cons_zero, List.getElem_cons_succ, List.setIfInBounds_toArray, List.set_cons_zero, List.set_cons_succ]
  have hs5 := later_string (R := Ext) (fun _ _ h => h) h4 c4 Try.underlying23 Try.underlying5 Try.underlying9
  iterate 3 (
    refine plan_q (v := ?_) rfl rfl ?_ ?_
    rotate_left
    · intro x
      go_simp
      first | done | rfl
    simp only [Act.put, List.getElem_toArray, List.getElem_cons_zero, List.getElem_cons_succ, List.setIfInBounds_toArray, List.set_cons_zero, List.set_cons_succ])
  refine plan_end (hK.out _ _ ?_)
  clear hK K
  have hx := (hx1.trans hx2).trans ((Ext.refl _).drew.trans (hd3.ext.trans hx4))
  clear hs1 hs2 hs3 hs4 hs5 h22 h2c hbn hw2 hw3
  generalize (if c1 = 2 then A1 else A1.map fun x => { block := x.block, off := x.off + 2 }) = Z
  rcases hb2 with ⟨rfl, rfl, hm⟩ | ⟨rfl, rfl, hm, hb, hbc⟩
  · go_wp2_with (go_at_call 13; refine (num_any _ _).mono ?_; rintro e w1 ⟨rfl, rfl⟩)
    refine (known_any _).mono ?_
    rintro e w5 ⟨rfl, hx5⟩
    go_wp2_with fail
    go_ret
    exact ⟨rfl, hx.trans hx5⟩
  · by_cases hmn : m < n
    · have hmn' : (m : Int) + 2 < (n : Int) + 2 := by omega
      clear hmn
      go_wp2_with (go_at_call 13; refine (num_any _ _).mono ?_; rintro e w1 ⟨rfl, rfl⟩)
      refine (known_any _).mono ?_
      rintro e w5 ⟨rfl, hx5⟩
      go_wp2_with fail
      go_ret
      exact ⟨rfl, hx.trans hx5⟩
    · have hmn' : ¬ (m : Int) + 2 < (n : Int) + 2 := by omega
      go_wp2_with (go_at_call 13; refine (num_any _ _).mono ?_; rintro e w1 ⟨rfl, rfl⟩)
      have ra := hr.ext (hx.trans (Ext.refl _).drew)
      have rb := ks.ext (hx.trans (Ext.refl _).drew)
      have rx := r13.ext (hx4.trans (Ext.refl _).drew)
      have ry := (hb.take (k := n + 2) (by omega)).ext ((Ext.refl _).drew.trans (hd3.ext.trans (hx4.trans (Ext.refl _).drew)))
      have hs1 := later_string (R := Ext) (fun _ _ h => h) ra c Try.underlying23 Try.underlying5 Try.underlying9
      have hs2 := later_string (R := Ext) (fun _ _ h => h) rb d Try.underlying23 Try.underlying5 Try.underlying9
      have hs3 := later_string (R := Ext) (fun _ _ h => h) rx c1 Try.underlying23 Try.underlying5 Try.underlying9
      have hs4 := later_string (R := Ext) (fun _ _ h => h) ry c2 Try.underlying23 Try.underlying5 Try.underlying9
      have htn : ((n : Int) + 2).toNat = n + 2 := by omega
      have hcap : (n : Int) + 2 ≤ (c2 : Int) := by omega
      have hq := blob_front l k (by rw [hr.len, ks.len]; omega) (by rw [ks.len]; exact hm)
      rw [hr.len] at hq
      refine wp_region_plan Ext [(0, true), (1, true), (2, true), (3, true), (4, true), (5, true), (6, true), (7, true), (8, true), (9, true), (10, true), (11, true), (12, true), (13, true), (14, true), (15, false), (16, true), (17, true)] (fun _ _ _ => Ext.trans) Ext.refl (by kernel_rfl) (by kernel_rfl) ?_
      intro K hK
      iterate 15 (
        refine plan_q (v := ?_) rfl rfl ?_ ?_
        rotate_left
        · intro x
          go_simp
          first | done | rfl
        simp only [Act.put, List.getElem_toArray, List.getElem_cons_zero, List.getElem_cons_succ, List.setIfInBounds_toArray, List.set_cons_zero, List.set_cons_succ])
      refine plan_l rfl rfl ?_
      intro K2 hK2
      go_simp
      refine (known_any _).mono ?_
      rintro e w5 ⟨rfl, hx5⟩
      go_simp
      refine hK2.out _ _ hx5 ?_
      clear hK2 K2
      try simp only [Act.put, List.getElem_toArray, List.getElem_cons_zero, List.getElem_cons_succ, List.setIfInBounds_toArray, List.set_cons_zero, List.set_cons_succ]
      iterate 2 (
        refine plan_q (v := ?_) rfl rfl ?_ ?_
        rotate_left
        · intro x
          go_simp
          first | done | rfl
        simp only [Act.put, List.getElem_toArray, List.getElem_cons_zero, List.getElem_cons_succ, List.setIfInBounds_toArray, List.set_cons_zero, List.set_cons_succ])
      refine plan_end (hK.out _ _ ?_)
      clear hK K
      go_wp2_with fail
      go_ret
      exact ⟨rfl, (hx.trans (Ext.refl _).drew).trans hx5⟩

set_option maxRecDepth 100000 in
theorem lifted (os : Os) (started : os.Started) (H : Type) (enc : TypeId × Value → H) :
    ReturnsInHanded {} Try.checked os 5 .any (Rows.wireBlobsSpec.pre6 enc Try.prog Try.f5 Rows.wireBlobsRow.domain false) (Rows.wireBlobsSpec.post enc Try.prog Try.f5 false true false false) := by
  refine returnsInHanded_of_change (C := Try.checked) own started (by kernel_rfl) Try.func5
    (ChangeSpec.witness6 (enc := enc) (C := Try.checked) false ⟨#[], #[.slice none 0 0, .slice none 0 0], []⟩ 8 (by kernel_rfl) (by kernel_rfl) (by kernel_rfl) (by kernel_rfl)) ?_
  intro W base args ds gs before hval0 hW hcnd _
  have hval : ∀ (j : Nat) t v, Try.f5.params[j]? = some t → args[j]? = some v → Value.okWide Try.prog W .any base t v := hval0
  have hW' := hW
  obtain ⟨p, q, hA0, hV, rfl, hfz, hnd⟩ := hW
  have hA : DataW.TrodAll enc Try.prog W 0 (fun _ => true) true Try.f5.params.toList args.toList ds p := hA0
  rw [Try.params5] at hA hval
  obtain ⟨v0, vs0, d0, ds0, p0, q0, hargs, rfl, rfl, h0, r0⟩ := trodAll_cons hA
  obtain ⟨v1, vs1, d1, ds1, p1, q1, rfl, rfl, rfl, h1, r1⟩ := trodAll_cons r0
  obtain ⟨rfl, rfl, rfl⟩ := trodAll_nil r1
  obtain rfl : args = #[v0, v1] := by cases args; simp_all
  obtain ⟨rfl, rfl⟩ := trodVars_none hV
  obtain ⟨a0, n0, c0, rfl⟩ := okWide_slice Try.underlying23 (hval 0 23 v0 rfl rfl)
  have k0 := h0
  have lt0 : ∀ x ∈ p0, x.block < W.heap.size := by obtain ⟨m, hm⟩ := k0; exact DataW.trod_lt m _ _ _ hm
  obtain ⟨l0, w0, y0⟩ := open_rd Try.underlying23 Try.underlying5 (by kernel_rfl) h0
  obtain ⟨a1, n1, c1, rfl⟩ := okWide_slice Try.underlying23 (hval 1 23 v1 rfl rfl)
  have k1 := h1
  have lt1 : ∀ x ∈ p1, x.block < W.heap.size := by obtain ⟨m, hm⟩ := k1; exact DataW.trod_lt m _ _ _ hm
  obtain ⟨l1, w1, y1⟩ := open_rd Try.underlying23 Try.underlying5 (by kernel_rfl) h1
  clear hA0 hval0
  refine (walk W a0 n0 c0 l0 w0 y0 a1 n1 c1 l1 w1 y1).mono fun e W' ⟨he, bel⟩ => ?_
  subst he
  exact ⟨_, rfl, _, _, _, [], _, [], hW', trodAll_mk1 (shut_bool Try.underlying4 _), (trodAll_cons_mk (Below.trod laidOut (by kernel_rfl) (of_decide_eq_true (by kernel_rfl)) k0 bel lt0) (trodAll_cons_mk (Below.trod laidOut (by kernel_rfl) (of_decide_eq_true (by kernel_rfl)) k1 bel lt1) trodAll_mk0)), rfl, Below.frame bel _, fun h => by cases h⟩

theorem over_ : Rows.wireBlobsRow.holds Try.pinned (OpenSpec.ofChange Rows.wireBlobsSpec) :=
  OpenClaim.holds_of_wide 5 Try.f5 rfl rfl rfl rfl rfl rfl rfl ⟨rfl, rfl, rfl, rfl, rfl⟩ rfl rfl rfl rfl rfl (by kernel_rfl) Try.func5 (by kernel_rfl)
    (of_decide_eq_true (by kernel_rfl)) (by unfold Func.isWrapper; first | (rw [if_pos (by decide +kernel)]; kernel_rfl) | (rw [if_neg (by decide +kernel)]; exact ⟨rfl, rfl⟩))
    (fun os started H enc _ => lifted os started H enc)

theorem proved : Rows.WireBlobsSaid := over_
end Go.Proofs.Ytbikncgabmgphaa.lawBlobs
