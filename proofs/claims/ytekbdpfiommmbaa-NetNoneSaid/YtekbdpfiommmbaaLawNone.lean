/- NetNone answers true. No conditions. -/
import Derived.Test.YtekbdpfiommmbaaNknown
import Derived.Test.YtekbdpfiommmbaaFrame
namespace Go.Proofs.Ytekbdpfiommmbaa.lawNone
open Go.ChangeShapes Go.WideShapes Go.ChangeAt Go.RowKit Go.Maps Go.Shelf
open Go.ChangeMaps (open_string shut_string)
set_option linter.unusedVariables false
set_option linter.unusedSimpArgs false
attribute [local go_sem] Oper.semAt_some

theorem run_make_b {P : Program} {t e : TypeId} (hT : ByteTy P t e) (w : World) (L : Int) (n : Nat) (hL : L = (n : Int)) (hn : n ≤ 140737488355328) :
    ∃ w', (Instr.makeSlice t (.int .i64 L) (.int .i64 L)).run P w = .ok (.slice (some ⟨w.heap.size, 0, none⟩) n n) w' ∧ Rd w' 0 (some ⟨w.heap.size, 0, none⟩) n (List.replicate n 0) ∧ Ext w w' := by
  subst hL
  obtain ⟨i, hi, hz, hsz, hby⟩ := hT.hi
  obtain ⟨w', h1, h2, h3⟩ := run_make_full w w.heap.size t e i _ 1 hT.ht hi hz hsz .i64 .i64 n (by rw [hby]; omega) (by simp only [maxLen]; omega) (Nat.le_refl _)
  have e0 : (madeCells (Value.int .u8 0).cells (n * 1)).toList = bvs (List.replicate n 0) := by
    have := toList_madeCells_one (.int .u8 0) n
    rw [Nat.mul_one]
    simpa [bvs, Value.cells] using this
  rw [e0] at h2
  have hO : Own w' w.heap.size e (some ⟨w.heap.size, 0, none⟩) n n (List.replicate n 0) := h2
  exact ⟨w', h1, hO.rd.low (Nat.zero_le _), (Ext.refl w).grown h3 (by simp)⟩
def gn : NC := ⟨2, 0, fun _ _ => []⟩
theorem so_big (row : Row) (h : row.length = 1048577) : sendOut gn 1 2 row = (2, gn) := by rw [sendOut, if_pos (.inr (by omega))]
theorem so_fits (row : Row) (h : row.length = 1048576) : sendOut gn 1 2 row = (0, gn.put 1 2 [row]) := so_ok (by decide) (by omega) (by decide) rfl
theorem cnt_one (row : Row) : cntG (gn.put 1 2 [row]) 2 (2 * 2) = 1 := rfl
set_option maxRecDepth 100000 in
set_option maxHeartbeats 6400000 in
theorem walk (w : World) : Calls Try.prog 9 #[] w fun e w' => e = .returned (.bool true) ∧ Ext w w' := by
  have hx1 := (Ext.refl w).alloc (.cells #[.int .i64 0, .map none, .int .i64 0] 75)
  have bz := Blk.new w 75 #[.int .i64 0, .map none, .int .i64 0]
  go_enter Try.func9, Try.ntmps9
  go_wp2_with fail
  generalize w.alloc (.cells #[.int .i64 0, .map none, .int .i64 0] 75) = wz at *
  obtain ⟨zb, hzb⟩ : ∃ zb, w.heap.size = zb := ⟨_, rfl⟩
  rw [hzb] at bz ⊢
  clear hzb
  refine (nst_new wz 2 (by decide)).mono ?_
  rintro e w2 ⟨n, rfl, hS⟩
  rw [show (⟨2, 0, fun _ _ => []⟩ : NC) = gn from rfl] at hS
  go_wp2_with fail
  refine ((num_any _ 0)).mono ?_
  rintro e w1 ⟨rfl, rfl⟩
  obtain ⟨w3, hm1, r1, x1⟩ := run_make_b (P := Try.prog) bytes_ty w2 1048577 1048577 rfl (by omega)
  obtain ⟨row1, hrow1⟩ : ∃ row, List.replicate 1048577 (0 : UInt8) = row := ⟨_, rfl⟩
  have hl1 : row1.length = 1048577 := by rw [← hrow1, List.length_replicate]
  rw [hrow1] at r1
  clear hrow1
  go_wp2_with fail
  refine (nst_sendk (hS.ext x1) (so_big row1 hl1) (by decide) (by decide) hl1.symm r1 (by rw [hl1]; unfold maxLen; omega)).mono ?_
  rintro e w4 ⟨rfl, hS1⟩
  replace hS := hS1
  clear hm1 hS1 r1 x1 hl1 row1
  go_wp2_with fail
  refine (num_any _ 2).mono ?_
  rintro e w5 ⟨rfl, rfl⟩
  obtain ⟨w6, hm1, r1, x1⟩ := run_make_b (P := Try.prog) bytes_ty w4 1048576 1048576 rfl (by omega)
  obtain ⟨row1, hrow1⟩ : ∃ row, List.replicate 1048576 (0 : UInt8) = row := ⟨_, rfl⟩
  have hl1 : row1.length = 1048576 := by rw [← hrow1, List.length_replicate]
  rw [hrow1] at r1
  clear hrow1
  go_wp2_with fail
  refine (nst_sendk (hS.ext x1) (so_fits row1 hl1) (by decide) (by decide) hl1.symm r1 (by rw [hl1]; unfold maxLen; omega)).mono ?_
  rintro e w7 ⟨rfl, hS1⟩
  replace hS := hS1
  clear hm1 hS1 r1 x1
  go_wp2_with fail
  refine (num_any _ 0).mono ?_
  rintro e w8 ⟨rfl, rfl⟩
  go_wp2_with fail
  refine (nst_len hS 2 rfl).mono ?_
  rw [cnt_one]
  rintro e w8 ⟨rfl, hS1⟩
  replace hS := hS1
  clear hS1
  go_wp2_with fail
  have hx8 := hS.x
  clear hS
  go_loopw [5] (fun kv wr => ∃ k : Nat, k ≤ 2 ∧ kv = .int .i64 k ∧ Ext wz wr) (fun kv _ => 2 - (nOf kv).toNat)
  case atStart => exact ⟨0, by omega, rfl, hx8⟩
  case round =>
    obtain ⟨k, hk, rfl, hx⟩ := hrel
    rcases (show k = 0 ∨ k = 1 ∨ k = 2 by omega) with rfl | rfl | rfl
    · clear hk
      have hN : NoNet wr (.pointer none) := .inl rfl
      go_wp2_with fail
      refine (take_no _ (none) hN 0).mono ?_
      rintro e w9 ⟨rfl, hx9⟩
      replace hN := hN.ext hx9
      replace hx := hx.trans hx9
      clear hx9
      have xa := (Ext.refl w9).alloc (.cells #[.int .i64 0, .int .i64 0, .slice none 0 0] 51)
      replace hN := hN.ext xa
      replace hx := hx.trans xa
      clear xa
      go_wp2_with fail
      refine (at_no _ (none) hN (-1)).mono ?_
      rintro e w9 ⟨rfl, hx9⟩
      replace hN := hN.ext hx9
      replace hx := hx.trans hx9
      clear hx9
      have xa := (Ext.refl w9).alloc (.cells #[.int .i64 0, .int .i64 0, .slice none 0 0] 51)
      replace hN := hN.ext xa
      replace hx := hx.trans xa
      clear xa
      go_wp2_with fail
      refine (flights_no _ (none) hN 0).mono ?_
      rintro e w9 ⟨rfl, hx9⟩
      replace hN := hN.ext hx9
      replace hx := hx.trans hx9
      clear hx9
      go_wp2_with fail
      refine (num_any _ 1).mono ?_
      rintro e w9 ⟨rfl, rfl⟩
      go_wp2_with fail
      refine (num_any _ 1).mono ?_
      rintro e w9 ⟨rfl, rfl⟩
      go_wp2_with fail
      refine (send_no _ _ 1 2 (.slice none 0 0) hN).mono ?_
      rintro e w9 ⟨rfl, hx9⟩
      replace hN := hN.ext hx9
      replace hx := hx.trans hx9
      clear hx9
      go_wp2_with fail
      refine (num_any _ 1).mono ?_
      rintro e w9 ⟨rfl, rfl⟩
      go_wp2_with fail
      refine (drop_no _ (none) hN 0).mono ?_
      rintro e w9 ⟨rfl, hx9⟩
      replace hN := hN.ext hx9
      replace hx := hx.trans hx9
      clear hx9
      go_wp2_with fail
      refine (num_any _ 1).mono ?_
      rintro e w9 ⟨rfl, rfl⟩
      go_wp2_with fail
      refine (double_no _ (none) hN 0).mono ?_
      rintro e w9 ⟨rfl, hx9⟩
      replace hN := hN.ext hx9
      replace hx := hx.trans hx9
      clear hx9
      go_wp2_with fail
      refine (num_any _ 1).mono ?_
      rintro e w9 ⟨rfl, rfl⟩
      go_wp2_with fail
      refine (len_no _ (none) hN).mono ?_
      rintro e w9 ⟨rfl, hx9⟩
      replace hN := hN.ext hx9
      replace hx := hx.trans hx9
      clear hx9
      go_wp2_with fail
      refine (line_no _ _ (.int .i64 1) (.int .i64 2) hN).mono ?_
      rintro e w9 ⟨rfl, rfl⟩
      go_wp2_with fail
      refine (lost_no _ _ hN).mono ?_
      rintro e w9 ⟨rfl, rfl⟩
      go_wp2_with fail
      refine (clear_no _ (none) hN 1).mono ?_
      rintro e w9 ⟨rfl, hx9⟩
      replace hN := hN.ext hx9
      replace hx := hx.trans hx9
      clear hx9
      go_wp2_with fail
      refine (copy_no _ (none) hN).mono ?_
      rintro e w9 ⟨rfl, hx9⟩
      replace hN := hN.ext hx9
      replace hx := hx.trans hx9
      clear hx9
      go_wp2_with fail
      exact ⟨⟨1, by omega, rfl, hx⟩, by simp [nOf]⟩
    · clear hk
      have hN : NoNet wr (.pointer (some ⟨zb, 0, none⟩)) := .inr ⟨zb, rfl, (bz.ext hx).cell 0⟩
      go_wp2_with fail
      refine (take_no _ (some ⟨zb, 0, none⟩) hN 0).mono ?_
      rintro e w9 ⟨rfl, hx9⟩
      replace hN := hN.ext hx9
      replace hx := hx.trans hx9
      clear hx9
      have xa := (Ext.refl w9).alloc (.cells #[.int .i64 0, .int .i64 0, .slice none 0 0] 51)
      replace hN := hN.ext xa
      replace hx := hx.trans xa
      clear xa
      go_wp2_with fail
      refine (at_no _ (some ⟨zb, 0, none⟩) hN (-1)).mono ?_
      rintro e w9 ⟨rfl, hx9⟩
      replace hN := hN.ext hx9
      replace hx := hx.trans hx9
      clear hx9
      have xa := (Ext.refl w9).alloc (.cells #[.int .i64 0, .int .i64 0, .slice none 0 0] 51)
      replace hN := hN.ext xa
      replace hx := hx.trans xa
      clear xa
      go_wp2_with fail
      refine (flights_no _ (some ⟨zb, 0, none⟩) hN 0).mono ?_
      rintro e w9 ⟨rfl, hx9⟩
      replace hN := hN.ext hx9
      replace hx := hx.trans hx9
      clear hx9
      go_wp2_with fail
      refine (num_any _ 1).mono ?_
      rintro e w9 ⟨rfl, rfl⟩
      go_wp2_with fail
      refine (num_any _ 1).mono ?_
      rintro e w9 ⟨rfl, rfl⟩
      go_wp2_with fail
      refine (send_no _ _ 1 2 (.slice none 0 0) hN).mono ?_
      rintro e w9 ⟨rfl, hx9⟩
      replace hN := hN.ext hx9
      replace hx := hx.trans hx9
      clear hx9
      go_wp2_with fail
      refine (num_any _ 1).mono ?_
      rintro e w9 ⟨rfl, rfl⟩
      go_wp2_with fail
      refine (drop_no _ (some ⟨zb, 0, none⟩) hN 0).mono ?_
      rintro e w9 ⟨rfl, hx9⟩
      replace hN := hN.ext hx9
      replace hx := hx.trans hx9
      clear hx9
      go_wp2_with fail
      refine (num_any _ 1).mono ?_
      rintro e w9 ⟨rfl, rfl⟩
      go_wp2_with fail
      refine (double_no _ (some ⟨zb, 0, none⟩) hN 0).mono ?_
      rintro e w9 ⟨rfl, hx9⟩
      replace hN := hN.ext hx9
      replace hx := hx.trans hx9
      clear hx9
      go_wp2_with fail
      refine (num_any _ 1).mono ?_
      rintro e w9 ⟨rfl, rfl⟩
      go_wp2_with fail
      refine (len_no _ (some ⟨zb, 0, none⟩) hN).mono ?_
      rintro e w9 ⟨rfl, hx9⟩
      replace hN := hN.ext hx9
      replace hx := hx.trans hx9
      clear hx9
      go_wp2_with fail
      refine (line_no _ _ (.int .i64 1) (.int .i64 2) hN).mono ?_
      rintro e w9 ⟨rfl, rfl⟩
      go_wp2_with fail
      refine (lost_no _ _ hN).mono ?_
      rintro e w9 ⟨rfl, rfl⟩
      go_wp2_with fail
      refine (clear_no _ (some ⟨zb, 0, none⟩) hN 1).mono ?_
      rintro e w9 ⟨rfl, hx9⟩
      replace hN := hN.ext hx9
      replace hx := hx.trans hx9
      clear hx9
      go_wp2_with fail
      refine (copy_no _ (some ⟨zb, 0, none⟩) hN).mono ?_
      rintro e w9 ⟨rfl, hx9⟩
      replace hN := hN.ext hx9
      replace hx := hx.trans hx9
      clear hx9
      go_wp2_with fail
      exact ⟨⟨2, by omega, rfl, hx⟩, by simp [nOf]⟩
    · go_wp2_with fail
      refine (known_any _).mono ?_
      rintro e w9 ⟨rfl, hx9⟩
      go_wp2_with fail
      go_ret
      exact ⟨rfl, (hx1.trans hx).trans hx9⟩

set_option maxRecDepth 100000 in
theorem lifted (os : Os) (started : os.Started) (H : Type) (enc : TypeId × Value → H) :
    ReturnsInHanded {} Try.checked os 9 .any (Rows.netNoneSpec.pre6 enc Try.prog Try.f9 Rows.netNoneRow.domain false) (Rows.netNoneSpec.post enc Try.prog Try.f9 false true false false) := by
  refine returnsInHanded_of_change (C := Try.checked) own started (by kernel_rfl) Try.func9
    (ChangeSpec.witness6 (enc := enc) (C := Try.checked) false ⟨#[], #[], []⟩ 8 (by kernel_rfl) (by kernel_rfl) (by kernel_rfl) (by kernel_rfl)) ?_
  intro W base args ds gs before hval0 hW hcnd _
  have hval : ∀ (j : Nat) t v, Try.f9.params[j]? = some t → args[j]? = some v → Value.okWide Try.prog W .any base t v := hval0
  have hW' := hW
  obtain ⟨p, q, hA0, hV, rfl, hfz, hnd⟩ := hW
  have hA : DataW.TrodAll enc Try.prog W 0 (fun _ => true) true Try.f9.params.toList args.toList ds p := hA0
  rw [Try.params9] at hA hval
  obtain ⟨hargs, rfl, rfl⟩ := trodAll_nil hA
  obtain rfl : args = #[] := by cases args; simp_all
  obtain ⟨rfl, rfl⟩ := trodVars_none hV
  clear hA0 hval0
  refine (walk W ).mono fun e W' ⟨he, bel⟩ => ?_
  subst he
  exact ⟨_, rfl, _, _, _, [], _, [], hW', trodAll_mk1 (shut_bool Try.underlying4 _), trodAll_mk0, rfl, Below.frame bel _, fun h => by cases h⟩

theorem over_ : Rows.netNoneRow.holds Try.pinned (OpenSpec.ofChange Rows.netNoneSpec) :=
  OpenClaim.holds_of_wide 9 Try.f9 rfl rfl rfl rfl rfl rfl rfl ⟨rfl, rfl, rfl, rfl, rfl⟩ rfl rfl rfl rfl rfl (by kernel_rfl) Try.func9 (by kernel_rfl)
    (of_decide_eq_true (by kernel_rfl)) (by unfold Func.isWrapper; first | (rw [if_pos (by decide +kernel)]; kernel_rfl) | (rw [if_neg (by decide +kernel)]; exact ⟨rfl, rfl⟩))
    (fun os started H enc _ => lifted os started H enc)

theorem proved : Rows.NetNoneSaid := over_
end Go.Proofs.Ytekbdpfiommmbaa.lawNone
