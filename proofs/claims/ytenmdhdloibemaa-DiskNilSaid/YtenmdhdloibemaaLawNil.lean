/- DiskNil answers true. No conditions. -/
import Derived.Test.YtenmdhdloibemaaNils
import Derived.Test.YtenmdhdloibemaaFrame
namespace Go.Proofs.Ytenmdhdloibemaa.lawNil
open Go.ChangeShapes Go.WideShapes Go.ChangeAt Go.RowKit Go.Maps Go.Shelf
open Go.ChangeMaps (open_string shut_string)
set_option linter.unusedVariables false
set_option linter.unusedSimpArgs false
attribute [local go_sem] Oper.semAt_some


theorem name_eq (j : Nat) : Value.string (ByteArray.mk #[102] ++ ByteArray.mk #[97 + UInt8.ofNat (j / 26), 97 + UInt8.ofNat (j % 26)]) = nv (fname j) := by
  have e : ByteArray.mk #[102] ++ ByteArray.mk #[97 + UInt8.ofNat (j / 26), 97 + UInt8.ofNat (j % 26)] = ⟨(fname j).toArray⟩ := by
    apply ByteArray.ext
    simp [fname, UInt8.ofNat_add]
  rw [e]

set_option maxRecDepth 100000 in
set_option maxHeartbeats 6400000 in
theorem walk (w : World) : Calls Try.prog 4 #[] w fun e w' => e = .returned (.bool true) ∧ Ext w w' := by
  go_enter Try.func4, Try.ntmps4
  go_wp2_with fail
  refine (new_any w 1048576 (by decide)).mono ?_
  rintro e w1 ⟨hx0, ⟨_, _, d, O, rfl, ⟨fm, F, hX⟩, h0, _⟩ | ⟨h9, _⟩⟩
  rotate_left
  · exact absurd ⟨by decide, by decide⟩ h9
  have hS : St w w1 d (gl 0 (fnames 0) fun _ => FC.none_) [] := ⟨O, fm, F, hX, h0, hx0, fun q hq => by cases hq⟩
  clear hX h0 hx0
  go_wp2_with fail
  refine ((num_any _ 0)).mono ?_
  rintro e w1 ⟨rfl, rfl⟩
  go_wp2_with fail
  go_loopw [3] (fun i wr => ∃ (j : Nat) (k : Int), j ≤ 32 ∧ i = .int .i64 j ∧ St w wr d (gl k (fnames j) fun _ => FC.none_) []) (fun i _ => 32 - (nOf i).toNat)
  case atStart => exact ⟨0, 0, by omega, rfl, hS⟩
  case round =>
    obtain ⟨j, k, hj, rfl, hS⟩ := hrel
    by_cases hlt : j < 32
    · have hji : (j : Int) < 32 := by omega
      have rd := Rd.new2 wr 5 (97 + (j : Int) / 26) (97 + (j : Int) % 26) (by omega) (by omega) (by omega) (by omega)
      rw [show (97 + (j : Int) / 26).toNat = 97 + j / 26 by omega, show (97 + (j : Int) % 26).toNat = 97 + j % 26 by omega] at rd
      have hst := run_string rd 2 Try.underlying47 Try.underlying5 Try.underlying9
      have hxA := (Ext.refl wr).alloc (.cells #[.int .u8 (97 + (j : Int) / 26), .int .u8 (97 + (j : Int) % 26)] 5)
      go_wp2_with fail
      rw [name_eq j]
      have hSA := hS.ext hxA
      generalize wr.alloc (.cells #[.int .u8 (97 + (j : Int) / 26), .int .u8 (97 + (j : Int) % 26)] 5) = W2 at *
      refine (st_make hSA (gl_names _ _ _ (fnames_nodup j hj)) (fname j) (show 3 ≤ maxLen by decide) (gl_make _ _ _ (fname_ok j hlt) (fname_new j hlt) (by rw [fnames_len]; exact hlt))).mono ?_
      rw [← fnames_succ]
      rintro e w3 ⟨rfl, hS3⟩
      clear hst rd
      go_wp2_with fail
      refine ((num_any _ 0)).mono ?_
      rintro e w1 ⟨rfl, rfl⟩
      go_wp2_with fail
      exact ⟨⟨j + 1, _, by omega, by simp, hS3⟩, by simp [nOf]; omega⟩
    · obtain rfl : j = 32 := by omega
      go_wp2_with fail
      refine ((st_make hS (gl_names _ _ _ fnames_nodup32) one_ (by decide) (gl_full _ _ _ _ (by decide) (by decide) (fnames_len 32)))).mono ?_
      rintro e w1 ⟨rfl, hS1⟩
      replace hS := hS1
      clear hS1
      go_wp2_with fail
      refine ((num_any _ 5)).mono ?_
      rintro e w1 ⟨rfl, rfl⟩
      go_wp2_with fail
      refine ((st_rename hS [102, 97, 97] one_ (by decide) (by decide) (gl_rename _ _ _ _ (by decide) (by decide) (by decide) (by decide) fnames_nodup32))).mono ?_
      rintro e w1 ⟨rfl, hS1⟩
      replace hS := hS1
      clear hS1
      go_wp2_with fail
      refine ((num_any _ 0)).mono ?_
      rintro e w1 ⟨rfl, rfl⟩
      go_wp2_with fail
      refine ((full_any 1 _)).mono ?_
      rintro e w1 ⟨rfl, hx1⟩
      replace hS := hS.ext hx1
      clear hx1
      go_wp2_with fail
      refine ((st_write hS (gl_names _ _ _ l2_nodup) one_ (by decide) 65535 (by decide) (fsec 1) (fsec_len _) (by intro c e; simp only [gl] at e; split at e <;> cases e; decide) (gl_write _ _ _ _ _ (by decide) (by decide) (by decide) (by decide)))).mono ?_
      rintro e w1 ⟨rfl, hS1⟩
      replace hS := hS1
      clear hS1
      go_wp2_with fail
      refine ((num_any _ 0)).mono ?_
      rintro e w1 ⟨rfl, rfl⟩
      have hS' : ∃ k, St w w1 d (gl k l2 f2) [] := ⟨_, hS⟩
      obtain ⟨k', hS'⟩ := hS'
      replace hS := hS'
      clear hS'
      go_wp2_with fail
      refine (st_count hS one_ (by decide)).mono ?_
      rw [g2_count]
      rintro e w2 ⟨rfl, rfl⟩
      go_wp2_with fail
      refine (st_room hS (gl_names _ _ _ l2_nodup)).mono ?_
      rw [g2_total, show (gl k' l2 f2).cap - ((1 : Nat) : Int) = 1048575 from rfl]
      rintro e w2 ⟨rfl, hx2⟩
      replace hS := hS.ext hx2
      have hx3 := (Ext.refl w2).alloc (.cells #[.int .i64 0, .map none, .int .i64 0, .bool false, .int .i64 0] 53)
      have bN := Blk.new w2 53 #[.int .i64 0, .map none, .int .i64 0, .bool false, .int .i64 0]
      go_wp2_with fail
      replace hS := hS.ext hx3
      generalize w2.alloc (.cells #[.int .i64 0, .map none, .int .i64 0, .bool false, .int .i64 0] 53) = w3 at *
      have hN : NoDisk w3 (fptr w2.heap.size) := .inr ⟨_, rfl, bN.cell 0⟩
      generalize w2.heap.size = nb at *
      refine (st_nothing hS none (.inl rfl)).mono ?_
      rintro e w4 ⟨rfl, hx4⟩
      replace hS := hS.ext hx4
      replace hN := hN.ext hx4
      go_wp2_with fail
      refine (st_nothing hS _ hN).mono ?_
      rintro e w5 ⟨rfl, hx5⟩
      replace hS := hS.ext hx5
      replace hN := hN.ext hx5
      go_wp2_with fail
      refine (same_nn _ _ none hN (.inl rfl)).mono ?_
      rintro e w6 ⟨rfl, hx6⟩
      replace hS := hS.ext hx6
      go_wp2_with fail
      refine (known_any _).mono ?_
      rintro e w7 ⟨rfl, hx7⟩
      go_wp2_with fail
      go_ret
      exact ⟨rfl, hS.low.trans hx7⟩

set_option maxRecDepth 100000 in
theorem lifted (os : Os) (started : os.Started) (H : Type) (enc : TypeId × Value → H) :
    ReturnsInHanded {} Try.checked os 4 .any (Rows.diskNilSpec.pre6 enc Try.prog Try.f4 Rows.diskNilRow.domain false) (Rows.diskNilSpec.post enc Try.prog Try.f4 false true false false) := by
  refine returnsInHanded_of_change (C := Try.checked) own started (by kernel_rfl) Try.func4
    (ChangeSpec.witness6 (enc := enc) (C := Try.checked) false ⟨#[], #[], []⟩ 8 (by kernel_rfl) (by kernel_rfl) (by kernel_rfl) (by kernel_rfl)) ?_
  intro W base args ds gs before hval0 hW hcnd _
  have hval : ∀ (j : Nat) t v, Try.f4.params[j]? = some t → args[j]? = some v → Value.okWide Try.prog W .any base t v := hval0
  have hW' := hW
  obtain ⟨p, q, hA0, hV, rfl, hfz, hnd⟩ := hW
  have hA : DataW.TrodAll enc Try.prog W 0 (fun _ => true) true Try.f4.params.toList args.toList ds p := hA0
  rw [Try.params4] at hA hval
  obtain ⟨hargs, rfl, rfl⟩ := trodAll_nil hA
  obtain rfl : args = #[] := by cases args; simp_all
  obtain ⟨rfl, rfl⟩ := trodVars_none hV
  clear hA0 hval0
  refine (walk W ).mono fun e W' ⟨he, bel⟩ => ?_
  subst he
  exact ⟨_, rfl, _, _, _, [], _, [], hW', trodAll_mk1 (shut_bool Try.underlying4 _), trodAll_mk0, rfl, Below.frame bel _, fun h => by cases h⟩

theorem over_ : Rows.diskNilRow.holds Try.pinned (OpenSpec.ofChange Rows.diskNilSpec) :=
  OpenClaim.holds_of_wide 4 Try.f4 rfl rfl rfl rfl rfl rfl rfl ⟨rfl, rfl, rfl, rfl, rfl⟩ rfl rfl rfl rfl rfl (by kernel_rfl) Try.func4 (by kernel_rfl)
    (of_decide_eq_true (by kernel_rfl)) (by unfold Func.isWrapper; first | (rw [if_pos (by decide +kernel)]; kernel_rfl) | (rw [if_neg (by decide +kernel)]; exact ⟨rfl, rfl⟩))
    (fun os started H enc _ => lifted os started H enc)

theorem proved : Rows.DiskNilSaid := over_
end Go.Proofs.Ytenmdhdloibemaa.lawNil
