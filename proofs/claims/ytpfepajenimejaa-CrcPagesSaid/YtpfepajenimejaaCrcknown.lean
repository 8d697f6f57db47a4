/- The contract of known: it answers true. No conditions. -/
import Derived.Test.YtpfepajenimejaaRef
namespace Go.Proofs.Ytpfepajenimejaa
open Go.RowKit
set_option linter.unusedVariables false

theorem kn1 : more 0#32 (jn [[49, 50, 51, 52], [53, 54, 55, 56, 57]]) = 3808858755#32 := by decide +kernel
theorem kn2 : more (more 0#32 (jn [[49, 50, 51, 52, 53]])) [54, 55, 56, 57] = 3808858755#32 := by decide +kernel
theorem kn3 : ~~~ sts (8 * Int.toNat 4) (~~~ 0#32) = 1214729159#32 := by decide +kernel
theorem kn4 : ~~~ sts (8 * Int.toNat (-3)) (~~~ 7#32) = 7#32 := by decide +kernel
theorem kn5 : sts (8 * Int.toNat 0) 9#32 ^^^ 0#32 = 9#32 := by decide +kernel
theorem kn6 : more 0#32 [97] = 3251651376#32 := by decide +kernel

theorem heap_size_alloc (w : World) (o : Obj) : (w.alloc o).heap.size = w.heap.size + 1 := Array.size_push _
theorem kc_two (w : World) (o : Obj) (C : Array Value) (n c : Nat) : (convert 22 22 (.slice (some ⟨w.heap.size + 1, 0, none⟩) n c)).run Try.prog ((w.alloc o).alloc (.cells C 5)) = .ok (.slice (some ⟨w.heap.size + 1, 0, none⟩) n c) ((w.alloc o).alloc (.cells C 5 (C.size, C.size + 1))) := by
  have := Lib.run_convert_bytes_const (P := Try.prog) (w.alloc o) 22 5 C n c Try.underlying22 Try.underlying5
  rw [heap_size_alloc] at this
  exact this
theorem two_rows (w : World) (l k : List UInt8) (c d : Nat) (m1 m2 : Nat × Nat) : RdL (((w.alloc (.cells (bvs l).toArray 5 m1)).alloc (.cells (bvs k).toArray 5 m2)).alloc (.cells #[.slice (some ⟨w.heap.size, 0, none⟩) l.length c, .slice (some ⟨w.heap.size + 1, 0, none⟩) k.length d] 22)) (some ⟨w.heap.size + 1 + 1, 0, none⟩) 2 [l, k] := by
  have ra := ((Rd.newM w 5 l m1).low (Nat.zero_le _)).ext ((Ext.refl _).alloc (.cells (bvs k).toArray 5 m2))
  have rb := (Rd.newM (w.alloc (.cells (bvs l).toArray 5 m1)) 5 k m2).low (Nat.zero_le _)
  have rl := RdL.new2 22 _ _ _ _ c d _ _ ra rb
  simp only [heap_size_alloc] at rl
  exact rl
theorem one_row (w : World) (l : List UInt8) (c : Nat) (m1 : Nat × Nat) : RdL ((w.alloc (.cells (bvs l).toArray 5 m1)).alloc (.cells #[.slice (some ⟨w.heap.size, 0, none⟩) l.length c] 22)) (some ⟨w.heap.size + 1, 0, none⟩) 1 [l] := by
  have ra := ((Rd.newM w 5 l m1).low (Nat.zero_le _))
  have rl := RdL.new1 22 _ _ c _ ra
  simp only [heap_size_alloc] at rl
  exact rl
set_option maxRecDepth 100000 in
theorem known_any (w : World) :
    Calls Try.prog 7 #[] w fun e w' => e = .returned (.bool true) ∧ Ext w w' := by
  have kc := fun (w : World) (C : Array Value) (n c : Nat) => Lib.run_convert_bytes_const (P := Try.prog) w 22 5 C n c Try.underlying22 Try.underlying5
  have kc2 := kc_two
  go_enter Try.func7, Try.ntmps7
  go_wp2_with fail
  refine (sum_any none 0 0 [] _ ⟨rfl, .inl rfl⟩ (by decide) (by simp)).mono ?_
  rintro e w1 ⟨rfl, hx1⟩
  rw [show more 0#32 (jn []) = 0#32 by decide +kernel]
  go_wp2_with fail
  refine (sum_any _ 2 2 [[49, 50, 51, 52], [53, 54, 55, 56, 57]] _ (two_rows w1 [49, 50, 51, 52] [53, 54, 55, 56, 57] 4 5 (4, 5) (5, 6)) (by decide) (by simp)).mono ?_
  rw [kn1]
  rintro e w2 ⟨rfl, hx2⟩
  have hx2 := (((hx1.alloc _).alloc _).alloc _).trans hx2
  clear hx1
  go_wp2_with fail
  refine (sum_any _ 1 1 [[49, 50, 51, 52, 53]] _ (one_row w2 [49, 50, 51, 52, 53] 5 (5, 6)) (by decide) (by simp)).mono ?_
  rintro e w3 ⟨rfl, hx3⟩
  have hx3 := ((hx2.alloc _).alloc _).trans hx3
  clear hx2
  go_wp2_with fail
  refine (more_any _ _ 4 4 _ [54, 55, 56, 57] _ (Rd.newM w3 5 [54, 55, 56, 57] (4, 5)) (by decide)).mono ?_
  rw [kn2]
  rintro e w4 ⟨rfl, hx4⟩
  have hx4 := (hx3.alloc _).trans hx4
  clear hx3
  go_wp2_with fail
  refine (zeros_any 0#32 4 (by decide) _).mono ?_
  rw [kn3]
  rintro e w5 ⟨rfl, hx5⟩
  have hx5 := hx4.trans hx5
  clear hx4
  go_wp2_with fail
  refine (zeros_any 7#32 (-3) (by decide) _).mono ?_
  rw [kn4]
  rintro e w6 ⟨rfl, hx6⟩
  have hx6 := hx5.trans hx6
  clear hx5
  go_wp2_with fail
  refine (join_any 9#32 0#32 0 (by decide) _).mono ?_
  rw [kn5]
  rintro e w7 ⟨rfl, hx7⟩
  have hx7 := hx6.trans hx7
  clear hx6
  go_wp2_with fail
  refine (holds_any _ 1 1 [97] 3251651376#32 _ ((Rd.newM w7 5 [97] (1, 2)).low (Nat.zero_le _)) (by decide)).mono ?_
  rw [kn6]
  rintro e w8 ⟨rfl, hx8⟩
  have hx8 := (hx7.alloc _).trans hx8
  clear hx7
  go_wp2_with fail
  go_ret
  exact ⟨rfl, hx8⟩
end Go.Proofs.Ytpfepajenimejaa
