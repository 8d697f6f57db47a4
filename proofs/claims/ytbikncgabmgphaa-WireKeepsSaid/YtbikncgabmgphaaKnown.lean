/- The contract of known: it answers true. No conditions. -/
import Derived.Test.YtbikncgabmgphaaReader
namespace Go.Proofs.Ytbikncgabmgphaa
open Go.RowKit
set_option linter.unusedVariables false

theorem known_blob : rblob (some [0, 1, 7, 9]) = ([7], some [9]) := by decide
theorem known_number : rnumber (some [9]) 2 = (0, none) := by decide

theorem wr_ext {w0 w w' : World} {lo g : Nat} {st : Option (List UInt8)} (h : Wr w lo g st) (hx : Ext w0 w) (hg : w.grownBy w' (some g)) (hlo : w0.heap.size ≤ lo := by assumption) : Ext w0 w' :=
  hx.grown hg fun k hk => by cases hk; exact Nat.le_trans hlo h.1
theorem wr_rd {w w' : World} {lo lo' g : Nat} {st : Option (List UInt8)} (h : Wr w lo g st) {A : Option Addr} {n : Nat} {l : List UInt8} (hr : Rd w lo' A n l) (hg : w.grownBy w' (some g)) : Rd w' lo' A n l := by
  rcases st with _ | k
  · exact hr.other hg h.2 (wr_some_cells _ _ _ _ _ (by decide))
  · obtain ⟨_, B, m, c, hb, _⟩ := h
    exact hr.other hg hb (wr_some_cells _ _ _ _ _ (by decide))

set_option maxRecDepth 100000 in
theorem known_any (w : World) :
    Calls Try.prog 14 #[] w fun e w' => e = .returned (.bool true) ∧ Ext w w' := by
  have kc := fun (w : World) (C : Array Value) (n c : Nat) => Lib.run_convert_bytes_const (P := Try.prog) w 23 5 C n c Try.underlying23 Try.underlying5
  go_enter Try.func14, Try.ntmps14
  go_wp2_with fail
  refine (put_yes 258 2 _ (by decide) (by decide) (by decide)).mono ?_
  rw [show beb (Int.toNat 258) (Int.toNat 2) = [1, 2] by decide]
  rintro e w1 ⟨A1, c1, rfl, h1, hx1⟩
  go_wp2_with fail
  refine (put_not 256 1 _ (by decide)).mono ?_
  rintro e w2 ⟨rfl, rfl⟩
  go_wp2_with fail
  refine (blob_any _ 2 _ _ [97, 98] _ (Rd.newM w1 5 [97, 98] (2, 3)) (by decide)).mono ?_
  rw [show blob [97, 98] = [0, 2, 97, 98] by decide]
  rintro e w3 ⟨A3, c3, rfl, h3, hx3⟩
  have hx13 := ((Ext.refl w1).alloc (.cells (bvs [97, 98]).toArray 5 (2, 3))).trans hx3
  have h1 : Rd w1 w.heap.size A1 2 [1, 2] := h1
  have hs1 := run_string (h1.ext hx13) c1 Try.underlying23 Try.underlying5 Try.underlying9
  have hs3 := run_string h3 c3 Try.underlying23 Try.underlying5 Try.underlying9
  have hxa := hx1.trans hx13
  clear hx1 hx13 hx3
  go_wp2_with (go_at_call 13; refine (num_any _ _).mono ?_; rintro e w4 ⟨rfl, rfl⟩)
  refine (read_any _ 4 _ _ [0, 1, 7, 9] _ (Rd.new w3 5 [0, 1, 7, 9]) (by decide)).mono ?_
  rintro e w5 ⟨g, rfl, hr, hx5⟩
  have hlo : w.heap.size ≤ (w3.alloc (.cells (bvs [0, 1, 7, 9]).toArray 5)).heap.size := (hxa.alloc _).size
  have hxb := (hxa.alloc (.cells (bvs [0, 1, 7, 9]).toArray 5)).trans hx5
  clear hx5 hxa hs1 hs3
  go_wp2_with fail
  refine (rdblob_any g _ _ _ hr).mono ?_
  rw [known_blob]
  rintro e w6 ⟨A6, m6, c6, rfl, h6, hr6, hg6⟩
  obtain rfl : m6 = 1 := h6.len.symm
  have hx6 := wr_ext hr hxb hg6
  go_wp2_with fail
  refine (left_any g _ _ _ hr6).mono ?_
  rw [show rleft (some [9]) = 1 from rfl]
  rintro e w7 ⟨rfl, rfl⟩
  go_wp2_with fail
  refine (number_any g _ _ 2 _ hr6).mono ?_
  rw [known_number]
  rintro e w8 ⟨rfl, hr8, hg8⟩
  have hx8 := wr_ext hr6 hx6 hg8
  have h8 := wr_rd hr6 h6 hg8
  have hs8 := run_string h8 c6 Try.underlying23 Try.underlying5 Try.underlying9
  go_wp2_with fail
  refine (failed_any g _ _ _ hr8).mono ?_
  rintro e w9 ⟨rfl, rfl⟩
  go_wp2_with fail
  refine (left_any g _ _ _ hr8).mono ?_
  rw [show rleft none = 0 from rfl]
  rintro e w9 ⟨rfl, rfl⟩
  go_wp2_with fail
  refine (end_any g _ _ _ hr8).mono ?_
  rw [show rend none = 4 from rfl]
  rintro e w9 ⟨rfl, rfl⟩
  go_wp2_with (go_at_call 13; refine (num_any _ _).mono ?_; rintro e w9 ⟨rfl, rfl⟩)
  go_ret
  exact ⟨rfl, hx8⟩
end Go.Proofs.Ytbikncgabmgphaa
