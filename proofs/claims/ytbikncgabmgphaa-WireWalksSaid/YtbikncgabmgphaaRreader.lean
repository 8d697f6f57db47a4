/- The contracts of the methods of the reference's reader. Conditions: as each theorem says. -/
import Derived.Test.YtbikncgabmgphaaReader
namespace Go.Proofs.Ytbikncgabmgphaa
open Go.RowKit
set_option linter.unusedVariables false

theorem rr_cells (A : Option Addr) (n c : Nat) (b : Bool) : ∀ (i : Nat) (y : Int), (#[Value.slice A n c, Value.bool b] : Array Value)[i]? ≠ some (Value.int .u8 y) := by
  intro i y h
  match i with
  | 0 => simp at h
  | 1 => simp at h
  | i + 2 => simp at h

theorem rleft_any (g lo : Nat) (st : Option (List UInt8)) (w : World) (h : Rr w lo g st) :
    Calls Try.prog 30 #[.pointer (some ⟨g, 0, none⟩)] w fun e w' => e = .returned (.int .i64 (rleft st : Nat)) ∧ w = w' := by
  rcases st with _ | l
  · have hb : Blk w g _ _ := h.2
    have h0 := hb.cell 0
    go_enter Try.func30, Try.ntmps30
    go_wp2_with fail
    go_ret
    exact ⟨rfl, rfl⟩
  · obtain ⟨hlo, A, n, c, hb, -, hr, -⟩ := h
    have h0 := hb.cell 0
    have hl := Lib.hid (show rleft (some l) = n from hr.len)
    go_enter Try.func30, Try.ntmps30
    go_wp2_with fail
    go_ret
    exact ⟨by rw [hl.out]; rfl, rfl⟩

theorem rend_any (g lo : Nat) (st : Option (List UInt8)) (w : World) (h : Rr w lo g st) :
    Calls Try.prog 32 #[.pointer (some ⟨g, 0, none⟩)] w fun e w' => e = .returned (.int .i64 (rend st : Nat)) ∧ w = w' := by
  rcases st with _ | l
  · have hb : Blk w g _ _ := h.2
    have h1 := hb.cell 1
    go_enter Try.func32, Try.ntmps32
    go_wp2_with fail
    go_ret
    exact ⟨rfl, rfl⟩
  · obtain ⟨hlo, A, n, c, hb, -, hr, -⟩ := h
    have h0 := hb.cell 0
    have h1 := hb.cell 1
    have hl := hr.len
    by_cases hz : n = 0
    · have hl := Lib.hid (show rend (some l) = 0 by simp [rend, hl, hz])
      have hz' : ¬ (0 : Int) < (n : Int) := by omega
      clear hz
      go_enter Try.func32, Try.ntmps32
      go_wp2_with fail
      go_ret
      exact ⟨by rw [hl.out]; rfl, rfl⟩
    · have hl := Lib.hid (show rend (some l) = 4 by simp [rend, hl, hz])
      have hz' : (0 : Int) < (n : Int) := by omega
      clear hz
      go_enter Try.func32, Try.ntmps32
      go_wp2_with fail
      go_ret
      exact ⟨by rw [hl.out]; rfl, rfl⟩

/-- what a step of the reference's reader leaves -/
def RrPost (w : World) (lo g : Nat) (x : List UInt8 × Option (List UInt8)) (e : Ending) (w' : World) : Prop :=
  ∃ A m c, e = .returned (.slice A m c) ∧ Rd w' lo A m x.1 ∧ Rr w' lo g x.2 ∧ w.grownBy w' (some g)

theorem rrbytes_any (g lo : Nat) (st : Option (List UInt8)) (n : Int) (w : World) (h : Rr w lo g st) :
    Calls Try.prog 45 #[.pointer (some ⟨g, 0, none⟩), .int .i64 n] w fun e w' =>
      RrPost w lo g (rbytes st n) e w' := by
  rcases st with _ | l
  · have hlo := h.1
    have hb : Blk w g _ _ := h.2
    have h0 := hb.cell 0
    have h1 := hb.cell 1
    have f0 := hb.free 0
    have f1 := hb.free 1
    go_enter Try.func45, Try.ntmps45
    go_wp2_with fail
    go_ret
    exact ⟨_, _, _, rfl, Rd.nil _ _ _, ⟨hlo, (hb.set_ 1 _).set_ 0 _⟩, grownBy_trans (setCell_grownBy _ _ _) (setCell_grownBy _ _ _)⟩
  · obtain ⟨hlo, A, m, c, hb, hmc, hr, hm⟩ := h
    have h0 := hb.cell 0
    have h1 := hb.cell 1
    have f0 := hb.free 0
    have f1 := hb.free 1
    have hl := hr.len
    by_cases hn0 : n < 0
    · have hs := Lib.hid (show rbytes (some l) n = ([], none) by simp [rbytes]; omega)
      clear hl
      go_enter Try.func45, Try.ntmps45
      go_wp2_with fail
      go_ret
      rw [hs.out]
      exact ⟨_, _, _, rfl, Rd.nil _ _ _, ⟨hlo, (hb.set_ 1 _).set_ 0 _⟩, grownBy_trans (setCell_grownBy _ _ _) (setCell_grownBy _ _ _)⟩
    · by_cases hn1 : (m : Int) < n
      · have hs := Lib.hid (show rbytes (some l) n = ([], none) by simp [rbytes]; omega)
        clear hl
        go_enter Try.func45, Try.ntmps45
        go_wp2_with fail
        go_ret
        rw [hs.out]
        exact ⟨_, _, _, rfl, Rd.nil _ _ _, ⟨hlo, (hb.set_ 1 _).set_ 0 _⟩, grownBy_trans (setCell_grownBy _ _ _) (setCell_grownBy _ _ _)⟩
      · obtain ⟨n, rfl⟩ := Int.eq_ofNat_of_zero_le (show 0 ≤ n by omega)
        have hs := Lib.hid (show rbytes (some l) n = (l.take n, some (l.drop n)) by simp [rbytes]; omega)
        have hnm : n ≤ m := by omega
        clear hl
        have hrd := hr.drop hnm hmc
        by_cases hc : c = n
        · subst hc
          obtain rfl : m = c := by omega
          rw [if_pos rfl] at hrd
          go_enter Try.func45, Try.ntmps45
          go_wp2_with fail
          go_ret
          rw [hs.out]
          have hg := setCell_grownBy w ⟨g, 0, none⟩ (.slice A (m - m) (m - m))
          rw [Nat.sub_self] at hrd hg
          exact ⟨_, _, _, rfl, (hr.take hnm).other hg hb (rr_cells _ _ _ _), ⟨hlo, A, 0, 0, hb.set_ 0 _, Nat.le_refl _, hrd.other hg hb (rr_cells _ _ _ _), by omega⟩, hg⟩
        · rw [if_neg hc] at hrd
          go_enter Try.func45, Try.ntmps45
          go_wp2_with fail
          go_ret
          rw [hs.out]
          have hg := setCell_grownBy w ⟨g, 0, none⟩ (.slice (Option.map (fun x => x.add n) A) (m - n) (c - n))
          exact ⟨_, _, _, rfl, (hr.take hnm).other hg hb (rr_cells _ _ _ _), ⟨hlo, _, _, _, hb.set_ 0 _, by omega, hrd.other hg hb (rr_cells _ _ _ _), by omega⟩, hg⟩

theorem Rr.drawn {w w' : World} {lo g : Nat} {st : Option (List UInt8)} (h : Rr w lo g st) (hd : Drawn w w') : Rr w' lo g st := by
  rcases st with _ | l
  · exact ⟨h.1, Blk.ext h.2 hd.ext⟩
  · obtain ⟨hlo, A, m, c, hb, hmc, hr, hm⟩ := h
    exact ⟨hlo, A, m, c, hb.ext hd.ext, hmc, hr.ext hd.ext, hm⟩
theorem rbytes_neg (st : Option (List UInt8)) : rbytes st (-1) = ([], none) := by
  rcases st with _ | l
  · rfl
  · simp [rbytes]

theorem rrnumber_any (g lo : Nat) (st : Option (List UInt8)) (n : Int) (w : World) (h : Rr w lo g st) :
    Calls Try.prog 43 #[.pointer (some ⟨g, 0, none⟩), .int .i64 n] w fun e w' =>
      e = .returned (.int .u64 ((rnumber st n).1 : Nat)) ∧ Rr w' lo g (rnumber st n).2 ∧ w.grownBy w' (some g) := by
  by_cases h1 : n < 1
  · have hR := Lib.hid (show rnumber st n = (0, none) by unfold rnumber; rw [if_neg (by omega)])
    rw [hR.out]
    go_enter Try.func43, Try.ntmps43
    go_wp2_with fail
    refine (rrbytes_any g lo st (-1) w h).mono ?_
    rw [rbytes_neg]
    rintro e w1 ⟨A, m, c, rfl, hr, hw, hg⟩
    go_wp2_with fail
    go_ret
    exact ⟨rfl, hw, hg⟩
  · by_cases h8 : 8 < n
    · have hR := Lib.hid (show rnumber st n = (0, none) by unfold rnumber; rw [if_neg (by omega)])
      rw [hR.out]
      go_enter Try.func43, Try.ntmps43
      go_wp2_with fail
      refine (rrbytes_any g lo st (-1) w h).mono ?_
      rw [rbytes_neg]
      rintro e w1 ⟨A, m, c, rfl, hr, hw, hg⟩
      go_wp2_with fail
      go_ret
      exact ⟨rfl, hw, hg⟩
    · have hR := Lib.hid (show rnumber st n = (bnum (rbytes st n).1, (rbytes st n).2) by unfold rnumber; rw [if_pos (by omega)])
      have hL : (rbytes st n).1.length ≤ 8 := by
        by_cases h2 : (rbytes st n).2 = none
        · rw [rbytes_none_len h2]; simp
        · obtain ⟨l', hl'⟩ := Option.ne_none_iff_exists'.1 h2
          have := rbytes_some_len hl'
          omega
      rw [hR.out]
      go_enter Try.func43, Try.ntmps43
      go_wp2_with fail
      refine (rrbytes_any g lo st n w h).mono ?_
      rintro e w1 ⟨A, m, c, rfl, hr, hw, hg⟩
      have hm := hr.len
      rw [hm] at hL
      clear hm
      go_wp2_with fail
      refine (rget_any A m c lo _ _ hr hL).mono ?_
      rintro e w2 ⟨rfl, hd⟩
      go_wp2_with fail
      go_ret
      exact ⟨rfl, hw.drawn hd, grownBy_trans hg (hd.ext.grownBy _)⟩

theorem rrblob_any (g lo : Nat) (st : Option (List UInt8)) (w : World) (h : Rr w lo g st) :
    Calls Try.prog 44 #[.pointer (some ⟨g, 0, none⟩)] w fun e w' =>
      RrPost w lo g (rblob st) e w' := by
  have hle := rnumber_two_le st
  have hR := Lib.hid (show rblob st = rbytes (rnumber st 2).2 ((rnumber st 2).1 : Nat) from rfl)
  rw [hR.out]
  go_enter Try.func44, Try.ntmps44
  go_wp2_with fail
  refine (rrnumber_any g lo st 2 w h).mono ?_
  rintro e w1 ⟨rfl, hw, hg⟩
  go_wp2_with fail
  refine (rrbytes_any g lo _ _ w1 hw).mono ?_
  rintro e w2 ⟨A, m, c, rfl, hr, hw2, hg2⟩
  go_wp2_with fail
  go_ret
  exact ⟨_, _, _, rfl, hr, hw2, grownBy_trans hg hg2⟩
end Go.Proofs.Ytbikncgabmgphaa
