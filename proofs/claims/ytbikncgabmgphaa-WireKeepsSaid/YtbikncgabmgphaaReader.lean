/- The contracts of the methods of both readers. Conditions: as each theorem says. -/
import Derived.Test.YtbikncgabmgphaaBlob
namespace Go.Proofs.Ytbikncgabmgphaa
open Go.RowKit
set_option linter.unusedVariables false

/-- A reader's state: what is ahead of it, or broken. -/
def rbytes (st : Option (List UInt8)) (n : Int) : List UInt8 × Option (List UInt8) :=
  match st with
  | none => ([], none)
  | some l => if 0 ≤ n ∧ n ≤ (l.length : Int) then (l.take n.toNat, some (l.drop n.toNat)) else ([], none)
def rnumber (st : Option (List UInt8)) (size : Int) : Nat × Option (List UInt8) :=
  if 1 ≤ size ∧ size ≤ 8 then (bnum (rbytes st size).1, (rbytes st size).2) else (0, none)
def rblob (st : Option (List UInt8)) : List UInt8 × Option (List UInt8) := rbytes (rnumber st 2).2 ((rnumber st 2).1 : Nat)

/-- wire's reader in block g -/
def Wr (w : World) (lo g : Nat) (st : Option (List UInt8)) : Prop :=
  lo ≤ g ∧ match st with
  | none => Blk w g 75 #[.slice none 0 0, .int .i64 2]
  | some l => ∃ A n c, Blk w g 75 #[.slice A n c, .int .i64 1] ∧ n ≤ c ∧ Rd w lo A n l ∧ n ≤ 1000000000
/-- the reference's reader in block g -/
def Rr (w : World) (lo g : Nat) (st : Option (List UInt8)) : Prop :=
  lo ≤ g ∧ match st with
  | none => Blk w g 51 #[.slice none 0 0, .bool true]
  | some l => ∃ A n c, Blk w g 51 #[.slice A n c, .bool false] ∧ n ≤ c ∧ Rd w lo A n l ∧ n ≤ 1000000000

theorem wr_some_cells (A : Option Addr) (n c : Nat) (k : IntKind) (x : Int) (hk : k ≠ .u8) : ∀ (i : Nat) (y : Int), (#[Value.slice A n c, Value.int k x] : Array Value)[i]? ≠ some (Value.int .u8 y) := by
  intro i y h
  match i with
  | 0 => simp at h
  | 1 => simp at h; exact hk h.1
  | i + 2 => simp at h

theorem failed_any (g lo : Nat) (st : Option (List UInt8)) (w : World) (h : Wr w lo g st) :
    Calls Try.prog 28 #[.pointer (some ⟨g, 0, none⟩)] w fun e w' => e = .returned (.bool st.isNone) ∧ w = w' := by
  rcases st with _ | l
  · have hb : Blk w g _ _ := h.2
    have h1 := hb.cell 1
    go_enter Try.func28, Try.ntmps28
    go_wp2_with fail
    go_ret
    exact ⟨rfl, rfl⟩
  · obtain ⟨-, A, n, c, hb, -⟩ := h
    have h1 := hb.cell 1
    go_enter Try.func28, Try.ntmps28
    go_wp2_with fail
    go_ret
    exact ⟨rfl, rfl⟩

theorem fail_any (g lo : Nat) (st : Option (List UInt8)) (w : World) (h : Wr w lo g st) :
    Calls Try.prog 46 #[.pointer (some ⟨g, 0, none⟩)] w fun e w' => e = .returned (.tuple #[]) ∧ Wr w' lo g none ∧ w.grownBy w' (some g) := by
  rcases st with _ | l
  · go_enter Try.func46, Try.ntmps46
    go_wp2_with fail
    refine (failed_any g lo none w h).mono ?_
    rintro e w1 ⟨rfl, rfl⟩
    go_wp2_with fail
    go_end0
    exact ⟨rfl, h, World.grownBy.refl w _⟩
  · have h' := h
    obtain ⟨hlo, A, n, c, hb, -⟩ := h
    have h0 := hb.cell 0
    have h1 := hb.cell 1
    have f0 := hb.free 0
    have f1 := hb.free 1
    go_enter Try.func46, Try.ntmps46
    go_wp2_with fail
    refine (failed_any g lo (some l) w h').mono ?_
    rintro e w1 ⟨rfl, rfl⟩
    go_wp2_with fail
    go_end0
    exact ⟨rfl, ⟨hlo, (hb.set_ 0 _).set_ 1 _⟩, grownBy_trans (setCell_grownBy _ _ _) (setCell_grownBy _ _ _)⟩

/-- how many are ahead -/
def rleft (st : Option (List UInt8)) : Nat := match st with | none => 0 | some l => l.length

theorem left_any (g lo : Nat) (st : Option (List UInt8)) (w : World) (h : Wr w lo g st) :
    Calls Try.prog 27 #[.pointer (some ⟨g, 0, none⟩)] w fun e w' => e = .returned (.int .i64 (rleft st : Nat)) ∧ w = w' := by
  rcases st with _ | l
  · go_enter Try.func27, Try.ntmps27
    go_wp2_with fail
    refine (failed_any g lo none w h).mono ?_
    rintro e w1 ⟨rfl, rfl⟩
    go_wp2_with fail
    go_ret
    exact ⟨rfl, rfl⟩
  · have h' := h
    obtain ⟨hlo, A, n, c, hb, -, hr, -⟩ := h
    have h0 := hb.cell 0
    have hl := Lib.hid (show rleft (some l) = n from hr.len)
    go_enter Try.func27, Try.ntmps27
    go_wp2_with fail
    refine (failed_any g lo (some l) w h').mono ?_
    rintro e w1 ⟨rfl, rfl⟩
    go_wp2_with fail
    go_ret
    exact ⟨by rw [hl.out]; rfl, rfl⟩

/-- what End answers -/
def rend (st : Option (List UInt8)) : Nat := match st with | none => 4 | some l => if l.length = 0 then 0 else 4

theorem end_any (g lo : Nat) (st : Option (List UInt8)) (w : World) (h : Wr w lo g st) :
    Calls Try.prog 31 #[.pointer (some ⟨g, 0, none⟩)] w fun e w' => e = .returned (.int .i64 (rend st : Nat)) ∧ w = w' := by
  rcases st with _ | l
  · have hb : Blk w g _ _ := h.2
    have h1 := hb.cell 1
    go_enter Try.func31, Try.ntmps31
    go_wp2_with fail
    refine (failed_any g lo none w h).mono ?_
    rintro e w1 ⟨rfl, rfl⟩
    go_wp2_with fail
    go_ret
    exact ⟨rfl, rfl⟩
  · have h' := h
    obtain ⟨hlo, A, n, c, hb, -, hr, -⟩ := h
    have h1 := hb.cell 1
    by_cases hz : l.length = 0
    · have hl := Lib.hid (show rend (some l) = 0 by simp [rend, hz])
      have hz' : ¬ (0 : Int) < ((rleft (some l) : Nat) : Int) := by simp [rleft, hz]
      clear hz
      go_enter Try.func31, Try.ntmps31
      go_wp2_with fail
      refine (failed_any g lo (some l) w h').mono ?_
      rintro e w1 ⟨rfl, rfl⟩
      go_wp2_with fail
      refine (left_any g lo (some l) w h').mono ?_
      rintro e w1 ⟨rfl, rfl⟩
      go_wp2_with fail
      go_ret
      exact ⟨by rw [hl.out]; rfl, rfl⟩
    · have hl := Lib.hid (show rend (some l) = 4 by simp [rend, hz])
      have hz' : (0 : Int) < ((rleft (some l) : Nat) : Int) := by simp only [rleft]; omega
      clear hz
      go_enter Try.func31, Try.ntmps31
      go_wp2_with fail
      refine (failed_any g lo (some l) w h').mono ?_
      rintro e w1 ⟨rfl, rfl⟩
      go_wp2_with fail
      refine (left_any g lo (some l) w h').mono ?_
      rintro e w1 ⟨rfl, rfl⟩
      go_wp2_with fail
      go_ret
      exact ⟨by rw [hl.out]; rfl, rfl⟩

theorem bytes_any (g lo : Nat) (st : Option (List UInt8)) (n : Int) (w : World) (h : Wr w lo g st) :
    Calls Try.prog 33 #[.pointer (some ⟨g, 0, none⟩), .int .i64 n] w fun e w' =>
      ∃ A m c, e = .returned (.slice A m c) ∧ Rd w' lo A m (rbytes st n).1 ∧ Wr w' lo g (rbytes st n).2 ∧ w.grownBy w' (some g) := by
  rcases st with _ | l
  · go_enter Try.func33, Try.ntmps33
    go_wp2_with fail
    refine (failed_any g lo none w h).mono ?_
    rintro e w1 ⟨rfl, rfl⟩
    go_wp2_with fail
    refine (fail_any g lo none w h).mono ?_
    rintro e w1 ⟨rfl, h2, hg⟩
    go_wp2_with fail
    go_ret
    exact ⟨_, _, _, rfl, Rd.nil _ _ _, h2, hg⟩
  · have h' := h
    obtain ⟨hlo, A, m, c, hb, hmc, hr, hm⟩ := h
    have h0 := hb.cell 0
    have f0 := hb.free 0
    have hl := hr.len
    by_cases hn0 : n < 0
    · have hs := Lib.hid (show rbytes (some l) n = ([], none) by simp [rbytes]; omega)
      clear hl
      go_enter Try.func33, Try.ntmps33
      go_wp2_with fail
      refine (failed_any g lo (some l) w h').mono ?_
      rintro e w1 ⟨rfl, rfl⟩
      go_wp2_with fail
      refine (fail_any g lo (some l) w h').mono ?_
      rintro e w1 ⟨rfl, h2, hg⟩
      go_wp2_with fail
      go_ret
      rw [hs.out]
      exact ⟨_, _, _, rfl, Rd.nil _ _ _, h2, hg⟩
    · by_cases hn1 : (m : Int) < n
      · have hs := Lib.hid (show rbytes (some l) n = ([], none) by simp [rbytes]; omega)
        clear hl
        go_enter Try.func33, Try.ntmps33
        go_wp2_with fail
        refine (failed_any g lo (some l) w h').mono ?_
        rintro e w1 ⟨rfl, rfl⟩
        go_wp2_with fail
        refine (fail_any g lo (some l) w h').mono ?_
        rintro e w1 ⟨rfl, h2, hg⟩
        go_wp2_with fail
        go_ret
        rw [hs.out]
        exact ⟨_, _, _, rfl, Rd.nil _ _ _, h2, hg⟩
      · obtain ⟨n, rfl⟩ := Int.eq_ofNat_of_zero_le (show 0 ≤ n by omega)
        have hs := Lib.hid (show rbytes (some l) n = (l.take n, some (l.drop n)) by simp [rbytes]; omega)
        have hnm : n ≤ m := by omega
        have hrd := hr.drop hnm hmc
        by_cases hc : c = n
        · subst hc
          obtain rfl : m = c := by omega
          rw [if_pos rfl] at hrd
          clear hl
          go_enter Try.func33, Try.ntmps33
          go_wp2_with fail
          refine (failed_any g lo (some l) w h').mono ?_
          rintro e w1 ⟨rfl, rfl⟩
          go_wp2_with fail
          go_ret
          rw [hs.out]
          have hg := setCell_grownBy w ⟨g, 0, none⟩ (.slice A (m - m) (m - m))
          rw [Nat.sub_self] at hrd hg
          exact ⟨_, _, _, rfl, (hr.take hnm).other hg hb (wr_some_cells _ _ _ _ _ (by decide)), ⟨hlo, A, 0, 0, hb.set_ 0 _, Nat.le_refl _, hrd.other hg hb (wr_some_cells _ _ _ _ _ (by decide)), by omega⟩, hg⟩
        · rw [if_neg hc] at hrd
          clear hl
          go_enter Try.func33, Try.ntmps33
          go_wp2_with fail
          refine (failed_any g lo (some l) w h').mono ?_
          rintro e w1 ⟨rfl, rfl⟩
          go_wp2_with fail
          go_ret
          rw [hs.out]
          have hg := setCell_grownBy w ⟨g, 0, none⟩ (.slice (Option.map (fun x => x.add n) A) (m - n) (c - n))
          exact ⟨_, _, _, rfl, (hr.take hnm).other hg hb (wr_some_cells _ _ _ _ _ (by decide)), ⟨hlo, _, _, _, hb.set_ 0 _, by omega, hrd.other hg hb (wr_some_cells _ _ _ _ _ (by decide)), by omega⟩, hg⟩
theorem rbytes_none_len {st : Option (List UInt8)} {n : Int} (h : (rbytes st n).2 = none) : (rbytes st n).1 = [] := by
  unfold rbytes at *
  split at h
  · rfl
  · split at h
    · cases h
    · split
      · contradiction
      · rfl
theorem rbytes_some_len {st : Option (List UInt8)} {n : Int} {l : List UInt8} (h : (rbytes st n).2 = some l) : ((rbytes st n).1.length : Int) = n := by
  unfold rbytes at *
  split at h
  · cases h
  · split at h
    · rename_i l' hc
      rw [if_pos hc]
      simp
      omega
    · cases h

theorem number_any (g lo : Nat) (st : Option (List UInt8)) (n : Int) (w : World) (h : Wr w lo g st) :
    Calls Try.prog 34 #[.pointer (some ⟨g, 0, none⟩), .int .i64 n] w fun e w' =>
      e = .returned (.int .u64 ((rnumber st n).1 : Nat)) ∧ Wr w' lo g (rnumber st n).2 ∧ w.grownBy w' (some g) := by
  by_cases hn : (1 ≤ n ∧ n ≤ 8) ∧ (rbytes st n).2 ≠ none
  · obtain ⟨l', hl'⟩ := Option.ne_none_iff_exists'.1 hn.2
    have hlen := Lib.hid (rbytes_some_len hl')
    have hR := Lib.hid (show rnumber st n = (bnum (rbytes st n).1, (rbytes st n).2) by unfold rnumber; rw [if_pos hn.1])
    have hb := hn.1
    clear hn hl'
    rw [hR.out]
    go_enter Try.func34, Try.ntmps34
    go_wp2_with fail
    refine (bytes_any g lo st n w h).mono ?_
    rintro e w1 ⟨A, m, c, rfl, hr, hw, hg⟩
    have hm := hr.len
    have hlo := hlen.out
    have hm1 : 1 ≤ m ∧ m ≤ 8 := by omega
    clear hm hlo
    go_wp2_with fail
    refine (get_any A m c lo _ _ hr hm1.1 hm1.2).mono ?_
    rintro e w2 ⟨rfl, rfl⟩
    go_wp2_with fail
    go_ret
    exact ⟨rfl, hw, hg⟩
  · have hR := Lib.hid (show rnumber st n = (0, none) by
      unfold rnumber
      by_cases hb : 1 ≤ n ∧ n ≤ 8
      · have h2 : (rbytes st n).2 = none := Classical.byContradiction fun h2 => hn ⟨hb, h2⟩
        rw [if_pos hb, h2, rbytes_none_len h2]
        rfl
      · rw [if_neg hb])
    have hL := Lib.hid (show (rbytes st n).1.length < 1 ∨ 8 < (rbytes st n).1.length by
      by_cases h2 : (rbytes st n).2 = none
      · rw [rbytes_none_len h2]
        exact .inl (by simp)
      · obtain ⟨l', hl'⟩ := Option.ne_none_iff_exists'.1 h2
        have := rbytes_some_len hl'
        have : ¬ (1 ≤ n ∧ n ≤ 8) := fun hb => hn ⟨hb, h2⟩
        omega)
    clear hn
    rw [hR.out]
    go_enter Try.func34, Try.ntmps34
    go_wp2_with fail
    refine (bytes_any g lo st n w h).mono ?_
    rintro e w1 ⟨A, m, c, rfl, hr, hw, hg⟩
    have hm := hr.len
    have hlo := hL.out
    rw [hm] at hlo
    clear hm
    go_wp2_with fail
    refine (get_not A m c _ hlo).mono ?_
    rintro e w2 ⟨rfl, rfl⟩
    go_wp2_with fail
    refine (fail_any g lo _ _ hw).mono ?_
    rintro e w2 ⟨rfl, h2, hg2⟩
    go_wp2_with fail
    go_ret
    exact ⟨rfl, h2, grownBy_trans hg hg2⟩

theorem rnumber_two_le (st : Option (List UInt8)) : (rnumber st 2).1 ≤ 65535 := by
  unfold rnumber
  rw [if_pos (by omega)]
  have hl : (rbytes st 2).1.length ≤ 2 := by
    by_cases h2 : (rbytes st 2).2 = none
    · rw [rbytes_none_len h2]; simp
    · obtain ⟨l', hl'⟩ := Option.ne_none_iff_exists'.1 h2
      have := rbytes_some_len hl'
      omega
  have h1 := bnum_lt (rbytes st 2).1
  have h3 : 256 ^ (rbytes st 2).1.length ≤ 256 ^ 2 := Nat.pow_le_pow_right (by decide) hl
  have : bnum (rbytes st 2).1 < 65536 := Nat.lt_of_lt_of_le h1 h3
  show bnum (rbytes st 2).1 ≤ 65535
  omega

theorem rdblob_any (g lo : Nat) (st : Option (List UInt8)) (w : World) (h : Wr w lo g st) :
    Calls Try.prog 37 #[.pointer (some ⟨g, 0, none⟩)] w fun e w' =>
      ∃ A m c, e = .returned (.slice A m c) ∧ Rd w' lo A m (rblob st).1 ∧ Wr w' lo g (rblob st).2 ∧ w.grownBy w' (some g) := by
  have hle := rnumber_two_le st
  have hR := Lib.hid (show rblob st = rbytes (rnumber st 2).2 ((rnumber st 2).1 : Nat) from rfl)
  rw [hR.out]
  go_enter Try.func37, Try.ntmps37
  go_wp2_with fail
  refine (number_any g lo st 2 w h).mono ?_
  rintro e w1 ⟨rfl, hw, hg⟩
  go_wp2_with fail
  refine (bytes_any g lo _ _ w1 hw).mono ?_
  rintro e w2 ⟨A, m, c, rfl, hr, hw2, hg2⟩
  go_wp2_with fail
  go_ret
  exact ⟨_, _, _, rfl, hr, hw2, grownBy_trans hg hg2⟩

theorem read_any (A : Option Addr) (n c lo : Nat) (l : List UInt8) (w : World) (hr : Rd w lo A n l) (hn : n ≤ 1000000000) :
    Calls Try.prog 26 #[.slice A n c] w fun e w' =>
      ∃ g, e = .returned (.pointer (some ⟨g, 0, none⟩)) ∧ Wr w' w.heap.size g (some l) ∧ Ext w w' := by
  rcases A with _ | a
  · have h0 : n = 0 := by
      rcases hr.2 with h0 | ⟨_, _, h0, _⟩
      · exact h0
      · cases h0
    subst h0
    have hl : l = [] := List.eq_nil_of_length_eq_zero hr.len
    subst hl
    go_enter Try.func26, Try.ntmps26
    go_wp2_with fail
    refine (clone_nil 0 c w).mono ?_
    rintro e w1 ⟨rfl, rfl⟩
    go_wp2_with fail
    go_ret
    exact ⟨_, rfl, ⟨Nat.le_refl _, none, 0, 0, Blk.new _ _ _, Nat.le_refl _, Rd.nil _ _ _, by omega⟩, (Ext.refl w).alloc _⟩
  · go_enter Try.func26, Try.ntmps26
    go_wp2_with fail
    refine (clone_some a n c lo l w hr hn).mono ?_
    rintro e w1 ⟨A1, c1, rfl, hown, hx⟩
    have hnc : n ≤ c1 := by
      rcases hown.2 with ⟨he, _⟩ | ⟨g', cap, cur, he, _, _, h2, _⟩
      · cases he; omega
      · cases he; exact h2
    go_wp2_with fail
    go_ret
    exact ⟨_, rfl, ⟨hx.size, A1, n, c1, Blk.new _ _ _, hnc, hown.rd.ext ((Ext.refl _).alloc _), hn⟩, hx.alloc _⟩

end Go.Proofs.Ytbikncgabmgphaa
