/- The contracts of slices.Grow of nil, slices.Concat, slices.Clone, and of both Joins and Blobs. Conditions: as each theorem says. -/
import Derived.Test.YtbikncgabmgphaaPut
import Derived.Lib.AppendZeros
import Derived.Deep.RegionLaw
namespace Go.Proofs.Ytbikncgabmgphaa
open Go.RowKit
set_option linter.unusedVariables false

theorem grow_nil (n : Int) (w : World) (h0 : 0 ≤ n) (hn : n ≤ 1000000000) :
    Calls Try.prog 47 #[.slice none 0 0, .int .i64 n] w fun e w' =>
      ∃ A c, e = .returned (.slice A 0 c) ∧ Own w' w.heap.size 5 A 0 c [] ∧ Ext w w' := by
  obtain ⟨n, rfl⟩ := Int.eq_ofNat_of_zero_le h0
  rcases Nat.eq_zero_or_pos n with rfl | hp
  · go_enter Try.func47, Try.ntmps47
    go_wp2_with fail
    go_ret
    exact ⟨_, _, rfl, Own.nil _ _ _, Ext.refl w⟩
  · obtain ⟨i0, hi0, hz0, hz1, hz2⟩ := info_parts info_u8
    have hrun := Lib.hid (Lib.run_append_nil_zeros (P := Try.prog) w 23 3 23 5 i0 _ .i64 .i64 Try.underlying23 Try.underlying3 hi0 hz0 n hp (by omega) (by omega) (by rw [hz2]; omega))
    have hge := grownCap_ge w n 0 5
    have hle := grownCap_le_maxLen w n 0 5 (by simp only [maxLen]; omega)
    have hown : Own (w.drew.alloc (.cells (Builtin.zeroCells (Value.int .u8 0).cells n ++ Builtin.zeroCells (Value.int .u8 0).cells (grownCap w n 0 5 - n)) 5)) w.heap.size 5 (some ⟨w.heap.size, 0, none⟩) 0 (grownCap w n 0 5) [] :=
      World.ownsRow_made w.drew _ _ (Nat.le_refl _) hle (by simp only [Array.size_append, size_zeroCells]; simp [Value.cells]; omega)
    clear hz0 hz1 hz2 hi0
    generalize grownCap w n 0 5 = cap at *
    go_enter Try.func47, Try.ntmps47
    go_wp2_with (at_builtin; refine Lib.wpList_append_run _ rfl _ _ _ _ rfl _ _ rfl rfl _ _ hrun.out ?_)
    go_ret
    exact ⟨_, _, rfl, hown, (Ext.refl w).drew.alloc _⟩

/-- new memory that reads as l, in a slice of a length that its capacity holds -/
def NewBytes (w : World) (l : List UInt8) (n : Nat) (e : Ending) (w' : World) : Prop :=
  ∃ A' c', e = .returned (.slice A' n c') ∧ Rd w' w.heap.size A' n l ∧ Ext w w' ∧ n ≤ c'

theorem concat_cap (A : Option Addr) (n c : Nat) (ls : List (List UInt8)) (w : World) (hr : RdL w A n ls) (hb : (jn ls).length ≤ 1000000000) (hn : n ≤ 1000000000) :
    Calls Try.prog 38 #[.slice A n c] w fun e w' => NewBytes w (jn ls) (jn ls).length e w' := by
  have hl := hr.len
  subst hl
  go_enter Try.func38, Try.ntmps38
  go_wp2
  go_loop [3, 5, 11] (fun x _ i => ∃ k : Nat, k ≤ ls.length ∧ i = .int .i64 k ∧ x = .int .i64 ((jn (ls.take k)).length : Int)) (fun _ _ i => ls.length - (intOf i).toNat)
  case atStart => exact ⟨0, Nat.zero_le _, rfl, rfl⟩
  case round =>
    obtain ⟨k, hk, rfl, rfl⟩ := hrel
    by_cases hlt : k < ls.length
    · obtain ⟨b, off, rfl, -, hc⟩ := hr.pos (by omega)
      obtain ⟨Ai, ci, hcell, -⟩ := hc k hlt
      have hf := Lib.hid (jn_snoc ls k hlt)
      have hle := jn_le ls (k + 1)
      rw [jn_snoc ls k hlt, List.length_append] at hle
      generalize jn (ls.take k) = F at *
      clear hc
      go_wp2
      go_round
      case rel => exact ⟨k + 1, by omega, by go_num, by rw [hf.out, List.length_append]; go_num⟩
      case measure => simp [intOf]; omega
    · obtain rfl : k = ls.length := by omega
      rw [jn_full]
      go_wp2_with fail
      refine (grow_nil _ _ (by omega) (by omega)).mono ?_
      rintro e w1 ⟨A1, c1, rfl, hown, hx⟩
      go_wp2_with fail
      go_loopw [6, 8, 27] (fun v _ i wr => ∃ k A2 c2, k ≤ ls.length ∧ i = .int .i64 (k : Nat) ∧ v = .slice A2 (jn (ls.take k)).length c2 ∧ Own wr w.heap.size 5 A2 (jn (ls.take k)).length c2 (jn (ls.take k)) ∧ Ext w wr) (fun _ _ i _ => ls.length - (intOf i).toNat)
      case atStart => exact ⟨0, A1, c1, Nat.zero_le _, rfl, rfl, hown, hx⟩
      case round =>
        obtain ⟨k, A2, c2, hk, rfl, rfl, hown, hx⟩ := hrel
        by_cases hlt : k < ls.length
        · obtain ⟨b, off, rfl, -, hc⟩ := (hr.ext hx).pos (by omega)
          obtain ⟨Ai, ci, hcell, hri⟩ := hc k hlt
          have hf := Lib.hid (jn_snoc ls k hlt)
          have hle := jn_le ls (k + 1)
          rw [jn_snoc ls k hlt, List.length_append] at hle
          clear hc
          go_wp2_with (at_builtin; refine wpList_append_b bytes_ty rfl _ _ rfl w hx A2 _ c2 _ rfl hown Ai _ ci _ _ rfl hri (by omega) ?_; intro A3 c3 w3 hown3 _ hx3)
          go_roundw
          case rel => exact ⟨k + 1, A3, c3, by omega, by go_num, by rw [hf.out, List.length_append], by rw [hf.out, List.length_append]; exact hown3, hx3⟩
          case measure => simp [intOf]; omega
        · obtain rfl : k = ls.length := by omega
          rw [jn_full] at *
          go_wp2_with fail
          go_ret
          exact ⟨_, _, rfl, hown.rd, hx, hown.cap⟩

theorem join_cap (A : Option Addr) (n c : Nat) (ls : List (List UInt8)) (w : World) (hr : RdL w A n ls) (hb : (jn ls).length ≤ 1000000000) (hn : n ≤ 1000000000) :
    Calls Try.prog 21 #[.slice A n c] w fun e w' => NewBytes w (jn ls) (jn ls).length e w' := by
  go_enter Try.func21, Try.ntmps21
  go_wp2_with fail
  refine (concat_cap A n c ls w hr hb hn).mono ?_
  rintro e w1 ⟨A1, c1, rfl, h1, hx, hc1⟩
  go_wp2_with fail
  go_ret
  exact ⟨_, _, rfl, h1, hx, hc1⟩
theorem join_any (A : Option Addr) (n c : Nat) (ls : List (List UInt8)) (w : World) (hr : RdL w A n ls) (hb : (jn ls).length ≤ 1000000000) (hn : n ≤ 1000000000) :
    Calls Try.prog 21 #[.slice A n c] w fun e w' =>
      ∃ A' c', e = .returned (.slice A' (jn ls).length c') ∧ Rd w' w.heap.size A' (jn ls).length (jn ls) ∧ Ext w w' :=
  (join_cap A n c ls w hr hb hn).mono fun e w' ⟨A', c', h1, h2, h3, _⟩ => ⟨A', c', h1, h2, h3⟩

/-- the reference's row behind k copies -/
def jrow (ls : List (List UInt8)) (k : Nat) : List UInt8 := jn (ls.take k) ++ List.replicate ((jn ls).length - (jn (ls.take k)).length) 0
theorem jrow_zero (ls : List (List UInt8)) : jrow ls 0 = List.replicate (jn ls).length 0 := by simp [jrow, jn]
theorem jrow_full (ls : List (List UInt8)) : jrow ls ls.length = jn ls := by simp [jrow]
theorem jrow_step (ls : List (List UInt8)) (k : Nat) (h : k < ls.length) : over (jrow ls k) (jn (ls.take k)).length ls[k] = jrow ls (k + 1) := by
  have h1 := jn_le ls (k + 1)
  have h2 := jn_snoc ls k h
  have h3 : (jn (ls.take (k + 1))).length = (jn (ls.take k)).length + ls[k].length := by rw [h2, List.length_append]
  unfold over jrow
  rw [h2, List.take_left', List.append_assoc, List.drop_append, List.drop_eq_nil_of_le (by omega), List.nil_append, List.drop_replicate]
  · rw [List.length_append]
    congr 3
    omega
  · rfl

theorem rjoin_any (A : Option Addr) (n c : Nat) (ls : List (List UInt8)) (w : World) (hr : RdL w A n ls) (hb : (jn ls).length ≤ 1000000000) (hn : n ≤ 1000000000) :
    Calls Try.prog 20 #[.slice A n c] w fun e w' =>
      ∃ A' c', e = .returned (.slice A' (jn ls).length c') ∧ Rd w' w.heap.size A' (jn ls).length (jn ls) ∧ Ext w w' := by
  have hl := hr.len
  subst hl
  go_enter Try.func20, Try.ntmps20
  go_wp2
  go_loop [3, 4] (fun x i => ∃ k : Nat, k ≤ ls.length ∧ i = .int .i64 k ∧ x = .int .i64 ((jn (ls.take k)).length : Int)) (fun _ i => ls.length - (intOf i).toNat)
  case atStart => exact ⟨0, Nat.zero_le _, rfl, rfl⟩
  case round =>
    obtain ⟨k, hk, rfl, rfl⟩ := hrel
    by_cases hlt : k < ls.length
    · obtain ⟨b, off, rfl, -, hc⟩ := hr.pos (by omega)
      obtain ⟨Ai, ci, hcell, -⟩ := hc k hlt
      have hf := Lib.hid (jn_snoc ls k hlt)
      have hle := jn_le ls (k + 1)
      rw [jn_snoc ls k hlt, List.length_append] at hle
      generalize jn (ls.take k) = F at *
      clear hc
      go_wp2
      go_round
      case rel => exact ⟨k + 1, by omega, by go_num, by rw [hf.out, List.length_append]; go_num⟩
      case measure => simp [intOf]; omega
    · obtain rfl : k = ls.length := by omega
      rw [jn_full]
      go_wp2_with (at_make; refine wpList_make_b bytes_ty rfl _ _ rfl w (Ext.refl w) _ _ _ _ (jn ls).length rfl rfl rfl rfl (by omega) ?_; intro w1 hown _ hx)
      rw [← jrow_zero] at hown
      go_loopw [6, 7] (fun v i wr => ∃ k, k ≤ ls.length ∧ i = .int .i64 (k : Nat) ∧ v = .int .i64 ((jn (ls.take k)).length : Int) ∧ Own wr w.heap.size 5 (some ⟨w.heap.size, 0, none⟩) (jn ls).length (jn ls).length (jrow ls k) ∧ Ext w wr) (fun _ i _ => ls.length - (intOf i).toNat)
      case atStart => exact ⟨0, Nat.zero_le _, rfl, rfl, hown, hx⟩
      case round =>
        obtain ⟨k, hk, rfl, rfl, hown, hx⟩ := hrel
        by_cases hlt : k < ls.length
        · obtain ⟨b, off, rfl, -, hc⟩ := (hr.ext hx).pos (by omega)
          obtain ⟨Ai, ci, hcell, hri⟩ := hc k hlt
          have hf := Lib.hid (jn_snoc ls k hlt)
          have hle := jn_le ls (k + 1)
          rw [jn_snoc ls k hlt, List.length_append] at hle
          have hle0 := jn_le ls k
          have hst := Lib.hid (jrow_step ls k hlt)
          clear hc
          go_wp2_with fail
          go_region_law (refine step_copy_b bytes_ty rfl _ _ rfl w (Ext.drew hx) w.heap.size (jn ls).length (jn ls).length _ hown _ _ _ (jn (ls.take k)).length rfl Ai _ ci _ _ rfl (hri.drewN 1) (fun h => if_neg (by omega)) (by omega) (by omega) ?_; intro w3 hown3 _ hx3)
          all_goals
            rw [hst.out] at hown3
            obtain ⟨b3, off3, e3, -, hc3⟩ := (hr.ext hx3).pos (by omega)
            cases e3
            obtain ⟨A4, c4, hcell4, -⟩ := hc3 k hlt
            clear hc3 hcell
            go_wp2_with fail
            go_roundw
            case rel => exact ⟨k + 1, by omega, by go_num, by rw [hf.out, List.length_append]; go_num, hown3, hx3⟩
            case measure => simp [intOf]; omega
        · obtain rfl : k = ls.length := by omega
          rw [jrow_full] at *
          go_wp2_with fail
          go_ret
          exact ⟨_, _, rfl, hown.rd, hx⟩
end Go.Proofs.Ytbikncgabmgphaa
