/- The contracts of both Blobs and of slices.Clone. Conditions: as each theorem says. -/
import Derived.Test.YtbikncgabmgphaaJoin
namespace Go.Proofs.Ytbikncgabmgphaa
open Go.RowKit
set_option linter.unusedVariables false

/-- a blob's bytes -/
def blob (l : List UInt8) : List UInt8 := beb l.length 2 ++ l
theorem blob_length (l : List UInt8) : (blob l).length = l.length + 2 := by simp [blob, beb_length]; omega
theorem jn_two (l k : List UInt8) : jn [l, k] = l ++ k := by simp [jn]
theorem room_two (n : Nat) (h : n ≤ 65535) : room (n : Int) 2 = true := by simp [room]; omega

theorem blob_not (A : Option Addr) (n c : Nat) (w : World) (h : 65535 < n) :
    Calls Try.prog 18 #[.slice A n c] w fun e w' => e = .returned (.tuple #[.slice none 0 0, .int .i64 3]) ∧ w = w' := by
  have h' : (65535 : Int) < (n : Int) := by omega
  go_enter Try.func18, Try.ntmps18
  go_wp2_with fail
  go_ret2
  exact ⟨rfl, rfl⟩

theorem jn_blob (l : List UInt8) : jn [beb l.length 2, l] = blob l := by rw [jn_two]; rfl
theorem rd_blob {w : World} {lo : Nat} {A : Option Addr} {n : Nat} {l : List UInt8} (h : Rd w lo A (jn [beb l.length 2, l]).length (jn [beb l.length 2, l])) (hl : l.length = n) : Rd w lo A (n + 2) (blob l) := by
  rw [jn_blob, blob_length, hl] at h
  exact h

/-- new memory that reads as l, beside a number -/
def NewBytesE (w : World) (l : List UInt8) (n : Nat) (e : Ending) (w' : World) : Prop :=
  ∃ A' c', e = .returned (.tuple #[.slice A' n c', .int .i64 0]) ∧ Rd w' w.heap.size A' n l ∧ Ext w w' ∧ n ≤ c'

theorem blob_cap (A : Option Addr) (n c lo : Nat) (l : List UInt8) (w : World) (hr : Rd w lo A n l) (h : n ≤ 65535) :
    Calls Try.prog 18 #[.slice A n c] w fun e w' => NewBytesE w (blob l) (n + 2) e w' := by
  have hl := hr.len
  subst hl
  have h' : ¬ ((65535 : Int) < (l.length : Int)) := by omega
  have hj := Lib.hid (show (jn [beb l.length 2, l]).length = l.length + 2 by rw [jn_blob, blob_length])
  go_enter Try.func18, Try.ntmps18
  go_wp2_with fail
  refine (put_yes _ _ _ (room_two l.length h) (by omega) (by omega)).mono ?_
  rintro e w1 ⟨A1, c1, rfl, h1, hx⟩
  go_wp2_with fail
  refine (join_cap _ _ _ [beb l.length 2, l] _ (RdL.new2 _ _ _ _ _ _ _ _ _ (h1.low (Nat.zero_le _)) ((hr.low (Nat.zero_le _)).ext hx)) (by rw [hj.out]; omega) (by omega)).mono ?_
  rintro e w2 ⟨A2, c2, rfl, h2, hx2, hc2⟩
  have h3 := rd_blob (h2.low (Nat.le_trans hx.size (by simp))) rfl
  rw [hj.out] at hc2
  rw [hj.out]
  go_wp2_with fail
  go_ret2
  exact ⟨_, _, rfl, h3, (hx.alloc _).trans hx2, hc2⟩
theorem blob_any (A : Option Addr) (n c lo : Nat) (l : List UInt8) (w : World) (hr : Rd w lo A n l) (h : n ≤ 65535) :
    Calls Try.prog 18 #[.slice A n c] w fun e w' =>
      ∃ A' c', e = .returned (.tuple #[.slice A' (n + 2) c', .int .i64 0]) ∧ Rd w' w.heap.size A' (n + 2) (blob l) ∧ Ext w w' :=
  (blob_cap A n c lo l w hr h).mono fun e w' ⟨A', c', h1, h2, h3, _⟩ => ⟨A', c', h1, h2, h3⟩

theorem rblob_any (A : Option Addr) (n c lo : Nat) (l : List UInt8) (w : World) (hr : Rd w lo A n l) (h : n ≤ 65535) :
    Calls Try.prog 19 #[.slice A n c] w fun e w' =>
      ∃ A' c', e = .returned (.slice A' (n + 2) c') ∧ Rd w' w.heap.size A' (n + 2) (blob l) ∧ Ext w w' := by
  have hl := hr.len
  subst hl
  have hj := Lib.hid (show (jn [beb l.length 2, l]).length = l.length + 2 by rw [jn_blob, blob_length])
  go_enter Try.func19, Try.ntmps19
  go_wp2_with fail
  refine (rput_any _ _ _ (by omega) (by omega) (by omega) (by simp; omega)).mono ?_
  rintro e w1 ⟨A1, c1, rfl, h1, hx⟩
  go_wp2_with fail
  refine (rjoin_any _ _ _ [beb l.length 2, l] _ (RdL.new2 _ _ _ _ _ _ _ _ _ (h1.low (Nat.zero_le _)) ((hr.low (Nat.zero_le _)).ext hx)) (by rw [hj.out]; omega) (by omega)).mono ?_
  rintro e w2 ⟨A2, c2, rfl, h2, hx2⟩
  have h3 := rd_blob (h2.low (Nat.le_trans hx.size (by simp))) rfl
  rw [hj.out]
  go_wp2_with fail
  go_ret
  exact ⟨_, _, rfl, h3, (hx.alloc _).trans hx2⟩

theorem clone_nil (n c : Nat) (w : World) :
    Calls Try.prog 42 #[.slice none n c] w fun e w' => e = .returned (.slice none 0 0) ∧ w = w' := by
  have hnil := Lib.run_eql_slice_nil (P := Try.prog) w 23 5 none n c 0 0 Try.underlying23
  go_enter Try.func42, Try.ntmps42
  go_wp2_with fail
  go_ret
  exact ⟨rfl, rfl⟩

theorem clone_some (a : Addr) (n c lo : Nat) (l : List UInt8) (w : World) (hr : Rd w lo (some a) n l) (h : n ≤ 1000000000) :
    Calls Try.prog 42 #[.slice (some a) n c] w fun e w' =>
      ∃ A' c', e = .returned (.slice A' n c') ∧ Own w' w.heap.size 5 A' n c' l ∧ Ext w w' := by
  have hnil := Lib.run_eql_slice_nil (P := Try.prog) w 23 5 (some a) n c 0 0 Try.underlying23
  go_enter Try.func42, Try.ntmps42
  go_wp2_with (at_builtin; go_loud (refine wpList_append_b bytes_ty rfl _ _ rfl w ((Ext.refl w).alloc _) _ 0 0 [] rfl (World.ownsRow_made w _ _ (Nat.le_refl _) (Nat.zero_le _) rfl) (some a) n c _ _ rfl (hr.ext ((Ext.refl w).alloc _)) (by omega) ?_); intro A2 c2 w2 hr2 _ hx2)
  go_ret
  exact ⟨_, _, rfl, by simpa using hr2, hx2⟩
end Go.Proofs.Ytbikncgabmgphaa
