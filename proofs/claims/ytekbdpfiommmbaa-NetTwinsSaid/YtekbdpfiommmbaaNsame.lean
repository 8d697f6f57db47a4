/- num, Same. Conditions: the flights' bytes are in memory. -/
import Derived.Test.YtekbdpfiommmbaaNall
namespace Go.Proofs.Ytekbdpfiommmbaa
open Go.RowKit Go.Maps
set_option linter.unusedVariables false
set_option linter.unusedSimpArgs false
attribute [local go_sem] Oper.semAt_some

theorem num_any (w : World) (k : Int) : Calls Try.prog 13 #[.int .i64 k] w fun e w' => e = .returned (.int .i64 k) ∧ w = w' := by
  go_enter Try.func13, Try.ntmps13
  go_wp2
  go_ret
  exact ⟨rfl, rfl⟩
abbrev fl (a b : Int) (A : Option Addr) (n c : Nat) : Value := .agg #[.int .i64 a, .int .i64 b, .slice A n c]
theorem same_any (w : World) (a b a' b' : Int) (A A' : Option Addr) (c c' : Nat) (l l' : Row) (h : Rd w 0 A l.length l) (h' : Rd w 0 A' l'.length l') (hl : l.length ≤ 1000000000) (hl' : l'.length ≤ 1000000000) :
    Calls Try.prog 29 #[fl a b A l.length c, fl a' b' A' l'.length c'] w fun e w' => e = .returned (.bool (decide (a = a' ∧ b = b' ∧ l = l'))) ∧ Ext w w' := by
  have hx1 := (Ext.refl w).alloc (.cells #[.int .i64 a, .int .i64 b, .slice A l.length c] 51)
  have hx2 := hx1.alloc (.cells #[.int .i64 a', .int .i64 b', .slice A' l'.length c'] 51)
  have hs1 := run_string (h.ext hx2) c Try.underlying38 Try.underlying5 Try.underlying9
  have hs2 := run_string (h'.ext hx2) c' Try.underlying38 Try.underlying5 Try.underlying9
  go_enter Try.func29, Try.ntmps29
  by_cases ha : a = a'
  · by_cases hb : b = b'
    · subst ha hb
      go_wp2_with fail
      go_ret
      have e : (l == l') = decide (l = l') := by rw [Bool.eq_iff_iff]; simp
      exact ⟨by show Ending.returned (.bool (l == l')) = _; rw [e], hx2⟩
    · subst ha
      have hb' : (b == b') = false := by simpa using hb
      have hd : decide (a = a ∧ b = b' ∧ l = l') = false := by simp [hb]
      rw [hd]
      clear hb
      go_wp2_with fail
      go_ret
      exact ⟨rfl, hx2⟩
  · have ha' : (a == a') = false := by simpa using ha
    have hd : decide (a = a' ∧ b = b' ∧ l = l') = false := by simp [ha]
    rw [hd]
    clear ha
    go_wp2_with fail
    go_ret
    exact ⟨rfl, hx2⟩
