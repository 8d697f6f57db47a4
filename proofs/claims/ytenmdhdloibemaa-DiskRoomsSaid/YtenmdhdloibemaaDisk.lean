/- A disk in memory, and what its looks answer. Conditions: the disk is in memory as told. -/
import Derived.Test.YtenmdhdloibemaaSames
namespace Go.Proofs.Ytenmdhdloibemaa
open Go.RowKit Go.Maps Go.Sort
set_option linter.unusedVariables false
set_option linter.unusedSimpArgs false

/-! ### names -/
def okB (b : UInt8) : Bool := !(((b.toNat < 97 || 122 < b.toNat) && (b.toNat < 48 || 57 < b.toNat)) && b.toNat ≠ 46 && b.toNat ≠ 45)
theorem okB_iff (b : UInt8) : okB b = true ↔ ((97 : Int) ≤ b.toNat ∧ (b.toNat : Int) ≤ 122) ∨ ((48 : Int) ≤ b.toNat ∧ (b.toNat : Int) ≤ 57) ∨ (b.toNat : Int) = 46 ∨ (b.toNat : Int) = 45 := by
  simp only [okB, Bool.not_eq_true', Bool.and_eq_false_iff, Bool.or_eq_false_iff, decide_eq_false_iff_not]
  omega
def mayName (n : Nm) : Bool := !(n.length < 1 || 32 < n.length) && n.all okB
abbrev nv (n : Nm) : Value := .string ⟨n.toArray⟩

set_option maxRecDepth 100000 in
set_option maxHeartbeats 1600000 in
theorem mayName_any (n : Nm) (w : World) (hn : n.length ≤ maxLen) : Calls Try.prog 25 #[nv n] w fun e w' => e = .returned (.bool (mayName n)) ∧ w = w' := by
  go_enter Try.func25, Try.ntmps25
  by_cases h1 : n.length < 1
  · have h1' : ((n.length : Nat) : Int) < 1 := by omega
    have e : mayName n = false := by simp [mayName, h1]
    go_wp2_with fail
    go_ret
    exact ⟨by first | rfl | (rw [e]; rfl), rfl⟩
  have h1' : ¬ ((n.length : Nat) : Int) < 1 := by omega
  by_cases h2 : 32 < n.length
  · have h2' : (32 : Int) < ((n.length : Nat) : Int) := by omega
    have e : mayName n = false := by simp [mayName, h2]
    go_wp2_with fail
    go_ret
    exact ⟨by first | rfl | (rw [e]; rfl), rfl⟩
  have h2' : ¬ (32 : Int) < ((n.length : Nat) : Int) := by omega
  have em : mayName n = n.all okB := by simp [mayName, h1, h2]
  rw [em]
  go_wp2_with fail
  go_loop [15] (fun i => ∃ k : Nat, k ≤ n.length ∧ i = .int .i64 k ∧ (n.take k).all okB = true) (fun i => n.length - (nOf i).toNat)
  case atStart => exact ⟨0, Nat.zero_le _, rfl, rfl⟩
  case round =>
    obtain ⟨k, hk, rfl, hall⟩ := hrel
    by_cases hlt : k < n.length
    · have hki : (k : Int) < (n.length : Int) := by omega
      obtain ⟨u, hu⟩ : ∃ u, n[k] = u := ⟨_, rfl⟩
      have hu2 : n[k]? = some u := by rw [List.getElem?_eq_getElem hlt, hu]
      have htake : (n.take (k + 1)).all okB = okB u := by
        rw [List.take_add_one, hu2, List.all_append, hall]
        simp
      have hub : ∀ h, (⟨n.toArray⟩ : ByteArray)[k]'h = u := fun h => by
        show n.toArray[k] = u
        rw [List.getElem_toArray]
        exact hu
      have hu256 : u.toNat < 256 := u.toNat_lt
      go_wp2_with fail
      all_goals simp only [bne_iff_ne, ne_eq, bne_eq_false_iff_eq] at *
      all_goals first
        | (refine ⟨⟨k + 1, by omega, by go_num, ?_⟩, by simp [nOf]; omega⟩
           rw [htake, okB_iff]
           omega)
        | (have hf : okB u = false := by
             rw [← Bool.not_eq_true, okB_iff]
             omega
           have hfa : List.all n okB = false := by
             rw [List.all_eq_false]
             exact ⟨u, List.mem_of_getElem? hu2, by rw [hf]; simp⟩
           go_ret
           exact ⟨by first | rfl | (rw [hfa]; rfl), rfl⟩)
    · obtain rfl : k = n.length := by omega
      rw [List.take_length] at hall
      go_wp2_with fail
      go_ret
      exact ⟨by first | rfl | (rw [hall]; rfl), rfl⟩
end Go.Proofs.Ytenmdhdloibemaa
