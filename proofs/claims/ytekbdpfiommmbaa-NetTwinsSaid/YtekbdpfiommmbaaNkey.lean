/- What a key of a map of lines is. No conditions. -/
import Derived.Test.YtekbdpfiommmbaaNt
namespace Go.Proofs.Ytekbdpfiommmbaa
open Go.RowKit Go.Maps
set_option linter.unusedVariables false
set_option linter.unusedSimpArgs false

theorem lits_inv (d : Nat) {c : List Value} {ls : List Lit} (h : Try.prog.keyLits (d + 1) 3 c = some ls) : ∃ a, c = [.int .i64 a] ∧ (Lit.int .i64 a).wf = true := by
  unfold Program.keyLits at h
  rw [Try.underlying3] at h
  split at h
  case h_2 q q' n e =>
    cases e
    split at h
    · rename_i hq
      obtain ⟨rfl, hw⟩ := hq
      exact ⟨n, rfl, hw⟩
    · cases h
  case h_1 e => cases e
  case h_3 e => cases e
  case h_4 e => cases e
  case h_5 e => cases e
  case h_6 => cases h
theorem keyL_inv : ∀ key kl, keyOf Try.prog 77 key = some kl → ∃ x : Int × Int, key = lnv x.1 x.2 ∧ (Lit.int .i64 x.1).wf = true ∧ (Lit.int .i64 x.2).wf = true := fun key kl h => by
  have h3 : Try.prog.cellsOf 77 = 2 := by kernel_rfl
  have h4 : Try.prog.cellsOf 3 = 1 := by kernel_rfl
  have h0 : 0 < Try.prog.types.size := by decide +kernel
  obtain ⟨d, hd⟩ : ∃ d, Try.prog.types.size = d + 1 := ⟨Try.prog.types.size - 1, by omega⟩
  unfold keyOf at h
  rw [Try.underlying77] at h
  simp only [hd] at h
  split at h
  · rename_i hf
    rw [Bool.and_eq_true] at hf
    have hf2 := hf.2
    cases key with
    | agg cs =>
      simp only [Value.formed, Try.underlying77, h3, beq_iff_eq] at hf2
      obtain ⟨x, y, rfl⟩ : ∃ x y, cs = #[x, y] := by
        rcases cs with ⟨_ | ⟨x, _ | ⟨y, _ | ⟨z, l⟩⟩⟩⟩ <;> simp at hf2
        exact ⟨x, y, rfl⟩
      obtain ⟨ls, hls, _⟩ := Option.map_eq_some_iff.1 h
      unfold Program.keyLits at hls
      simp only [Try.underlying77] at hls
      have hc : (Value.agg #[x, y]).cells.toList = [x, y] := rfl
      simp only [hc, h3, List.length_cons, List.length_nil] at hls
      split at hls
      · obtain ⟨ll, hll, _⟩ := Option.map_eq_some_iff.1 hls
        simp [h4] at hll
        trace_state
        cases e1 : Try.prog.keyLits (d + 1) 3 [x] with
        | none => simp [e1] at hll
        | some l1 =>
          cases e2 : Try.prog.keyLits (d + 1) 3 [y] with
          | none => simp [e1, e2] at hll
          | some l2 =>
            obtain ⟨a, q1, q2⟩ := lits_inv d e1
            obtain ⟨b, q3, q4⟩ := lits_inv d e2
            simp only [List.cons.injEq, and_true] at q1 q3
            subst q1 q3
            exact ⟨(a, b), rfl, q2, q4⟩
      · cases hls
    | _ => simp [Value.formed, Try.underlying77] at hf2
  · cases h
