/- A net in memory: its lines' keys, its lines, and which blocks are its own. Conditions: told at each. -/
import Derived.Test.YtekbdpfiommmbaaTu
import Derived.Test.YtekbdpfiommmbaaRows
import Derived.DeepKeys4
import Derived.Lib.Hide
namespace Go.Proofs.Ytekbdpfiommmbaa
open Go.RowKit Go.Maps
set_option linter.unusedVariables false
set_option linter.unusedSimpArgs false

/-! ### a line as a key -/
abbrev lnv (a b : Int) : Value := .agg #[.int .i64 a, .int .i64 b]
def lnk (a b : Int) : Lit := .string (keyBytes [.int .i64 a, .int .i64 b])
theorem law_l : Keyed Try.prog 77 := Keyed.of_law (deep_law_laid (m := Try.prog.types.size + 1) (by kernel_rfl) (by decide +kernel) (by decide +kernel) (by kernel_rfl) (by rw [Try.underlying77]))
theorem lits_int (d : Nat) {a : Int} (ha : (Lit.int .i64 a).wf = true) : Try.prog.keyLits (d + 1) 3 [.int .i64 a] = some [.int .i64 a] := by
  simp only [Program.keyLits, Try.underlying3, ha, and_self, if_true]
theorem key_l {a b : Int} (ha : (Lit.int .i64 a).wf = true) (hb : (Lit.int .i64 b).wf = true) : keyOf Try.prog 77 (lnv a b) = some (lnk a b) := by
  have h1 : Try.prog.keyType 77 = true := by kernel_rfl
  have h2 : Value.formed Try.prog 77 (lnv a b) = true := by kernel_rfl
  have h3 : Try.prog.cellsOf 77 = 2 := by kernel_rfl
  have h4 : Try.prog.cellsOf 3 = 1 := by kernel_rfl
  have h0 : 0 < Try.prog.types.size := by decide +kernel
  obtain ⟨d, hd⟩ : ∃ d, Try.prog.types.size = d + 1 := ⟨Try.prog.types.size - 1, by omega⟩
  unfold keyOf
  rw [Try.underlying77]
  simp only [h1, h2, Bool.true_and, if_true, hd]
  have e : Try.prog.keyLits (d + 1 + 1) 77 (lnv a b).cells.toList = some [.int .i64 a, .int .i64 b] := by
    unfold Program.keyLits
    simp only [Try.underlying77]
    have hc : (lnv a b).cells.toList = [.int .i64 a, .int .i64 b] := rfl
    simp only [hc, h3, List.length_cons, List.length_nil]
    simp [h4, lits_int d ha, lits_int d hb]
  rw [e]
  rfl
theorem lnk_inj {a b c d : Int} (ha : (Lit.int .i64 a).wf = true) (hb : (Lit.int .i64 b).wf = true) (hc : (Lit.int .i64 c).wf = true) (hd : (Lit.int .i64 d).wf = true) (h : lnk a b = lnk c d) : a = c ∧ b = d := by
  have := law_l.inj (key_l ha hb) (h ▸ key_l hc hd)
  simpa using this
end Go.Proofs.Ytekbdpfiommmbaa
