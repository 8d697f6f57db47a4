/- Words as arguments, slices of bytes as the laws write them. No conditions. -/
import Derived.Test.YtpfepajenimejaaBytes
import Derived.OpenShut
import Derived.Test.YtpfepajenimejaaCrcknown
namespace Go.Proofs.Ytpfepajenimejaa
open Go.RowKit
set_option linter.unusedVariables false

theorem word_of {x : Int} (h : (Lit.int .u32 x).wf = true) : ∃ v : BitVec 32, x = (v.toNat : Int) := by
  have h0 := bounds_u32 h
  exact ⟨BitVec.ofNat 32 x.toNat, by rw [BitVec.toNat_ofNat, Nat.mod_eq_of_lt (by omega)]; omega⟩
theorem own_at {w : World} {base : Nat} {e : TypeId} {A : Option Addr} {n c : Nat} {l : List UInt8} (h : Own w base e A n c l) (hn : 0 < n) : ∃ g, A = some ⟨g, 0, none⟩ ∧ base ≤ g ∧ g < w.heap.size := by
  rcases h.2 with ⟨_, h0⟩ | ⟨g, cap, cur, hv, hb, hg, _⟩
  · omega
  · refine ⟨g, ?_, hb, (Array.getElem?_eq_some_iff.1 hg).1⟩
    injection hv
end Go.Proofs.Ytpfepajenimejaa
