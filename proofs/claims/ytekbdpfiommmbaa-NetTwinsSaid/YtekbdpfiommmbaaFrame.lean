/- The frame that all laws of this seat share: how their arguments are read, and that they read as they did behind a call that changes nothing of what was there. Conditions: none. -/
import Derived.Test.YtekbdpfiommmbaaKit
import Derived.Test.YtekbdpfiommmbaaRows
import Derived.ProofKit
import Derived.OpenShut
import Derived.ShutString
import Derived.ChangeOld
namespace Go.Proofs.Ytekbdpfiommmbaa
open Go.ChangeShapes Go.WideShapes Go.ChangeAt Go.RowKit
set_option linter.unusedVariables false

theorem own : ownKnob Try.prog.godebug = none := by kernel_rfl
theorem laidOut : laidOutB Try.prog = true := by kernel_rfl

/-- the bytes of numbers -/
def ofNums (zs : List Int) : List UInt8 := zs.map fun n => UInt8.ofNat n.toNat

/-- An argument of type []byte reads as some bytes. -/
theorem open_rd {H : Type} {enc : TypeId × Value → H} {P : Program} {W : World} {t e : TypeId} {a : Option Addr} {len cap : Nat} {d : DataW H} {p : List MemPlace}
    (ht : P.underlying t = some (.slice e)) (he : P.underlying e = some (.int .u8)) (hc : P.cellsOf e = 1) (h : DataW.Trod enc P W 0 (fun _ => true) true t (.slice a len cap) d p) :
    ∃ l, Rd W 0 a len l ∧ len ≤ cap := by
  obtain ⟨fuel, hf⟩ := h
  rcases open_ints ht he hc hf with ⟨hcs, _⟩ | ⟨x, l, c, zs, hcs, _, hl, hm, hz, _, hcell, hwz⟩
  · simp [Value.cells] at hcs
    obtain ⟨rfl, rfl, rfl⟩ := hcs
    exact ⟨[], Rd.nil _ _ _, Nat.le_refl _⟩
  · simp [Value.cells] at hcs
    obtain ⟨rfl, rfl, rfl⟩ := hcs
    have hz' : zs.length = cap := by simpa using hz
    refine ⟨ofNums (zs.take len), ⟨by simp [ofNums]; omega, ?_⟩, hl⟩
    rcases Nat.eq_zero_or_pos len with h0 | h0
    · exact .inl h0
    · obtain ⟨b, off, spot⟩ := x
      have h00 := hcell 0 (by omega)
      have hspot : spot = none := by simpa [Addr.add] using World.cell?_spot h00
      subst hspot
      refine .inr ⟨b, off, rfl, Nat.zero_le _, ?_, fun i hi => ?_⟩
      · exact World.block_lt_of_cell? W _ (by simpa [Addr.add] using h00)
      · have hi' : i < len := by simpa [ofNums, hz', Nat.min_eq_left hl] using hi
        have hci := hcell i (by omega)
        have hadd : (⟨b, off, none⟩ : Addr).add i = ⟨b, off + i, none⟩ := by unfold Addr.add; split <;> simp_all
        rw [hadd] at hci
        rw [hci]
        have hzi : i < zs.length := by omega
        have hget : zs.getD i 0 = zs[i] := by simp [List.getD, hzi]
        have hwf := hwz zs[i] (List.getElem_mem hzi)
        have hb : 0 ≤ zs[i] ∧ zs[i] ≤ 255 := bounds_u8 hwf
        rw [hget]
        simp only [ofNums, List.getElem_map, List.getElem_take]
        rw [byte_of _ hb.1 (by omega)]

end Go.Proofs.Ytekbdpfiommmbaa
