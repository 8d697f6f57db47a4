/- Have acts more than is gone through? Conditions: the acts are in memory as told. -/
import Derived.Test.YtekbdpfiommmbaaNact
namespace Go.Proofs.Ytekbdpfiommmbaa
open Go.RowKit Go.Maps
set_option linter.unusedVariables false
set_option linter.unusedSimpArgs false
attribute [local go_sem] Oper.semAt_some

def MuchE (w w' : World) (l : List Ac) (e : Ending) : Prop := ∃ b, e = .returned (.bool b) ∧ (b = false → l.length ≤ 60 ∧ ∀ (j : Nat) (s : Ac), l[j]? = some s → s.l.length ≤ 20000) ∧ Ext w w'
set_option maxRecDepth 100000 in
set_option maxHeartbeats 3200000 in
theorem much_any (w : World) (A : Option Addr) (len c : Nat) (l : List Ac) (hl : ActsAt w A len l) :
    Calls Try.prog 10 #[.slice A len c] w fun e w' => MuchE w w' l e := by
  go_enter Try.func10, Try.ntmps10
  go_wp2_with fail
  go_loopw [3, 4, 5] (fun n m i wr => ∃ (k : Nat) (z y : Int), k ≤ len ∧ k ≤ 61 ∧ i = .int .i64 k ∧ n = .int .i64 z ∧ m = .int .i64 y ∧ 0 ≤ z ∧ z ≤ 20001 * k ∧ 0 ≤ y ∧ y ≤ k ∧ Hid (z ≤ 20000 → ∀ (j : Nat) (s : Ac), j < k → l[j]? = some s → s.l.length ≤ z) ∧ Ext w wr) (fun _ _ i _ => len - (nOf i).toNat)
  case atStart => exact ⟨0, 0, 0, Nat.zero_le _, by omega, rfl, rfl, rfl, by omega, by omega, by omega, by omega, Lib.hid (fun _ j s h => by omega), Ext.refl _⟩
  case round =>
    obtain ⟨k, z, y, hk, hk1, rfl, rfl, rfl, z0, z1, y0, y1, hH, hx⟩ := hrel
    by_cases hlt : k < len
    · have hki : (k : Int) < (len : Int) := by omega
      by_cases hm : (k : Int) ≤ 60
      · have hlr := hl.ext hx
        obtain ⟨b, off, rfl, hb, hcell⟩ := hlr.pos (by omega)
        obtain ⟨hok, hc⟩ := hcell k (by rw [hl.1]; exact hlt)
        obtain ⟨s, hs⟩ : ∃ s, l[k]'(by rw [hl.1]; exact hlt) = s := ⟨_, rfl⟩
        rw [hs] at hok hc
        have m0 : wr.cell? ⟨b, off + k * 4, none⟩ = some (.int .i64 s.kind) := hc 0 (by simp [Ac.vals])
        have m3 : wr.cell? ⟨b, off + k * 4 + 3, none⟩ = some (.slice s.A s.l.length s.c) := hc 3 (by simp [Ac.vals])
        obtain ⟨a1, ha1⟩ : ∃ a1 : Int, (s.l.length : Int) = a1 := ⟨_, rfl⟩
        obtain ⟨k1, hkd⟩ : ∃ k1 : Int, s.kind = k1 := ⟨_, rfl⟩
        have hnew : ∀ v : Int, (a1 ≤ v ∨ 20001 ≤ v) → Hid (z + v ≤ 20000 → ∀ (j : Nat) (s : Ac), j < k + 1 → l[j]? = some s → s.l.length ≤ z + v) := fun v hv => Lib.hid (fun hz j s' hj e => by
          rcases Nat.lt_or_ge j k with hjk | hjk
          · have := hH.out (by omega) j s' hjk e
            omega
          · obtain rfl : j = k := by omega
            obtain rfl : s = s' := by rw [← hs]; exact (List.getElem?_eq_some_iff.1 e).2
            omega)
        have hb1 : Hid (Ext w wr) := Lib.hid hx
        go_wp2_with fail
        all_goals first
          | (go_ret; exact ⟨true, rfl, fun h => by simp at h, hx⟩)
          | exact ⟨⟨k + 1, _, _, by omega, by omega, by simp, rfl, rfl, by omega, by omega, by omega, by omega, hnew _ (by omega), hx⟩, by simp [nOf]; omega⟩
      · go_wp2_with fail
        all_goals (go_ret; refine ⟨_, rfl, fun h => ?_, hx⟩)
        all_goals simp at h
        omega
    · obtain rfl : k = len := by omega
      go_wp2_with fail
      all_goals (go_ret; refine ⟨_, rfl, fun h => ?_, hx⟩)
      all_goals simp at h
      have hl1 := hl.1
      refine ⟨by omega, fun j s e => ?_⟩
      have hj := (List.getElem?_eq_some_iff.1 e).1
      have := hH.out (by omega) j s (by omega) e
      omega
end Go.Proofs.Ytekbdpfiommmbaa
