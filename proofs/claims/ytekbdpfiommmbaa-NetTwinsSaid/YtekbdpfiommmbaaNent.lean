/- m[k] = f(m[k]): the entry, and the store into it, over maps told key by key. Conditions: told at each. -/
import Derived.Test.YtekbdpfiommmbaaNt
import Derived.WideKeyEntry
namespace Go.Proofs.Ytekbdpfiommmbaa
open Go.RowKit Go.Maps
open Go.WideElems (Fit rd rg)
set_option linter.unusedVariables false
set_option linter.unusedSimpArgs false

theorem law_lk : Go.WideMaps.KeyLaw Try.prog 77 := deep_law_laid (m := Try.prog.types.size + 1) (by kernel_rfl) (by decide +kernel) (by decide +kernel) (by kernel_rfl) (by rw [Try.underlying77])
theorem grown_block (w : World) {b : Nat} {es0 : Array MapEntry} {c0 : Nat} (h : w.heap[b]? = some (.map es0 c0)) (es : Array MapEntry) (c : Nat) : w.grownBy (ChangeMaps.setBlock w b (.map es c)) (some b) :=
  ⟨rfl, rfl, rfl, by simp [ChangeMaps.setBlock], fun i _ hi => ChangeMaps.heap_setBlock_other h _ (fun e => hi (by rw [e]))⟩
theorem MapOf.entry {P : Program} {k t e : TypeId} {w : World} {b : Nat} {D : DataW Value} {kl : Lit} (h : MapOf P w k b D) (K : Go.WideMaps.KeyLaw P k) (ht : P.underlying t = some (.map k e)) {z : Value} (hz : ∀ u : World, (zeroValue e).run P u = .ok z u)
    (hn : Maps.size D < maxLen) {key : Value} (hkey : keyOf P k key = some kl) :
    ∃ st w1, (Instr.mapEntry t (.map (some b)) key).run P w = .ok (.tuple #[(val D kl).getD z, goInt st]) w1 ∧ w.grownBy w1 (some b) ∧
      ∀ (w2 : World) (v : Value), w2.heap[b]? = w1.heap[b]? → ∃ w3, (Instr.entryStore t (.map (some b)) (goInt st) v).run P w2 = .ok () w3 ∧ MapOf P w3 k b (D.put kl (.held v)) ∧ w2.grownBy w3 (some b) := by
  have hlook := h.look (Keyed.of_law K) ht (hz w) hkey
  obtain ⟨es, clock, hb, F, hs, hD⟩ := id h
  obtain ⟨v0, st, es1, clock1, h1, h2, h3⟩ := WideElems.entry_then_store K ht hz hb F hkey
  have hv0 : v0 = (val D kl).getD z := by
    rcases K.find w hkey es.toList F.keys with ⟨q1, q2⟩ | ⟨j, e0, q1, q2, q3⟩
    · have : (Instr.lookup t (.map (some b)) key false).run P w = .ok z w := by
        simp [Instr.lookup, run_underlying ht, MapKept.run_getObj_map hb, K.check w _ hkey, q1, hz, Result.andThen]
      rw [hlook] at this
      injection this with this
      rw [this]
      rcases h2 with ⟨e0, m1, m2, _⟩ | ⟨_, m2⟩
      · exact absurd m2 (q2 e0 m1)
      · exact m2
    · have : (Instr.lookup t (.map (some b)) key false).run P w = .ok e0.val w := by
        simp [Instr.lookup, run_underlying ht, MapKept.run_getObj_map hb, K.check w _ hkey, q1, Result.andThen]
      rw [hlook] at this
      injection this with this
      rw [this]
      have h4 : (Instr.mapEntry t (.map (some b)) key).run P w = .ok (.tuple #[e0.val, goInt ((es[j]?.map (·.born)).getD 0)]) (ChangeMaps.setBlock w b (.map (es.modify j fun e => { e with key := key }) clock)) := by
        have q2' : es[j]? = some e0 := by simpa using q2
        simp [Instr.mapEntry, run_underlying ht, MapKept.run_getObj_map hb, K.check w _ hkey, q1, q2', q3, K.stays w hkey, MapKept.run_setObj_map _ hb, Result.andThen, ChangeMaps.setBlock]
      rw [h1] at h4
      simp only [Result.ok.injEq, Value.tuple.injEq] at h4
      have := congrArg (fun a : Array Value => a[0]?) h4.1
      simpa using this
  subst hv0
  refine ⟨st, _, h1, grown_block w hb _ _, fun w2 v hw2 => ?_⟩
  obtain ⟨es', clock', h5, h6⟩ := h3 w2 v (hw2.trans (ChangeMaps.heap_setBlock_same hb _))
  have hb2 : w2.heap[b]? = some (.map es1 clock1) := hw2.trans (ChangeMaps.heap_setBlock_same hb _)
  refine ⟨_, h5, ?_, grown_block w2 hb2 _ _⟩
  have hm : MapOf P (ChangeMaps.setBlock w b (.map es' clock')) k b (D.put kl (.held v)) := by
    obtain ⟨w', hrun, r1, r2⟩ := World.ownsMap.update h (Keyed.of_law K) ht hn hkey (val := v) (d := .held v) (ps := []) rfl
    rw [h6] at hrun
    injection hrun with _ hrun
    rw [hrun]
    exact MapOf.of r1
  obtain ⟨es2, c2, g1, g2⟩ := hm
  exact ⟨es2, c2, ((ChangeMaps.heap_setBlock_same hb2 _).trans (ChangeMaps.heap_setBlock_same hb _).symm).trans g1, g2⟩

theorem modify_self (es : Array MapEntry) (j : Nat) (key : Value) (e0 : MapEntry) (h : es[j]? = some e0) (hk : e0.key = key) : (es.modify j fun e => { e with key := key }) = es := by
  apply Array.ext_getElem?
  intro i
  rw [Array.getElem?_modify]
  split
  · rename_i e
    subst e
    rw [h]
    simp [← hk]
  · rfl
/-- the entry alone: what the map is then -/
theorem MapOf.entry2 {P : Program} {k t e : TypeId} {w : World} {b : Nat} {D : DataW Value} {kl : Lit} (h : MapOf P w k b D) (K : Go.WideMaps.KeyLaw P k) (ht : P.underlying t = some (.map k e)) {z : Value} (hz : ∀ u : World, (zeroValue e).run P u = .ok z u)
    (hn : Maps.size D < maxLen) {key : Value} (hkey : keyOf P k key = some kl) :
    ∃ st w1, (Instr.mapEntry t (.map (some b)) key).run P w = .ok (.tuple #[(val D kl).getD z, goInt st]) w1 ∧ w.grownBy w1 (some b) ∧
      ((w1.heap[b]? = w.heap[b]? ∧ (val D kl).isSome = true) ∨ ((val D kl) = none ∧ MapOf P w1 k b (D.put kl (.held z)))) ∧
      ∀ (w2 : World) (v : Value), w2.heap[b]? = w1.heap[b]? → ∃ w3, (Instr.entryStore t (.map (some b)) (goInt st) v).run P w2 = .ok () w3 ∧ MapOf P w3 k b (D.put kl (.held v)) ∧ w2.grownBy w3 (some b) := by
  obtain ⟨st, w1, hr, hg, hst⟩ := h.entry K ht hz hn hkey
  refine ⟨st, w1, hr, hg, ?_, hst⟩
  have hlook := h.look_ok (Keyed.of_law K) ht (hz w) hkey
  obtain ⟨es, clock, hb, F, hs, hD⟩ := id h
  rcases K.find w hkey es.toList F.keys with ⟨q1, q2⟩ | ⟨j, e0, q1, q2, q3⟩
  · refine .inr ⟨?_, ?_⟩
    · have : (Instr.lookup t (.map (some b)) key true).run P w = .ok (.tuple #[z, .bool false]) w := by
        simp [Instr.lookup, run_underlying ht, MapKept.run_getObj_map hb, K.check w _ hkey, q1, hz, Result.andThen]
      rw [hlook] at this
      simp only [Result.ok.injEq, Value.tuple.injEq] at this
      have := congrArg (fun a : Array Value => a[1]?) this.1
      simpa using this
    · obtain ⟨w', hrun, r1, r2⟩ := World.ownsMap.update h (Keyed.of_law K) ht hn hkey (val := z) (d := .held z) (ps := []) rfl
      have h5 : (Instr.mapUpdate t (.map (some b)) key z).run P w = .ok () (ChangeMaps.setBlock w b (.map (es.push ⟨key, z, clock⟩) (clock + 1))) := by
        simp [Instr.mapUpdate, run_underlying ht, MapKept.run_getObj_map hb, K.check w _ hkey, q1, MapKept.run_setObj_map _ hb, Result.andThen, ChangeMaps.setBlock]
      have h4 : ∃ v, (Instr.mapEntry t (.map (some b)) key).run P w = .ok v (ChangeMaps.setBlock w b (.map (es.push ⟨key, z, clock⟩) (clock + 1))) := ⟨_, by
        simp [Instr.mapEntry, run_underlying ht, MapKept.run_getObj_map hb, K.check w _ hkey, q1, hz, MapKept.run_setObj_map _ hb, Result.andThen, ChangeMaps.setBlock]; rfl⟩
      obtain ⟨v, h4⟩ := h4
      rw [hr] at h4
      injection h4 with _ h4
      rw [h5] at hrun
      injection hrun with _ hrun
      rw [h4, hrun]
      exact MapOf.of r1
  · refine .inl ⟨?_, ?_⟩
    · have q2' : es[j]? = some e0 := by simpa using q2
      have h4 : ∃ v, (Instr.mapEntry t (.map (some b)) key).run P w = .ok v (ChangeMaps.setBlock w b (.map (es.modify j fun e => { e with key := key }) clock)) := ⟨.tuple #[e0.val, goInt ((es[j]?.map (·.born)).getD 0)], by
        simp [Instr.mapEntry, run_underlying ht, MapKept.run_getObj_map hb, K.check w _ hkey, q1, q2', q3, K.stays w hkey, MapKept.run_setObj_map _ hb, Result.andThen, ChangeMaps.setBlock]⟩
      obtain ⟨v, h4⟩ := h4
      rw [hr] at h4
      injection h4 with _ h4
      rw [h4, ChangeMaps.heap_setBlock_same hb, modify_self es j key e0 q2' q3, hb]
    · have : (Instr.lookup t (.map (some b)) key true).run P w = .ok (.tuple #[e0.val, .bool true]) w := by
        simp [Instr.lookup, run_underlying ht, MapKept.run_getObj_map hb, K.check w _ hkey, q1, Result.andThen]
      rw [hlook] at this
      simp only [Result.ok.injEq, Value.tuple.injEq] at this
      have := congrArg (fun a : Array Value => a[1]?) this.1
      simpa using this
end Go.Proofs.Ytekbdpfiommmbaa
