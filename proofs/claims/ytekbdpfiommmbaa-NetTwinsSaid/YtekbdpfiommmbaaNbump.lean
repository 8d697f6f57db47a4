/- m[k]++ on a map of lines to ints: what its steps keep, in any order. Conditions: told at each. -/
import Derived.Test.YtekbdpfiommmbaaNsend
namespace Go.Proofs.Ytekbdpfiommmbaa
open Go.RowKit Go.Maps
set_option linter.unusedVariables false
set_option linter.unusedSimpArgs false

abbrev MI (u : World) (b : Nat) (D : DataW Value) : Prop := MapOf Try.prog u 77 b D
def BumpS (b : Nat) (D : DataW Value) (kl : Lit) (u : World) : Prop := MI u b D ∨ (val D kl = none ∧ MI u b (D.put kl (.held (.int .i64 0))))
def BumpH (b : Nat) (kl : Lit) (u : World) : Prop := ∃ D1, MI u b D1 ∧ (val D1 kl).isSome = true
def BumpR (b : Nat) (D : DataW Value) (kl : Lit) (u u' : World) : Prop := Tu (fun k => k = b) u u' ∧ (BumpS b D kl u → BumpS b D kl u') ∧ (BumpH b kl u → u'.heap[b]? = u.heap[b]?)
def PutI (D : DataW Value) (kl : Lit) (v : Value) (D2 : DataW Value) : Prop := (∀ k', val D2 k' = if k'.sameKey kl = true then some v else val D k') ∧ SizeOk D2
def StoreI (b : Nat) (D : DataW Value) (kl : Lit) (st : Int) (u : World) : Prop := ∀ (w2 : World) (v : Value), w2.heap[b]? = u.heap[b]? → ∃ w3 D2, (Instr.entryStore 91 (.map (some b)) (goInt st) v).run Try.prog w2 = .ok () w3 ∧ MI w3 b D2 ∧ PutI D kl v D2 ∧ w2.grownBy w3 (some b)
section
variable {b : Nat} {D : DataW Value} {kl : Lit} {u u' u'' : World}
theorem BumpR.refl (b : Nat) (D : DataW Value) (kl : Lit) (u : World) : BumpR b D kl u u := ⟨Tu.refl _ _, id, fun _ => rfl⟩
theorem BumpR.toTu (x : BumpR b D kl u u') : Tu (fun k => k = b) u u' := x.1
theorem BumpH.keep (h : BumpH b kl u) (hb : u'.heap[b]? = u.heap[b]?) : BumpH b kl u' := by
  obtain ⟨D1, h1, h2⟩ := h
  exact ⟨D1, h1.keep hb, h2⟩
theorem BumpR.trans (x : BumpR b D kl u u') (y : BumpR b D kl u' u'') : BumpR b D kl u u'' :=
  ⟨x.1.trans y.1, fun h => y.2.1 (x.2.1 h), fun h => (y.2.2 (h.keep (x.2.2 h))).trans (x.2.2 h)⟩
theorem BumpR.mono {st : Int} (x : BumpR b D kl u u') (h : StoreI b D kl st u ∧ BumpH b kl u) : StoreI b D kl st u' ∧ BumpH b kl u' :=
  ⟨fun w2 v e => h.1 w2 v (e.trans (x.2.2 h.2)), h.2.keep (x.2.2 h.2)⟩
theorem MapOf.one {D1 D2 : DataW Value} {a c : Int} (h1 : MI u b D1) (h2 : MI u b D2) (ha : (Lit.int .i64 a).wf = true) (hc : (Lit.int .i64 c).wf = true) : (val D1 (lnk a c)).isSome = (val D2 (lnk a c)).isSome := by
  have e1 := h1.look_ok law_l Try.underlying91 (Try.zeroValue3 u) (key_l ha hc)
  have e2 := h2.look_ok law_l Try.underlying91 (Try.zeroValue3 u) (key_l ha hc)
  rw [e1] at e2
  simp only [Result.ok.injEq, Value.tuple.injEq, Array.mk.injEq, List.cons.injEq, Value.bool.injEq, and_true] at e2
  exact e2.2
theorem bump_look {u0 : World} {a c : Int} (ha : (Lit.int .i64 a).wf = true) (hc : (Lit.int .i64 c).wf = true) (m0 : MI u0 b D) (h : BumpS b D (lnk a c) u) :
    (Instr.lookup 91 (.map (some b)) (lnv a c) false).run Try.prog u = .ok ((val D (lnk a c)).getD (.int .i64 0)) u := by
  rcases h with h | ⟨h1, h2⟩
  · exact h.look law_l Try.underlying91 (Try.zeroValue3 u) (key_l ha hc)
  · have e := h2.look law_l Try.underlying91 (Try.zeroValue3 u) (key_l ha hc)
    rw [val_put (kl := lnk a c) m0.isMap trivial, if_pos (WideAt.sameKey_self (a := lnk a c) trivial)] at e
    rw [h1]
    exact e
theorem bump_entry {u0 : World} {a c : Int} (h1 : 1 ≤ a) (h2 : a ≤ 5) (h3 : 1 ≤ c) (h4 : c ≤ 5) (ha : (Lit.int .i64 a).wf = true) (hc : (Lit.int .i64 c).wf = true) (m0 : MI u0 b D) (hz : SizeOk D) (h : BumpS b D (lnk a c) u) :
    ∃ st w1, (Instr.mapEntry 91 (.map (some b)) (lnv a c)).run Try.prog u = .ok (.tuple #[(val D (lnk a c)).getD (.int .i64 0), goInt st]) w1 ∧ BumpR b D (lnk a c) u w1 ∧ StoreI b D (lnk a c) st w1 ∧ BumpH b (lnk a c) w1 := by
  rcases h with m | ⟨e0, m⟩
  · obtain ⟨st, w1, hr, hg, hcs, hst⟩ := m.entry2 law_lk Try.underlying91 Try.zeroValue3 (by have := hz.le; unfold maxLen; omega) (key_l ha hc)
    have T : Tu (fun k => k = b) u w1 := Tu.of_grown hg (by rintro k e; cases e; rfl)
    have S : StoreI b D (lnk a c) st w1 := fun w2 v e => by
      obtain ⟨w3, q1, q2, q3⟩ := hst w2 v e
      exact ⟨w3, _, q1, q2, ⟨fun k' => val_put (kl := lnk a c) m.isMap trivial v k', hz.put m h1 h2 h3 h4 ha hc v⟩, q3⟩
    rcases hcs with ⟨e1, e2⟩ | ⟨e1, e2⟩
    · exact ⟨st, w1, hr, ⟨T, fun _ => .inl (m.keep e1), fun _ => e1⟩, S, ⟨D, m.keep e1, e2⟩⟩
    · refine ⟨st, w1, hr, ⟨T, fun _ => .inr ⟨e1, e2⟩, fun hh => ?_⟩, S, ⟨_, e2, ?_⟩⟩
      · obtain ⟨D1, k1, k2⟩ := hh
        rw [MapOf.one k1 m ha hc, e1] at k2
        cases k2
      · rw [val_put (kl := lnk a c) m.isMap trivial, if_pos (WideAt.sameKey_self (a := lnk a c) trivial)]
        rfl
  · have hv : val (D.put (lnk a c) (.held (.int .i64 0))) (lnk a c) = some (.int .i64 0) := by rw [val_put (kl := lnk a c) m0.isMap trivial, if_pos (WideAt.sameKey_self (a := lnk a c) trivial)]
    have hz1 := hz.put m0 h1 h2 h3 h4 ha hc (.int .i64 0)
    obtain ⟨st, w1, hr, hg, hcs, hst⟩ := m.entry2 law_lk Try.underlying91 Try.zeroValue3 (by have := hz1.le; unfold maxLen; omega) (key_l ha hc)
    have T : Tu (fun k => k = b) u w1 := Tu.of_grown hg (by rintro k e; cases e; rfl)
    have S : StoreI b D (lnk a c) st w1 := fun w2 v e => by
      obtain ⟨w3, q1, q2, q3⟩ := hst w2 v e
      refine ⟨w3, _, q1, q2, ⟨fun k' => ?_, hz1.put m h1 h2 h3 h4 ha hc v⟩, q3⟩
      rw [val_put (kl := lnk a c) m.isMap trivial v k', val_put (kl := lnk a c) m0.isMap trivial _ k']
      split <;> rfl
    rw [hv] at hr
    rw [e0]
    rcases hcs with ⟨e1, e2⟩ | ⟨e1, e2⟩
    · exact ⟨st, w1, hr, ⟨T, fun _ => .inr ⟨e0, m.keep e1⟩, fun _ => e1⟩, S, ⟨_, m.keep e1, e2⟩⟩
    · rw [hv] at e1
      cases e1
end
end Go.Proofs.Ytekbdpfiommmbaa
