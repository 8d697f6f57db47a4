/- Maps whose elements are told as the values themselves, key by key. Conditions: none. -/
import Derived.Test.YtekbdpfiommmbaaTail
import Derived.Maps.OwnSet
import Derived.Maps.RangeWalk
import Derived.Maps.Ext
import Derived.Sort.KeysCollected
import Derived.Lib.SlKeysI
namespace Go.Proofs.Ytekbdpfiommmbaa
open Go.RowKit Go.Maps
open Go.WideElems (Fit rd rg rd_key rd_val rg_of)
set_option linter.unusedVariables false

/-- a number's value -/
def nOf : Value → Int | .int _ n => n | _ => 0

/-- an element read as itself -/
def anyR (v : Value) : Option (DataW Value × List MemPlace) := some (.held v, [])
theorem anyR_inv {v : Value} {d : DataW Value} {ps : List MemPlace} (h : anyR v = some (d, ps)) : d = .held v ∧ ps = [] := by
  simp only [anyR, Option.some.injEq, Prod.mk.injEq] at h
  exact ⟨h.1.symm, h.2.symm⟩

/-- a name, a number as a key -/
abbrev sk (s : List UInt8) : Lit := .string s
abbrev ik (n : Int) : Lit := .int .i64 n

/-- what D has at a key -/
def val (D : DataW Value) (kl : Lit) : Option Value := if Maps.has D kl = true then (match D.atKey kl .nil with | .held v => some v | _ => none) else none

theorem atKey_any {D : DataW Value} {kl : Lit} (h : Maps.has D kl = true) (z z' : DataW Value) : D.atKey kl z = D.atKey kl z' := by
  cases D with
  | map es =>
    simp only [Maps.has, List.any_eq_true] at h
    obtain ⟨p, hp, hs⟩ := h
    simp only [DataW.atKey]
    cases hf : es.find? (fun p => p.1.sameKey kl) with
    | some q => rfl
    | none =>
      rw [List.find?_eq_none] at hf
      exact absurd hs (hf p hp)
  | _ => simp [Maps.has] at h
theorem val_of {D : DataW Value} {kl : Lit} (h : Maps.has D kl = true) {z : DataW Value} {v : Value} (e : D.atKey kl z = .held v) : val D kl = some v := by
  rw [val, if_pos h, atKey_any h .nil z, e]
theorem val_off {D : DataW Value} {kl : Lit} (h : Maps.has D kl = false) : val D kl = none := by
  rw [val, if_neg (by simp [h])]

/-- block b is a map that holds D -/
def MapOf (P : Program) (w : World) (k : TypeId) (b : Nat) (D : DataW Value) : Prop := w.ownsMap P k anyR b (Maps.size D) D

section
variable {P : Program} {k : TypeId} {w w' : World} {b n : Nat} {D : DataW Value} {kl : Lit}

theorem MapOf.of (h : w.ownsMap P k anyR b n D) : MapOf P w k b D := by
  obtain ⟨es, clock, hb, F, hs, rfl⟩ := h
  refine ⟨es, clock, hb, F, ?_, rfl⟩
  have : ((es.toList.map (rg P k anyR)).foldr DataW.insert []).length = es.size := by rw [length_sorted]; simp
  rw [Maps.size_eq, this]
  exact Nat.le_refl _
theorem MapOf.lt (h : MapOf P w k b D) : b < w.heap.size := World.ownsMap.lt h
theorem MapOf.keep (h : MapOf P w k b D) (hb : w'.heap[b]? = w.heap[b]?) : MapOf P w' k b D := by
  obtain ⟨es, clock, h1, F, hs, hD⟩ := h
  exact ⟨es, clock, hb.trans h1, F, hs, hD⟩
theorem MapOf.ext (h : MapOf P w k b D) (hx : Ext w w') : MapOf P w' k b D := h.keep (hx.blk h.lt)
theorem MapOf.made (w : World) (P : Program) (k : TypeId) : MapOf P (w.alloc (.map #[] 0)) k w.heap.size (.map []) := World.ownsMap_made w P k anyR
/-- what is there is a value -/
theorem MapOf.there (h : MapOf P w k b D) (hh : Maps.has D kl = true) : ∃ v, val D kl = some v ∧ ∀ z, D.atKey kl z = .held v := by
  obtain ⟨es, clock, h1, F, hs, hD⟩ := h
  have h2 := hh
  rw [hD] at h2
  rw [Maps.has_eq, List.any_eq_true] at h2
  obtain ⟨p, hp, hsm⟩ := h2
  obtain ⟨q, hq⟩ : ∃ q, ((es.toList.map (rg P k anyR)).foldr DataW.insert []).find? (fun p => p.1.sameKey kl) = some q := by
    cases hf : ((es.toList.map (rg P k anyR)).foldr DataW.insert []).find? (fun p => p.1.sameKey kl) with
    | some q => exact ⟨q, rfl⟩
    | none => rw [List.find?_eq_none] at hf; exact absurd hsm (hf p hp)
  have hmem := mem_sorted.1 (List.mem_of_find?_eq_some hq)
  obtain ⟨x, hx, rfl⟩ := List.mem_map.1 hmem
  obtain ⟨y, hy⟩ := F.reads x hx
  obtain ⟨z, hz, e⟩ := rd_val hy
  rw [rg_of hy] at hq
  have hz' : y.2 = .held x.val := by
    rw [e]
    exact (anyR_inv (v := x.val) (d := z.1) (ps := z.2) hz).1
  have hat : ∀ z, D.atKey kl z = .held x.val := by
    intro z
    rw [hD]
    simp only [DataW.atKey, hq, hz']
  exact ⟨x.val, val_of hh (hat .nil), hat⟩
theorem MapOf.has_iff (h : MapOf P w k b D) : Maps.has D kl = (val D kl).isSome := by
  cases hh : Maps.has D kl with
  | true => obtain ⟨v, hv, _⟩ := h.there hh; rw [hv]; rfl
  | false => rw [val_off hh]; rfl
theorem MapOf.at_ (h : MapOf P w k b D) (z : Value) : D.atKey kl (.held z) = .held ((val D kl).getD z) := by
  cases hh : Maps.has D kl with
  | true => obtain ⟨v, hv, ha⟩ := h.there hh; rw [hv, ha]; rfl
  | false => rw [val_off hh, Maps.atKey_of_not_has hh]; rfl

/-- m[k] -/
theorem MapOf.look {t e : TypeId} (h : MapOf P w k b D) (K : Keyed P k) (ht : P.underlying t = some (.map k e)) {z : Value} (hz : (zeroValue e).run P w = .ok z w) {key : Value} (hkey : keyOf P k key = some kl) :
    (Instr.lookup t (.map (some b)) key false).run P w = .ok ((val D kl).getD z) w := by
  obtain ⟨v, ps, hrun, hv⟩ := World.ownsMap.lookup h K ht hz (zd := .held z) (zp := []) rfl hkey
  rw [h.at_] at hv
  have := (anyR_inv hv).1
  injection this with this
  rw [hrun, this]
/-- v, ok := m[k] -/
theorem MapOf.look_ok {t e : TypeId} (h : MapOf P w k b D) (K : Keyed P k) (ht : P.underlying t = some (.map k e)) {z : Value} (hz : (zeroValue e).run P w = .ok z w) {key : Value} (hkey : keyOf P k key = some kl) :
    (Instr.lookup t (.map (some b)) key true).run P w = .ok (.tuple #[(val D kl).getD z, .bool (val D kl).isSome]) w := by
  obtain ⟨v, ps, hrun, hv⟩ := World.ownsMap.look_ok h K ht hz (zd := .held z) (zp := []) rfl hkey
  rw [h.at_] at hv
  have := (anyR_inv hv).1
  injection this with this
  rw [hrun, this, h.has_iff]
/-- len(m) -/
theorem MapOf.len {t e : TypeId} (h : MapOf P w k b D) (ht : P.underlying t = some (.map k e)) (ty : TypeId) : (Builtin.len_ #[t] ty #[.map (some b)]).run P w = .ok (.int .i64 (Maps.size D)) w := World.ownsMap.len h ht ty

/-- clear(m) -/
theorem MapOf.clear {t e : TypeId} (h : MapOf P w k b D) (ht : P.underlying t = some (.map k e)) (ty : TypeId) :
    ∃ w', (Builtin.clear_ #[t] ty #[.map (some b)]).run P w = .ok (.tuple #[]) w' ∧ MapOf P w' k b (.map []) ∧ w.grownBy w' (some b) := by
  obtain ⟨es, clock, hb, F, hs, hD⟩ := h
  refine ⟨ChangeMaps.setBlock w b (.map #[] clock), ?_, ?_, ?_⟩
  · simp [Builtin.clear_, run_underlying ht, MapKept.run_getObj_map hb, MapKept.run_setObj_map _ hb, Result.andThen, ChangeMaps.setBlock]
  · exact ⟨#[], clock, ChangeMaps.heap_setBlock_same hb _, ⟨by simp, MapKept.stamped_empty clock, by simp⟩, Nat.le_refl _, rfl⟩
  · exact ⟨rfl, rfl, rfl, by simp [ChangeMaps.setBlock], fun i _ hi => ChangeMaps.heap_setBlock_other hb _ (fun e => hi (by rw [e]))⟩

/-- val behind a put, a delete -/
theorem val_put (h : IsMap D) (hk : WideAt.IsKeyLit kl) (v : Value) (k' : Lit) : val (D.put kl (.held v)) k' = if k'.sameKey kl = true then some v else val D k' := by
  cases e : k'.sameKey kl with
  | true =>
    obtain rfl := WideAt.sameKey_eq e
    rw [if_pos rfl, val, has_put_same h hk, atKey_put_same h hk]
    rfl
  | false =>
    have e' : k' ≠ kl := by
      rintro rfl
      rw [WideAt.sameKey_self hk] at e
      cases e
    rw [if_neg (by simp), val, val, has_put_other e', atKey_put_other e']
theorem val_del (D : DataW Value) (hk : WideAt.IsKeyLit kl) (k' : Lit) : val (D.del kl) k' = if k'.sameKey kl = true then none else val D k' := by
  cases e : k'.sameKey kl with
  | true =>
    obtain rfl := WideAt.sameKey_eq e
    rw [if_pos rfl, val_off has_del_same]
  | false =>
    have e' : k' ≠ kl := by
      rintro rfl
      rw [WideAt.sameKey_self hk] at e
      cases e
    rw [if_neg (by simp), val, val, has_del_other e', atKey_del_other e']
theorem sk_same (s u : List UInt8) : (sk s).sameKey (sk u) = decide (s = u) := by rw [Bool.eq_iff_iff]; simp [Lit.sameKey]
theorem ik_same (s u : Int) : (ik s).sameKey (ik u) = decide (s = u) := by rw [Bool.eq_iff_iff]; simp [Lit.sameKey]
theorem val_nil (k' : Lit) : val (.map []) k' = none := val_off (by simp [Maps.has])
theorem MapOf.isMap (h : MapOf P w k b D) : IsMap D := World.ownsMap.isMap h
theorem MapOf.size_put (h : MapOf P w k b D) (K : Keyed P k) (v : Value) : Maps.size (D.put kl (.held v)) = if (val D kl).isSome then Maps.size D else Maps.size D + 1 := by
  rw [Maps.size_put (World.ownsMap.tidy h K), h.has_iff]
theorem MapOf.size_del (h : MapOf P w k b D) (K : Keyed P k) : Maps.size (D.del kl) + (if (val D kl).isSome then 1 else 0) = Maps.size D := by
  have := Maps.size_del (k := kl) (World.ownsMap.tidy h K)
  rwa [h.has_iff] at this
end

/-- one operation, alone -/
theorem wp_one {P : Program} {o : Oper} {a : Act} {w : World} {K : Act → World → Prop} (hgd : o.guard = none) (h : wpList P #[] (fun x a w => match x with | .normal => K a w | _ => False) [o] a w) : o.wp P a w K (fun _ _ _ => False) := by
  unfold wpList at h
  have hw : Region.wanted o (yielded #[] a.tmps) = true := by simp [Region.wanted, hgd]
  rw [if_pos hw] at h
  rcases h with h | ⟨_, hl⟩
  · exact wp_imp_panic (fun a w h => h) (fun c a w hq => hq.elim) (fun a w hq => hq.elim) h
  · obtain ⟨_, _, hl⟩ := hl
    exact hl.elim

section
variable {P : Program} {w : World} {ops : Array Oper} {rest : List Oper} {o : Oper} {a : Act} {Q : Exit → Act → World → Prop} {k e : TypeId} {b : Nat} {D : DataW Value} {kl : Lit}

/-- m[k] = v -/
theorem wpList_put (m x v : Operand) (t : TypeId) (K : Keyed P k) (ht : P.underlying t = some (.map k e)) (hgd : o.guard = none) (hop : o.op = Op.mapUpdate t m x v)
    (h : MapOf P w k b D) (hn : Maps.size D < maxLen) (key u : Value) (hm : a.eval m = .map (some b)) (hx : a.eval x = key) (hv : a.eval v = u) (hkey : keyOf P k key = some kl)
    (hK : ∀ w', MapOf P w' k b (D.put kl (.held u)) → w.grownBy w' (some b) → wpList P ops Q rest (a.put o.dst undef) w') : wpList P ops Q (o :: rest) a w :=
  wpList_mapUpdate_own w hgd m x v t hop k e K ht anyR b _ D hm h hn key u kl hx hv hkey (.held u) [] rfl fun w' h1 h2 => hK w' (MapOf.of h1) h2
/-- delete(m, k) -/
theorem wpList_del (m x : Operand) (t : TypeId) (K : Keyed P k) (ht : P.underlying t = some (.map k e)) (hgd : o.guard = none) (hop : o.op = Op.call { callee := Callee.builtin Builtin.delete, args := #[m, x], argTypes := #[t, k] })
    (h : MapOf P w k b D) (key : Value) (hm : a.eval m = .map (some b)) (hx : a.eval x = key) (hkey : keyOf P k key = some kl)
    (hK : ∀ w', MapOf P w' k b (D.del kl) → w.grownBy w' (some b) → wpList P ops Q rest (a.put o.dst (.tuple #[])) w') : wpList P ops Q (o :: rest) a w :=
  wpList_delete_own w hgd m x t k hop e K ht anyR b _ D hm h key kl hx hkey fun w' h1 h2 => hK w' (MapOf.of h1) h2.grown
/-- len(m) -/
theorem wpList_mlen (m : Operand) (t : TypeId) (ht : P.underlying t = some (.map k e)) (hgd : o.guard = none) (hop : o.op = Op.call { callee := Callee.builtin Builtin.len, args := #[m], argTypes := #[t] })
    (h : MapOf P w k b D) (hm : a.eval m = .map (some b)) (hK : wpList P ops Q rest (a.put o.dst (.int .i64 (Maps.size D))) w) : wpList P ops Q (o :: rest) a w :=
  wpList_len_own w hgd m t hop k e ht anyR b _ D hm h hK
/-- clear(m) -/
theorem wpList_clr (m : Operand) (t : TypeId) (ht : P.underlying t = some (.map k e)) (hgd : o.guard = none) (hop : o.op = Op.call { callee := Callee.builtin Builtin.clear, args := #[m], argTypes := #[t] })
    (h : MapOf P w k b D) (hm : a.eval m = .map (some b)) (hK : ∀ w', MapOf P w' k b (.map []) → w.grownBy w' (some b) → wpList P ops Q rest (a.put o.dst (.tuple #[])) w') : wpList P ops Q (o :: rest) a w := by
  refine wpList_plain hgd fun K' hK' => ?_
  obtain ⟨w', hrun, r1, r2⟩ := h.clear ht o.type
  unfold Oper.wp
  simp [execOp, hop, resolve, invoke, builtin, hm, hrun, Result.andThen]
  exact hK' _ _ (hK w' r1 r2)

/-- a range over m under way: what is left, and how many -/
def Ranging (P : Program) (w : World) (k : TypeId) (b r : Nat) (D : DataW Value) (left : Lit → Bool) (cnt : Nat) : Prop := w.ranges P k anyR b r (Maps.size D) D left cnt
theorem Ranging.map {left : Lit → Bool} {r cnt : Nat} (h : Ranging P w k b r D left cnt) : MapOf P w k b D := MapOf.of h.owns
theorem Ranging.keep {left : Lit → Bool} {r cnt : Nat} {w' : World} (h : Ranging P w k b r D left cnt) (hb : w'.heap[b]? = w.heap[b]?) (hr : w'.heap[r]? = w.heap[r]?) : Ranging P w' k b r D left cnt := by
  obtain ⟨es, clock, since, seen, c0, h1, F, hs, hD, h2, rest⟩ := h
  exact ⟨es, clock, since, seen, c0, hb.trans h1, F, hs, hD, hr.trans h2, rest⟩
theorem wpList_rng (m : Operand) (t : TypeId) (K : Keyed P k) (ht : P.underlying t = some (.map k e)) (hgd : o.guard = none) (hop : o.op = Op.range t m) (h : MapOf P w k b D) (hm : a.eval m = .map (some b))
    (hK : ∀ w', Ranging P w' k b w.heap.size D (Maps.has D) (Maps.size D) → Ext w w' → w'.heap.size = w.heap.size + 1 → wpList P ops Q rest (a.put o.dst (.pointer (some ⟨w.heap.size, 0, none⟩))) w') : wpList P ops Q (o :: rest) a w :=
  wpList_range_own w hgd m t hop k e K ht anyR b _ D hm h fun w' h1 h2 h3 => hK w' h1 ⟨h2.os, h2.tape, h2.output, h2.size, fun i hi => h2.block i hi (by simp)⟩ h3
theorem wpList_nxt {α : Type} (mkK : α → Value) (invK : ∀ key kl, keyOf P k key = some kl → ∃ x, key = mkK x) (it : Operand) (K : Keyed P k) (r : Nat) (left : Lit → Bool) (cnt : Nat) (hgd : o.guard = none) (hop : o.op = Op.next it false)
    (hit : a.eval it = .pointer (some ⟨r, 0, none⟩)) (h : Ranging P w k b r D left cnt)
    (hDone : (∀ kl, left kl = false) → wpList P ops Q rest (a.put o.dst (.tuple #[.bool false])) w)
    (hMore : ∀ (x : α) (c : Value) (kl : Lit) (w' : World) (cnt' : Nat), keyOf P k (mkK x) = some kl → left kl = true → val D kl = some c → Ranging P w' k b r D (fun z => left z && !z.sameKey kl) cnt' → w'.rangeLeft b r < w.rangeLeft b r →
      w.grownBy w' (some r) → w'.heap.size = w.heap.size → (Instr.entry (.pointer (some ⟨r, 0, none⟩))).run P w' = .ok (.tuple #[mkK x, c]) w' → wpList P ops Q rest (a.put o.dst (.tuple #[.bool true, mkK x, c])) w') : wpList P ops Q (o :: rest) a w := by
  refine wpList_next_ranges w hgd it hop k K anyR mkK (fun c => c) invK (fun v y _ => ⟨v, rfl⟩) b r _ D left cnt hit h (fun _ => hDone) ?_
  intro x c kl y w' cnt' h1 h2 h3 h4 h5 h6 h7 h8 h9
  have h3' : y = (.held c, []) := (Option.some.inj h3).symm
  subst h3'
  exact hMore x c kl w' cnt' h1 h2 (val_of (has_true_of_atKey h4) (h4 .nil)) h5 (by rw [h5.left_eq, h.left_eq]; exact h6) h7 h8 h9
end

/-! ### the keys, in order -/
theorem rising_len : ∀ (l : List Int) (a N : Int), l.Pairwise (· < ·) → (∀ x ∈ l, a ≤ x ∧ x < N) → a ≤ N → (l.length : Int) ≤ N - a
  | [], a, N, _, _, h => by simp; omega
  | x :: r, a, N, hp, hb, h => by
    obtain ⟨p1, p2⟩ := List.pairwise_cons.1 hp
    have hx := hb x (by simp)
    have := rising_len r (x + 1) N p2 (fun y hy => ⟨by have := p1 y hy; omega, (hb y (by simp [hy])).2⟩) (by omega)
    simp only [List.length_cons]
    omega
section
variable {P : Program} {k : TypeId} {w : World} {b : Nat} {D : DataW Value}
theorem int_keys (h : MapOf P w k b D) (K : Keyed P k) (hk : ∀ kl, Maps.has D kl = true → ∃ n, kl = ik n) :
    (intKeys D).Pairwise (· < ·) ∧ (∀ n, n ∈ intKeys D ↔ Maps.has D (ik n) = true) ∧ (intKeys D).length = Maps.size D := by
  obtain ⟨es, rfl, hp, hl⟩ := World.ownsMap.canon h K
  have hk' : ∀ p ∈ es, ∃ n, p.1 = ik n := fun p hp => hk p.1 (by rw [Maps.has_eq, List.any_eq_true]; exact ⟨p, hp, WideAt.sameKey_self (hl p hp)⟩)
  refine ⟨?_, fun n => ?_, by simp [intKeys, Maps.size_eq]⟩
  · simp only [intKeys, List.pairwise_map]
    refine hp.imp_of_mem fun {p q} h1 h2 h3 => ?_
    obtain ⟨n, e1⟩ := hk' p h1
    obtain ⟨m, e2⟩ := hk' q h2
    rw [e1, e2] at h3 ⊢
    simpa [Lit.before, intOf] using h3
  · rw [Maps.has_eq, List.any_eq_true]
    simp only [intKeys, List.mem_map]
    constructor
    · rintro ⟨p, h1, h2⟩
      obtain ⟨m, e⟩ := hk' p h1
      refine ⟨p, h1, ?_⟩
      rw [e] at h2 ⊢
      simp only [intOf] at h2
      rw [h2, ik_same]
      simp
    · rintro ⟨p, h1, h2⟩
      refine ⟨p, h1, ?_⟩
      rw [WideAt.sameKey_eq h2]
      rfl
theorem str_keys (h : MapOf P w k b D) (K : Keyed P k) (hk : ∀ kl, Maps.has D kl = true → ∃ n, kl = sk n) :
    (strKeys D).Nodup ∧ (∀ n, n ∈ strKeys D ↔ Maps.has D (sk n) = true) ∧ (strKeys D).length = Maps.size D := by
  obtain ⟨es, rfl, hp, hl⟩ := World.ownsMap.canon h K
  have hk' : ∀ p ∈ es, ∃ n, p.1 = sk n := fun p hp => hk p.1 (by rw [Maps.has_eq, List.any_eq_true]; exact ⟨p, hp, WideAt.sameKey_self (hl p hp)⟩)
  refine ⟨?_, fun n => ?_, by simp [strKeys, Maps.size_eq]⟩
  · rw [List.nodup_iff_pairwise_ne]
    simp only [strKeys, List.pairwise_map]
    refine (apart_of_rising hp).imp_of_mem fun {p q} h1 h2 h3 => ?_
    obtain ⟨n, e1⟩ := hk' p h1
    obtain ⟨m, e2⟩ := hk' q h2
    intro e
    rw [e1, e2] at h3 e
    exact h3 (congrArg sk e)
  · rw [Maps.has_eq, List.any_eq_true]
    simp only [strKeys, List.mem_map]
    constructor
    · rintro ⟨p, h1, h2⟩
      obtain ⟨m, e⟩ := hk' p h1
      refine ⟨p, h1, ?_⟩
      rw [e] at h2 ⊢
      simp only [strOf] at h2
      rw [h2, sk_same]
      simp
    · rintro ⟨p, h1, h2⟩
      refine ⟨p, h1, ?_⟩
      rw [WideAt.sameKey_eq h2]
      rfl
end
end Go.Proofs.Ytekbdpfiommmbaa
