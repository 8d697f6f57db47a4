/- A net's flights, as a row, behind what is done to it: the same but for their order and one more, one less. Conditions: as each theorem says. -/
import Derived.Test.YtekbdpfiommmbaaNflt
namespace Go.Proofs.Ytekbdpfiommmbaa
open Go.RowKit Go.Maps
set_option linter.unusedVariables false
set_option linter.unusedSimpArgs false

theorem mem_ord {e : Nat} {a b : Int} (ha : 1 ≤ a ∧ a ≤ e) (hb : 1 ≤ b ∧ b ≤ e) : (a, b) ∈ orderL e (e * e) := by
  have h1 : (a - 1).toNat < e := by omega
  have h2 : (b - 1).toNat < e := by omega
  refine List.mem_map.2 ⟨e * (a - 1).toNat + (b - 1).toNat, List.mem_range.2 ?_, ?_⟩
  · have h3 : e * ((a - 1).toNat + 1) ≤ e * e := Nat.mul_le_mul_left _ (by omega)
    rw [Nat.mul_add, Nat.mul_one] at h3
    omega
  · have h3 : (e * (a - 1).toNat + (b - 1).toNat) / e = (a - 1).toNat := by
      rw [Nat.mul_add_div (by omega), Nat.div_eq_of_lt h2, Nat.add_zero]
    have h4 : (e * (a - 1).toNat + (b - 1).toNat) % e = (b - 1).toNat := by
      rw [Nat.mul_add_mod, Nat.mod_eq_of_lt h2]
    rw [ordAt, h3, h4, Prod.mk.injEq]
    omega
theorem ord_nodup (e : Nat) : (orderL e (e * e)).Nodup := by
  rcases Nat.eq_zero_or_pos e with h0 | h0
  · subst h0
    exact List.nodup_nil
  · unfold orderL
    rw [List.Nodup, List.pairwise_map]
    exact List.nodup_range.imp fun hne h => hne (ordAt_inj h0 h)
theorem flL_L {g g' : NC} {e : Nat} (h : ∀ p ∈ orderL e (e * e), g.L p.1 p.2 = g'.L p.1 p.2) : flL g e (e * e) = flL g' e (e * e) := by
  unfold flL
  rw [List.flatMap_def, List.flatMap_def]
  congr 1
  exact List.map_congr_left fun p hp => by rw [h p hp]
theorem flL_split (g : NC) {e : Nat} {a b : Int} (hm : (a, b) ∈ orderL e (e * e)) : ∃ X Y : List (Int × Int × Row), ∀ l, flL (g.put a b l) e (e * e) = X ++ l.map (fun r => (a, b, r)) ++ Y := by
  obtain ⟨s, t, hst⟩ := List.append_of_mem hm
  have hnd := ord_nodup e
  rw [hst] at hnd
  have h1 : ∀ p ∈ s, p ≠ (a, b) := fun p hp e' => by
    subst e'
    exact (List.nodup_append.1 hnd).2.2 _ hp _ List.mem_cons_self rfl
  have h2 : ∀ p ∈ t, p ≠ (a, b) := fun p hp e' => by
    subst e'
    exact (List.nodup_cons.1 (List.nodup_append.1 hnd).2.1).1 hp
  refine ⟨s.flatMap fun p => (g.L p.1 p.2).map fun r => (p.1, p.2, r), t.flatMap fun p => (g.L p.1 p.2).map fun r => (p.1, p.2, r), fun l => ?_⟩
  have hput : ∀ p : Int × Int, p ≠ (a, b) → (g.put a b l).L p.1 p.2 = g.L p.1 p.2 := fun p hp => by
    have : ¬ (p.1 = a ∧ p.2 = b) := fun e' => hp (Prod.ext e'.1 e'.2)
    simp only [NC.put, if_neg this]
  have hself : (g.put a b l).L a b = l := by simp [NC.put]
  rw [flL, hst, List.flatMap_append, List.flatMap_cons, hself, List.append_assoc]
  congr 1
  · rw [List.flatMap_def, List.flatMap_def]
    congr 1
    exact List.map_congr_left fun p hp => by rw [hput p (h1 p hp)]
  · congr 1
    rw [List.flatMap_def, List.flatMap_def]
    congr 1
    exact List.map_congr_left fun p hp => by rw [hput p (h2 p hp)]
theorem put_self (g : NC) (a b : Int) : g.put a b (g.L a b) = g := by
  cases g with
  | mk x y L =>
    simp only [NC.put, NC.mk.injEq, true_and]
    funext c d
    by_cases h : c = a ∧ d = b
    · rw [if_pos h, h.1, h.2]
    · rw [if_neg h]
theorem flL_add (g : NC) {e : Nat} {a b : Int} (hm : (a, b) ∈ orderL e (e * e)) (row : Row) : (flL (g.put a b (g.L a b ++ [row])) e (e * e)).Perm ((a, b, row) :: flL g e (e * e)) := by
  obtain ⟨X, Y, h⟩ := flL_split g hm
  have h0 := h (g.L a b)
  rw [put_self] at h0
  rw [h, h0, List.map_append, List.map_cons, List.map_nil, ← List.append_assoc, List.append_assoc, List.singleton_append]
  exact List.perm_middle
theorem flL_del (g : NC) {e : Nat} {a b : Int} (hm : (a, b) ∈ orderL e (e * e)) {i : Nat} {row : Row} (hi : (g.L a b)[i]? = some row) : (flL g e (e * e)).Perm ((a, b, row) :: flL (g.del a b i) e (e * e)) := by
  obtain ⟨X, Y, h⟩ := flL_split g hm
  have h0 := h (g.L a b)
  rw [put_self] at h0
  obtain ⟨hl, e1⟩ := List.getElem?_eq_some_iff.1 hi
  have h1 : g.L a b = (g.L a b).take i ++ row :: (g.L a b).drop (i + 1) := by rw [← e1, List.getElem_cons_drop, List.take_append_drop]
  rw [NC.del, h, h0]
  generalize (g.L a b).take i = A at *
  generalize (g.L a b).drop (i + 1) = B at *
  rw [h1, List.map_append, List.map_cons, List.map_append]
  have : X ++ (A.map (fun r => (a, b, r)) ++ (a, b, row) :: B.map (fun r => (a, b, r))) ++ Y = (X ++ A.map (fun r => (a, b, r))) ++ (a, b, row) :: (B.map (fun r => (a, b, r)) ++ Y) := by simp
  rw [this]
  refine List.perm_middle.trans (.cons _ ?_)
  rw [← List.append_assoc, ← List.append_assoc]
theorem flL_clr (g : NC) (e : Nat) (k : Int) : flL (g.clr k) e (e * e) = (flL g e (e * e)).filter fun t => decide (t.2.1 ≠ k) := by
  unfold flL
  rw [List.filter_flatMap, List.flatMap_def, List.flatMap_def]
  congr 1
  refine List.map_congr_left fun p hp => ?_
  by_cases h : p.2 = k
  · rw [List.filter_eq_nil_iff.2]
    · simp [NC.clr, h]
    · intro t ht
      obtain ⟨r, _, rfl⟩ := List.mem_map.1 ht
      simp [h]
  · rw [List.filter_eq_self.2]
    · simp [NC.clr, h]
    · intro t ht
      obtain ⟨r, _, rfl⟩ := List.mem_map.1 ht
      simp [h]
theorem flL_part (g : NC) (e : Nat) (k : Int) : (flL g e (e * e)).Perm ((flL g e (e * e)).filter (fun t => decide (t.2.1 = k)) ++ flL (g.clr k) e (e * e)) := by
  rw [flL_clr]
  have h : (fun t : Int × Int × Row => decide (t.2.1 ≠ k)) = fun t => !decide (t.2.1 = k) := by
    funext t
    by_cases h : t.2.1 = k <;> simp [h]
  rw [h]
  exact (List.filter_append_perm _ _).symm
end Go.Proofs.Ytekbdpfiommmbaa
