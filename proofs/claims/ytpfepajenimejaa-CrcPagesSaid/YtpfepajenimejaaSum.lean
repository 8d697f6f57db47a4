/- The sum's mathematics: a register of 32 bits, its step, that all of it is linear, tables, squares; that two bits near each other are seen, and that an odd number of them is. Conditions: none. -/
import Derived.Test.YtpfepajenimejaaKit
namespace Go.Proofs.Ytpfepajenimejaa
set_option linter.unusedVariables false

/-- one step of a register -/
def st (r : BitVec 32) : BitVec 32 := (r >>> 1) ^^^ (if r.getLsbD 0 then 2197175160#32 else 0#32)
theorem bxac (a b c d : BitVec 32) : (a ^^^ b) ^^^ (c ^^^ d) = (a ^^^ c) ^^^ (b ^^^ d) := by
  rw [BitVec.xor_assoc, BitVec.xor_assoc, ← BitVec.xor_assoc b c d, BitVec.xor_comm b c, BitVec.xor_assoc]
theorem st_xor (a b : BitVec 32) : st (a ^^^ b) = st a ^^^ st b := by
  unfold st
  rw [BitVec.ushiftRight_xor_distrib, BitVec.getLsbD_xor, bxac]
  congr 1
  cases a.getLsbD 0 <;> cases b.getLsbD 0 <;> simp
theorem st_zero : st 0#32 = 0#32 := by decide

/-- so many steps -/
def sts : Nat → BitVec 32 → BitVec 32
  | 0, r => r
  | n + 1, r => st (sts n r)
theorem sts_xor (n : Nat) (a b : BitVec 32) : sts n (a ^^^ b) = sts n a ^^^ sts n b := by
  induction n with
  | zero => rfl
  | succ n ih => simp only [sts, ih, st_xor]
theorem sts_zero (n : Nat) : sts n 0#32 = 0#32 := by
  induction n with
  | zero => rfl
  | succ n ih => simp only [sts, ih, st_zero]
theorem sts_add (a b : Nat) (r : BitVec 32) : sts (a + b) r = sts a (sts b r) := by
  induction a with
  | zero => simp [sts]
  | succ a ih => rw [Nat.succ_add]; simp only [sts, ih]
theorem sts_comm (a b : Nat) (r : BitVec 32) : sts a (sts b r) = sts b (sts a r) := by rw [← sts_add, ← sts_add, Nat.add_comm]
theorem sts_one (r : BitVec 32) : sts 1 r = st r := rfl
theorem sts_succ' (n : Nat) (r : BitVec 32) : sts (n + 1) r = sts n (st r) := by rw [sts_add, sts_one]

/-- a step can be taken back -/
def ts (r : BitVec 32) : BitVec 32 := if r.getLsbD 31 then ((r ^^^ 2197175160#32) <<< 1) ||| 1#32 else r <<< 1
theorem poly31 : (2197175160#32).getLsbD 31 = true := by decide
theorem st_top (r : BitVec 32) : (st r).getLsbD 31 = r.getLsbD 0 := by
  unfold st
  cases h : r.getLsbD 0 <;> simp
theorem ts_st (r : BitVec 32) : ts (st r) = r := by
  unfold ts
  rw [st_top]
  unfold st
  cases h : r.getLsbD 0
  · simp
    ext i hi
    simp
    by_cases h0 : i = 0
    · subst h0; simpa using h.symm
    · simp [h0, show 1 + (i - 1) = i by omega, BitVec.getLsbD_eq_getElem hi]
  · simp
    rw [BitVec.xor_assoc, BitVec.xor_self, BitVec.xor_zero]
    ext i hi
    simp
    by_cases h0 : i = 0
    · subst h0; simpa using h.symm
    · simp [h0, show 1 + (i - 1) = i by omega, BitVec.getLsbD_eq_getElem hi]
theorem st_inj {a b : BitVec 32} (h : st a = st b) : a = b := by rw [← ts_st a, ← ts_st b, h]
theorem sts_inj (n : Nat) {a b : BitVec 32} (h : sts n a = sts n b) : a = b := by
  induction n with
  | zero => exact h
  | succ n ih => exact ih (st_inj h)
theorem sts_ne (n : Nat) {a : BitVec 32} (h : a ≠ 0#32) : sts n a ≠ 0#32 := fun e => h (sts_inj n (e.trans (sts_zero n).symm))

theorem st_even (r : BitVec 32) (h : r.getLsbD 0 = false) : st r = r >>> 1 := by unfold st; rw [h]; simp
/-- four steps of a register by its lowest four bits' -/
theorem sts_four (r : BitVec 32) : sts 4 r = (r >>> 4) ^^^ sts 4 (r &&& 15#32) := by
  have e : r = ((r >>> 4) <<< 4) ^^^ (r &&& 15#32) := by
    ext i hi
    simp only [BitVec.getElem_xor, BitVec.getElem_shiftLeft, BitVec.getElem_and]
    by_cases h4 : i < 4
    · have : i = 0 ∨ i = 1 ∨ i = 2 ∨ i = 3 := by omega
      rcases this with rfl | rfl | rfl | rfl <;> simp [BitVec.getElem_eq_testBit_toNat] <;> exact fun _ => by decide
    · have h15 : (15#32)[i] = false := by
        have : ∀ i : Fin 32, 4 ≤ i.1 → (15#32)[i.1]'i.2 = false := by decide
        exact this ⟨i, hi⟩ (by show 4 ≤ i; omega)
      simp [h4, h15, show 4 + (i - 4) = i by omega, BitVec.getLsbD_eq_getElem hi]
  have k : sts 4 ((r >>> 4) <<< 4) = r >>> 4 := by
    have g : ∀ j, j < 4 → ((r >>> 4) <<< 4).getLsbD j = false := by intro j hj; simp [hj]
    simp only [sts]
    rw [st_even _ (g 0 (by omega)), st_even (((r >>> 4) <<< 4) >>> 1) (by rw [BitVec.getLsbD_ushiftRight]; exact g 1 (by omega)),
      st_even (((r >>> 4) <<< 4) >>> 1 >>> 1) (by rw [BitVec.getLsbD_ushiftRight, BitVec.getLsbD_ushiftRight]; exact g 2 (by omega)),
      st_even (((r >>> 4) <<< 4) >>> 1 >>> 1 >>> 1) (by rw [BitVec.getLsbD_ushiftRight, BitVec.getLsbD_ushiftRight, BitVec.getLsbD_ushiftRight]; exact g 3 (by omega))]
    ext i hi
    simp only [BitVec.getElem_ushiftRight, BitVec.getLsbD_ushiftRight, BitVec.getLsbD_shiftLeft]
    by_cases h28 : i < 28
    · simp [show 1 + (1 + (1 + (1 + i))) < 32 by omega, show ¬ (1 + (1 + (1 + (1 + i))) < 4) by omega, show 4 + (1 + (1 + (1 + (1 + i))) - 4) = 4 + i by omega]
    · simp [show ¬ (1 + (1 + (1 + (1 + i))) < 32) by omega]
      exact BitVec.getLsbD_of_ge r (4 + i) (by omega)
  exact (congrArg (sts 4) e).trans ((sts_xor 4 _ _).trans (by rw [k]))

/-- a byte as a word -/
def w8 (u : UInt8) : BitVec 32 := BitVec.ofNat 32 u.toNat
/-- a register behind bytes -/
def reg (r : BitVec 32) (l : List UInt8) : BitVec 32 := l.foldl (fun r u => sts 8 (r ^^^ w8 u)) r
theorem reg_snoc (r : BitVec 32) (l : List UInt8) (u : UInt8) : reg r (l ++ [u]) = sts 8 (reg r l ^^^ w8 u) := by simp [reg]
theorem reg_append (r : BitVec 32) (l m : List UInt8) : reg r (l ++ m) = reg (reg r l) m := by simp [reg]
theorem reg_cons (r : BitVec 32) (u : UInt8) (l : List UInt8) : reg r (u :: l) = reg (sts 8 (r ^^^ w8 u)) l := rfl
theorem reg_xor (l : List UInt8) : ∀ (a d : BitVec 32), reg (a ^^^ d) l = reg a l ^^^ sts (8 * l.length) d := by
  induction l with
  | nil => intro a d; rfl
  | cons u l ih =>
    intro a d
    rw [reg_cons, reg_cons, BitVec.xor_assoc, BitVec.xor_comm d, ← BitVec.xor_assoc, sts_xor, ih, ← sts_add]
    congr 2
theorem reg_noughts (r : BitVec 32) (n : Nat) : reg r (List.replicate n 0) = sts (8 * n) r := by
  induction n with
  | zero => rfl
  | succ n ih =>
    rw [List.replicate_succ', reg_snoc, ih, show w8 0 = 0#32 from by decide, BitVec.xor_zero, ← sts_add]
    congr 1
    omega
/-- the sum of bytes behind a sum -/
def more (s : BitVec 32) (l : List UInt8) : BitVec 32 := ~~~ reg (~~~ s) l
theorem more_append (s : BitVec 32) (l m : List UInt8) : more s (l ++ m) = more (more s l) m := by simp [more, reg_append]
theorem more_nil (s : BitVec 32) : more s [] = s := by simp [more, reg]
theorem not_eq_xor (a : BitVec 32) : ~~~ a = a ^^^ 4294967295#32 := by
  ext i hi
  have : ∀ i : Fin 32, (4294967295#32)[i.1]'i.2 = true := by decide
  simp [this ⟨i, hi⟩]
/-- two sums' join -/
theorem more_join (a b : List UInt8) : more 0#32 (a ++ b) = sts (8 * b.length) (more 0#32 a) ^^^ more 0#32 b := by
  have h := reg_xor b (~~~ 0#32) (more 0#32 a)
  have e : ~~~ 0#32 ^^^ more 0#32 a = reg (~~~ 0#32) a := by
    rw [more, not_eq_xor (reg _ _), BitVec.xor_comm, BitVec.xor_assoc]
    rw [show (4294967295#32 ^^^ ~~~ 0#32 : BitVec 32) = 0#32 from by decide, BitVec.xor_zero]
  rw [e] at h
  rw [more, reg_append, h, not_eq_xor, show more 0#32 b = reg (~~~ 0#32) b ^^^ 4294967295#32 from not_eq_xor _, BitVec.xor_comm (reg _ b), BitVec.xor_assoc]
theorem more_noughts (s : BitVec 32) (n : Nat) : more s (List.replicate n 0) = ~~~ sts (8 * n) (~~~ s) := by rw [more, reg_noughts]

/-- a word's bits, and what each of them gives, xored -/
def lin (f : Nat → BitVec 32) (r : BitVec 32) : Nat → BitVec 32
  | 0 => 0#32
  | n + 1 => lin f r n ^^^ (if r.getLsbD n then f n else 0#32)
theorem lin_bits (r : BitVec 32) : ∀ n, n ≤ 32 → ∀ j, (lin (fun i => 1#32 <<< i) r n).getLsbD j = (decide (j < n) && r.getLsbD j)
  | 0, _, j => by simp [lin]
  | n + 1, hn, j => by
    rw [lin, BitVec.getLsbD_xor, lin_bits r n (by omega) j]
    have h1 : (1#32 <<< n).getLsbD j = decide (j = n) := by
      rw [BitVec.getLsbD_shiftLeft]
      rcases Nat.lt_trichotomy j n with h | h | h
      · simp [h]; omega
      · subst h; simp; omega
      · by_cases h32 : j < 32
        · simp [h32, show ¬ j < n by omega, show j ≠ n by omega]
          omega
        · simp [h32]; omega
    by_cases hb : r.getLsbD n
    · rw [if_pos hb, h1]
      rcases Nat.lt_trichotomy j n with h | h | h
      · simp [h, show j < n + 1 by omega, show j ≠ n by omega]
      · subst h; simp [hb]
      · simp [show ¬ j < n by omega, show ¬ j < n + 1 by omega, show j ≠ n by omega]
    · rw [if_neg hb]
      rcases Nat.lt_trichotomy j n with h | h | h
      · simp [h, show j < n + 1 by omega]
      · subst h; simp at hb; simp [hb]
      · simp [show ¬ j < n by omega, show ¬ j < n + 1 by omega]
theorem lin_self (r : BitVec 32) : lin (fun i => 1#32 <<< i) r 32 = r := by
  apply BitVec.eq_of_getLsbD_eq
  intro i hi
  rw [lin_bits r 32 (Nat.le_refl _), show decide (i < 32) = true by simp [hi], Bool.true_and]
theorem lin_map (k : Nat) (r : BitVec 32) : ∀ n, lin (fun i => sts k (1#32 <<< i)) r n = sts k (lin (fun i => 1#32 <<< i) r n)
  | 0 => by simp [lin, sts_zero]
  | n + 1 => by
    rw [lin, lin, lin_map k r n, sts_xor]
    congr 1
    split
    · rfl
    · exact (sts_zero k).symm
theorem lin_sts (k : Nat) (r : BitVec 32) : lin (fun i => sts k (1#32 <<< i)) r 32 = sts k r := by rw [lin_map, lin_self]
theorem unit_down (i : Nat) (h : i < 32) : sts (31 - i) (1#32 <<< 31) = 1#32 <<< i := by
  have : ∀ i : Fin 32, sts (31 - i.1) (1#32 <<< 31) = 1#32 <<< i.1 := by decide +kernel
  exact this ⟨i, h⟩
theorem tab_at (k i : Nat) (h : i < 32) : sts (31 - i) (sts k (1#32 <<< 31)) = sts k (1#32 <<< i) := by rw [sts_comm, unit_down i h]

/-- parity -/
def par (r : BitVec 32) : Nat → Bool
  | 0 => false
  | n + 1 => par r n ^^ r.getLsbD n
theorem par_xor (a b : BitVec 32) : ∀ n, par (a ^^^ b) n = (par a n ^^ par b n)
  | 0 => rfl
  | n + 1 => by
    rw [par, par, par, par_xor a b n, BitVec.getLsbD_xor]
    cases par a n <;> cases par b n <;> cases a.getLsbD n <;> cases b.getLsbD n <;> rfl
theorem par_shift (r : BitVec 32) : ∀ n, par (r >>> 1) n = (par r (n + 1) ^^ r.getLsbD 0)
  | 0 => by simp [par]
  | n + 1 => by
    rw [par, par_shift r n, par, par, par, BitVec.getLsbD_ushiftRight, Nat.add_comm 1 n]
    cases par r n <;> cases r.getLsbD n <;> cases r.getLsbD 0 <;> cases r.getLsbD (n + 1) <;> rfl
theorem par_st (r : BitVec 32) : par (st r) 32 = par r 32 := by
  rw [st, par_xor, par_shift, par, BitVec.getLsbD_of_ge _ 32 (by omega)]
  cases h : r.getLsbD 0
  · simp
    rw [show par (0#32) 32 = false by decide]
    simp
  · simp
    rw [show par (2197175160#32) 32 = true by decide]
    simp
theorem par_sts (n : Nat) (r : BitVec 32) : par (sts n r) 32 = par r 32 := by
  induction n with
  | zero => rfl
  | succ n ih => rw [sts, par_st, ih]
/-- what a bit turned makes of the sum, so many bits ahead of the end -/
def turn (m : Nat) : BitVec 32 := sts m 1#32
theorem par_turn (m : Nat) : par (turn m) 32 = true := by rw [turn, par_sts]; decide
theorem turn_ne (m : Nat) : turn m ≠ 0#32 := sts_ne m (by decide)
theorem turn3_ne (m n o : Nat) : turn m ^^^ turn n ^^^ turn o ≠ 0#32 := by
  intro e
  have h := congrArg (fun x => par x 32) e
  simp only [par_xor, par_turn] at h
  revert h
  decide

/-- the steps, on numbers -/
def stN (r : Nat) : Nat := Nat.xor (r / 2) (r % 2 * 2197175160)
theorem stN_st (v : BitVec 32) : (st v).toNat = stN v.toNat := by
  unfold st stN
  rw [BitVec.toNat_xor, BitVec.toNat_ushiftRight, Nat.shiftRight_eq_div_pow]
  have : v.getLsbD 0 = decide (v.toNat % 2 = 1) := by rw [← BitVec.testBit_toNat]; simp [Nat.testBit_zero]
  rw [this]
  show Nat.xor _ _ = _
  congr 1
  rcases Nat.mod_two_eq_zero_or_one v.toNat with h | h <;> simp [h]
def walkN : Nat → Nat → Nat
  | 0, r => r
  | n + 1, r => match r with
    | 0 => 0
    | r' + 1 => match Nat.beq r' 0 with
      | true => 0
      | false => walkN n (stN (r' + 1))
def walkB : Nat → Nat → Nat
  | 0, r => r
  | n + 1, r => match r with
    | 0 => 0
    | r' + 1 => walkB n (walkN 270 (r' + 1))
theorem walkN_go (n r' : Nat) (h : Nat.beq r' 0 = false) : walkN (n + 1) (r' + 1) = walkN n (stN (r' + 1)) := by
  show (match Nat.beq r' 0 with | true => 0 | false => walkN n (stN (r' + 1))) = _
  rw [h]
theorem walkN_end (n r' : Nat) (h : Nat.beq r' 0 = true) : walkN (n + 1) (r' + 1) = 0 := by
  show (match Nat.beq r' 0 with | true => 0 | false => walkN n (stN (r' + 1))) = _
  rw [h]
theorem walkN_nought (n : Nat) : walkN (n + 1) 0 = 0 := rfl
theorem walkB_go (n r' : Nat) : walkB (n + 1) (r' + 1) = walkB n (walkN 270 (r' + 1)) := rfl
theorem walkB_nought : ∀ n, walkB n 0 = 0
  | 0 => rfl
  | n + 1 => rfl
theorem walkN_spec : ∀ (n : Nat) (v : BitVec 32), walkN n v.toNat ≠ 0 → walkN n v.toNat = (sts n v).toNat ∧ ∀ d, d < n → sts d v ≠ 1#32
  | 0, v, h => ⟨rfl, fun d hd => by omega⟩
  | n + 1, v, h => by
    cases hv : v.toNat with
    | zero => rw [hv] at h; exact absurd rfl h
    | succ r' =>
      rw [hv] at h
      cases hb : Nat.beq r' 0 with
      | true => rw [walkN_end n r' hb] at h; exact absurd rfl h
      | false =>
        rw [walkN_go n r' hb] at h ⊢
        rw [← hv, ← stN_st] at h ⊢
        obtain ⟨h1, h2⟩ := walkN_spec n (st v) h
        refine ⟨by rw [h1, sts_succ'], ?_⟩
        intro d hd
        cases d with
        | zero =>
          intro e
          have : v.toNat = 1 := by rw [show v = 1#32 from e]; rfl
          rw [hv] at this
          obtain rfl : r' = 0 := by omega
          exact absurd hb (by decide)
        | succ d => rw [sts_succ']; exact h2 d (by omega)
theorem walkB_spec : ∀ (n : Nat) (v : BitVec 32), walkB n v.toNat ≠ 0 → ∀ d, d < 270 * n → sts d v ≠ 1#32
  | 0, v, h => fun d hd => by omega
  | n + 1, v, h => by
    cases hv : v.toNat with
    | zero => rw [hv] at h; exact absurd rfl h
    | succ r' =>
      rw [hv, walkB_go, ← hv] at h
      have hz : walkN 270 v.toNat ≠ 0 := by
        intro e
        rw [e] at h
        exact h (walkB_nought n)
      obtain ⟨h1, h2⟩ := walkN_spec 270 v hz
      rw [h1] at h
      intro d hd
      rcases Nat.lt_or_ge d 270 with h3 | h3
      · exact h2 d h3
      · have := walkB_spec n (sts 270 v) h (d - 270) (by omega)
        rwa [← sts_add, show d - 270 + 270 = d by omega] at this
theorem far_apart : walkB 270 2197175160 ≠ 0 := by decide +kernel
theorem no_round (d : Nat) (h0 : 0 < d) (h : d < 72000) : sts d 1#32 ≠ 1#32 := by
  have e : st 1#32 = 2197175160#32 := by decide
  have := walkB_spec 270 2197175160#32 far_apart (d - 1) (by omega)
  rwa [← e, ← sts_succ', show d - 1 + 1 = d by omega] at this
theorem turn_inj (m n : Nat) (hm : m ≤ 72000) (hn : n ≤ 72000) (h0 : 0 < m) (k0 : 0 < n) (h : turn m = turn n) : m = n := by
  rcases Nat.lt_trichotomy m n with h1 | h1 | h1
  · refine absurd (sts_inj m (a := sts (n - m) 1#32) (b := 1#32) ?_) (no_round (n - m) (by omega) (by omega))
    rw [← sts_add, show m + (n - m) = n by omega]
    exact h.symm
  · exact h1
  · refine absurd (sts_inj n (a := sts (m - n) 1#32) (b := 1#32) ?_) (no_round (m - n) (by omega) (by omega))
    rw [← sts_add, show n + (m - n) = m by omega]
    exact h
end Go.Proofs.Ytpfepajenimejaa
