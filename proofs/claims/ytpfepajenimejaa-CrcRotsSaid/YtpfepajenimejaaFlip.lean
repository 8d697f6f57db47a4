/- A bit of a row of bytes turned: what it makes of the sum; three rows xored; the contract of flip. Conditions: as each theorem says. -/
import Derived.Test.YtpfepajenimejaaWords
namespace Go.Proofs.Ytpfepajenimejaa
open Go.RowKit
set_option linter.unusedVariables false
set_option linter.unusedSimpArgs false

theorem w8_xor (a b : UInt8) : w8 (a ^^^ b) = w8 a ^^^ w8 b := by
  apply BitVec.eq_of_toNat_eq
  have ha := a.toNat_lt
  have hb := b.toNat_lt
  have hx : a.toNat ^^^ b.toNat < 2 ^ 8 := Nat.xor_lt_two_pow (by omega) (by omega)
  rw [BitVec.toNat_xor, w8, w8, w8, BitVec.toNat_ofNat, BitVec.toNat_ofNat, BitVec.toNat_ofNat, UInt8.toNat_xor, Nat.mod_eq_of_lt (by omega), Nat.mod_eq_of_lt (by omega), Nat.mod_eq_of_lt (by omega)]
theorem w8_bit (j : Nat) (h : j < 8) : w8 (UInt8.ofNat (2 ^ j)) = 1#32 <<< j := by
  have : ∀ j : Fin 8, w8 (UInt8.ofNat (2 ^ j.1)) = 1#32 <<< j.1 := by decide
  exact this ⟨j, h⟩
theorem sts_bit8 (j : Nat) (h : j < 8) : sts 8 (1#32 <<< j) = turn (8 - j) := by
  have : ∀ j : Fin 8, sts 8 (1#32 <<< j.1) = turn (8 - j.1) := by decide +kernel
  exact this ⟨j, h⟩
theorem sts_bit (j : Nat) (h : j < 32) : sts j (1#32 <<< j) = 1#32 := by
  have : ∀ j : Fin 32, sts j.1 (1#32 <<< j.1) = 1#32 := by decide +kernel
  exact this ⟨j, h⟩

/-- bit k of a row of bytes turned -/
def flipAt (l : List UInt8) (k : Nat) : List UInt8 := l.set (k / 8) (l.getD (k / 8) 0 ^^^ UInt8.ofNat (2 ^ (k % 8)))
theorem flipAt_length (l : List UInt8) (k : Nat) : (flipAt l k).length = l.length := by simp [flipAt]
theorem u8_xor_self (a : UInt8) : a ^^^ a = 0 := by simp
theorem flipAt_twice (l : List UInt8) (k : Nat) : flipAt (flipAt l k) k = l := by
  unfold flipAt
  by_cases h : k / 8 < l.length
  · simp only [List.set_set, List.getD_eq_getElem?_getD, List.getElem?_set_self h, Option.getD_some, List.getElem?_eq_getElem h]
    rw [UInt8.xor_assoc, u8_xor_self, UInt8.xor_zero]
    exact List.set_getElem_self h
  · rw [List.set_eq_of_length_le (by simp; omega), List.set_eq_of_length_le (by omega)]
theorem reg_flip (r : BitVec 32) (l : List UInt8) (k : Nat) (h : k < 8 * l.length) : reg r (flipAt l k) = reg r l ^^^ turn (8 * l.length - k) := by
  have hk : k / 8 < l.length := by omega
  have e : l = l.take (k / 8) ++ l[k / 8] :: l.drop (k / 8 + 1) := by rw [← List.drop_eq_getElem_cons hk, List.take_append_drop]
  have e2 : flipAt l k = l.take (k / 8) ++ (l[k / 8] ^^^ UInt8.ofNat (2 ^ (k % 8))) :: l.drop (k / 8 + 1) := by
    unfold flipAt
    rw [List.set_eq_take_append_cons_drop, if_pos hk, List.getD_eq_getElem?_getD, List.getElem?_eq_getElem hk, Option.getD_some]
  rw [e2]
  conv => rhs; lhs; rw [e]
  rw [reg_append, reg_append, reg_cons, reg_cons, w8_xor, w8_bit _ (Nat.mod_lt _ (by decide)), ← BitVec.xor_assoc, sts_xor, reg_xor, sts_bit8 _ (Nat.mod_lt _ (by decide))]
  congr 1
  rw [turn, ← sts_add, turn]
  congr 1
  simp
  omega
theorem not_xor (a b : BitVec 32) : ~~~ (a ^^^ b) = ~~~ a ^^^ b := by
  rw [not_eq_xor, not_eq_xor a, BitVec.xor_assoc, BitVec.xor_comm b, ← BitVec.xor_assoc]
theorem more_flip (s : BitVec 32) (l : List UInt8) (k : Nat) (h : k < 8 * l.length) : more s (flipAt l k) = more s l ^^^ turn (8 * l.length - k) := by
  rw [more, more, reg_flip _ _ _ h, not_xor]
theorem xor_ne {a d : BitVec 32} (h : d ≠ 0#32) : a ^^^ d ≠ a := by
  intro e
  apply h
  have := congrArg (a ^^^ ·) e
  simpa [← BitVec.xor_assoc] using this

/-- where a place that may be any number lies -/
def place (x : Int) (n : Nat) : Nat := (x % ((8 * n : Nat) : Int)).toNat
theorem place_lt (x : Int) (n : Nat) (h : 0 < n) : place x n < 8 * n := by
  have h1 := Int.emod_nonneg x (b := ((8 * n : Nat) : Int)) (by omega)
  have h2 := Int.emod_lt_of_pos x (b := ((8 * n : Nat) : Int)) (by omega)
  unfold place
  omega
theorem place_of (x : Int) (n : Nat) (h0 : 0 ≤ x) (h : x < 8 * (n : Int)) : (place x n : Int) = x := by
  unfold place
  rw [Int.emod_eq_of_lt h0 (by omega)]
  omega
theorem tmod_two (x : Int) (n : Nat) (hn : 0 < n) : x.tmod (8 * (n : Int)) = (place x n : Int) ∨ x.tmod (8 * (n : Int)) = (place x n : Int) - 8 * (n : Int) := by
  have e : (8 * (n : Int)) = ((8 * n : Nat) : Int) := by omega
  rw [e]
  have h1 := Int.emod_nonneg x (b := ((8 * n : Nat) : Int)) (by omega)
  have h2 : (place x n : Int) = x % ((8 * n : Nat) : Int) := by unfold place; omega
  rw [Int.tmod_eq_emod, h2]
  split
  · left; omega
  · right; omega
theorem tmod_pos (x : Int) (n : Nat) (hn : 0 < n) (h : 0 ≤ x.tmod (8 * (n : Int))) : x.tmod (8 * (n : Int)) = (place x n : Int) := by
  have := place_lt x n hn
  rcases tmod_two x n hn with h1 | h1 <;> omega
theorem tmod_neg (x : Int) (n : Nat) (hn : 0 < n) (h : x.tmod (8 * (n : Int)) < 0) : x.tmod (8 * (n : Int)) + 8 * (n : Int) = (place x n : Int) := by
  rcases tmod_two x n hn with h1 | h1 <;> omega

theorem x3 (a b c m : BitVec 32) : a ^^^ b ^^^ c ^^^ m = (a ^^^ m) ^^^ (b ^^^ m) ^^^ (c ^^^ m) := by
  ext i hi
  simp only [BitVec.getElem_xor]
  cases a[i] <;> cases b[i] <;> cases c[i] <;> cases m[i] <;> rfl
/-- three rows, xored -/
def xor3 : List UInt8 → List UInt8 → List UInt8 → List UInt8
  | a :: l, b :: k, c :: j => (a ^^^ b ^^^ c) :: xor3 l k j
  | _, _, _ => []
theorem reg_xor3 : ∀ (l k j : List UInt8) (r s t : BitVec 32), l.length = k.length → k.length = j.length → reg (r ^^^ s ^^^ t) (xor3 l k j) = reg r l ^^^ reg s k ^^^ reg t j
  | [], [], [], r, s, t, _, _ => rfl
  | a :: l, b :: k, c :: j, r, s, t, h1, h2 => by
    rw [xor3, reg_cons, reg_cons, reg_cons, reg_cons, w8_xor, w8_xor, ← reg_xor3 l k j _ _ _ (by simpa using h1) (by simpa using h2), ← sts_xor, ← sts_xor]
    congr 2
    rw [bxac (r ^^^ s), bxac r]
theorem more_xor3 (l k j : List UInt8) (h1 : l.length = k.length) (h2 : k.length = j.length) : more 0#32 (xor3 l k j) = more 0#32 l ^^^ more 0#32 k ^^^ more 0#32 j := by
  have := reg_xor3 l k j (~~~ 0#32) (~~~ 0#32) (~~~ 0#32) h1 h2
  rw [show (~~~ 0#32 ^^^ ~~~ 0#32 ^^^ ~~~ 0#32 : BitVec 32) = ~~~ 0#32 by decide] at this
  rw [more, more, more, more, this, not_eq_xor, not_eq_xor (reg _ l), not_eq_xor (reg _ k), not_eq_xor (reg _ j)]
  exact x3 _ _ _ _
theorem xor3_length : ∀ (l k j : List UInt8), l.length = k.length → k.length = j.length → (xor3 l k j).length = l.length
  | [], [], [], _, _ => rfl
  | a :: l, b :: k, c :: j, h1, h2 => by
    rw [xor3, List.length_cons, List.length_cons, xor3_length l k j (by simpa using h1) (by simpa using h2)]
theorem xor3_get : ∀ (l k j : List UInt8) (i : Nat) (h0 : i < l.length) (h1 : i < k.length) (h2 : i < j.length) (h : i < (xor3 l k j).length), (xor3 l k j)[i] = l[i] ^^^ k[i] ^^^ j[i]
  | a :: l, b :: k, c :: j, 0, _, _, _, _ => rfl
  | a :: l, b :: k, c :: j, i + 1, h0, h1, h2, h => by
    simp only [xor3, List.getElem_cons_succ]
    exact xor3_get l k j i _ _ _ _

theorem u8bit (j : Nat) (h : j < 8) : (((UInt8.ofNat (2 ^ j)).toNat : Nat) : Int) = 2 ^ j := by
  have : ∀ j : Fin 8, (((UInt8.ofNat (2 ^ j.1)).toNat : Nat) : Int) = 2 ^ j.1 := by decide
  exact this ⟨j, h⟩
theorem xor8 (a b : UInt8) : bits .xor .u8 (a.toNat : Int) (b.toNat : Int) = ((a ^^^ b).toNat : Int) := by
  rw [u8_xor_nat _ _ a.toNat_lt b.toNat_lt, UInt8.toNat_xor]

theorem flip_end {g n c base k : Nat} {l : List UInt8} {w : World} (hown : Own w base 5 (some ⟨g, 0, none⟩) n c l) (hk8 : k / 8 < n) (hl : l.length = n) {fn : Func} (a : Act) (W : World)
    (hf : fn.results = #[]) (hd : a.defers = []) (hW : W = w.setCell ⟨g, k / 8, none⟩ (.int .u8 (bits .xor .u8 ((l[k / 8]).toNat : Int) (2 ^ (k % 8) % 256)))) :
    bodyPost Try.prog fn (fun e w' => e = .returned (.tuple #[]) ∧ Own w' base 5 (some ⟨g, 0, none⟩) n c (flipAt l k) ∧ w.grownBy w' (some g)) .normal a W := by
  subst hW
  have hj : k % 8 < 8 := Nat.mod_lt _ (by decide)
  have h1 := xor8 l[k / 8] (UInt8.ofNat (2 ^ (k % 8)))
  rw [u8bit _ hj] at h1
  have h2 : (2 : Int) ^ (k % 8) % 256 = 2 ^ (k % 8) := by
    have : k % 8 = 0 ∨ k % 8 = 1 ∨ k % 8 = 2 ∨ k % 8 = 3 ∨ k % 8 = 4 ∨ k % 8 = 5 ∨ k % 8 = 6 ∨ k % 8 = 7 := by omega
    rcases this with h | h | h | h | h | h | h | h <;> rw [h] <;> decide
  rw [h2, h1]
  have hs := hown.store (k / 8) (l[k / 8] ^^^ UInt8.ofNat (2 ^ (k % 8)))
  have e : flipAt l k = l.set (k / 8) (l[k / 8] ^^^ UInt8.ofNat (2 ^ (k % 8))) := by
    unfold flipAt
    rw [List.getD_eq_getElem?_getD, List.getElem?_eq_getElem (by omega), Option.getD_some]
  rw [e]
  exact ⟨hd, .tuple #[], by simp [results, hf], rfl, hs⟩
theorem flip_any (x : Int) (g n c base : Nat) (l : List UInt8) (w : World) (hown : Own w base 5 (some ⟨g, 0, none⟩) n c l) (hn : 0 < n) (hn2 : n ≤ 9000) :
    Calls Try.prog 16 #[.slice (some ⟨g, 0, none⟩) n c, .int .i64 x] w fun e w' => e = .returned (.tuple #[]) ∧ Own w' base 5 (some ⟨g, 0, none⟩) n c (flipAt l (place x n)) ∧ w.grownBy w' (some g) := by
  have hl := hown.rd.len
  have hp := place_lt x n hn
  have hne : ¬ (8 * (n : Int) = 0) := by omega
  have hw : IntKind.i64.wrap (8 * (n : Int)) = 8 * (n : Int) := by rw [IntKind.wrap_i64]; omega
  obtain ⟨t, ht⟩ : ∃ t, x.tmod (8 * (n : Int)) = t := ⟨_, rfl⟩
  go_enter Try.func16, Try.ntmps16
  by_cases hneg : t < 0
  · have h1 := tmod_neg x n hn (by rw [ht]; exact hneg)
    rw [ht] at h1
    obtain ⟨k, hk⟩ : ∃ k, place x n = k := ⟨_, rfl⟩
    rw [hk] at h1 hp ⊢
    have hk8 : k / 8 < n := by omega
    have hcell := hown.at_ hk8
    have hfz := hown.free (k / 8)
    go_wp2_with fail
    refine flip_end hown hk8 hl _ _ ?_ ?_ ?_
    all_goals rfl
  · have h1 := tmod_pos x n hn (by rw [ht]; omega)
    rw [ht] at h1
    obtain ⟨k, hk⟩ : ∃ k, place x n = k := ⟨_, rfl⟩
    rw [hk] at h1 hp ⊢
    subst h1
    have hk8 : k / 8 < n := by omega
    have hcell := hown.at_ hk8
    have hfz := hown.free (k / 8)
    go_wp2_with fail
    refine flip_end hown hk8 hl _ _ ?_ ?_ ?_
    all_goals rfl
end Go.Proofs.Ytpfepajenimejaa
