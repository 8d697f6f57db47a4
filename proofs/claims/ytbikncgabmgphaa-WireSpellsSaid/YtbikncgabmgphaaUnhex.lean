/- The contracts of both Unhexes. Conditions: as each theorem says. -/
import Derived.Test.YtbikncgabmgphaaHex
import Derived.Deep.LoopGhost
namespace Go.Proofs.Ytbikncgabmgphaa
open Go.RowKit

def pairOf (x y : UInt8) : Option UInt8 :=
  match fourOf x, fourOf y with
  | some a, some b => some (UInt8.ofNat (a * 16 + b))
  | _, _ => none
/-- the bytes that letters spell -/
def unhex : List UInt8 → Option (List UInt8)
  | [] => some []
  | [_] => none
  | x :: y :: r => match pairOf x y, unhex r with
    | some u, some k => some (u :: k)
    | _, _ => none

theorem unhex_append : ∀ (n : Nat) (l r B : List UInt8), l.length ≤ n → unhex l = some B → unhex (l ++ r) = (unhex r).map (B ++ ·)
  | _, [], r, B, _, h => by
    simp [unhex] at h
    subst h
    cases hr : unhex r <;> simp [hr]
  | _, [_], _, _, _, h => by simp [unhex] at h
  | 0, _ :: _ :: _, _, _, hn, _ => by simp at hn
  | n + 1, x :: y :: l, r, B, hn, h => by
    simp only [List.cons_append, unhex] at h ⊢
    cases hp : pairOf x y with
    | none => simp [hp] at h
    | some u =>
      cases hl : unhex l with
      | none => simp [hp, hl] at h
      | some k =>
        simp [hp, hl] at h
        subst h
        rw [unhex_append n l r k (by simp at hn; omega) hl]
        cases unhex r <;> simp
theorem unhex_length : ∀ (n : Nat) (l B : List UInt8), l.length ≤ n → unhex l = some B → l.length = 2 * B.length
  | _, [], B, _, h => by simp [unhex] at h; subst h; rfl
  | _, [_], _, _, h => by simp [unhex] at h
  | 0, _ :: _ :: _, _, hn, _ => by simp at hn
  | n + 1, x :: y :: l, B, hn, h => by
    simp only [unhex] at h
    cases hp : pairOf x y with
    | none => simp [hp] at h
    | some u =>
      cases hl : unhex l with
      | none => simp [hp, hl] at h
      | some k =>
        simp [hp, hl] at h
        subst h
        have := unhex_length n l k (by simp at hn; omega) hl
        simp
        omega
theorem unhex_pair {l B : List UInt8} (h : unhex l = some B) {x y u : UInt8} (hp : pairOf x y = some u) : unhex (l ++ [x, y]) = some (B ++ [u]) := by
  rw [unhex_append _ l [x, y] B (Nat.le_refl _) h]
  simp [unhex, hp]
theorem unhex_bad {l B : List UInt8} (h : unhex l = some B) {x y : UInt8} (hp : pairOf x y = none) (r : List UInt8) : unhex (l ++ x :: y :: r) = none := by
  rw [unhex_append _ l _ B (Nat.le_refl _) h]
  simp [unhex, hp]
theorem unhex_odd {l B : List UInt8} (h : unhex l = some B) (x : UInt8) : unhex (l ++ [x]) = none := by
  rw [unhex_append _ l _ B (Nat.le_refl _) h]
  simp [unhex]

/-- The front of a text spells these bytes. -/
def Spelt (s : ByteArray) (k : Nat) (B : List UInt8) : Prop := unhex (s.data.toList.take k) = some B
theorem Spelt.next {s : ByteArray} {k : Nat} {B : List UInt8} (h : Spelt s k B) (h1 : k < s.size) (h2 : k + 1 < s.size) {u : UInt8} (hp : pairOf s[k] s[k + 1] = some u) : Spelt s (k + 2) (B ++ [u]) := by
  unfold Spelt at *
  have e : s.data.toList.take (k + 2) = s.data.toList.take k ++ [s[k], s[k + 1]] := by
    rw [List.take_succ_eq_append_getElem (by simpa using h2), List.take_succ_eq_append_getElem (by simpa using h1), List.append_assoc]
    rfl
  rw [e]
  exact unhex_pair h hp
theorem Spelt.bad {s : ByteArray} {k : Nat} {B : List UInt8} (h : Spelt s k B) (h1 : k < s.size) (h2 : k + 1 < s.size) (hp : pairOf s[k] s[k + 1] = none) : unhex s.data.toList = none := by
  unfold Spelt at *
  have e : s.data.toList = s.data.toList.take k ++ s[k] :: s[k + 1] :: s.data.toList.drop (k + 2) := by
    conv => lhs; rw [← List.take_append_drop k s.data.toList]
    rw [List.drop_eq_getElem_cons (by simpa using h1), List.drop_eq_getElem_cons (by simpa using h2)]
    rfl
  rw [e]
  exact unhex_bad h hp _
theorem Spelt.odd {s : ByteArray} {k : Nat} {B : List UInt8} (h : Spelt s k B) (h1 : k + 1 = s.size) : unhex s.data.toList = none := by
  unfold Spelt at *
  have e : s.data.toList = s.data.toList.take k ++ [s[k]] := by
    conv => lhs; rw [← List.take_append_drop k s.data.toList]
    rw [List.drop_eq_getElem_cons (by simp; omega), List.drop_eq_nil_of_le (by simp; omega)]
    rfl
  rw [e]
  exact unhex_odd h _
theorem Spelt.all {s : ByteArray} {k : Nat} {B : List UInt8} (h : Spelt s k B) (h1 : k = s.size) : unhex s.data.toList = some B := by
  unfold Spelt at h
  rwa [List.take_of_length_le (by simp; omega)] at h
theorem Spelt.size {s : ByteArray} {k : Nat} {B : List UInt8} (h : Spelt s k B) (h1 : k ≤ s.size) : k = 2 * B.length := by
  have := unhex_length _ _ _ (Nat.le_refl _) h
  simp at this
  omega

theorem fourOf_lt {u : UInt8} {a : Nat} (h : fourOf u = some a) : a < 16 := by
  unfold fourOf at h
  split at h
  · cases h; omega
  · split at h
    · cases h; omega
    · cases h
theorem nibbles (a b : Nat) (ha : a < 16) (hb : b < 16) : bits .or .u8 (bits .or .u8 0 (a : Int) * 16 % 256) (b : Int) = ((a * 16 + b : Nat) : Int) := by
  have e0 : bits .or .u8 0 (a : Int) = (a : Int) := by
    have := u8_or_nat 0 a (by omega) (by omega)
    simpa using this
  rw [e0, show (a : Int) * 16 % 256 = ((a * 16 : Nat) : Int) by omega, u8_or_nat _ _ (by omega) (by omega)]
  congr 1
  have := Nat.two_pow_add_eq_or_of_lt (i := 4) (b := b) hb a
  rw [Nat.mul_comm a 16]
  exact this.symm

set_option maxRecDepth 100000 in
theorem unhex_any (s : ByteArray) (w : World) (h : s.size ≤ 1000000000) :
    Calls Try.prog 23 #[.string s] w fun e w' => Ext w w' ∧
      ((unhex s.data.toList = none ∧ e = .returned (.tuple #[.slice none 0 0, .int .i64 4])) ∨
       ∃ B A c, unhex s.data.toList = some B ∧ e = .returned (.tuple #[.slice A B.length c, .int .i64 0]) ∧ Rd w' w.heap.size A B.length B) := by
  go_enter Try.func23, Try.ntmps23
  go_wp2_with fail
  go_step3
  go_wp2_with (at_make; refine wpList_room_b bytes_ty rfl _ _ rfl w (Ext.refl w) _ _ _ (s.size / 2) rfl rfl (by omega) (by omega) ?_; intro w1 hown _ hx)
  go_step3
  go_wp2_with fail
  go_loopg [4, 5] s.size (fun g v i wr => ∃ p m A c B, p ≤ s.size ∧ m ≤ p ∧ g + p = s.size ∧ i = .int .i64 (p : Nat) ∧ v = .slice A m c ∧ Own wr w.heap.size 5 A m c B ∧ Spelt s p B ∧ Ext w wr)
  case atStart => exact ⟨0, 0, _, _, [], by omega, by omega, by omega, rfl, rfl, hown, rfl, hx⟩
  case round =>
    obtain ⟨p, m, A, c, B, hk, hm, hg, rfl, rfl, hown, hsp, hx⟩ := hrel
    by_cases hlt : p + 1 < s.size
    · have h0 : p < s.size := by omega
      have b1 : (0 : Int) ≤ (p : Int) ∧ (p : Int) < (s.size : Int) := by omega
      have b2 : (0 : Int) ≤ (p : Int) + 1 ∧ (p : Int) + 1 < (s.size : Int) := by omega
      have i0 : ∀ (w : World) (x y : Value), (Instr.index 68 (.agg #[x, y]) (.int .i64 0)).run Try.prog w = .ok x w := fun _ _ _ => by kernel_rfl
      have i1 : ∀ (w : World) (x y : Value), (Instr.index 68 (.agg #[x, y]) (.int .i64 1)).run Try.prog w = .ok y w := fun _ _ _ => by kernel_rfl
      have hsz := hsp.size hk
      have hBm := hown.rd.len
      have hd : (2 * (m : Int) != (s.size : Int)) = true := by rw [bne_iff_ne]; omega
      clear hsz hBm
      cases hf : fourOf s[p] with
      | none =>
        have HF := Lib.hid (hsp.bad h0 hlt (by simp [pairOf, hf]))
        have H1 := Lib.hid hf
        clear hg hf
        go_wp2_with fail
        go_quiet (fail)
        have hown := hown.drewN nq
        have hx := hx.drewN nq
        generalize wr.drewN nq = wq at *
        go_wp2_with fail
        refine wp_loop_rounds 3 ?_
        rw [rounds_succ]
        go_wp2_with fail
        refine (fourBits_none s[p] _ H1.out).mono ?_
        rintro e w2 ⟨rfl, rfl⟩
        go_wp2_with fail
        rw [Exit.noGoto_ret]
        go_ret2
        exact ⟨hx, .inl ⟨HF.out, rfl⟩⟩
      | some a =>
        cases hf2 : fourOf s[p + 1] with
        | none =>
          have HF := Lib.hid (hsp.bad h0 hlt (by simp [pairOf, hf2]))
          have H1 := Lib.hid hf
          have H2 := Lib.hid hf2
          clear hg hf hf2
          go_wp2_with fail
          go_quiet (fail)
          have hown := hown.drewN nq
          have hx := hx.drewN nq
          generalize wr.drewN nq = wq at *
          go_wp2_with fail
          refine wp_loop_rounds 3 ?_
          rw [rounds_succ]
          go_wp2_with fail
          refine (fourBits_some s[p] a _ H1.out).mono ?_
          rintro e w2 ⟨rfl, rfl⟩
          go_wp2_with fail
          rw [rounds_succ]
          go_wp2_with fail
          refine (fourBits_none s[p + 1] _ H2.out).mono ?_
          rintro e w2 ⟨rfl, rfl⟩
          go_wp2_with fail
          rw [Exit.noGoto_ret]
          go_ret2
          exact ⟨hx, .inl ⟨HF.out, rfl⟩⟩
        | some b =>
          have Hg := Lib.hid hg
          have HP := Lib.hid (show pairOf s[p] s[p + 1] = some (UInt8.ofNat (a * 16 + b)) by simp [pairOf, hf, hf2])
          have H1 := Lib.hid hf
          have H2 := Lib.hid hf2
          have HV := Lib.hid (nibbles a b (fourOf_lt hf) (fourOf_lt hf2))
          have hab : a < 16 ∧ b < 16 := ⟨fourOf_lt hf, fourOf_lt hf2⟩
          clear hg hf hf2
          go_wp2_with fail
          go_quiet (fail)
          have hown := hown.drewN nq
          have hx := hx.drewN nq
          generalize wr.drewN nq = wq at *
          go_wp2_with fail
          refine wp_loop_rounds 3 ?_
          rw [rounds_succ]
          go_wp2_with fail
          refine (fourBits_some s[p] a _ H1.out).mono ?_
          rintro e w2 ⟨rfl, rfl⟩
          go_wp2_with fail
          rw [rounds_succ]
          go_wp2_with fail
          refine (fourBits_some s[p + 1] b _ H2.out).mono ?_
          rintro e w2 ⟨rfl, rfl⟩
          go_wp2_with fail
          rw [rounds_succ]
          go_wp2_with (at_builtin; refine wpList_append_b bytes_ty rfl _ _ rfl w (hx.alloc _) A m c _ rfl (hown.alloc _) _ 1 1 _ _ rfl (Rd.new1 _ _ _ ?h0 ?h1) ?hl ?_; rotate_right; intro A2 c2 w2 hr2 _ hx2)
          · rw [HV.out, Int.toNat_natCast] at hr2
            have hsp2 := hsp.next h0 hlt HP.out
            have hg := Hg.out
            go_wp2_with fail
            go_roundg (gk - 2)
            case measure => omega
            case rel => exact ⟨p + 2, m + 1, A2, c2, _, by omega, by omega, by omega, by go_num, rfl, hr2, hsp2, hx2⟩
          · rw [HV.out]; omega
          · rw [HV.out]; omega
          · omega
    · have hsz := hsp.size hk
      have hBm := hown.rd.len
      by_cases hev : p = s.size
      · have hd : (2 * (m : Int) != (s.size : Int)) = false := by rw [bne_eq_false_iff_eq]; omega
        have HF := Lib.hid (hsp.all hev)
        have HB := Lib.hid hBm
        clear hsz hBm hev hg
        go_wp2_with fail
        rw [Exit.noGoto_ret]
        go_ret2
        refine ⟨hx, .inr ⟨B, A, c, HF.out, ?_, ?_⟩⟩
        · rw [HB.out]; rfl
        · rw [HB.out]; exact hown.rd
      · have hd : (2 * (m : Int) != (s.size : Int)) = true := by rw [bne_iff_ne]; omega
        have HF := Lib.hid (hsp.odd (by omega))
        clear hsz hBm hev hg
        go_wp2_with fail
        rw [Exit.noGoto_ret]
        go_ret2
        exact ⟨hx, .inl ⟨HF.out, rfl⟩⟩
end Go.Proofs.Ytbikncgabmgphaa
