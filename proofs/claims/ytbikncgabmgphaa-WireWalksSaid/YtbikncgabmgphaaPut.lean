/- The contracts of both Puts, and of the reference's Get. Conditions: as each theorem says. -/
import Derived.Test.YtbikncgabmgphaaNum
namespace Go.Proofs.Ytbikncgabmgphaa
open Go.RowKit
set_option linter.unusedVariables false

theorem info_u8 : (Try.prog.info? 5).map (fun i => (i.zero, i.size, i.bytes)) = some (some (.int .u8 0), 1, 1) := by kernel_rfl

/-- the bytes of a number -/
def beb (n size : Nat) : List UInt8 := (List.range size).map fun i => UInt8.ofNat (n / 256 ^ (size - 1 - i))
theorem beb_length (n size : Nat) : (beb n size).length = size := by simp [beb]
theorem beb_get (n size i : Nat) (h : i < (beb n size).length) : (beb n size)[i] = UInt8.ofNat (n / 256 ^ (size - 1 - i)) := by simp [beb]
theorem pow_bits (k : Nat) : (2 : Int) ^ (8 * k) = 256 ^ k := by
  rw [Int.pow_mul]
  rfl

theorem put_not (n size : Int) (w : World) (h : room n size = false) :
    Calls Try.prog 11 #[.int .u64 n, .int .i64 size] w fun e w' => e = .returned (.tuple #[.slice none 0 0, .int .i64 2]) ∧ w = w' := by
  by_cases h1 : size < 1
  · clear h
    go_enter Try.func11, Try.ntmps11
    go_wp2
    go_ret2
    exact ⟨rfl, rfl⟩
  by_cases h2 : 8 < size
  · clear h
    go_enter Try.func11, Try.ntmps11
    go_wp2
    go_ret2
    exact ⟨rfl, rfl⟩
  · obtain ⟨k, rfl⟩ := Int.eq_ofNat_of_zero_le (show 0 ≤ size by omega)
    have hd : (n / 2 ^ (8 * k) != 0) = true := by
      rw [pow_bits, bne_iff_ne]
      have h3 : ¬ n < 256 ^ k := by
        simp [room, show 1 ≤ (k : Int) by omega, show (k : Int) ≤ 8 by omega] at h
        exact Int.not_lt.2 h.2
      intro e
      exact h3 (by have := Int.lt_ediv_add_one_mul_self n (pow256_pos k); rw [e] at this; simpa using this)
    clear h
    go_enter Try.func11, Try.ntmps11
    go_wp2
    go_ret2
    exact ⟨rfl, rfl⟩

/-- the row of Put behind k rounds -/
def putRow (n s k : Nat) : List UInt8 := (beb n s).take k ++ List.replicate (s - k) 0
theorem putRow_zero (n s : Nat) : putRow n s 0 = List.replicate s 0 := by simp [putRow]
theorem putRow_full (n s : Nat) : putRow n s s = beb n s := by
  unfold putRow
  rw [List.take_of_length_le (by simp [beb_length])]
  simp
theorem putRow_set (n s k : Nat) (h : k < s) : (putRow n s k).set k (UInt8.ofNat (n / 256 ^ (s - 1 - k))) = putRow n s (k + 1) := by
  have hb := beb_length n s
  have ht : (beb n s).take (k + 1) = (beb n s).take k ++ [UInt8.ofNat (n / 256 ^ (s - 1 - k))] := by
    rw [List.take_succ_eq_append_getElem (by omega), beb_get]
  have hl : ((beb n s).take k).length = k := by rw [List.length_take]; omega
  unfold putRow
  rw [ht, List.set_append_right _ _ (by omega), hl, Nat.sub_self]
  obtain ⟨m, hm⟩ : ∃ m, s - k = m + 1 := ⟨s - k - 1, by omega⟩
  rw [hm, show s - (k + 1) = m by omega, List.replicate_succ, List.set_cons_zero, List.append_assoc]
  rfl

theorem bytes_ty : ByteTy Try.prog 23 5 := ⟨Try.underlying23, Try.underlying5, info_parts info_u8⟩

theorem putByte (n k : Nat) : ((UInt8.ofNat (n / 256 ^ k)).toNat : Int) = (n : Int) / 2 ^ (8 * k) % 256 := by
  rw [pow_bits, UInt8.toNat_ofNat']
  simp

set_option maxRecDepth 100000 in
theorem put_yes (n size : Int) (w : World) (h : room n size = true) (hn : 0 ≤ n) (hn' : n < 18446744073709551616) :
    Calls Try.prog 11 #[.int .u64 n, .int .i64 size] w fun e w' =>
      ∃ A c, e = .returned (.tuple #[.slice A size.toNat c, .int .i64 0]) ∧ Rd w' w.heap.size A size.toNat (beb n.toNat size.toNat) ∧ Ext w w' := by
  obtain ⟨n, rfl⟩ := Int.eq_ofNat_of_zero_le hn
  have hs : 1 ≤ size ∧ size ≤ 8 := by
    simp only [room, Bool.and_eq_true, decide_eq_true_eq] at h
    exact h.1
  obtain ⟨h1, h8⟩ := hs
  obtain ⟨s, rfl⟩ := Int.eq_ofNat_of_zero_le (show 0 ≤ size by omega)
  have hd : ((n : Int) / 2 ^ (8 * s) != 0) = false := by
    rw [pow_bits]
    have h3 : (n : Int) < 256 ^ s := by
      simp [room] at h
      rcases h.2 with e | e
      · obtain rfl : s = 8 := by omega
        exact hn'
      · exact e
    simp [Int.ediv_eq_zero_of_lt hn h3]
  simp only [Int.toNat_natCast]
  clear h hn'
  go_enter Try.func11, Try.ntmps11
  go_wp2_with (at_make; refine wpList_make_b bytes_ty rfl _ _ rfl w (Ext.refl w) _ _ _ _ s rfl rfl rfl rfl (by omega) ?_; intro w1 hown _ hx)
  rw [← putRow_zero n s] at hown
  go_loopw [7, 25] (fun _ i wr => ∃ k : Nat, k ≤ s ∧ i = .int .i64 k ∧ Own wr w.heap.size 5 (some ⟨w.heap.size, 0, none⟩) s s (putRow n s k) ∧ Ext w wr) (fun _ i _ => s - (intOf i).toNat)
  case atStart => exact ⟨0, Nat.zero_le _, rfl, hown, hx⟩
  case round =>
    obtain ⟨k, hk, rfl, hr, hx1⟩ := hrel
    by_cases hlt : k < s
    · have hcell := hr.at_ hlt
      have hfz := hr.free k
      have hst := (hr.store k (UInt8.ofNat (n / 256 ^ (s - 1 - k)))).1
      rw [putRow_set n s k hlt, putByte] at hst
      go_wp2
      go_round
      case rel => exact ⟨k + 1, by omega, by go_num, hst, hx1.setCell (Nat.le_refl _) _⟩
      case measure => simp [intOf]; omega
    · obtain rfl : k = s := by omega
      rw [putRow_full] at hr
      go_wp2
      go_ret2
      exact ⟨_, _, rfl, hr.rd, hx1⟩
theorem beb_snoc (n s k : Nat) (h : k < s) : (beb n s).take (k + 1) = (beb n s).take k ++ [UInt8.ofNat (n / 256 ^ (s - 1 - k))] := by
  rw [List.take_succ_eq_append_getElem (by rw [beb_length]; exact h), beb_get]

/-- what is left of the number behind k rounds of the reference's Put -/
theorem rem_step (n s k : Nat) (h : k < s) : n % 256 ^ (s - k) % 256 ^ (s - 1 - k) = n % 256 ^ (s - (k + 1)) := by
  rw [show s - (k + 1) = s - 1 - k by omega, show s - k = (s - 1 - k) + 1 by omega, Nat.pow_succ, Nat.mod_mul_right_mod]
theorem quo_step (n s k : Nat) (h : k < s) : UInt8.ofNat (n % 256 ^ (s - k) / 256 ^ (s - 1 - k)) = UInt8.ofNat (n / 256 ^ (s - 1 - k)) := by
  rw [show s - k = (s - 1 - k) + 1 by omega, Nat.pow_succ, Nat.mod_mul_right_div_self]
  apply UInt8.toNat_inj.1
  simp [UInt8.toNat_ofNat']

theorem rem_lt (n s k : Nat) (h : k < s) : n % 256 ^ (s - k) < 256 ^ (s - 1 - k) * 256 := by
  rw [← Nat.pow_succ, show (s - 1 - k).succ = s - k by omega]
  exact Nat.mod_lt _ (Nat.pow_pos (by decide))

/-- what stands in the reference's Put behind k rounds -/
def RputAt (n s k : Nat) (x : Int) : Prop := x = ((n % 256 ^ (s - k) : Nat) : Int)

theorem rput_any (n size : Int) (w : World) (h1 : 1 ≤ size) (h8 : size ≤ 8) (hn : 0 ≤ n) (hn' : n < 256 ^ size.toNat) :
    Calls Try.prog 16 #[.int .u64 n, .int .i64 size] w fun e w' =>
      ∃ A c, e = .returned (.slice A size.toNat c) ∧ Rd w' w.heap.size A size.toNat (beb n.toNat size.toNat) ∧ Ext w w' := by
  obtain ⟨n, rfl⟩ := Int.eq_ofNat_of_zero_le hn
  obtain ⟨s, rfl⟩ := Int.eq_ofNat_of_zero_le (show 0 ≤ size by omega)
  simp only [Int.toNat_natCast] at hn' ⊢
  have hm : RputAt n s 0 n := by
    unfold RputAt
    rw [Nat.mod_eq_of_lt (by rw [Nat.sub_zero]; exact Int.ofNat_lt.1 (by rw [Int.natCast_pow]; exact hn'))]
  clear hn'
  go_enter Try.func16, Try.ntmps16
  go_wp2
  go_loopw [0, 5, 6] (fun x v i wr => ∃ k A c X, k ≤ s ∧ i = .int .i64 (k : Nat) ∧ x = .int .u64 X ∧ RputAt n s k X ∧ v = .slice A k c ∧ Own wr w.heap.size 5 A k c ((beb n s).take k) ∧ Ext w wr) (fun _ _ i _ => s - (intOf i).toNat)
  case atStart => exact ⟨0, none, 0, n, by omega, rfl, rfl, hm, rfl, Own.nil _ _ _, Ext.refl w⟩
  case round =>
    obtain ⟨k, A, c, X, hk, rfl, rfl, hX, rfl, hr, hx⟩ := hrel
    clear hm
    by_cases hlt : k < s
    · have hX' := hX
      unfold RputAt at hX'
      obtain ⟨q, hq⟩ : ∃ q : Nat, 256 ^ (s - 1 - k) = q := ⟨_, rfl⟩
      have hq' := Lib.hid (show (256 : Int) ^ (s - 1 - k) = (q : Int) by rw [← hq]; simp)
      have hqh := Lib.hid hq
      have hp : 1 ≤ (q : Int) := by have : 0 < 256 ^ (s - 1 - k) := Nat.pow_pos (by decide); omega
      have hl := rem_lt n s k hlt
      rw [hq] at hl
      have hnext := rem_step n s k hlt
      have hbyte := quo_step n s k hlt
      rw [hq] at hnext hbyte
      have hN : Hid (RputAt n s (k + 1) (X % q)) := by
        unfold Hid RputAt
        rw [hX', ← hnext]
        simp
      have hB := Lib.hid (show UInt8.ofNat (X / q % 256).toNat = UInt8.ofNat (n / q) from by
        rw [← hbyte, hX']
        apply UInt8.toNat_inj.1
        rw [UInt8.toNat_ofNat', UInt8.toNat_ofNat']
        omega)
      have hX0 : 0 ≤ X := by omega
      have hd0 : 0 ≤ X / q := Int.ediv_nonneg hX0 (by omega)
      have hd1 : X / q ≤ 255 := by
        have : X / q < 256 := Int.ediv_lt_of_lt_mul (by omega) (by rw [hX', Int.mul_comm]; exact Int.ofNat_lt.2 hl)
        omega
      have hT := Lib.hid (beb_snoc n s k hlt)
      have hW := Lib.hid (show IntKind.u64.wrap (X.tdiv q) = X / q by rw [Int.tdiv_eq_ediv_of_nonneg hX0]; exact IntWalk.u64_in _ ⟨hd0, by omega⟩)
      clear hX' hl hnext hbyte hX hq
      go_wp2_with fail
      refine (weight_any _ _ (by omega) (by omega)).mono ?_
      rintro e w1 ⟨rfl, rfl⟩
      rw [show ((s : Int) - 1 - (k : Int)).toNat = s - 1 - k by omega, hq'.out]
      go_wp2_with (at_builtin; refine wpList_append_b bytes_ty rfl _ _ rfl w (hx.alloc _) A k c _ rfl (hr.alloc _) _ 1 1 _ _ rfl (Rd.new1 _ _ _ ?h0 ?h1) ?hl ?_; rotate_right; intro A2 c2 w2 hr2 _ hx2)
      · go_roundw
        case rel =>
          refine ⟨k + 1, A2, c2, X % q, by omega, by go_num, rfl, hN, rfl, ?_, hx2⟩
          rw [hT.out, hqh.out, ← hB.out, ← hW.out]
          exact hr2
        case measure => simp [intOf]; omega
      · rw [hW.out]; omega
      · rw [hW.out]; omega
      · omega
    · obtain rfl : k = s := by omega
      rw [List.take_of_length_le (by rw [beb_length]; exact Nat.le_refl _)] at hr
      clear hX
      go_wp2
      go_ret
      exact ⟨_, _, rfl, hr.rd, hx⟩
/-- what stands in the reference's Get behind k rounds -/
def RgetAt (l : List UInt8) (k : Nat) (x : Int) : Prop := x = ((bnum (l.take k) * 256 ^ (l.length - k) : Nat) : Int)
theorem rget_step (l : List UInt8) (k : Nat) (h : k < l.length) :
    bnum (l.take k) * 256 ^ (l.length - k) + l[k].toNat * 256 ^ (l.length - 1 - k) = bnum (l.take (k + 1)) * 256 ^ (l.length - (k + 1)) := by
  rw [show l.take (k + 1) = l.take k ++ [l[k]] by simp, bnum_snoc, show l.length - (k + 1) = l.length - 1 - k by omega, show l.length - k = (l.length - 1 - k) + 1 by omega, Nat.pow_succ, Nat.add_mul]
  rw [Nat.mul_comm (256 ^ (l.length - 1 - k)) 256, Nat.mul_assoc]
theorem rget_bound (l : List UInt8) (k : Nat) (h : k ≤ l.length) (h8 : l.length ≤ 8) : bnum (l.take k) * 256 ^ (l.length - k) < 18446744073709551616 := by
  have h1 := bnum_lt (l.take k)
  rw [List.length_take, Nat.min_eq_left h] at h1
  have h2 : bnum (l.take k) * 256 ^ (l.length - k) < 256 ^ k * 256 ^ (l.length - k) := Nat.mul_lt_mul_of_pos_right h1 (Nat.pow_pos (by decide))
  rw [← Nat.pow_add, show k + (l.length - k) = l.length by omega] at h2
  have h3 : 256 ^ l.length ≤ 256 ^ 8 := Nat.pow_le_pow_right (by decide) h8
  have h4 : 256 ^ 8 = 18446744073709551616 := by decide
  omega

theorem rget_any (A : Option Addr) (n c lo : Nat) (l : List UInt8) (w : World) (hr : Rd w lo A n l) (h8 : n ≤ 8) :
    Calls Try.prog 17 #[.slice A n c] w fun e w' => e = .returned (.int .u64 (bnum l)) ∧ Drawn w w' := by
  have hl := hr.len
  subst hl
  go_enter Try.func17, Try.ntmps17
  go_wp2
  go_loopw [3, 4] (fun x i wr => ∃ k X, k ≤ l.length ∧ i = .int .i64 (k : Nat) ∧ x = .int .u64 X ∧ RgetAt l k X ∧ Drawn w wr) (fun _ i _ => l.length - (intOf i).toNat)
  case atStart => exact ⟨0, 0, Nat.zero_le _, rfl, rfl, by simp [RgetAt, bnum], Drawn.refl w⟩
  case round =>
    obtain ⟨k, X, hk, rfl, rfl, hX, hj⟩ := hrel
    have hr2 := hr.ext hj.ext
    by_cases hlt : k < l.length
    · obtain ⟨b, off, rfl, -, -, hc⟩ := hr2.pos (by omega)
      have hcell := hc k hlt
      obtain ⟨q, hq⟩ : ∃ q : Nat, 256 ^ (l.length - 1 - k) = q := ⟨_, rfl⟩
      have hq' := Lib.hid (show (256 : Int) ^ (l.length - 1 - k) = (q : Int) by rw [← hq]; simp)
      have hs := rget_step l k hlt
      have hb := rget_bound l (k + 1) (by omega) h8
      have hb0 := rget_bound l k (by omega) h8
      rw [← hs, hq] at hb
      rw [hq] at hs
      unfold RgetAt at hX
      have hm : l[k].toNat * q < 18446744073709551616 := by omega
      have hN : Hid (RgetAt l (k + 1) (IntKind.u64.wrap (X + IntKind.u64.wrap ((l[k].toNat : Int) * (q : Int))))) := by
        unfold Hid RgetAt
        rw [← hs, hX]
        have e1 : IntKind.u64.wrap ((l[k].toNat : Int) * (q : Int)) = ((l[k].toNat * q : Nat) : Int) := by
          rw [← Int.natCast_mul]
          exact IntWalk.u64_in _ (by omega)
        rw [e1, ← Int.natCast_add]
        exact IntWalk.u64_in _ (by omega)
      clear hc hs hb hb0 hm hX hq
      go_wp2
      go_quiet ((go_at_call 36; exact Calls.quiet_of_same (qs (weight_any _ _ (by omega) (by omega)))))
      go_wp2
      go_roundw
      case rel =>
        refine ⟨k + 1, _, by omega, by go_num, rfl, ?_, hj.more nq⟩
        have := hN.out
        rw [← hq'.out] at this
        rw [IntWalk.u64_in (l[k].toNat : Int) (by have := l[k].toNat_lt; omega)]
        exact this
      case measure => simp [intOf]; omega
    · obtain rfl : k = l.length := by omega
      have hf := Lib.hid (show X = ((bnum l : Nat) : Int) by unfold RgetAt at hX; rw [hX]; simp)
      clear hX hr2
      go_wp2
      go_ret
      exact ⟨ret_int hf.out, hj⟩
/-- a bound, behind a name -/
def lt64 (n : Int) : Prop := n < 18446744073709551616
/-- both Puts, at natural numbers -/
theorem put_nat (n s : Nat) (w : World) (h : room n s = true) (hn' : lt64 n) :
    Calls Try.prog 11 #[.int .u64 (n : Int), .int .i64 (s : Int)] w fun e w' =>
      ∃ A c, e = .returned (.tuple #[.slice A s c, .int .i64 0]) ∧ Rd w' w.heap.size A s (beb n s) ∧ Ext w w' := put_yes n s w h (by omega) hn'
theorem rput_nat (n s : Nat) (w : World) (h1 : 1 ≤ s) (h8 : s ≤ 8) (hn' : n < 256 ^ s) :
    Calls Try.prog 16 #[.int .u64 (n : Int), .int .i64 (s : Int)] w fun e w' =>
      ∃ A c, e = .returned (.slice A s c) ∧ Rd w' w.heap.size A s (beb n s) ∧ Ext w w' :=
  rput_any n s w (by omega) (by omega) (by omega) (by
    have := Int.ofNat_lt.2 hn'
    rw [Int.natCast_pow] at this
    exact this)
theorem bnum_beb (n s : Nat) (h : n < 256 ^ s) : bnum (beb n s) = n := by
  have key : ∀ k, k ≤ s → bnum ((beb n s).take k) = n / 256 ^ (s - k) := by
    intro k
    induction k with
    | zero => intro _; rw [Nat.sub_zero, Nat.div_eq_of_lt h]; rfl
    | succ k ih =>
      intro hk
      rw [beb_snoc n s k (by omega), bnum_snoc, ih (by omega), UInt8.toNat_ofNat', show s - 1 - k = s - (k + 1) by omega, show s - k = (s - (k + 1)) + 1 by omega, Nat.pow_succ, ← Nat.div_div_eq_div_mul]
      omega
  have := key s (Nat.le_refl _)
  rw [List.take_of_length_le (by rw [beb_length]; exact Nat.le_refl _), Nat.sub_self] at this
  simpa using this
theorem beb_wide (n s : Nat) (h : n < 256 ^ s) : beb n (s + 1) = 0 :: beb n s := by
  apply List.ext_getElem
  · simp [beb_length]
  · intro i h1 h2
    rw [beb_get]
    match i with
    | 0 =>
      simp [Nat.div_eq_of_lt h]
    | i + 1 =>
      rw [List.getElem_cons_succ, beb_get]
      congr 2
      simp only [beb_length] at h1
      rw [show s + 1 - 1 - (i + 1) = s - 1 - i by omega]
theorem lt64_of {n s : Nat} (h : n < 256 ^ s) (hs : s ≤ 8) : lt64 n := by
  have h1 : 256 ^ s ≤ 256 ^ 8 := Nat.pow_le_pow_right (by decide) hs
  have h2 : 256 ^ 8 = 18446744073709551616 := by decide
  show (n : Int) < _
  omega
theorem room_more {n s : Nat} (h : n < 256 ^ s) (hs : s ≤ 7) : room n ((s + 1 : Nat) : Int) = true := by
  have h1 : 256 ^ s ≤ 256 ^ (s + 1) := Nat.pow_le_pow_right (by decide) (by omega)
  have h2 : (n : Int) < 256 ^ (s + 1) := by
    have := Int.ofNat_lt.2 (Nat.lt_of_lt_of_le h h1)
    rw [Int.natCast_pow] at this
    exact this
  simp only [room, Int.toNat_natCast, Bool.and_eq_true, Bool.or_eq_true, decide_eq_true_eq]
  exact ⟨⟨by omega, by omega⟩, .inr h2⟩
theorem room_lt {n : Int} {size : Int} (h : room n size = true) (hn : 0 ≤ n) (hn' : n < 18446744073709551616) : 1 ≤ size ∧ size ≤ 8 ∧ n < 256 ^ size.toNat := by
  simp [room] at h
  refine ⟨h.1.1, h.1.2, ?_⟩
  rcases h.2 with e | e
  · subst e; exact hn'
  · exact e

end Go.Proofs.Ytbikncgabmgphaa
