/- order: the lines of a net, in order. Conditions: the net is in memory as told. -/
import Derived.Test.YtekbdpfiommmbaaNby
import Derived.OwnWalk
import Derived.RangeFuncBox
namespace Go.Proofs.Ytekbdpfiommmbaa
open Go.RowKit Go.Maps
set_option linter.unusedVariables false
set_option linter.unusedSimpArgs false

/-- the line at a place of the order -/
def ordAt (e m : Nat) : Int × Int := (((m / e : Nat) : Int) + 1, ((m % e : Nat) : Int) + 1)
def orderL (e m : Nat) : List (Int × Int) := (List.range m).map (ordAt e)
def linesV (l : List (Int × Int)) : List Value := l.flatMap fun p => [.int .i64 p.1, .int .i64 p.2]
theorem orderL_len (e m : Nat) : (orderL e m).length = m := by simp [orderL]
theorem linesV_len (l : List (Int × Int)) : (linesV l).length = l.length * 2 := by
  induction l with
  | nil => rfl
  | cons a l ih => simp only [linesV, List.flatMap_cons, List.length_append, List.length_cons, List.length_nil] at ih ⊢; omega
theorem orderL_snoc {e i j : Nat} (hj : j < e) : orderL e (i * e + j + 1) = orderL e (i * e + j) ++ [((i : Int) + 1, (j : Int) + 1)] := by
  have h1 : (i * e + j) / e = i := by
    rw [Nat.mul_comm, Nat.mul_add_div (by omega), Nat.div_eq_of_lt hj]
    omega
  have h2 : (i * e + j) % e = j := by
    rw [Nat.mul_comm, Nat.mul_add_mod, Nat.mod_eq_of_lt hj]
  simp only [orderL, List.range_succ, List.map_append, List.map_cons, List.map_nil, ordAt, h1, h2]
theorem linesV_snoc (l : List (Int × Int)) (a b : Int) : linesV (l ++ [(a, b)]) = linesV l ++ [.int .i64 a, .int .i64 b] := by simp [linesV]
theorem own_slice {w : World} {base : Nat} {e : TypeId} {size : Nat} {v : Value} {n : Nat} {xs : List Value} (h : w.ownsRow base e size v n xs) : ∃ A c, v = .slice A n c := by
  rcases h.2 with ⟨q1, q2⟩ | ⟨g, cap, cur, q1, _⟩
  · exact ⟨none, 0, by rw [q1, q2]⟩
  · exact ⟨_, _, q1⟩
theorem info_line : (Try.prog.info? 77).map (fun i => (i.zero, i.size, i.bytes)) = some (some (lnv 0 0), 2, 16) := by kernel_rfl

set_option maxRecDepth 100000 in
set_option maxHeartbeats 1600000 in
theorem order_any (w : World) (O : Ow) (n fm : Nat) (F : DataW Value) (g : NC) (h : NetX w O n fm F g) (e : Nat) (he : g.ends = (e : Int)) :
    Calls Try.prog 56 #[fptr n] w fun ee w' => ∃ A c, ee = .returned (.slice A (e * e) c) ∧ w'.ownsRow w.heap.size 77 2 (.slice A (e * e) c) (e * e) (linesV (orderL e (e * e))) ∧ Ext w w' := by
  have heb := h.endsb
  obtain ⟨i0, hi, hz0, hz1, hz2⟩ := info_parts info_line
  go_enter Try.func56, Try.ntmps56
  go_wp2_with fail
  refine (none_at w O n fm F g h).mono ?_
  rintro ee w1 ⟨rfl, rfl⟩
  go_wp2_with fail
  go_loopw [2, 3] (fun v fr wr => ∃ i : Nat, i ≤ e ∧ fr = .int .i64 ((i : Int) + 1) ∧ wr.ownsRow w.heap.size 77 2 v (i * e) (linesV (orderL e (i * e))) ∧ Ext w wr) (fun _ fr _ => e + 1 - (nOf fr).toNat)
  case atStart => exact ⟨0, Nat.zero_le _, rfl, by simpa [orderL, linesV] using World.ownsRow_nil w w.heap.size 77 2, Ext.refl _⟩
  case round =>
    obtain ⟨i, hi', rfl, hown, hx⟩ := hrel
    have c0 := (h.ext hx).blk.cell 0
    rw [he] at c0
    by_cases hlt : i < e
    · have hle : (i : Int) + 1 ≤ (e : Int) := by omega
      obtain ⟨wo, rfl⟩ : ∃ wo : World, wo = wr := ⟨_, rfl⟩
      go_wp2_with fail
      go_loopw [2, 4] (fun v tv wr => ∃ j : Nat, j ≤ e ∧ tv = .int .i64 ((j : Int) + 1) ∧ wr.ownsRow w.heap.size 77 2 v (i * e + j) (linesV (orderL e (i * e + j))) ∧ Ext w wr) (fun _ tv _ => e + 1 - (nOf tv).toNat)
      case atStart => exact ⟨0, Nat.zero_le _, rfl, hown, hx⟩
      case round =>
        obtain ⟨j, hj', rfl, hown2, hx2⟩ := hrel
        have c0 := (h.ext hx2).blk.cell 0
        rw [he] at c0
        clear hown hx
        by_cases hlt2 : j < e
        · have hle2 : (j : Int) + 1 ≤ (e : Int) := by omega
          have hb : i * e + j + 1 ≤ 36 := by
            have h1 : i * e ≤ 4 * 5 := Nat.mul_le_mul (by omega) (by omega)
            omega
          go_wp2_with (at_builtin; refine wpList_append_own _ rfl _ _ 92 rfl w.heap.size 77 i0 (lnv 0 0) 2 16 Try.underlying92 hi hz0 hz1 hz2 rfl (by decide) _ _ _ rfl (hown2.alloc _) ⟨wr.heap.size, 0, none⟩ 1 1 [.int .i64 ((i : Int) + 1), .int .i64 ((j : Int) + 1)] rfl rfl ?c1 ?c2 ?c3 ?c4 ?c5 ?_)
          case c1 =>
            intro k u hu
            have hadd : (⟨wr.heap.size, 0, none⟩ : Addr).add k = ⟨wr.heap.size, k, none⟩ := by unfold Addr.add; split <;> simp_all
            rw [hadd, (Blk.new wr 77 #[.int .i64 ((i : Int) + 1), .int .i64 ((j : Int) + 1)]).cell k]
            simpa using hu
          case c2 =>
            intro u hu
            simp at hu
            rcases hu with rfl | rfl <;> rfl
          case c3 => unfold maxLen; omega
          case c4 => omega
          case c5 => have := hx2.size; simp; omega
          intro v' w4 hown4 hgrow4 _
          have hx4 : Ext w w4 := (hx2.alloc _).grown hgrow4 fun q hq => (hown2.lt q hq).1
          rw [← linesV_snoc, ← orderL_snoc hlt2] at hown4
          go_wp2_with fail
          exact ⟨⟨j + 1, by omega, by simp, hown4, hx4⟩, by simp [nOf]; omega⟩
        · obtain rfl : j = e := by omega
          have ee : i * j + j = (i + 1) * j := by rw [Nat.succ_mul]
          rw [ee] at hown2
          clear hlt
          go_wp2_with fail
          exact ⟨⟨i + 1, by omega, by simp, hown2, hx2⟩, by simp [nOf]; omega⟩
    · obtain rfl : i = e := by omega
      obtain ⟨A, c, rfl⟩ := own_slice hown
      go_wp2_with fail
      go_ret
      exact ⟨A, c, rfl, hown, hx⟩
