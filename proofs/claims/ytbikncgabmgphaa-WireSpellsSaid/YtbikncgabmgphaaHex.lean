/- The contracts of both Hexes. Conditions: as each theorem says. -/
import Derived.Test.YtbikncgabmgphaaBlob
namespace Go.Proofs.Ytbikncgabmgphaa
open Go.RowKit
set_option linter.unusedVariables false

def hexLetter (k : Nat) : UInt8 := hexLetters.getD k 0
/-- what bytes are spelled -/
def hexOf (l : List UInt8) : List UInt8 := l.flatMap fun u => [hexLetter (u.toNat / 16), hexLetter (u.toNat % 16)]
theorem hexOf_snoc (l : List UInt8) (u : UInt8) : hexOf (l ++ [u]) = hexOf l ++ [hexLetter (u.toNat / 16), hexLetter (u.toNat % 16)] := by simp [hexOf]
theorem hexOf_length (l : List UInt8) : (hexOf l).length = 2 * l.length := by
  induction l with
  | nil => rfl
  | cons u l ih => simp only [hexOf, List.flatMap_cons, List.length_append] at *; rw [ih]; simp; omega

theorem hexIdx (i : Int) (x : Nat) (h : i.toNat < 16) (e : i = (x : Int)) : (ByteArray.mk #[48, 49, 50, 51, 52, 53, 54, 55, 56, 57, 97, 98, 99, 100, 101, 102])[i.toNat]'h = hexLetter x := by
  subst e
  have hx : x < 16 := h
  have hl : x < hexLetters.length := hx
  show (ByteArray.mk #[48, 49, 50, 51, 52, 53, 54, 55, 56, 57, 97, 98, 99, 100, 101, 102])[x]'hx = _
  rw [hexAt x hx, hexLetter, List.getD_eq_getElem?_getD, List.getElem?_eq_getElem hl, Option.getD_some]

set_option maxRecDepth 100000 in
theorem hex_any (A : Option Addr) (n c lo : Nat) (l : List UInt8) (w : World) (hr : Rd w lo A n l) (h : n ≤ 1000000000) :
    Calls Try.prog 22 #[.slice A n c] w fun e w' => e = .returned (.string ⟨(hexOf l).toArray⟩) ∧ Ext w w' := by
  have hl := hr.len
  subst hl
  go_enter Try.func22, Try.ntmps22
  go_wp2_with (at_make; refine wpList_room_b bytes_ty rfl _ _ rfl w (Ext.refl w) _ _ _ (2 * l.length) rfl rfl (by omega) (by omega) ?_; intro w1 hown _ hx)
  go_loopw [3, 5, 12] (fun v _ i wr => ∃ k A2 c2, k ≤ l.length ∧ i = .int .i64 (k : Nat) ∧ v = .slice A2 (2 * k) c2 ∧ Own wr w.heap.size 5 A2 (2 * k) c2 (hexOf (l.take k)) ∧ Ext w wr) (fun _ _ i _ => l.length - (intOf i).toNat)
  case atStart => exact ⟨0, _, _, Nat.zero_le _, rfl, rfl, hown, hx⟩
  case round =>
    obtain ⟨k, A2, c2, hk, rfl, rfl, hown, hx⟩ := hrel
    by_cases hlt : k < l.length
    · obtain ⟨b, off, rfl, -, -, hc⟩ := (hr.ext hx).pos (by omega)
      have hcell := hc k hlt
      have hu : (l[k]).toNat < 256 := (l[k]).toNat_lt
      have ha : bits .and .u8 ((l[k]).toNat : Int) 15 = ((l[k]).toNat : Int) % 16 := u8_and15 _ (by omega) (by omega)
      have b1 : 0 ≤ ((l[k]).toNat : Int) / 16 ∧ ((l[k]).toNat : Int) / 16 < 16 := by omega
      have b2 : 0 ≤ ((l[k]).toNat : Int) % 16 ∧ ((l[k]).toNat : Int) % 16 < 16 := by omega
      clear hc
      go_wp2_with fail
      have hS := Lib.hid (show hexOf (l.take (k + 1)) = hexOf (l.take k) ++ [hexLetter ((l[k]).toNat / 16), hexLetter ((l[k]).toNat % 16)] by rw [← hexOf_snoc]; simp)
      go_region_law (refine step_append_b bytes_ty rfl _ _ rfl w ((Ext.drew hx).alloc _) A2 (2 * k) c2 _ rfl (Own.alloc (Own.drew hown) _) _ 2 2 _ _ rfl (Rd.newU2 _ _ _ _) (by omega) ?_; intro A3 c3 w3 hown3 _ hx3)
      all_goals
        rw [hexIdx _ ((l[k]).toNat / 16) _ (by omega), hexIdx _ ((l[k]).toNat % 16) _ (by omega), ← hS.out] at hown3
        go_wp2_with fail
        go_roundw
        case rel => exact ⟨k + 1, A3, c3, by omega, by go_num, rfl, hown3, hx3⟩
        case measure => simp [intOf]; omega
    · obtain rfl : k = l.length := by omega
      rw [List.take_length] at hown
      have hstr := run_string hown.rd c2 Try.underlying23 Try.underlying5 Try.underlying9
      go_wp2_with fail
      go_ret
      exact ⟨rfl, hx⟩

theorem hexCut (x : Nat) (h : x < 16) : (ByteArray.mk #[48, 49, 50, 51, 52, 53, 54, 55, 56, 57, 97, 98, 99, 100, 101, 102]).extract x (x + 1) = ⟨#[hexLetter x]⟩ := by
  have : x = 0 ∨ x = 1 ∨ x = 2 ∨ x = 3 ∨ x = 4 ∨ x = 5 ∨ x = 6 ∨ x = 7 ∨ x = 8 ∨ x = 9 ∨ x = 10 ∨ x = 11 ∨ x = 12 ∨ x = 13 ∨ x = 14 ∨ x = 15 := by omega
  rcases this with rfl | rfl | rfl | rfl | rfl | rfl | rfl | rfl | rfl | rfl | rfl | rfl | rfl | rfl | rfl | rfl <;> rfl
theorem str_append (l k : List UInt8) : (ByteArray.mk l.toArray) ++ (ByteArray.mk k.toArray) = ⟨(l ++ k).toArray⟩ := by
  apply ByteArray.ext
  simp
theorem twoMore (H : List UInt8) (x y : UInt8) : Value.string (ByteArray.mk H.toArray ++ ByteArray.mk #[x] ++ ByteArray.mk #[y]) = Value.string ⟨(H ++ [x, y]).toArray⟩ := by
  rw [show ByteArray.mk #[x] = ByteArray.mk [x].toArray from rfl, show ByteArray.mk #[y] = ByteArray.mk [y].toArray from rfl, str_append, str_append]
  simp

theorem rhex_any (A : Option Addr) (n c lo : Nat) (l : List UInt8) (w : World) (hr : Rd w lo A n l) (h : n ≤ 1000000000) :
    Calls Try.prog 24 #[.slice A n c] w fun e w' => e = .returned (.string ⟨(hexOf l).toArray⟩) ∧ Drawn w w' := by
  have hl := hr.len
  subst hl
  go_enter Try.func24, Try.ntmps24
  go_wp2_with fail
  go_loopw [3, 4, 5, 6] (fun v i _ _ wr => ∃ k, k ≤ l.length ∧ i = .int .i64 (k : Nat) ∧ v = .string ⟨(hexOf (l.take k)).toArray⟩ ∧ Drawn w wr) (fun _ i _ _ _ => l.length - (intOf i).toNat)
  case atStart => exact ⟨0, Nat.zero_le _, rfl, rfl, Drawn.refl w⟩
  case round =>
    obtain ⟨k, hk, rfl, rfl, hj⟩ := hrel
    have hr2 := hr.ext hj.ext
    by_cases hlt : k < l.length
    · obtain ⟨b, off, rfl, -, -, hc⟩ := hr2.pos (by omega)
      have hcell := hc k hlt
      have hu : (l[k]).toNat < 256 := (l[k]).toNat_lt
      have hlen : (hexOf (l.take k)).length = 2 * k := by rw [hexOf_length, List.length_take]; omega
      have hS := Lib.hid (show hexOf (l.take (k + 1)) = hexOf (l.take k) ++ [hexLetter ((l[k]).toNat / 16), hexLetter ((l[k]).toNat % 16)] by rw [← hexOf_snoc]; simp)
      generalize hexOf (l.take k) = H at *
      clear hc
      go_wp2_with fail
      go_quiet (fail)
      go_wp2_with fail
      have hjq := hj.more nq
      generalize wr.drewN nq = wq at *
      clear hcell hr2
      have b1 : 0 ≤ ((l[k]).toNat : Int) / 16 ∧ ((l[k]).toNat : Int) / 16 < 16 := by omega
      have b2 : 0 ≤ ((l[k]).toNat : Int) % 16 ∧ ((l[k]).toNat : Int) % 16 < 16 := by omega
      go_quiet ((go_at_call 40; exact Calls.quiet_of_same (qs (letters_any _))))
      go_wp2_with fail
      go_roundw
      case rel =>
        refine ⟨k + 1, by omega, by go_num, ?_, hjq.more nq⟩
        rw [hS.out, hexCut _ (by omega), hexCut _ (by omega), twoMore]
      case measure => simp [intOf]; omega
    · obtain rfl : k = l.length := by omega
      rw [List.take_length]
      go_wp2_with fail
      go_ret
      exact ⟨rfl, hj⟩
end Go.Proofs.Ytbikncgabmgphaa
