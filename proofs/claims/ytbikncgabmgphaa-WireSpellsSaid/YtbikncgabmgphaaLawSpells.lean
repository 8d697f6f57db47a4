/- WireSpells answers true, whatever row of bytes and whatever text it is given. No conditions. -/
import Derived.Test.YtbikncgabmgphaaKnown
import Derived.Test.YtbikncgabmgphaaFrame
import Derived.Test.YtbikncgabmgphaaRunhex
namespace Go.Proofs.Ytbikncgabmgphaa.lawSpells
open Go.ChangeShapes Go.WideShapes Go.ChangeAt Go.RowKit
open Go.ChangeMaps (open_string shut_string)
set_option linter.unusedVariables false
set_option linter.unusedSimpArgs false

theorem four_letter : ∀ k : Fin 16, fourOf (hexLetter k.1) = some k.1 := by decide
def backB (u : UInt8) : Bool := match fourOf u with | some a => hexLetter a == u && decide (a < 16) | none => true
theorem letter_back : ∀ u : Fin 256, backB (UInt8.ofNat u.1) = true := by decide +kernel
theorem letter_of {u : UInt8} {a : Nat} (h : fourOf u = some a) : hexLetter a = u ∧ a < 16 := by
  have := letter_back ⟨u.toNat, u.toNat_lt⟩
  simp only [UInt8.ofNat_toNat, backB, h, Bool.and_eq_true, beq_iff_eq, decide_eq_true_eq] at this
  exact this
theorem unhex_hexOf : ∀ l : List UInt8, unhex (hexOf l) = some l
  | [] => rfl
  | u :: l => by
    have h1 := four_letter ⟨u.toNat / 16, by have := u.toNat_lt; omega⟩
    have h2 := four_letter ⟨u.toNat % 16, by omega⟩
    have e : hexOf (u :: l) = hexLetter (u.toNat / 16) :: hexLetter (u.toNat % 16) :: hexOf l := rfl
    have h3 : u.toNat / 16 * 16 + u.toNat % 16 = u.toNat := by omega
    rw [e]
    simp only [unhex, pairOf, h1, h2, unhex_hexOf l, h3, UInt8.ofNat_toNat]
theorem hexOf_unhex : ∀ (n : Nat) (l B : List UInt8), l.length ≤ n → unhex l = some B → hexOf B = l
  | _, [], B, _, h => by simp [unhex] at h; subst h; rfl
  | _, [_], _, _, h => by simp [unhex] at h
  | 0, _ :: _ :: _, _, hn, _ => by simp at hn
  | n + 1, x :: y :: l, B, hn, h => by
    simp only [unhex, pairOf] at h
    cases hx : fourOf x with
    | none => simp [hx] at h
    | some a =>
      cases hy : fourOf y with
      | none => simp [hx, hy] at h
      | some b =>
        cases hl : unhex l with
        | none => simp [hx, hy, hl] at h
        | some k =>
          simp [hx, hy, hl] at h
          subst h
          have ih := hexOf_unhex n l k (by simp at hn; omega) hl
          obtain ⟨e1, b1⟩ := letter_of hx
          obtain ⟨e2, b2⟩ := letter_of hy
          have e : ∀ u, hexOf (u :: k) = hexLetter (u.toNat / 16) :: hexLetter (u.toNat % 16) :: hexOf k := fun _ => rfl
          have h0 : (UInt8.ofNat (a * 16 + b)).toNat = a * 16 + b := by
            rw [UInt8.toNat_ofNat']; omega
          have := e (UInt8.ofNat (a * 16 + b))
          rw [h0, show (a * 16 + b) / 16 = a by omega, show (a * 16 + b) % 16 = b by omega, e1, e2, ih] at this
          simpa using this

set_option maxRecDepth 100000 in
set_option maxHeartbeats 1600000 in
theorem walk (w : World) (A : Option Addr) (n c : Nat) (l : List UInt8) (hr : Rd w 0 A n l) (hc : n ≤ c) (s : ByteArray) (hs : s.size ≤ maxLen) :
    Calls Try.prog 7 #[.slice A n c, .string s] w fun e w' => e = .returned (.bool true) ∧ Ext w w' := by
  by_cases hA : 9000 < n
  · have hA' : (9000 : Int) < (n : Int) := by omega
    clear hA
    go_enter Try.func7, Try.ntmps7
    go_wp2_with fail
    refine (known_any _).mono ?_
    rintro e w4 ⟨rfl, hx4⟩
    go_wp2_with fail
    go_ret
    exact ⟨rfl, hx4⟩
  have hA' : ¬ (9000 : Int) < (n : Int) := by omega
  by_cases hB : 9000 < s.size
  · have hB' : (9000 : Int) < (s.size : Int) := by omega
    clear hA hB
    go_enter Try.func7, Try.ntmps7
    go_wp2_with fail
    refine (known_any _).mono ?_
    rintro e w4 ⟨rfl, hx4⟩
    go_wp2_with fail
    go_ret
    exact ⟨rfl, hx4⟩
  have hB' : ¬ (9000 : Int) < (s.size : Int) := by omega
  have hb1 : n ≤ 1000000000 := by omega
  have hb2 : s.size ≤ 1000000000 := by omega
  have hb3 : (ByteArray.mk (hexOf l).toArray).size ≤ 1000000000 := by
    show (hexOf l).toArray.size ≤ _
    rw [List.size_toArray, hexOf_length, hr.len]
    omega
  have hlen : (((hexOf l).length : Nat) : Int) = 2 * (n : Int) := by rw [hexOf_length, hr.len]; omega
  clear hA hB hs
  go_enter Try.func7, Try.ntmps7
  go_wp2_with fail
  refine (hex_any A n c _ l _ hr hb1).mono ?_
  rintro e w1 ⟨rfl, hx1⟩
  go_wp2_with fail
  refine (unhex_any ⟨(hexOf l).toArray⟩ _ hb3).mono ?_
  rintro e w2 ⟨hx2, ⟨hno, _⟩ | ⟨B, A2, c2, hB, rfl, h2⟩⟩
  · rw [unhex_hexOf] at hno
    cases hno
  obtain rfl : l = B := by
    rw [unhex_hexOf] at hB
    exact Option.some.inj hB
  clear hB
  go_wp2_with fail
  refine (rhex_any A n c _ l _ (hr.ext (hx1.trans hx2)) hb1).mono ?_
  rintro e w3 ⟨rfl, hd3⟩
  have hs1 := run_string (h2.ext hd3.ext) c2 Try.underlying23 Try.underlying5 Try.underlying9
  have hs2 := run_string (hr.ext ((hx1.trans hx2).trans hd3.ext)) c Try.underlying23 Try.underlying5 Try.underlying9
  go_wp2_with (go_at_call 13; refine (num_any _ _).mono ?_; rintro e w1 ⟨rfl, rfl⟩)
  have hx3 := (hx1.trans hx2).trans hd3.ext
  clear hs1 hs2
  refine (unhex_any s _ hb2).mono ?_
  rintro e w4 ⟨hx4, ⟨hno, rfl⟩ | ⟨B, A4, c4, hB, rfl, h4⟩⟩
  · go_wp2_with fail
    refine (runhex_any s _ hb2).mono ?_
    rintro e w5 ⟨hx5, ⟨hno2, rfl⟩ | ⟨B2, A5, c5, hB2, rfl, h5⟩⟩
    · go_wp2_with (go_at_call 13; refine (num_any _ _).mono ?_; rintro e w1 ⟨rfl, rfl⟩)
      refine (known_any _).mono ?_
      rintro e w6 ⟨rfl, hx6⟩
      go_wp2_with fail
      go_ret
      exact ⟨rfl, (hx3.trans hx4).trans (hx5.trans hx6)⟩
    · rw [hno] at hB2
      cases hB2
  · go_wp2_with fail
    refine (runhex_any s _ hb2).mono ?_
    rintro e w5 ⟨hx5, ⟨hno2, rfl⟩ | ⟨B2, A5, c5, hB2, rfl, h5⟩⟩
    · rw [hno2] at hB
      cases hB
    · obtain rfl : B = B2 := by
        rw [hB] at hB2
        exact Option.some.inj hB2
      have hsp : (ByteArray.mk (hexOf B).toArray) = s := by
        rw [hexOf_unhex _ _ B (Nat.le_refl _) hB]
      have hlB : B.length ≤ 1000000000 := by
        have h1 := unhex_length _ _ B (Nat.le_refl _) hB
        have h2 : s.data.toList.length = s.size := by rw [Array.length_toList]; rfl
        omega
      have r4 := h4.ext hx5
      have hs1 := run_string r4 c4 Try.underlying23 Try.underlying5 Try.underlying9
      have hs2 := run_string h5 c5 Try.underlying23 Try.underlying5 Try.underlying9
      go_wp2_with (go_at_call 13; refine (num_any _ _).mono ?_; rintro e w1 ⟨rfl, rfl⟩)
      refine (hex_any A4 _ c4 _ B _ r4 hlB).mono ?_
      rw [hsp]
      rintro e w6 ⟨rfl, hx6⟩
      go_wp2_with fail
      refine (known_any _).mono ?_
      rintro e w7 ⟨rfl, hx7⟩
      go_wp2_with fail
      go_ret
      exact ⟨rfl, ((hx3.trans hx4).trans (hx5.trans hx6)).trans hx7⟩

set_option maxRecDepth 100000 in
theorem lifted (os : Os) (started : os.Started) (H : Type) (enc : TypeId × Value → H) :
    ReturnsInHanded {} Try.checked os 7 .any (Rows.wireSpellsSpec.pre6 enc Try.prog Try.f7 Rows.wireSpellsRow.domain false) (Rows.wireSpellsSpec.post enc Try.prog Try.f7 false true false false) := by
  refine returnsInHanded_of_change (C := Try.checked) own started (by kernel_rfl) Try.func7
    (ChangeSpec.witness6 (enc := enc) (C := Try.checked) false ⟨#[], #[.slice none 0 0, .string ⟨#[]⟩], []⟩ 8 (by kernel_rfl) (by kernel_rfl) (by kernel_rfl) (by kernel_rfl)) ?_
  intro W base args ds gs before hval0 hW hcnd _
  have hval : ∀ (j : Nat) t v, Try.f7.params[j]? = some t → args[j]? = some v → Value.okWide Try.prog W .any base t v := hval0
  have hW' := hW
  obtain ⟨p, q, hA0, hV, rfl, hfz, hnd⟩ := hW
  have hA : DataW.TrodAll enc Try.prog W 0 (fun _ => true) true Try.f7.params.toList args.toList ds p := hA0
  rw [Try.params7] at hA hval
  obtain ⟨v0, vs0, d0, ds0, p0, q0, hargs, rfl, rfl, h0, r0⟩ := trodAll_cons hA
  obtain ⟨v1, vs1, d1, ds1, p1, q1, rfl, rfl, rfl, h1, r1⟩ := trodAll_cons r0
  obtain ⟨rfl, rfl, rfl⟩ := trodAll_nil r1
  obtain rfl : args = #[v0, v1] := by cases args; simp_all
  obtain ⟨rfl, rfl⟩ := trodVars_none hV
  obtain ⟨a0, n0, c0, rfl⟩ := okWide_slice Try.underlying23 (hval 0 23 v0 rfl rfl)
  have k0 := h0
  have lt0 : ∀ x ∈ p0, x.block < W.heap.size := by obtain ⟨m, hm⟩ := k0; exact DataW.trod_lt m _ _ _ hm
  obtain ⟨l0, w0, y0⟩ := open_rd Try.underlying23 Try.underlying5 (by kernel_rfl) h0
  obtain ⟨a1, rfl, rfl, rfl, w1⟩ := open_string Try.underlying9 (hval 1 9 v1 rfl rfl) h1
  clear hA0 hval0
  refine (walk W a0 n0 c0 l0 w0 y0 a1 w1).mono fun e W' ⟨he, bel⟩ => ?_
  subst he
  exact ⟨_, rfl, _, _, _, [], _, [], hW', trodAll_mk1 (shut_bool Try.underlying4 _), (trodAll_cons_mk (Below.trod laidOut (by kernel_rfl) (of_decide_eq_true (by kernel_rfl)) k0 bel lt0) (trodAll_cons_mk (shut_string Try.underlying9 w1) trodAll_mk0)), rfl, Below.frame bel _, fun h => by cases h⟩

theorem over_ : Rows.wireSpellsRow.holds Try.pinned (OpenSpec.ofChange Rows.wireSpellsSpec) :=
  OpenClaim.holds_of_wide 7 Try.f7 rfl rfl rfl rfl rfl rfl rfl ⟨rfl, rfl, rfl, rfl, rfl⟩ rfl rfl rfl rfl rfl (by kernel_rfl) Try.func7 (by kernel_rfl)
    (of_decide_eq_true (by kernel_rfl)) (by unfold Func.isWrapper; first | (rw [if_pos (by decide +kernel)]; kernel_rfl) | (rw [if_neg (by decide +kernel)]; exact ⟨rfl, rfl⟩))
    (fun os started H enc _ => lifted os started H enc)

theorem proved : Rows.WireSpellsSaid := over_
end Go.Proofs.Ytbikncgabmgphaa.lawSpells
