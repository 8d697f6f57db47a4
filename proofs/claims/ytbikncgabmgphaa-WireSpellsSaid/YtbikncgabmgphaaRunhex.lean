/- The contract of the reference's Unhex. Conditions: as each theorem says. -/
import Derived.Test.YtbikncgabmgphaaUnhex
namespace Go.Proofs.Ytbikncgabmgphaa
open Go.RowKit

/-- the reference's row behind p letters, all good -/
def RU (s : ByteArray) (n p : Nat) (row : List UInt8) : Prop :=
  ∃ B, B.length ≤ n ∧ ((2 * B.length = p ∧ Spelt s p B ∧ row = B ++ List.replicate (n - B.length) 0) ∨
    (2 * B.length + 1 = p ∧ Spelt s (2 * B.length) B ∧ ∃ a, ∃ h : 2 * B.length < s.size, fourOf s[2 * B.length] = some a ∧
      ((B.length < n ∧ row = B ++ UInt8.ofNat a :: List.replicate (n - B.length - 1) 0) ∨ (B.length = n ∧ row = B))))

theorem RU.zero (s : ByteArray) (n : Nat) : RU s n 0 (List.replicate n 0) := ⟨[], by simp, .inl ⟨rfl, rfl, by simp⟩⟩
theorem RU.bad {s : ByteArray} {n p : Nat} {row : List UInt8} (h : RU s n p row) (hp : p < s.size) (hf : fourOf s[p] = none) : unhex s.data.toList = none := by
  obtain ⟨B, -, ⟨h1, h2, -⟩ | ⟨h1, h2, a, h3, h4, -⟩⟩ := h
  · by_cases hp2 : p + 1 < s.size
    · exact h2.bad hp hp2 (by simp [pairOf, hf])
    · exact h2.odd (by omega)
  · subst h1
    exact h2.bad h3 hp (by simp [pairOf, hf])
theorem RU.done {s : ByteArray} {n p : Nat} {row : List UInt8} (h : RU s n p row) (hp : p = s.size) (hn : n = s.size / 2) :
    (s.size % 2 = 1 → unhex s.data.toList = none) ∧ (s.size % 2 = 0 → unhex s.data.toList = some row) := by
  obtain ⟨B, -, ⟨h1, h2, h3⟩ | ⟨h1, h2, a, h3, h4, -⟩⟩ := h
  · refine ⟨fun h => by omega, fun _ => ?_⟩
    rw [h2.all hp, h3, show n - B.length = 0 by omega]
    simp
  · exact ⟨fun _ => h2.odd (by omega), fun h => by omega⟩
theorem RU.over_ {s : ByteArray} {n p : Nat} {row : List UInt8} (h : RU s n p row) (hp : p < s.size) (hn : n = s.size / 2) (hpn : ¬ p / 2 < n) {a : Nat} (hf : fourOf s[p] = some a) : RU s n (p + 1) row := by
  obtain ⟨B, hB, ⟨h1, h2, h3⟩ | ⟨h1, h2, -⟩⟩ := h
  · have hBn : B.length = n := by omega
    subst h1
    refine ⟨B, hB, .inr ⟨rfl, h2, a, hp, hf, .inr ⟨hBn, ?_⟩⟩⟩
    rw [h3, hBn]
    simp
  · omega
theorem RU.step {s : ByteArray} {n p : Nat} {row : List UInt8} (h : RU s n p row) (hp : p < s.size) (hpn : p / 2 < n) {a : Nat} (hf : fourOf s[p] = some a) (hl : p / 2 < row.length) :
    RU s n (p + 1) (row.set (p / 2) (UInt8.ofNat (row[p / 2].toNat * 16 + a))) := by
  obtain ⟨B, hB, ⟨h1, h2, h3⟩ | ⟨h1, h2, b, h3, h4, h5⟩⟩ := h
  · have hk : p / 2 = B.length := by omega
    subst h1
    subst h3
    refine ⟨B, hB, .inr ⟨rfl, h2, a, hp, hf, .inl ⟨by omega, ?_⟩⟩⟩
    simp only [hk]
    obtain ⟨m, hm⟩ : ∃ m, n - B.length = m + 1 := ⟨n - B.length - 1, by omega⟩
    simp [hm, List.replicate_succ]
  · have hk : p / 2 = B.length := by omega
    rcases h5 with ⟨h5, h6⟩ | ⟨h5, h6⟩
    · subst h6
      subst h1
      have hb := fourOf_lt h4
      have ha := fourOf_lt hf
      have hp2 : pairOf s[2 * B.length] s[2 * B.length + 1] = some (UInt8.ofNat (b * 16 + a)) := by simp [pairOf, h4, hf]
      refine ⟨B ++ [UInt8.ofNat (b * 16 + a)], by simp; omega, .inl ⟨by simp; omega, ?_, ?_⟩⟩
      · have := h2.next h3 hp hp2
        rw [show 2 * B.length + 1 + 1 = 2 * B.length + 2 by omega]
        exact this
      · simp only [hk]
        have e1 : b % 2 ^ 8 = b := by omega
        simp only [List.getElem_append_right (Nat.le_refl _), Nat.sub_self, List.getElem_cons_zero, UInt8.toNat_ofNat', e1, List.set_append_right _ _ (Nat.le_refl _), List.set_cons_zero, List.append_assoc, List.singleton_append, List.length_append, List.length_singleton]
        rw [Nat.sub_sub]
    · omega
theorem RU.len {s : ByteArray} {n p : Nat} {row : List UInt8} (h : RU s n p row) : row.length = n := by
  obtain ⟨B, hB, ⟨h1, h2, h3⟩ | ⟨h1, h2, b, h3, h4, ⟨h5, h6⟩ | ⟨h5, h6⟩⟩⟩ := h
  · subst h3; simp; omega
  · subst h6; simp; omega
  · subst h6; omega

theorem spellOf_some {u : UInt8} {a : Nat} (h : fourOf u = some a) : spellOf u = (a : Int) := by simp [spellOf, h]
theorem spellOf_none {u : UInt8} (h : fourOf u = none) : spellOf u = -1 := by simp [spellOf, h]

theorem nibble_in (r a : Nat) (ha : a < 16) : ((UInt8.ofNat (r * 16 + a)).toNat : Int) = (r : Int) * 16 % 256 + (a : Int) := by
  rw [UInt8.toNat_ofNat']
  omega

set_option maxRecDepth 100000 in
theorem runhex_any (s : ByteArray) (w : World) (h : s.size ≤ 1000000000) :
    Calls Try.prog 25 #[.string s] w fun e w' => Ext w w' ∧
      ((unhex s.data.toList = none ∧ e = .returned (.tuple #[.slice none 0 0, .bool false])) ∨
       ∃ B A c, unhex s.data.toList = some B ∧ e = .returned (.tuple #[.slice A B.length c, .bool true]) ∧ Rd w' w.heap.size A B.length B) := by
  go_enter Try.func25, Try.ntmps25
  go_wp2_with (at_make; refine wpList_make_b bytes_ty rfl _ _ rfl w (Ext.refl w) _ _ _ _ (s.size / 2) rfl rfl (by omega) (by omega) (by omega) ?_; intro w1 hown _ hx)
  go_loopg [5] s.size (fun g i wr => ∃ p row, p ≤ s.size ∧ g + p = s.size ∧ i = .int .i64 (p : Nat) ∧ Own wr w.heap.size 5 (some ⟨w.heap.size, 0, none⟩) (s.size / 2) (s.size / 2) row ∧ RU s (s.size / 2) p row ∧ Ext w wr)
  case atStart => exact ⟨0, _, by omega, by omega, rfl, hown, RU.zero _ _, hx⟩
  case round =>
    obtain ⟨p, row, hk, hg, rfl, hown, hru, hx⟩ := hrel
    by_cases hlt : p < s.size
    · have b1 : (0 : Int) ≤ (p : Int) ∧ (p : Int) < (s.size : Int) := by omega
      cases hf : fourOf s[p] with
      | none =>
        have HF := Lib.hid (hru.bad hlt hf)
        have HS := Lib.hid (spellOf_none hf)
        clear hf hg
        go_wp2_with fail
        refine (spelled_any s[p] _).mono ?_
        rintro e w2 ⟨rfl, rfl⟩
        rw [HS.out]
        go_wp2_with fail
        go_ret2
        exact ⟨hx, .inl ⟨HF.out, rfl⟩⟩
      | some a =>
        have ha := fourOf_lt hf
        have HS := Lib.hid (spellOf_some hf)
        have HG := Lib.hid hg
        by_cases hpn : p / 2 < s.size / 2
        · have hpr : p / 2 < row.length := by rw [hru.len]; exact hpn
          have hcell := hown.at_ hpn
          have hfz := hown.free (p / 2)
          have hru2 := hru.step hlt hpn hf hpr
          have hst := (hown.store (p / 2) (UInt8.ofNat (row[p / 2].toNat * 16 + a))).1
          have hu : (row[p / 2]).toNat < 256 := (row[p / 2]).toNat_lt
          clear hf hg
          go_wp2_with fail
          refine (spelled_any s[p] _).mono ?_
          rintro e w2 ⟨rfl, rfl⟩
          rw [HS.out]
          go_wp2_with fail
          rw [nibble_in _ _ ha] at hst
          have hg := HG.out
          go_roundg (gk - 1)
          case measure => omega
          case rel => exact ⟨p + 1, _, by omega, by omega, by go_num, hst, hru2, hx.setCell (Nat.le_refl _) _⟩
        · have hru2 := hru.over_ hlt rfl hpn hf
          clear hf hg
          go_wp2_with fail
          refine (spelled_any s[p] _).mono ?_
          rintro e w2 ⟨rfl, rfl⟩
          rw [HS.out]
          go_wp2_with fail
          have hg := HG.out
          go_roundg (gk - 1)
          case measure => omega
          case rel => exact ⟨p + 1, row, by omega, by omega, by go_num, hown, hru2, hx⟩
    · obtain rfl : p = s.size := by omega
      have hdn := hru.done rfl rfl
      by_cases ho : s.size % 2 = 1
      · have HF := Lib.hid (hdn.1 ho)
        have h1 : ((s.size : Int) % 2 == 1) = true := by simp; omega
        clear hdn hg ho
        go_wp2_with fail
        go_ret2
        exact ⟨hx, .inl ⟨HF.out, rfl⟩⟩
      · have HF := Lib.hid (hdn.2 (by omega))
        have h1 : ((s.size : Int) % 2 == 1) = false := by simp; omega
        have HL := Lib.hid hru.len
        clear hdn hg ho
        go_wp2_with fail
        go_ret2
        refine ⟨hx, .inr ⟨row, some ⟨w.heap.size, 0, none⟩, s.size / 2, HF.out, ?_, ?_⟩⟩
        · rw [HL.out]; rfl
        · rw [HL.out]; exact hown.rd
end Go.Proofs.Ytbikncgabmgphaa
