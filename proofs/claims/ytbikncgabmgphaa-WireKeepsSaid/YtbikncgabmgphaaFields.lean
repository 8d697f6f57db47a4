/- What fields read as; the contract of keeps. Conditions: as each theorem says. -/
import Derived.Test.YtbikncgabmgphaaKnown
import Derived.Test.YtbikncgabmgphaaPlan
import Derived.Test.YtbikncgabmgphaaOpen
namespace Go.Proofs.Ytbikncgabmgphaa
open Go.ChangeShapes Go.WideShapes Go.ChangeAt Go.RowKit
open Go.ChangeMaps (open_string shut_string)
set_option linter.unusedVariables false
set_option linter.unusedSimpArgs false

theorem wr_kept {w w' : World} {lo g : Nat} {st : Option (List UInt8)} (h : Wr w lo g st) (hx : Ext w w') : Wr w' lo g st := by
  refine ⟨h.1, ?_⟩
  rcases st with _ | l
  · exact Blk.ext h.2 hx
  · obtain ⟨A, n, c, h1, h2, h3, h4⟩ := h.2
    exact ⟨A, n, c, Blk.ext h1 hx, h2, h3.ext hx, h4⟩

/-- a field: its number, its size, its bytes -/
abbrev Fd := Int × Int × List UInt8
/-- one step of keeps: is all well up to here, and where the reader stands -/
def kstep (x : Bool × Option (List UInt8)) (f : Fd) : Bool × Option (List UInt8) :=
  if f.2.1 = 0 then (x.1 && ((rblob x.2).1 == f.2.2) && (rblob x.2).2.isSome, (rblob x.2).2)
  else (x.1 && (((rnumber x.2 f.2.1).1 : Int) == f.1) && (rnumber x.2 f.2.1).2.isSome, (rnumber x.2 f.2.1).2)

/-- a slice of fields -/
def FieldsIn (w : World) (A : Option Addr) (n : Nat) (fs : List Fd) : Prop :=
  fs.length = n ∧ (n = 0 ∨ ∃ b off, A = some ⟨b, off, none⟩ ∧ ∀ i (h : i < fs.length), ∃ Ai ki ci,
    w.cell? ⟨b, off + i * 3, none⟩ = some (.int .u64 fs[i].1) ∧ w.cell? ⟨b, off + i * 3 + 1, none⟩ = some (.int .i64 fs[i].2.1) ∧ w.cell? ⟨b, off + i * 3 + 2, none⟩ = some (.slice Ai ki ci) ∧
    Rd w 0 Ai ki fs[i].2.2 ∧ (Lit.int .u64 fs[i].1).wf = true ∧ (Lit.int .i64 fs[i].2.1).wf = true)
theorem FieldsIn.ext {w w' : World} {A : Option Addr} {n : Nat} {fs : List Fd} (h : FieldsIn w A n fs) (hx : Ext w w') : FieldsIn w' A n fs := by
  refine ⟨h.1, h.2.imp id ?_⟩
  rintro ⟨b, off, hA, hc⟩
  refine ⟨b, off, hA, fun i hi => ?_⟩
  obtain ⟨Ai, ki, ci, h1, h2, h3, h4, h5⟩ := hc i hi
  exact ⟨Ai, ki, ci, hx.cellSome h1, hx.cellSome h2, hx.cellSome h3, h4.ext hx, h5⟩

set_option maxRecDepth 100000 in
set_option maxHeartbeats 1600000 in
theorem keeps_any (W w : World) (g lo : Nat) (st : Option (List UInt8)) (A : Option Addr) (n c : Nat) (fs : List Fd) (hx : Ext W w) (hlo : W.heap.size ≤ lo) (h : Wr w lo g st) (hf : FieldsIn W A n fs) (hn : n ≤ 1000) :
    Calls Try.prog 35 #[.pointer (some ⟨g, 0, none⟩), .slice A n c] w fun e w' =>
      e = .returned (.bool (fs.foldl kstep (true, st)).1) ∧ Wr w' lo g (fs.foldl kstep (true, st)).2 ∧ Ext W w' := by
  have hfl := hf.1
  go_enter Try.func35, Try.ntmps35
  go_wp2_with fail
  go_loopw [5, 6] (fun gd i wr => ∃ k : Nat, k ≤ n ∧ i = .int .i64 k ∧ gd = .bool ((fs.take k).foldl kstep (true, st)).1 ∧ Wr wr lo g ((fs.take k).foldl kstep (true, st)).2 ∧ Ext W wr) (fun _ i _ => n - (intOf i).toNat)
  case atStart => exact ⟨0, Nat.zero_le _, rfl, rfl, h, hx⟩
  case round =>
    obtain ⟨k, hk, rfl, rfl, hw, hy⟩ := hrel
    by_cases hlt : k < n
    · obtain ⟨hl, hz | ⟨b, off, rfl, hc⟩⟩ := hf
      · omega
      · have hkf : k < fs.length := by omega
        obtain ⟨Ai, ki, ci, d0, d1, d2, hr, wf0, wf1⟩ := hc k hkf
        have hstep := Lib.hid (show (fs.take (k + 1)).foldl kstep (true, st) = kstep ((fs.take k).foldl kstep (true, st)) fs[k] by
          rw [List.take_succ_eq_append_getElem hkf, List.foldl_append]
          rfl)
        generalize (fs.take k).foldl kstep (true, st) = x at *
        obtain ⟨gd, sx⟩ := x
        generalize fs[k] = f at *
        obtain ⟨N, S, B⟩ := f
        dsimp only at *
        have c1 := hy.cellSome d1
        clear hc
        by_cases hS : S = 0
        · subst hS
          have hsp := Lib.hid (show kstep (gd, sx) (N, 0, B) = (gd && ((rblob sx).1 == B) && (rblob sx).2.isSome, (rblob sx).2) from rfl)
          go_wp2_with fail
          refine (rdblob_any g lo sx _ hw).mono ?_
          rintro e w1 ⟨A1, m1, c1', rfl, hb1, hw1, hg1⟩
          have hy1 := (wr_ext hw hy hg1 hlo).drew
          go_wp2_with fail
          cases gd
          ·
            refine wp_region_plan Ext [(0, true), (1, true), (2, true), (3, true), (4, true), (5, true), (6, true), (7, true), (8, true), (9, true), (10, true), (11, true), (12, true)] (fun _ _ _ => Ext.trans) Ext.refl (by kernel_rfl) (by kernel_rfl) ?_
            intro K hK
            iterate 2 (
              refine plan_q (v := ?_) rfl rfl ?_ ?_
              rotate_left
              · intro x
                go_simp
                first | done | rfl
              simp only [Act.put, List.getElem_toArray, List.getElem_cons_zero, List.getElem_cons_succ, List.setIfInBounds_toArray, List.set_cons_zero, List.set_cons_succ])
            iterate 9 (
              refine plan_n rfl rfl ?_
              simp only [Act.put, List.getElem_toArray, List.getElem_cons_zero, List.getElem_cons_succ, List.setIfInBounds_toArray, List.set_cons_zero, List.set_cons_succ])
            iterate 2 (
              refine plan_q (v := ?_) rfl rfl ?_ ?_
              rotate_left
              · intro x
                go_simp
                first | done | rfl
              simp only [Act.put, List.getElem_toArray, List.getElem_cons_zero, List.getElem_cons_succ, List.setIfInBounds_toArray, List.set_cons_zero, List.set_cons_succ])
            refine plan_end (hK.out _ _ ?_)
            clear hK K
            go_wp2_with fail
            go_roundw
            case rel =>
              refine ⟨k + 1, by omega, by go_num, ?_, ?_, hy1⟩
              · rw [hstep.out, hsp.out]; rfl
              · rw [hstep.out, hsp.out]; exact wr_kept hw1 (Ext.refl _).drew
            case measure => simp [intOf]; omega
          · have hs1 := later_string (R := Ext) (fun _ _ h => h) (hb1.ext (Ext.refl _).drew) c1' Try.underlying23 Try.underlying5 Try.underlying9
            have hs2 := later_string (R := Ext) (fun _ _ h => h) (hr.ext hy1) ci Try.underlying23 Try.underlying5 Try.underlying9
            have hc2 : ∀ x : Above Ext w1.drew, x.1.cell? ⟨b, off + k * 3 + 2, none⟩ = some (.slice Ai ki ci) := fun x => (hy1.trans x.2).cellSome d2
            refine wp_region_plan Ext [(0, true), (1, true), (2, true), (3, true), (4, true), (5, true), (6, true), (7, true), (8, true), (9, true), (10, true), (11, true), (12, true)] (fun _ _ _ => Ext.trans) Ext.refl (by kernel_rfl) (by kernel_rfl) ?_
            intro K hK
            iterate 13 (
              refine plan_q (v := ?_) rfl rfl ?_ ?_
              rotate_left
              · intro x
                go_simp
                first | done | rfl
              simp only [Act.put, List.getElem_toArray, List.getElem_cons_zero, List.getElem_cons_succ, List.setIfInBounds_toArray, List.set_cons_zero, List.set_cons_succ])
            refine plan_end (hK.out _ _ ?_)
            clear hK K
            generalize hq : ((rblob sx).1 == B) = q at *
            cases q
            · go_wp2_with fail
              go_roundw
              case rel =>
                refine ⟨k + 1, by omega, by go_num, ?_, ?_, hy1⟩
                · rw [hstep.out, hsp.out]; rfl
                · rw [hstep.out, hsp.out]; exact wr_kept hw1 (Ext.refl _).drew
              case measure => simp [intOf]; omega
            · go_wp2_with fail
              refine (failed_any g lo _ _ (wr_kept hw1 (Ext.refl _).drew)).mono ?_
              rintro e wf ⟨rfl, rfl⟩
              go_wp2_with fail
              go_roundw
              case rel =>
                refine ⟨k + 1, by omega, by go_num, ?_, ?_, hy1⟩
                · rw [hstep.out, hsp.out]
                  cases (rblob sx).2 <;> rfl
                · rw [hstep.out, hsp.out]; exact wr_kept hw1 (Ext.refl _).drew
              case measure => simp [intOf]; omega
        · have hsp := Lib.hid (show kstep (gd, sx) (N, S, B) = (gd && (((rnumber sx S).1 : Int) == N) && (rnumber sx S).2.isSome, (rnumber sx S).2) from if_neg hS)
          have c0 := hy.cellSome d0
          go_wp2_with fail
          refine (number_any g lo sx S _ hw).mono ?_
          rintro e w1 ⟨rfl, hw1, hg1⟩
          have hy1 := wr_ext hw hy hg1 hlo
          have c01 := hy1.cellSome d0
          clear c0 c1
          cases gd
          · go_wp2_with fail
            go_roundw
            case rel =>
              refine ⟨k + 1, by omega, by go_num, ?_, ?_, hy1⟩
              · rw [hstep.out, hsp.out]; rfl
              · rw [hstep.out, hsp.out]; exact hw1
            case measure => simp [intOf]; omega
          · generalize hq : (((rnumber sx S).1 : Int) == N) = q at *
            cases q
            · go_wp2_with fail
              go_roundw
              case rel =>
                refine ⟨k + 1, by omega, by go_num, ?_, ?_, hy1⟩
                · rw [hstep.out, hsp.out]; rfl
                · rw [hstep.out, hsp.out]; exact hw1
              case measure => simp [intOf]; omega
            · go_wp2_with fail
              refine (failed_any g lo _ _ hw1).mono ?_
              rintro e wf ⟨rfl, rfl⟩
              go_wp2_with fail
              go_roundw
              case rel =>
                refine ⟨k + 1, by omega, by go_num, ?_, ?_, hy1⟩
                · rw [hstep.out, hsp.out]
                  cases (rnumber sx S).2 <;> rfl
                · rw [hstep.out, hsp.out]; exact hw1
              case measure => simp [intOf]; omega
    · obtain rfl : k = n := by omega
      rw [← hfl, List.take_length] at hw ⊢
      go_wp2_with fail
      go_ret
      exact ⟨rfl, hw, hy⟩

theorem open_fields {H : Type} {enc : TypeId × Value → H} {W : World} {a : Option Addr} {len cap : Nat} {d : DataW H} {p : List MemPlace}
    (h : DataW.Trod enc Try.prog W 0 (fun _ => true) true 61 (.slice a len cap) d p) : ∃ fs, FieldsIn W a len fs ∧ len ≤ cap := by
  obtain ⟨hl, h0 | ⟨b, off, rfl, hx⟩⟩ := open_structs Try.underlying61 Try.underlying63 (by decide +kernel) h
  · exact ⟨[], ⟨h0.symm, .inl h0⟩, hl⟩
  · have hc : Try.prog.cellsOf 63 = 3 := by kernel_rfl
    rw [hc] at hx
    have each : ∀ i, i < len → ∃ f : Fd, ∃ Ai ki ci, W.cell? ⟨b, off + i * 3, none⟩ = some (.int .u64 f.1) ∧ W.cell? ⟨b, off + i * 3 + 1, none⟩ = some (.int .i64 f.2.1) ∧ W.cell? ⟨b, off + i * 3 + 2, none⟩ = some (.slice Ai ki ci) ∧
        Rd W 0 Ai ki f.2.2 ∧ (Lit.int .u64 f.1).wf = true ∧ (Lit.int .i64 f.2.1).wf = true := by
      intro i hi
      obtain ⟨cs, n, hlen, hcell, hf⟩ := hx i hi
      match cs, hlen with
      | [v0, v1, v2], _ =>
        obtain ⟨y0, g0⟩ := hf 0 _ rfl
        obtain ⟨y1, g1⟩ := hf 1 _ rfl
        obtain ⟨y2, g2⟩ := hf 2 _ rfl
        have k0 : Try.prog.cellsOf 22 = 1 := by kernel_rfl
        have k1 : Try.prog.cellsOf 3 = 1 := by kernel_rfl
        have k2 : Try.prog.cellsOf 23 = 1 := by kernel_rfl
        simp [k0, k1, k2] at g0 g1 g2
        obtain ⟨z0, e0, -, w0⟩ := DataW.trod_int Try.underlying22 g0
        obtain ⟨z1, e1, -, w1⟩ := DataW.trod_int Try.underlying3 g1
        obtain ⟨A, l, c, B, rfl, hB, -⟩ := open_rd_cells Try.underlying23 Try.underlying5 (by kernel_rfl) g2
        have c0 := hcell 0 (by omega)
        have c1 := hcell 1 (by omega)
        have c2 := hcell 2 (by omega)
        simp at e0 e1 c0 c1 c2
        subst e0 e1
        exact ⟨(z0, z1, B), A, l, c, c0, c1, c2, hB, w0, w1⟩
    obtain ⟨F, hF⟩ := Go.Deep.choose_lt each
    refine ⟨(List.range len).map F, ⟨by simp, .inr ⟨b, off, rfl, fun i hi => ?_⟩⟩, hl⟩
    simp only [List.getElem_map, List.getElem_range]
    exact hF i (by simpa using hi)

/-! What a row of fields reads as -/
theorem blob_drop (l : List UInt8) : (blob l).drop 2 = l := by
  unfold blob
  rw [List.drop_append, List.drop_eq_nil_of_le (by rw [beb_length]; exact Nat.le_refl _), beb_length]
  rfl
theorem blob_take (l : List UInt8) : (blob l).take 2 = beb l.length 2 := by
  unfold blob
  rw [List.take_append_of_le_length (by rw [beb_length]; exact Nat.le_refl _), List.take_of_length_le (by rw [beb_length]; exact Nat.le_refl _)]
theorem rbytes_yes (l : List UInt8) (p : Nat) (h : p ≤ l.length) : rbytes (some l) (p : Int) = (l.take p, some (l.drop p)) := by
  simp only [rbytes, Int.toNat_natCast]
  rw [if_pos ⟨by omega, by omega⟩]
theorem rbytes_no (l : List UInt8) (p : Nat) (h : ¬ p ≤ l.length) : rbytes (some l) (p : Int) = ([], none) := by
  simp only [rbytes]
  rw [if_neg (by omega)]
theorem rnumber_good (l : List UInt8) (p : Nat) (h1 : 1 ≤ p) (h8 : p ≤ 8) (h : p ≤ l.length) : rnumber (some l) (p : Int) = (bnum (l.take p), some (l.drop p)) := by
  unfold rnumber
  rw [if_pos (by omega), rbytes_yes l p h]
theorem rnumber_short (l : List UInt8) (p : Nat) (h : l.length < p) : (rnumber (some l) (p : Int)).2 = none := by
  unfold rnumber
  split
  · rw [rbytes_no l p (by omega)]
  · rfl
theorem rnumber_none (p : Int) : (rnumber none p).2 = none := by
  unfold rnumber
  split <;> rfl
theorem rblob_none : rblob none = ([], none) := by
  unfold rblob
  rw [rnumber_none]
  rfl
theorem rblob_short (l : List UInt8) (h : (rnumber (some l) 2).2 = none) : rblob (some l) = ([], none) := by
  unfold rblob
  rw [h]
  rfl

def code (f : Fd) : List UInt8 := if f.2.1 = 0 then blob f.2.2 else beb f.1.toNat f.2.1.toNat
def codes (fs : List Fd) : List UInt8 := fs.flatMap code
structure okF (f : Fd) : Prop where
  len : f.2.2.length ≤ 3000
  wf : (Lit.int .u64 f.1).wf = true
  room : f.2.1 ≠ 0 → room f.1 f.2.1 = true
theorem u64_of {n : Int} (h : (Lit.int .u64 n).wf = true) : 0 ≤ n ∧ n < 18446744073709551616 := by
  have := bounds_u64 h
  omega
theorem okF.num {f : Fd} (h : okF f) (hs : f.2.1 ≠ 0) : 1 ≤ f.2.1 ∧ f.2.1 ≤ 8 ∧ 0 ≤ f.1 ∧ f.1.toNat < 256 ^ f.2.1.toNat := by
  obtain ⟨h0, h1⟩ := u64_of h.wf
  obtain ⟨a, b, c⟩ := room_lt (h.room hs) h0 h1
  refine ⟨a, b, h0, ?_⟩
  have : ((f.1.toNat : Nat) : Int) < ((256 ^ f.2.1.toNat : Nat) : Int) := by
    rw [Int.toNat_of_nonneg h0]
    simpa using c
  exact_mod_cast this
theorem code_pos {f : Fd} (h : okF f) : 0 < (code f).length := by
  unfold code
  split
  · rw [blob_length]; omega
  · rename_i hs
    have := h.num hs
    rw [beb_length]; omega
theorem code_len {f : Fd} (h : okF f) : (code f).length ≤ 3002 := by
  unfold code
  split
  · rw [blob_length]; have := h.len; omega
  · rename_i hs
    have := h.num hs
    rw [beb_length]; omega
theorem codes_snoc (fs : List Fd) (f : Fd) : codes (fs ++ [f]) = codes fs ++ code f := by simp [codes]
theorem codes_len : ∀ (fs : List Fd), (∀ f ∈ fs, okF f) → (codes fs).length ≤ 3002 * fs.length
  | [], _ => by simp [codes]
  | f :: fs, h => by
    have h1 := code_len (h f (by simp))
    have h2 := codes_len fs (fun g hg => h g (by simp [hg]))
    have e : codes (f :: fs) = code f ++ codes fs := rfl
    rw [e, List.length_append, List.length_cons]
    omega
/-- a field that is there is got -/
theorem code_reads {f : Fd} (h : okF f) (rest : List UInt8) : kstep (true, some (code f ++ rest)) f = (true, some rest) := by
  obtain ⟨N, S, B⟩ := f
  by_cases hs : S = 0
  · subst hs
    have hl : B.length ≤ 3000 := h.len
    have e : code (N, 0, B) = blob B := rfl
    have h2 : rnumber (some (blob B ++ rest)) ((2 : Nat) : Int) = (B.length, some (B ++ rest)) := by
      rw [rnumber_good _ 2 (by omega) (by omega) (by rw [List.length_append, blob_length]; omega), List.take_append_of_le_length (by rw [blob_length]; omega), blob_take, bnum_beb _ _ (by omega),
        List.drop_append_of_le_length (by rw [blob_length]; omega), blob_drop]
    have h3 : rblob (some (blob B ++ rest)) = (B, some rest) := by
      unfold rblob
      rw [show (2 : Int) = ((2 : Nat) : Int) from rfl, h2]
      dsimp only
      rw [rbytes_yes _ _ (by simp)]
      simp
    simp [kstep, e, h3]
  · obtain ⟨h1, h8, h0, hlt⟩ := h.num hs
    dsimp only at h1 h8 h0 hlt
    have e : code (N, S, B) = beb N.toNat S.toNat := if_neg hs
    obtain ⟨s, rfl⟩ := Int.eq_ofNat_of_zero_le (show 0 ≤ S by omega)
    obtain ⟨m, rfl⟩ := Int.eq_ofNat_of_zero_le h0
    simp only [Int.toNat_natCast] at e hlt
    have h2 : rnumber (some (beb m s ++ rest)) (s : Int) = (m, some rest) := by
      rw [rnumber_good _ s (by omega) (by omega) (by rw [List.length_append, beb_length]; omega), List.take_append_of_le_length (by rw [beb_length]; omega), List.take_of_length_le (by rw [beb_length]; omega), bnum_beb _ _ hlt,
        List.drop_append_of_le_length (by rw [beb_length]; omega), List.drop_eq_nil_of_le (by rw [beb_length]; omega), List.nil_append]
    simp only [kstep]
    rw [if_neg hs, e, h2]
    simp
/-- one that is cut is not -/
theorem code_cut {f : Fd} (h : okF f) : kstep (true, some (code f).dropLast) f = (false, none) := by
  obtain ⟨N, S, B⟩ := f
  by_cases hs : S = 0
  · subst hs
    have e : code (N, 0, B) = blob B := rfl
    have h3 : rblob (some (blob B).dropLast) = ([], none) := by
      rcases Nat.eq_zero_or_pos B.length with hB | hB
      · refine rblob_short _ ?_
        exact rnumber_short _ 2 (by rw [List.length_dropLast, blob_length]; omega)
      · have hl : B.length ≤ 3000 := h.len
        have hd : (blob B).dropLast = (blob B).take (B.length + 1) := by rw [List.dropLast_eq_take, blob_length]; rfl
        have h2 : rnumber (some (blob B).dropLast) ((2 : Nat) : Int) = (B.length, some (B.take (B.length - 1))) := by
          rw [hd, rnumber_good _ 2 (by omega) (by omega) (by rw [List.length_take, blob_length]; omega), List.take_take, Nat.min_eq_left (by omega), blob_take, bnum_beb _ _ (by omega), List.drop_take, blob_drop]
          rfl
        unfold rblob
        rw [show (2 : Int) = ((2 : Nat) : Int) from rfl, h2]
        dsimp only
        rw [rbytes_no _ _ (by rw [List.length_take]; omega)]
    simp [kstep, e, h3]
  · obtain ⟨h1, h8, h0, hlt⟩ := h.num hs
    dsimp only at h1 h8 h0 hlt
    have e : code (N, S, B) = beb N.toNat S.toNat := if_neg hs
    have h2 : (rnumber (some (code (N, S, B)).dropLast) S).2 = none := by
      rw [show S = ((S.toNat : Nat) : Int) by omega, ← show S = ((S.toNat : Nat) : Int) by omega]
      have := rnumber_short (code (N, S, B)).dropLast S.toNat (by rw [e, List.length_dropLast, beb_length]; omega)
      rwa [show ((S.toNat : Nat) : Int) = S by omega] at this
    simp only [kstep]
    rw [if_neg hs, h2]
    simp
theorem codes_read : ∀ (fs : List Fd) (rest : List UInt8), (∀ f ∈ fs, okF f) → fs.foldl kstep (true, some (codes fs ++ rest)) = (true, some rest)
  | [], _, _ => rfl
  | f :: fs, rest, h => by
    have e : codes (f :: fs) ++ rest = code f ++ (codes fs ++ rest) := by simp [codes]
    rw [e, List.foldl_cons, code_reads (h f (by simp))]
    exact codes_read fs rest fun g hg => h g (by simp [hg])
theorem codes_cut (fs : List Fd) (h : ∀ f ∈ fs, okF f) (hne : codes fs ≠ []) : fs.foldl kstep (true, some (codes fs).dropLast) = (false, none) := by
  rcases List.eq_nil_or_concat fs with rfl | ⟨gs, f, rfl⟩
  · exact absurd rfl hne
  · rw [List.concat_eq_append] at *
    have hf := h f (by simp)
    have hn : code f ≠ [] := List.ne_nil_of_length_pos (code_pos hf)
    rw [codes_snoc, List.dropLast_append_of_ne_nil hn, List.foldl_append, codes_read gs _ fun g hg => h g (by simp [hg])]
    exact code_cut hf
end Go.Proofs.Ytbikncgabmgphaa
