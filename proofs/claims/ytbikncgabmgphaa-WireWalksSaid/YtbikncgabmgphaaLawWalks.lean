/- WireWalks answers true, whatever bytes and whatever steps it is given. No conditions. -/
import Derived.Test.YtbikncgabmgphaaWalk
import Derived.Test.YtbikncgabmgphaaFrame
namespace Go.Proofs.Ytbikncgabmgphaa.lawWalks
open Go.ChangeShapes Go.WideShapes Go.ChangeAt Go.RowKit
open Go.ChangeMaps (open_string shut_string)
set_option linter.unusedVariables false
set_option linter.unusedSimpArgs false

/-- a slice of steps -/
def StepsIn (w : World) (A : Option Addr) (n : Nat) (ss : List (Int × Int)) : Prop :=
  ss.length = n ∧ (n = 0 ∨ ∃ b off, A = some ⟨b, off, none⟩ ∧ ∀ i (h : i < ss.length),
    w.cell? ⟨b, off + i * 2, none⟩ = some (.int .i64 ss[i].1) ∧ w.cell? ⟨b, off + i * 2 + 1, none⟩ = some (.int .i64 ss[i].2))
theorem open_steps {H : Type} {enc : TypeId × Value → H} {W : World} {a : Option Addr} {len cap : Nat} {d : DataW H} {p : List MemPlace}
    (h : DataW.Trod enc Try.prog W 0 (fun _ => true) true 46 (.slice a len cap) d p) : ∃ ss, StepsIn W a len ss ∧ len ≤ cap := by
  obtain ⟨hl, h0 | ⟨b, off, rfl, hx⟩⟩ := open_structs Try.underlying46 Try.underlying55 (by decide +kernel) h
  · exact ⟨[], ⟨h0.symm, .inl h0⟩, hl⟩
  · have hc : Try.prog.cellsOf 55 = 2 := by kernel_rfl
    rw [hc] at hx
    have each : ∀ i, i < len → ∃ f : Int × Int, W.cell? ⟨b, off + i * 2, none⟩ = some (.int .i64 f.1) ∧ W.cell? ⟨b, off + i * 2 + 1, none⟩ = some (.int .i64 f.2) := by
      intro i hi
      obtain ⟨cs, n, hlen, hcell, hf⟩ := hx i hi
      match cs, hlen with
      | [v0, v1], _ =>
        obtain ⟨y0, g0⟩ := hf 0 _ rfl
        obtain ⟨y1, g1⟩ := hf 1 _ rfl
        have k1 : Try.prog.cellsOf 3 = 1 := by kernel_rfl
        simp [k1] at g0 g1
        obtain ⟨z0, e0, -, w0⟩ := DataW.trod_int Try.underlying3 g0
        obtain ⟨z1, e1, -, w1⟩ := DataW.trod_int Try.underlying3 g1
        have c0 := hcell 0 (by omega)
        have c1 := hcell 1 (by omega)
        simp at e0 e1 c0 c1
        subst e0 e1
        exact ⟨(z0, z1), c0, c1⟩
    obtain ⟨F, hF⟩ := Go.Deep.choose_lt each
    refine ⟨(List.range len).map F, ⟨by simp, .inr ⟨b, off, rfl, fun i hi => ?_⟩⟩, hl⟩
    simp only [List.getElem_map, List.getElem_range]
    exact hF i (by simpa using hi)

theorem own_at {w : World} {base : Nat} {e : TypeId} {A : Option Addr} {n c : Nat} {l : List UInt8} (h : Own w base e A n c l) (hn : 0 < n) : ∃ g, A = some ⟨g, 0, none⟩ ∧ base ≤ g ∧ g < w.heap.size := by
  rcases h.2 with ⟨_, h0⟩ | ⟨g, cap, cur, hv, hb, hg, _⟩
  · omega
  · refine ⟨g, ?_, hb, (Array.getElem?_eq_some_iff.1 hg).1⟩
    injection hv

/-- what is written in an older block leaves a reader alone -/
theorem rd_low {w w' : World} {lo q : Nat} {A : Option Addr} {n : Nat} {l : List UInt8} (h : Rd w lo A n l) (hb : w.grownBy w' (some q)) (hq : q < lo) : Rd w' lo A n l :=
  h.keep hb.size fun b h1 h2 => hb.block b h2 (fun e => by cases e; omega)
theorem wr_low {w w' : World} {lo g q : Nat} {st : Option (List UInt8)} (h : Wr w lo g st) (hb : w.grownBy w' (some q)) (hq : q < lo) : Wr w' lo g st := by
  have hn : some g ≠ some q := fun e => by cases e; have := h.1; omega
  refine ⟨h.1, ?_⟩
  rcases st with _ | l
  · exact Blk.other h.2 hb hn
  · obtain ⟨A, n, c, h1, h2, h3, h4⟩ := h.2
    exact ⟨A, n, c, Blk.other h1 hb hn, h2, rd_low h3 hb hq, h4⟩
theorem rr_low {w w' : World} {lo g q : Nat} {st : Option (List UInt8)} (h : Rr w lo g st) (hb : w.grownBy w' (some q)) (hq : q < lo) : Rr w' lo g st := by
  have hn : some g ≠ some q := fun e => by cases e; have := h.1; omega
  refine ⟨h.1, ?_⟩
  rcases st with _ | l
  · exact Blk.other h.2 hb hn
  · obtain ⟨A, n, c, h1, h2, h3, h4⟩ := h.2
    exact ⟨A, n, c, Blk.other h1 hb hn, h2, rd_low h3 hb hq, h4⟩
theorem rr_flag {w : World} {lo g : Nat} {st : Option (List UInt8)} (h : Rr w lo g st) : w.cell? ⟨g, 1, none⟩ = some (.bool st.isNone) := by
  rcases st with _ | l
  · exact Blk.cell h.2 1
  · obtain ⟨A, n, c, h1, h2, h3, h4⟩ := h.2
    exact h1.cell 1

/-- both readers move on; where the elder one's flag stands as it should, it stays so -/
def Mw (g h : Nat) (v : Value) (w w' : World) : Prop := Mv g h w w' ∧ (w.cell? ⟨h, 1, none⟩ = some v → w'.cell? ⟨h, 1, none⟩ = some v)
theorem Mw.refl (g h : Nat) (v : Value) (w : World) : Mw g h v w w := ⟨Mv.refl _ _ _, id⟩
theorem Mw.trans {g h : Nat} {v : Value} {a b c : World} (x : Mw g h v a b) (y : Mw g h v b c) : Mw g h v a c := ⟨x.1.trans y.1, fun e => y.2 (x.2 e)⟩

theorem rleft_step (st : Option (List UInt8)) (k n : Int) : rleft (stepS st k n) ≤ rleft st := by
  have hb : ∀ (s : Option (List UInt8)) (p : Int), rleft (rbytes s p).2 ≤ rleft s := by
    intro s p
    unfold rbytes
    rcases s with _ | l
    · simp [rleft]
    · dsimp only
      split <;> simp [rleft]
  have hn : ∀ (s : Option (List UInt8)) (p : Int), rleft (rnumber s p).2 ≤ rleft s := by
    intro s p
    unfold rnumber
    split
    · exact hb s p
    · exact Nat.zero_le _
  unfold stepS
  split
  · exact hn _ _
  · split
    · exact Nat.le_trans (hb _ _) (hn _ _)
    · split
      · exact hb _ _
      · exact Nat.le_refl _
theorem stepS_none (k n : Int) : stepS none k n = none := by
  have hn : ∀ p : Int, (rnumber none p).2 = none := by
    intro p
    unfold rnumber
    split <;> rfl
  unfold stepS
  split
  · exact hn _
  · split
    · unfold rblob
      rw [hn]
      rfl
    · split <;> rfl

set_option maxRecDepth 100000 in
set_option maxHeartbeats 3200000 in
theorem walk (w : World) (A : Option Addr) (n c : Nat) (l : List UInt8) (hr : Rd w 0 A n l) (hc : n ≤ c) (S : Option Addr) (m d : Nat) (ss : List (Int × Int)) (hs : StepsIn w S m ss) (hd : m ≤ d) :
    Calls Try.prog 8 #[.slice A n c, .slice S m d] w fun e w' => e = .returned (.bool true) ∧ Ext w w' := by
  by_cases hA : 9000 < n
  ·
    have hA' : (9000 : Int) < (n : Int) := by omega
    clear hA
    go_enter Try.func8, Try.ntmps8
    go_wp2_with fail
    refine (known_any _).mono ?_
    rintro e wk ⟨rfl, hxk⟩
    go_wp2_with fail
    go_ret
    exact ⟨rfl, hxk⟩
  have hA' : ¬ (9000 : Int) < (n : Int) := by omega
  by_cases hB : 300 < m
  ·
    have hB' : (300 : Int) < (m : Int) := by omega
    clear hA hB
    go_enter Try.func8, Try.ntmps8
    go_wp2_with fail
    refine (known_any _).mono ?_
    rintro e wk ⟨rfl, hxk⟩
    go_wp2_with fail
    go_ret
    exact ⟨rfl, hxk⟩
  have hB' : ¬ (300 : Int) < (m : Int) := by omega
  have hn9 : n ≤ 1000000000 := by omega
  clear hA
  have hsl := hs.1
  go_enter Try.func8, Try.ntmps8
  go_wp2_with (at_builtin; refine wpList_append_b bytes_ty rfl _ _ rfl w (Ext.refl w) _ 0 0 [] rfl (Own.nil _ _ _) A n c _ l rfl hr (by omega) ?_; rw [Nat.zero_add, List.nil_append]; intro A1 c1 w1 h1 _ hx1)
  refine (read_any A1 n c1 _ l _ h1.rd hn9).mono ?_
  rintro e w2 ⟨g, rfl, hg, hx2⟩
  have hrw2 := hr.ext (hx1.trans hx2)
  go_wp2_with (at_builtin; refine wpList_append_b bytes_ty rfl _ _ rfl w2 (Ext.refl w2) _ 0 0 [] rfl (Own.nil _ _ _) A n c _ l rfl hrw2 (by omega) ?_; rw [Nat.zero_add, List.nil_append]; intro A3 c3 w3 h3 _ hx3)
  have hown : ∀ a, A1 = some a → 0 < n → a.block < w1.heap.size := by
    intro a ha hn
    obtain ⟨q, hq, _, hlt⟩ := own_at h1 hn
    rw [hq] at ha
    cases ha
    exact hlt
  have x34 : Ext w3 (w3.alloc (.cells #[.slice A3 n c3, .bool false] 51)) := (Ext.refl w3).alloc _
  have x24 := hx3.trans x34
  have x04 := (hx1.trans hx2).trans x24
  have hg4 := hg.kept x24
  have ho4 := h1.kept (hx2.trans x24)
  have hh4 : Rr (w3.alloc (.cells #[.slice A3 n c3, .bool false] 51)) w2.heap.size w3.heap.size (some l) :=
    ⟨hx3.size, A3, n, c3, Blk.new _ _ _, h3.cap, h3.rd.ext x34, hn9⟩
  have hgh : g ≠ w3.heap.size := fun e => by have := hg.plain.lt; have := hx3.size; omega
  have s12 := hx2.size
  have s01 := hx1.size
  clear hrw2 h3 hx3 hg h1 x34 x24 hx2 hx1 hr
  generalize w3.alloc (.cells #[.slice A3 n c3, .bool false] 51) = w4 at *
  generalize w3.heap.size = h at *
  go_loopw [8] (fun i wr => ∃ k : Nat, k ≤ n ∧ i = .int .i64 k ∧ (∃ lj, Own wr w.heap.size 5 A1 n c1 lj) ∧ Wr wr w1.heap.size g (some l) ∧ Rr wr w2.heap.size h (some l) ∧ Ext w wr) (fun i _ => n - (intOf i).toNat)
  case atStart => exact ⟨0, Nat.zero_le _, rfl, ⟨_, ho4⟩, hg4, hh4, x04⟩
  case round =>
    obtain ⟨k, hk, rfl, ⟨lj, ho⟩, hg, hh, hy⟩ := hrel
    by_cases hlt : k < n
    · obtain ⟨q, rfl, hq, -⟩ := own_at ho (by omega)
      have hcell := ho.at_ hlt
      have hfz := ho.free k
      have hql : q < w1.heap.size := hown _ rfl (by omega)
      obtain ⟨hst, hbb⟩ := ho.store k 0
      go_wp2_with fail
      refine ⟨⟨k + 1, hlt, by go_num, ⟨_, hst⟩, wr_low hg hbb hql, rr_low hh hbb (by omega), hy.setCell hq _⟩, by simp [intOf]; omega⟩
    · clear ho4 hg4 hh4 x04 ho
      go_wp2_with fail
      clear hlt hk
      go_loopw [9] (fun i wr => ∃ k : Nat, k ≤ m ∧ i = .int .i64 k ∧ (∃ st, Wr wr w1.heap.size g st ∧ Rr wr w2.heap.size h st) ∧ Ext w wr) (fun i _ => m - (intOf i).toNat)
      case atStart => exact ⟨0, Nat.zero_le _, rfl, ⟨_, hg, hh⟩, hy⟩
      case round =>
        obtain ⟨k, hk, rfl, ⟨st, hg, hh⟩, hy⟩ := hrel
        by_cases hlt : k < m
        · obtain ⟨hl, hz | ⟨b, off, rfl, hcells⟩⟩ := hs
          · omega
          · have hkf : k < ss.length := by omega
            obtain ⟨d0, d1⟩ := hcells k hkf
            generalize ss[k] = s at *
            obtain ⟨kd, p⟩ := s
            dsimp only at d0 d1
            go_wp2_with fail
            refine (left_any g _ st _ hg).mono ?_
            rintro e wf ⟨rfl, rfl⟩
            go_wp2_with fail
            refine (failed_any g _ st _ hg).mono ?_
            rintro e wf ⟨rfl, rfl⟩
            go_wp2_with fail
            have hyd := hy.drew
            have hbg : w.heap.size ≤ g := Nat.le_trans s01 hg.1
            have hbh : w.heap.size ≤ h := Nat.le_trans (Nat.le_trans s01 s12) hh.1
            have hle := rleft_step st kd p
            obtain ⟨st', hst⟩ : ∃ s, stepS st kd p = s := ⟨_, rfl⟩
            rw [hst] at hle
            have hgt : decide (((rleft st : Nat) : Int) < ((rleft st' : Nat) : Int)) = false := by simp; omega
            have hgt2 : decide (rleft st < rleft st') = false := by simp; omega
            have hnn : st = none → st' = none := fun e => by rw [← hst, e, stepS_none]
            have e5a : ∀ x : Above (Mw g h (.bool st'.isNone)) wr.drew, x.1.cell? ⟨b, off + k * 2, none⟩ = some (.int .i64 kd) := fun x => (x.2.1.ext hyd hbg hbh).cellSome d0
            have e5b : ∀ x : Above (Mw g h (.bool st'.isNone)) wr.drew, x.1.cell? ⟨b, off + k * 2 + 1, none⟩ = some (.int .i64 p) := fun x => (x.2.1.ext hyd hbg hbh).cellSome d1
            rcases st with _ | l0
            · obtain rfl := hnn rfl
              refine wp_region_plan (Mw g h (.bool true)) [(0, true), (1, true), (2, true), (3, true), (4, true), (5, true), (6, false), (7, true), (8, true), (9, true), (11, true), (10, false), (12, false), (13, true), (14, true), (15, true), (16, true), (18, true), (19, true), (20, true), (21, true), (17, false), (22, true), (23, true), (24, true), (25, true), (28, true), (26, false), (27, false), (29, false), (30, true), (31, true), (32, true), (33, true), (35, true), (34, false), (36, true), (37, true), (38, true), (39, true), (40, true), (41, true), (42, false), (43, true), (44, true), (45, true)] (fun _ _ _ x y => Mw.trans x y) (Mw.refl g h (.bool true)) (by kernel_rfl) (by kernel_rfl) ?_
              intro K hK
              iterate 6 (
                refine plan_q (v := ?_) rfl rfl ?_ ?_
                rotate_left
                · intro x
                  go_simp
                  first | done | rfl
                simp only [Act.put, List.getElem_toArray, List.getElem_cons_zero, List.getElem_cons_succ, List.setIfInBounds_toArray, List.set_cons_zero, List.set_cons_succ])
              refine plan_l rfl rfl ?_
              intro K2 hK2
              go_simp
              refine (alike_any wr.drew g h _ _ none kd p (hg.kept (Ext.refl _).drew) (hh.kept (Ext.refl _).drew) hgh).mono ?_
              rw [hst]
              rintro e w5 ⟨rfl, hg5, hh5, hm5⟩
              go_simp
              have hfl := rr_flag hh5
              refine hK2.out _ _ ⟨hm5, fun _ => hfl⟩ ?_
              clear hK2 K2
              try simp only [Act.put, List.getElem_toArray, List.getElem_cons_zero, List.getElem_cons_succ, List.setIfInBounds_toArray, List.set_cons_zero, List.set_cons_succ]
              have hlh : ∀ x : Above (Mw g h (.bool true)) w5, x.1.cell? ⟨h, 1, none⟩ = some (.bool true) := fun x => x.2.2 hfl
              clear e5a e5b
              iterate 4 (
                refine plan_q (v := ?_) rfl rfl ?_ ?_
                rotate_left
                · intro x
                  go_simp
                  first | done | rfl
                simp only [Act.put, List.getElem_toArray, List.getElem_cons_zero, List.getElem_cons_succ, List.setIfInBounds_toArray, List.set_cons_zero, List.set_cons_succ])
              refine plan_l rfl rfl ?_
              intro K2 hK2
              go_simp
              refine (left_any g _ (none : Option (List UInt8)) _ hg5).mono ?_
              rintro e wf ⟨rfl, rfl⟩
              go_simp
              refine hK2.out _ _ (Mw.refl _ _ _ _) ?_
              clear hK2 K2
              try simp only [Act.put, List.getElem_toArray, List.getElem_cons_zero, List.getElem_cons_succ, List.setIfInBounds_toArray, List.set_cons_zero, List.set_cons_succ]
              refine plan_l rfl rfl ?_
              intro K2 hK2
              go_simp
              refine (rleft_any h _ (none : Option (List UInt8)) _ hh5).mono ?_
              rintro e wf ⟨rfl, rfl⟩
              go_simp
              refine hK2.out _ _ (Mw.refl _ _ _ _) ?_
              clear hK2 K2
              try simp only [Act.put, List.getElem_toArray, List.getElem_cons_zero, List.getElem_cons_succ, List.setIfInBounds_toArray, List.set_cons_zero, List.set_cons_succ]
              iterate 8 (
                refine plan_q (v := ?_) rfl rfl ?_ ?_
                rotate_left
                · intro x
                  go_simp
                  first | done | rfl
                simp only [Act.put, List.getElem_toArray, List.getElem_cons_zero, List.getElem_cons_succ, List.setIfInBounds_toArray, List.set_cons_zero, List.set_cons_succ])
              refine plan_l rfl rfl ?_
              intro K2 hK2
              go_simp
              refine (failed_any g _ (none : Option (List UInt8)) _ hg5).mono ?_
              rintro e wf ⟨rfl, rfl⟩
              go_simp
              refine hK2.out _ _ (Mw.refl _ _ _ _) ?_
              clear hK2 K2
              try simp only [Act.put, List.getElem_toArray, List.getElem_cons_zero, List.getElem_cons_succ, List.setIfInBounds_toArray, List.set_cons_zero, List.set_cons_succ]
              iterate 5 (
                refine plan_q (v := ?_) rfl rfl ?_ ?_
                rotate_left
                · intro x
                  go_simp
                  first | done | rfl
                simp only [Act.put, List.getElem_toArray, List.getElem_cons_zero, List.getElem_cons_succ, List.setIfInBounds_toArray, List.set_cons_zero, List.set_cons_succ])
              refine plan_l rfl rfl ?_
              intro K2 hK2
              go_simp
              refine (end_any g _ (none : Option (List UInt8)) _ hg5).mono ?_
              rintro e wf ⟨rfl, rfl⟩
              go_simp
              refine hK2.out _ _ (Mw.refl _ _ _ _) ?_
              clear hK2 K2
              try simp only [Act.put, List.getElem_toArray, List.getElem_cons_zero, List.getElem_cons_succ, List.setIfInBounds_toArray, List.set_cons_zero, List.set_cons_succ]
              refine plan_l rfl rfl ?_
              intro K2 hK2
              go_simp
              refine (num_any _ _).mono ?_
              rintro e wf ⟨rfl, rfl⟩
              go_simp
              refine hK2.out _ _ (Mw.refl _ _ _ _) ?_
              clear hK2 K2
              try simp only [Act.put, List.getElem_toArray, List.getElem_cons_zero, List.getElem_cons_succ, List.setIfInBounds_toArray, List.set_cons_zero, List.set_cons_succ]
              refine plan_l rfl rfl ?_
              intro K2 hK2
              go_simp
              refine (rend_any h _ (none : Option (List UInt8)) _ hh5).mono ?_
              rintro e wf ⟨rfl, rfl⟩
              go_simp
              refine hK2.out _ _ (Mw.refl _ _ _ _) ?_
              clear hK2 K2
              try simp only [Act.put, List.getElem_toArray, List.getElem_cons_zero, List.getElem_cons_succ, List.setIfInBounds_toArray, List.set_cons_zero, List.set_cons_succ]
              iterate 5 (
                refine plan_q (v := ?_) rfl rfl ?_ ?_
                rotate_left
                · intro x
                  go_simp
                  first | done | rfl
                simp only [Act.put, List.getElem_toArray, List.getElem_cons_zero, List.getElem_cons_succ, List.setIfInBounds_toArray, List.set_cons_zero, List.set_cons_succ])
              refine plan_l rfl rfl ?_
              intro K2 hK2
              go_simp
              refine (left_any g _ (none : Option (List UInt8)) _ hg5).mono ?_
              rintro e wf ⟨rfl, rfl⟩
              go_simp
              refine hK2.out _ _ (Mw.refl _ _ _ _) ?_
              clear hK2 K2
              try simp only [Act.put, List.getElem_toArray, List.getElem_cons_zero, List.getElem_cons_succ, List.setIfInBounds_toArray, List.set_cons_zero, List.set_cons_succ]
              iterate 5 (
                refine plan_q (v := ?_) rfl rfl ?_ ?_
                rotate_left
                · intro x
                  go_simp
                  first | done | rfl
                simp only [Act.put, List.getElem_toArray, List.getElem_cons_zero, List.getElem_cons_succ, List.setIfInBounds_toArray, List.set_cons_zero, List.set_cons_succ])
              iterate 1 (
                refine plan_q (v := ?_) rfl rfl ?_ ?_
                rotate_left
                · intro x
                  go_simp
                  first | done | rfl
                simp only [Act.put, List.getElem_toArray, List.getElem_cons_zero, List.getElem_cons_succ, List.setIfInBounds_toArray, List.set_cons_zero, List.set_cons_succ])
              refine plan_l rfl rfl ?_
              intro K2 hK2
              go_simp
              refine (failed_any g _ none _ hg5).mono ?_
              rintro e wf ⟨rfl, rfl⟩
              go_simp
              refine hK2.out _ _ (Mw.refl _ _ _ _) ?_
              clear hK2 K2
              try simp only [Act.put, List.getElem_toArray, List.getElem_cons_zero, List.getElem_cons_succ, List.setIfInBounds_toArray, List.set_cons_zero, List.set_cons_succ]
              iterate 1 (
                refine plan_q (v := ?_) rfl rfl ?_ ?_
                rotate_left
                · intro x
                  go_simp
                  first | done | rfl
                simp only [Act.put, List.getElem_toArray, List.getElem_cons_zero, List.getElem_cons_succ, List.setIfInBounds_toArray, List.set_cons_zero, List.set_cons_succ])
              iterate 2 (
                refine plan_q (v := ?_) rfl rfl ?_ ?_
                rotate_left
                · intro x
                  go_simp
                  first | done | rfl
                simp only [Act.put, List.getElem_toArray, List.getElem_cons_zero, List.getElem_cons_succ, List.setIfInBounds_toArray, List.set_cons_zero, List.set_cons_succ])
              refine plan_end (hK.out _ _ ?_)
              clear hK K
              go_wp2_with fail
              exact ⟨⟨k + 1, hlt, by go_num, ⟨none, hg5, hh5⟩, hm5.ext hyd hbg hbh⟩, by simp [intOf]; omega⟩
            · 
              refine wp_region_plan (Mw g h (.bool st'.isNone)) [(0, true), (1, true), (2, true), (3, true), (4, true), (5, true), (6, false), (7, true), (8, true), (9, true), (11, true), (10, false), (12, false), (13, true), (14, true), (15, true), (16, true), (18, true), (19, true), (20, true), (21, true), (17, false), (22, true), (23, true), (24, true), (25, true), (28, true), (26, false), (27, false), (29, false), (30, true), (31, true), (32, true), (33, true), (35, true), (34, false), (36, true), (37, true), (38, true), (39, true), (40, true), (41, true), (42, false), (43, true), (44, true), (45, true)] (fun _ _ _ x y => Mw.trans x y) (Mw.refl g h (.bool st'.isNone)) (by kernel_rfl) (by kernel_rfl) ?_
              intro K hK
              iterate 6 (
                refine plan_q (v := ?_) rfl rfl ?_ ?_
                rotate_left
                · intro x
                  go_simp
                  first | done | rfl
                simp only [Act.put, List.getElem_toArray, List.getElem_cons_zero, List.getElem_cons_succ, List.setIfInBounds_toArray, List.set_cons_zero, List.set_cons_succ])
              refine plan_l rfl rfl ?_
              intro K2 hK2
              go_simp
              refine (alike_any wr.drew g h _ _ (some l0) kd p (hg.kept (Ext.refl _).drew) (hh.kept (Ext.refl _).drew) hgh).mono ?_
              rw [hst]
              rintro e w5 ⟨rfl, hg5, hh5, hm5⟩
              go_simp
              have hfl := rr_flag hh5
              refine hK2.out _ _ ⟨hm5, fun _ => hfl⟩ ?_
              clear hK2 K2
              try simp only [Act.put, List.getElem_toArray, List.getElem_cons_zero, List.getElem_cons_succ, List.setIfInBounds_toArray, List.set_cons_zero, List.set_cons_succ]
              have hlh : ∀ x : Above (Mw g h (.bool st'.isNone)) w5, x.1.cell? ⟨h, 1, none⟩ = some (.bool st'.isNone) := fun x => x.2.2 hfl
              clear e5a e5b
              iterate 4 (
                refine plan_q (v := ?_) rfl rfl ?_ ?_
                rotate_left
                · intro x
                  go_simp
                  first | done | rfl
                simp only [Act.put, List.getElem_toArray, List.getElem_cons_zero, List.getElem_cons_succ, List.setIfInBounds_toArray, List.set_cons_zero, List.set_cons_succ])
              refine plan_l rfl rfl ?_
              intro K2 hK2
              go_simp
              refine (left_any g _ st' _ hg5).mono ?_
              rintro e wf ⟨rfl, rfl⟩
              go_simp
              refine hK2.out _ _ (Mw.refl _ _ _ _) ?_
              clear hK2 K2
              try simp only [Act.put, List.getElem_toArray, List.getElem_cons_zero, List.getElem_cons_succ, List.setIfInBounds_toArray, List.set_cons_zero, List.set_cons_succ]
              refine plan_l rfl rfl ?_
              intro K2 hK2
              go_simp
              refine (rleft_any h _ st' _ hh5).mono ?_
              rintro e wf ⟨rfl, rfl⟩
              go_simp
              refine hK2.out _ _ (Mw.refl _ _ _ _) ?_
              clear hK2 K2
              try simp only [Act.put, List.getElem_toArray, List.getElem_cons_zero, List.getElem_cons_succ, List.setIfInBounds_toArray, List.set_cons_zero, List.set_cons_succ]
              iterate 8 (
                refine plan_q (v := ?_) rfl rfl ?_ ?_
                rotate_left
                · intro x
                  go_simp
                  first | done | rfl
                simp only [Act.put, List.getElem_toArray, List.getElem_cons_zero, List.getElem_cons_succ, List.setIfInBounds_toArray, List.set_cons_zero, List.set_cons_succ])
              refine plan_l rfl rfl ?_
              intro K2 hK2
              go_simp
              refine (failed_any g _ st' _ hg5).mono ?_
              rintro e wf ⟨rfl, rfl⟩
              go_simp
              refine hK2.out _ _ (Mw.refl _ _ _ _) ?_
              clear hK2 K2
              try simp only [Act.put, List.getElem_toArray, List.getElem_cons_zero, List.getElem_cons_succ, List.setIfInBounds_toArray, List.set_cons_zero, List.set_cons_succ]
              iterate 5 (
                refine plan_q (v := ?_) rfl rfl ?_ ?_
                rotate_left
                · intro x
                  go_simp
                  first | done | rfl
                simp only [Act.put, List.getElem_toArray, List.getElem_cons_zero, List.getElem_cons_succ, List.setIfInBounds_toArray, List.set_cons_zero, List.set_cons_succ])
              refine plan_l rfl rfl ?_
              intro K2 hK2
              go_simp
              refine (end_any g _ st' _ hg5).mono ?_
              rintro e wf ⟨rfl, rfl⟩
              go_simp
              refine hK2.out _ _ (Mw.refl _ _ _ _) ?_
              clear hK2 K2
              try simp only [Act.put, List.getElem_toArray, List.getElem_cons_zero, List.getElem_cons_succ, List.setIfInBounds_toArray, List.set_cons_zero, List.set_cons_succ]
              refine plan_l rfl rfl ?_
              intro K2 hK2
              go_simp
              refine (num_any _ _).mono ?_
              rintro e wf ⟨rfl, rfl⟩
              go_simp
              refine hK2.out _ _ (Mw.refl _ _ _ _) ?_
              clear hK2 K2
              try simp only [Act.put, List.getElem_toArray, List.getElem_cons_zero, List.getElem_cons_succ, List.setIfInBounds_toArray, List.set_cons_zero, List.set_cons_succ]
              refine plan_l rfl rfl ?_
              intro K2 hK2
              go_simp
              refine (rend_any h _ st' _ hh5).mono ?_
              rintro e wf ⟨rfl, rfl⟩
              go_simp
              refine hK2.out _ _ (Mw.refl _ _ _ _) ?_
              clear hK2 K2
              try simp only [Act.put, List.getElem_toArray, List.getElem_cons_zero, List.getElem_cons_succ, List.setIfInBounds_toArray, List.set_cons_zero, List.set_cons_succ]
              iterate 5 (
                refine plan_q (v := ?_) rfl rfl ?_ ?_
                rotate_left
                · intro x
                  go_simp
                  first | done | rfl
                simp only [Act.put, List.getElem_toArray, List.getElem_cons_zero, List.getElem_cons_succ, List.setIfInBounds_toArray, List.set_cons_zero, List.set_cons_succ])
              refine plan_l rfl rfl ?_
              intro K2 hK2
              go_simp
              refine (left_any g _ st' _ hg5).mono ?_
              rintro e wf ⟨rfl, rfl⟩
              go_simp
              refine hK2.out _ _ (Mw.refl _ _ _ _) ?_
              clear hK2 K2
              try simp only [Act.put, List.getElem_toArray, List.getElem_cons_zero, List.getElem_cons_succ, List.setIfInBounds_toArray, List.set_cons_zero, List.set_cons_succ]
              iterate 5 (
                refine plan_q (v := ?_) rfl rfl ?_ ?_
                rotate_left
                · intro x
                  go_simp
                  first | done | rfl
                simp only [Act.put, List.getElem_toArray, List.getElem_cons_zero, List.getElem_cons_succ, List.setIfInBounds_toArray, List.set_cons_zero, List.set_cons_succ])
              iterate 3 (
                refine plan_n rfl rfl ?_
                simp only [Act.put, List.getElem_toArray, List.getElem_cons_zero, List.getElem_cons_succ, List.setIfInBounds_toArray, List.set_cons_zero, List.set_cons_succ])
              iterate 2 (
                refine plan_q (v := ?_) rfl rfl ?_ ?_
                rotate_left
                · intro x
                  go_simp
                  first | done | rfl
                simp only [Act.put, List.getElem_toArray, List.getElem_cons_zero, List.getElem_cons_succ, List.setIfInBounds_toArray, List.set_cons_zero, List.set_cons_succ])
              refine plan_end (hK.out _ _ ?_)
              clear hK K
              go_wp2_with fail
              exact ⟨⟨k + 1, hlt, by go_num, ⟨st', hg5, hh5⟩, hm5.ext hyd hbg hbh⟩, by simp [intOf]; omega⟩
        · go_wp2_with fail
          refine (known_any _).mono ?_
          rintro e wk ⟨rfl, hxk⟩
          go_wp2_with fail
          go_ret
          exact ⟨rfl, (hy).trans hxk⟩

set_option maxRecDepth 100000 in
theorem lifted (os : Os) (started : os.Started) (H : Type) (enc : TypeId × Value → H) :
    ReturnsInHanded {} Try.checked os 8 .any (Rows.wireWalksSpec.pre6 enc Try.prog Try.f8 Rows.wireWalksRow.domain false) (Rows.wireWalksSpec.post enc Try.prog Try.f8 false true false false) := by
  refine returnsInHanded_of_change (C := Try.checked) own started (by kernel_rfl) Try.func8
    (ChangeSpec.witness6 (enc := enc) (C := Try.checked) false ⟨#[], #[.slice none 0 0, .slice none 0 0], []⟩ 8 (by kernel_rfl) (by kernel_rfl) (by kernel_rfl) (by kernel_rfl)) ?_
  intro W base args ds gs before hval0 hW hcnd _
  have hval : ∀ (j : Nat) t v, Try.f8.params[j]? = some t → args[j]? = some v → Value.okWide Try.prog W .any base t v := hval0
  have hW' := hW
  obtain ⟨p, q, hA0, hV, rfl, hfz, hnd⟩ := hW
  have hA : DataW.TrodAll enc Try.prog W 0 (fun _ => true) true Try.f8.params.toList args.toList ds p := hA0
  rw [Try.params8] at hA hval
  obtain ⟨v0, vs0, d0, ds0, p0, q0, hargs, rfl, rfl, h0, r0⟩ := trodAll_cons hA
  obtain ⟨v1, vs1, d1, ds1, p1, q1, rfl, rfl, rfl, h1, r1⟩ := trodAll_cons r0
  obtain ⟨rfl, rfl, rfl⟩ := trodAll_nil r1
  obtain rfl : args = #[v0, v1] := by cases args; simp_all
  obtain ⟨rfl, rfl⟩ := trodVars_none hV
  obtain ⟨a0, n0, c0, rfl⟩ := okWide_slice Try.underlying23 (hval 0 23 v0 rfl rfl)
  have k0 := h0
  have lt0 : ∀ x ∈ p0, x.block < W.heap.size := by obtain ⟨m, hm⟩ := k0; exact DataW.trod_lt m _ _ _ hm
  obtain ⟨l0, w0, y0⟩ := open_rd Try.underlying23 Try.underlying5 (by kernel_rfl) h0
  obtain ⟨a1, n1, c1, rfl⟩ := okWide_slice Try.underlying46 (hval 1 46 v1 rfl rfl)
  have k1 := h1
  have lt1 : ∀ x ∈ p1, x.block < W.heap.size := by obtain ⟨m, hm⟩ := k1; exact DataW.trod_lt m _ _ _ hm
  obtain ⟨l1, w1, y1⟩ := open_steps h1
  clear hA0 hval0
  refine (walk W a0 n0 c0 l0 w0 y0 a1 n1 c1 l1 w1 y1).mono fun e W' ⟨he, bel⟩ => ?_
  subst he
  exact ⟨_, rfl, _, _, _, [], _, [], hW', trodAll_mk1 (shut_bool Try.underlying4 _), (trodAll_cons_mk (Below.trod laidOut (by kernel_rfl) (of_decide_eq_true (by kernel_rfl)) k0 bel lt0) (trodAll_cons_mk (Below.trod laidOut (by kernel_rfl) (of_decide_eq_true (by kernel_rfl)) k1 bel lt1) trodAll_mk0)), rfl, Below.frame bel _, fun h => by cases h⟩

theorem over_ : Rows.wireWalksRow.holds Try.pinned (OpenSpec.ofChange Rows.wireWalksSpec) :=
  OpenClaim.holds_of_wide 8 Try.f8 rfl rfl rfl rfl rfl rfl rfl ⟨rfl, rfl, rfl, rfl, rfl⟩ rfl rfl rfl rfl rfl (by kernel_rfl) Try.func8 (by kernel_rfl)
    (of_decide_eq_true (by kernel_rfl)) (by unfold Func.isWrapper; first | (rw [if_pos (by decide +kernel)]; kernel_rfl) | (rw [if_neg (by decide +kernel)]; exact ⟨rfl, rfl⟩))
    (fun os started H enc _ => lifted os started H enc)

theorem proved : Rows.WireWalksSaid := over_
end Go.Proofs.Ytbikncgabmgphaa.lawWalks
