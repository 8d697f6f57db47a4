/- NetComes answers true, whatever acts and number it is given. No conditions. -/
import Derived.Test.YtekbdpfiommmbaaRC
import Derived.Test.YtekbdpfiommmbaaNmuch
import Derived.Test.YtekbdpfiommmbaaNknown
import Derived.Test.YtekbdpfiommmbaaFrame
namespace Go.Proofs.Ytekbdpfiommmbaa.lawComes
open Go.ChangeShapes Go.WideShapes Go.ChangeAt Go.RowKit Go.Maps Go.Shelf
open Go.ChangeMaps (open_string shut_string)
set_option linter.unusedVariables false
set_option linter.unusedSimpArgs false
attribute [local go_sem] Oper.semAt_some

theorem least {P : Nat → Prop} : ∀ m, P m → ∃ k, P k ∧ ∀ j, P j → k ≤ j := by
  intro m
  induction m using Nat.strongRecOn with
  | ind m ih =>
    intro h
    by_cases hs : ∃ j, j < m ∧ P j
    · obtain ⟨j, hj, hp⟩ := hs
      exact ih j hj hp
    · exact ⟨m, h, fun j hp => Nat.le_of_not_lt fun hj => hs ⟨j, hj, hp⟩⟩
/-- in that world both nets are the same, and have so many flights -/
def Has (w0 : World) (n q : Nat) (w : World) (m : Nat) : Prop := ∃ g : NC, g.ends = ((4 : Nat) : Int) ∧ (flL g 4 (4 * 4)).length = m ∧ Pr w0 w n q g g []
def Least (w0 : World) (n q : Nat) (w : World) (m : Nat) : Prop := Has w0 n q w m ∧ ∀ j, Has w0 n q w j → m ≤ j
theorem least_is {w0 w : World} {n q m : Nat} (h : Has w0 n q w m) : Least w0 n q w (Classical.epsilon (Least w0 n q w)) := Classical.epsilon_spec (p := Least w0 n q w) (least m h)
theorem first_cnt {fs : List (Int × Int × Row)} {k : Nat} {t : Int × Int × Row} (h : ∀ j s, j < k → fs[j]? = some s → ofL t s = false) : cntB fs k t = 0 := by
  rw [cntB, List.countP_eq_zero]
  intro s hs
  obtain ⟨j, hj, e⟩ := List.getElem_of_mem hs
  rw [List.length_take] at hj
  rw [List.getElem_take] at e
  rw [h j s (by omega) (by rw [List.getElem?_eq_getElem (by omega), e])]
  decide
theorem held_ext {w w' : World} {O : Ow} {q : Nat} {L : List Hk} (h : ∀ x ∈ L, Hk.ok w O q x) (hx : Ext w w') : ∀ x ∈ L, Hk.ok w' O q x := fun x hx' => Hk.keep hx.size (fun k hk e => ⟨hx.blk hk, e⟩) (h x hx')
theorem LineR.tail {w : World} {O : Ow} {lb lof cp : Nat} {rows : List Row} (h : LineR w O (.slice (some ⟨lb, lof, none⟩) rows.length cp) rows) (hp : 0 < rows.length) {A8 : Option Addr} (hA : (if cp = 1 then some ⟨lb, lof, none⟩ else some ⟨lb, lof + 1, none⟩) = A8) : LineR w O (.slice A8 (rows.length - 1) (cp - 1)) (rows.drop 1) := by
  obtain ⟨A, c, cs, e, h2, h3, h4⟩ := h
  injection e with e1 e2 e3
  subst e1 e3
  have hd := h3.del 0 hp
  simp only [List.take_zero, List.nil_append, Nat.zero_add] at hd
  refine ⟨A8, cp - 1, cs.drop 1, by rw [List.length_drop], by rw [List.length_drop]; omega, hd, ?_⟩
  rw [List.length_drop]
  by_cases h1 : rows.length = 1
  · exact .inl (by omega)
  · rw [if_neg (by omega)] at hA
    obtain ⟨b, off, q1, q2, q3, q4⟩ := h4.resolve_left (by omega)
    cases q1
    refine .inr ⟨lb, lof + 1, hA.symm, q2, q3, fun j u hu => ?_⟩
    rw [List.getElem?_drop] at hu
    rw [Nat.add_assoc]
    exact q4 _ u hu
set_option maxRecDepth 100000 in
set_option maxHeartbeats 6400000 in
theorem walk (w : World) (A : Option Addr) (len c : Nat) (l : List Ac) (hl : ActsAt w A len l) (hc : len ≤ c) (od : Int) (wo : (Lit.int .i64 od).wf = true) :
    Calls Try.prog 6 #[.slice A len c, .int .i64 od] w fun e w' => e = .returned (.bool true) ∧ Ext w w' := by
  go_enter Try.func6, Try.ntmps6
  go_wp2_with fail
  refine (much_any w A len c l hl).mono ?_
  rintro e w2 ⟨bb, rfl, hb, hx2⟩
  cases bb with
  | true =>
    go_wp2_with fail
    refine (known_any _).mono ?_
    rintro e wk ⟨rfl, hxk⟩
    go_wp2_with fail
    go_ret
    exact ⟨rfl, (hx2).trans hxk⟩
  | false =>
    obtain ⟨h60, h20⟩ := hb rfl
    have hl2 := hl.ext hx2
    have hll := hl.1
    clear hb
    by_cases hod : od < 0
    · go_wp2_with fail
      refine (known_any _).mono ?_
      rintro e wk ⟨rfl, hxk⟩
      go_wp2_with fail
      go_ret
      exact ⟨rfl, (hx2).trans hxk⟩
    obtain ⟨om, rfl⟩ : ∃ om : Nat, od = om := ⟨od.toNat, by omega⟩
    go_wp2_with fail
    refine (nst_new w2 4 (by decide)).mono ?_
    rintro x w3 ⟨n, rfl, hS⟩
    have hxq := (Ext.refl w3).alloc (.cells #[.slice none 0 0, .slice none 0 0, .slice none 0 0, .slice none 0 0, .slice none 0 0, .slice none 0 0, .slice none 0 0, .slice none 0 0, .slice none 0 0, .slice none 0 0, .slice none 0 0, .slice none 0 0, .slice none 0 0, .slice none 0 0, .slice none 0 0, .slice none 0 0, .slice none 0 0, .slice none 0 0, .slice none 0 0, .slice none 0 0, .slice none 0 0, .slice none 0 0, .slice none 0 0, .slice none 0 0, .slice none 0 0, .slice none 0 0, .slice none 0 0, .slice none 0 0, .slice none 0 0, .slice none 0 0, .slice none 0 0, .slice none 0 0, .slice none 0 0, .slice none 0 0, .slice none 0 0, .slice none 0 0, .int .i64 4, .int .i64 0] 35)
    have bq := Blk.new w3 35 #[.slice none 0 0, .slice none 0 0, .slice none 0 0, .slice none 0 0, .slice none 0 0, .slice none 0 0, .slice none 0 0, .slice none 0 0, .slice none 0 0, .slice none 0 0, .slice none 0 0, .slice none 0 0, .slice none 0 0, .slice none 0 0, .slice none 0 0, .slice none 0 0, .slice none 0 0, .slice none 0 0, .slice none 0 0, .slice none 0 0, .slice none 0 0, .slice none 0 0, .slice none 0 0, .slice none 0 0, .slice none 0 0, .slice none 0 0, .slice none 0 0, .slice none 0 0, .slice none 0 0, .slice none 0 0, .slice none 0 0, .slice none 0 0, .slice none 0 0, .slice none 0 0, .slice none 0 0, .slice none 0 0, .int .i64 4, .int .i64 0]
    go_upto_region 5 with fail
    have hP : Pr w2 _ n w3.heap.size ⟨4, 0, fun _ _ => []⟩ ⟨4, 0, fun _ _ => []⟩ [] := pr_new hS hxq (by decide) bq
    generalize w3.alloc (.cells #[.slice none 0 0, .slice none 0 0, .slice none 0 0, .slice none 0 0, .slice none 0 0, .slice none 0 0, .slice none 0 0, .slice none 0 0, .slice none 0 0, .slice none 0 0, .slice none 0 0, .slice none 0 0, .slice none 0 0, .slice none 0 0, .slice none 0 0, .slice none 0 0, .slice none 0 0, .slice none 0 0, .slice none 0 0, .slice none 0 0, .slice none 0 0, .slice none 0 0, .slice none 0 0, .slice none 0 0, .slice none 0 0, .slice none 0 0, .slice none 0 0, .slice none 0 0, .slice none 0 0, .slice none 0 0, .slice none 0 0, .slice none 0 0, .slice none 0 0, .slice none 0 0, .slice none 0 0, .slice none 0 0, .int .i64 4, .int .i64 0] 35) = w4 at *
    generalize w3.heap.size = q at *
    clear hxq bq hS
    generalize (Value.agg #[.slice none 0 0, .slice none 0 0, .slice none 0 0, .slice none 0 0, .slice none 0 0, .slice none 0 0, .slice none 0 0, .slice none 0 0, .slice none 0 0, .slice none 0 0, .slice none 0 0, .slice none 0 0, .slice none 0 0, .slice none 0 0, .slice none 0 0, .slice none 0 0, .slice none 0 0, .slice none 0 0, .slice none 0 0, .slice none 0 0, .slice none 0 0, .slice none 0 0, .slice none 0 0, .slice none 0 0, .slice none 0 0, .slice none 0 0, .slice none 0 0, .slice none 0 0, .slice none 0 0, .slice none 0 0, .slice none 0 0, .slice none 0 0, .slice none 0 0, .slice none 0 0, .slice none 0 0, .slice none 0 0, .int .i64 4, .int .i64 0]) = vq at *
    go_wp2_with fail
    refine (num_any _ _).mono ?_
    rintro x w5 ⟨rfl, rfl⟩
    go_wp2_with fail
    go_loopw [8] (fun iv wr => ∃ (k : Nat) (g : NC), k ≤ len ∧ iv = .int .i64 (k : Int) ∧ g.ends = ((4 : Nat) : Int) ∧ Pr w2 wr n q g g []) (fun iv _ => len - (nOf iv).toNat)
    case atStart => exact ⟨0, _, Nat.zero_le _, rfl, rfl, hP⟩
    case round =>
      clear hP
      obtain ⟨k, g, hk, rfl, he, hP⟩ := hrel
      by_cases hlt : k < len
      · have hki : (k : Int) < (len : Int) := by omega
        obtain ⟨b, off, rfl, hb, hcell⟩ := hl2.pos (by omega)
        obtain ⟨hok, hc⟩ := hcell k (by omega)
        obtain ⟨s, hs⟩ : ∃ s, l[k]'(by omega) = s := ⟨_, rfl⟩
        rw [hs] at hok hc
        have hss := h20 k s (by rw [← hs]; exact List.getElem?_eq_getElem (by omega))
        have hxr := hP.x
        have m0 := hxr.cellSome (hc 0 (by simp [Ac.vals]))
        have m1 := hxr.cellSome (hc 1 (by simp [Ac.vals]))
        have m2 := hxr.cellSome (hc 2 (by simp [Ac.vals]))
        have m3 := hxr.cellSome (hc 3 (by simp [Ac.vals]))
        simp only [Ac.vals, List.getElem_cons_zero, List.getElem_cons_succ, Nat.add_zero] at m0 m1 m2 m3
        clear hs
        by_cases h1 : s.kind = 1
        · have H1 := Lib.hid h1
          rw [h1] at m0
          clear h1
          go_wp2_with fail
          have hac : (Value.agg #[.int .i64 1, .int .i64 s.a, .int .i64 s.b, .slice s.A s.l.length s.c]) = acV s := by rw [acV, H1.out]
          rw [hac]
          refine (lsend_any hP s hok (by omega) 1 (by omega)).mono ?_
          rintro x w6 ⟨g2, rfl, hP2, he2⟩
          go_wp2_with fail
          exact ⟨⟨k + 1, g2, by omega, by simp, he2.trans he, hP2⟩, by simp [nOf]; omega⟩
        · have q1 : (s.kind == 1) = false := by simpa using h1
          clear h1
          go_wp2_with fail
          exact ⟨⟨k + 1, g, by omega, by simp, he, hP⟩, by simp [nOf]; omega⟩
      · obtain rfl : k = len := by omega
        go_wp2_with fail
        go_loopw [12] (fun rv wr => ∃ m, Has w2 n q wr m) (fun _ wr => Classical.epsilon (Least w2 n q wr))
        case atStart => exact ⟨_, g, he, rfl, hP⟩
        case round =>
          clear hP he
          obtain ⟨m, hm⟩ := hrel
          obtain ⟨⟨g, he, hlen, hP⟩, hmin⟩ := least_is hm
          clear hm hmin
          have hmu := Lib.hid hlen
          clear hlen
          obtain ⟨ts, hts⟩ : ∃ ts, flL g 4 (4 * 4) = ts := ⟨_, rfl⟩
          have htl := (hP.le 4 he).1
          have h32 := (hP.le 4 he).2.2.2
          have hno := hP.no
          rw [hts] at htl
          have HTS := Lib.hid hts
          clear hts
          go_wp2_with fail
          refine (pr_len hP 4 he).mono ?_
          rintro x w5 ⟨rfl, hx5⟩
          rw [HTS.out]
          have hP5 := hP.ext hx5
          clear hP
          by_cases hz : ts.length = 0
          · have hz' : ¬ (0 : Int) < (ts.length : Int) := by omega
            go_wp2_with fail
            refine (pr_rflights hP5 4 he).mono ?_
            rintro x w6 ⟨A6, c6, ps6, rfl, hF6, hx6⟩
            rw [HTS.out, hz]
            have hxe := (hx2.trans hP5.x).trans hx6
            go_wp2_with fail
            refine (known_any _).mono ?_
            rintro e wk ⟨rfl, hxk⟩
            go_wp2_with fail
            go_ret
            exact ⟨rfl, (hxe).trans hxk⟩
          · have hz1 : (0 : Int) < (ts.length : Int) := by omega
            have hz2 : ((ts.length : Int) == 0) = false := by rw [beq_eq_false_iff_ne]; omega
            go_wp2_with fail
            refine (pr_all hP5 4 he).mono ?_
            rintro x w6 ⟨A6, c6, ps6, rfl, hF6, hx6⟩
            rw [HTS.out] at hF6 ⊢
            have hP6 := hP5.ext hx6
            obtain ⟨r, hr⟩ : ∃ r, om % ts.length = r := ⟨_, rfl⟩
            have hrl : r < ts.length := by rw [← hr]; exact Nat.mod_lt _ (by omega)
            have hrem : Int.tmod (om : Int) (ts.length : Int) = (r : Int) := by rw [← hr]; exact (Int.ofNat_tmod om ts.length).symm
            have hrlI : (r : Int) < (ts.length : Int) := by omega
            obtain ⟨t, ht⟩ : ∃ t, ts[r]? = some t := ⟨_, List.getElem?_eq_getElem hrl⟩
            obtain ⟨bb, off, p, rfl, hpr, ⟨r1, l1⟩, a0, a1, a2⟩ := hF6.pick ht
            have HT := Lib.hid ht
            have hne0 : (ts.length : Int) ≠ 0 := by omega
            clear ht hr hx5 hx6 hpr
            have hxt := (Ext.refl w6).alloc (.cells #[.int .i64 t.1, .int .i64 t.2.1, .slice p.1 t.2.2.length p.2] 51)
            have bt := Blk.new w6 51 #[.int .i64 t.1, .int .i64 t.2.1, .slice p.1 t.2.2.length p.2]
            have hP7 := hP6.made hxt bt (Nat.le_refl _)
            have hF7 := hF6.ext hxt
            go_upto_region 17 with fail
            generalize w6.alloc (.cells #[.int .i64 t.1, .int .i64 t.2.1, .slice p.1 t.2.2.length p.2] 51) = w7 at *
            generalize w6.heap.size = zf at *
            clear hxt hP6 hF6 a0 a1 a2 hP5
            go_wp2_with fail
            go_loopw [12] (fun iv wr => ∃ k : Nat, k ≤ r ∧ iv = .int .i64 (k : Int) ∧ Hid (∀ (j : Nat) (s : Int × Int × Row), j < k → ts[j]? = some s → ofL t s = false) ∧ Ext w7 wr) (fun iv _ => r + 1 - (nOf iv).toNat)
            case atStart => exact ⟨0, Nat.zero_le _, rfl, Lib.hid (fun j s h => by omega), Ext.refl _⟩
            case round =>
              obtain ⟨k, hkr, rfl, hall, hx⟩ := hrel
              obtain ⟨s, hs⟩ : ∃ s, ts[k]? = some s := ⟨_, List.getElem?_eq_getElem (by omega)⟩
              obtain ⟨bb2, off2, p2, eb, hp2, ⟨r2, l2⟩, d0, d1, d2⟩ := hF7.pick hs
              cases eb
              have hkl : (k : Int) < (ts.length : Int) := by omega
              have HS := Lib.hid hs
              clear hs hp2 d2
              have hstep : ofL t s = false → k + 1 ≤ r ∧ ∀ (j : Nat) (s' : Int × Int × Row), j < k + 1 → ts[j]? = some s' → ofL t s' = false := by
                intro hof
                refine ⟨?_, fun j s' hj hs' => ?_⟩
                · rcases Nat.lt_or_ge k r with h | h
                  · exact h
                  · obtain rfl : k = r := by omega
                    have h1 := HS.out
                    rw [HT.out] at h1
                    cases h1
                    simp [ofL] at hof
                · rcases Nat.lt_or_ge j k with h | h
                  · exact hall.out j s' h hs'
                  · obtain rfl : j = k := by omega
                    rw [HS.out] at hs'
                    cases hs'
                    exact hof
              have HST := Lib.hid hstep
              clear hstep
              go_wp2_with fail
              have hxd := (Ext.refl wr).drew
              refine wp_region_plan Ext [(0, true), (1, true), (2, true), (3, true), (4, true), (5, true), (6, true), (7, true), (8, true), (9, true), (10, true), (11, true), (12, true), (13, true), (14, true), (15, true), (16, true), (17, true)] (fun _ _ _ x y => Ext.trans x y) Ext.refl (by kernel_rfl) (by kernel_rfl) ?_
              intro K hK
              have hxx := hx.trans hxd
              have bz := (hP7.blk List.mem_cons_self).ext hxx
              have t0 : ∀ y : Above Ext wr.drew, y.1.cell? ⟨zf, 0, none⟩ = some (.int .i64 t.1) := fun y => (bz.ext y.2).cell 0
              have t1 : ∀ y : Above Ext wr.drew, y.1.cell? ⟨zf, 1, none⟩ = some (.int .i64 t.2.1) := fun y => (bz.ext y.2).cell 1
              have c0 : ∀ y : Above Ext wr.drew, y.1.cell? ⟨bb, off + k * 3, none⟩ = some (.int .i64 s.1) := fun y => (hxx.trans y.2).cellSome d0
              have c1 : ∀ y : Above Ext wr.drew, y.1.cell? ⟨bb, off + k * 3 + 1, none⟩ = some (.int .i64 s.2.1) := fun y => (hxx.trans y.2).cellSome d1
              by_cases q0 : s.1 = t.1
              · have q0' : (s.1 != t.1) = false := by simpa using q0
                have Q0 := Lib.hid q0
                clear q0
                iterate 18 (
                  refine plan_q (v := ?_) rfl rfl ?_ ?_
                  rotate_left
                  · intro x
                    go_simp
                    first | done | rfl
                  simp only [Act.put, List.getElem_toArray, List.getElem_cons_zero, List.getElem_cons_succ, List.setIfInBounds_toArray, List.set_cons_zero, List.set_cons_succ])
                refine plan_end (hK.out _ _ ?_)
                clear hK K
                obtain ⟨zb, hzb⟩ : ∃ zb, (s.2.1 != t.2.1) = zb := ⟨_, rfl⟩
                have HB := Lib.hid hzb
                rw [hzb]
                clear hzb t0 t1 c0 c1 d0 d1
                cases zb with
                | true =>
                  go_wp2_with fail
                  obtain ⟨s1, s2⟩ := HST.out (by
                    have h1 := HB.out
                    simp at h1
                    simp [ofL, h1])
                  exact ⟨⟨k + 1, s1, by simp, Lib.hid s2, hxx⟩, by simp [nOf]; omega⟩
                | false =>
                  have h2 : s.2.1 = t.2.1 := by simpa using HB.out
                  obtain ⟨ta, tb, tr⟩ := t
                  obtain ⟨sa, sb, sr⟩ := s
                  have h0 := Q0.out
                  simp only at h0 h2
                  obtain rfl : sa = ta := h0
                  obtain rfl : sb = tb := h2
                  have hat : atL (flL g 4 (4 * 4)) (k : Int) = (0, (sa, sb, sr)) := by
                    rw [HTS.out, atL, if_neg (by omega), Int.toNat_natCast, HS.out]
                  have hok := atL_ok hno hat
                  have htk := take_at he hno hat
                  have hcn : cntB (flL g 4 (4 * 4)) (k : Int).toNat (sa, sb, sr) = 0 := by
                    rw [HTS.out, Int.toNat_natCast]
                    exact first_cnt (fun j s' hj hs' => hall.out j s' hj hs')
                  rw [hcn] at htk
                  have htg : takeG g 4 (k : Int) = g.put sa sb ((g.L sa sb).drop 1) := by rw [takeG, hat, if_pos rfl, hcn, NC.del, List.take_zero, List.nil_append]
                  have hdl := flL_del g (ok_ord' he hok) htk
                  have hdel : (flL (takeG g 4 (k : Int)) 4 (4 * 4)).length + 1 = ts.length := by
                    have := hdl.length_eq
                    rw [HTS.out, List.length_cons, NC.del, List.take_zero, List.nil_append, ← htg] at this
                    omega
                  simp only at hok htk
                  obtain ⟨k1, k2, k3, k4, k5⟩ := id hok
                  rw [he] at k3 k4
                  obtain ⟨x1, rfl⟩ : ∃ x : Nat, sa = x := ⟨sa.toNat, by omega⟩
                  obtain ⟨y1, rfl⟩ : ∃ y : Nat, sb = y := ⟨sb.toNat, by omega⟩
                  obtain ⟨ls, hls⟩ : ∃ ls, g.L x1 y1 = ls := ⟨_, rfl⟩
                  have hl32 := h32 x1 y1
                  rw [hls] at htk htg hl32
                  obtain ⟨g3, hg3⟩ : ∃ g3, takeG g 4 (k : Int) = g3 := ⟨_, rfl⟩
                  rw [hg3] at htg hdel
                  have HG3 := Lib.hid hg3
                  have HPUT := Lib.hid (And.intro htg (And.intro hok hls))
                  have hlpos := (List.getElem?_eq_some_iff.1 htk).1
                  have HTK := Lib.hid htk
                  clear hat htg hg3 hls hok htk hcn hdl hno h32
                  have hat2 : atL (flL g 4 (4 * 4)) (k : Int) = (0, ((x1 : Int), (y1 : Int), sr)) := by
                    rw [HTS.out, atL, if_neg (by omega), Int.toNat_natCast, HS.out]
                  have HAT := Lib.hid hat2
                  clear hat2
                  go_wp2_with fail
                  refine (pr_take (hP7.ext hxx) 4 he (k : Int) (wf_small (by omega)) 0 _ HAT.out).mono ?_
                  rintro x w8 ⟨A9, c9, rfl, r9, l9, hP8⟩
                  rw [HG3.out] at hP8
                  simp only at r9 l9
                  have hxg := (Ext.refl w8).alloc (.cells #[.int .i64 (x1 : Int), .int .i64 (y1 : Int), .slice A9 sr.length c9] 51)
                  have bg := Blk.new w8 51 #[.int .i64 (x1 : Int), .int .i64 (y1 : Int), .slice A9 sr.length c9]
                  have hP9 := hP8.made hxg bg (Nat.le_refl _)
                  have r10 := r9.ext hxg
                  go_upto_region 21 with fail
                  generalize w8.alloc (.cells #[.int .i64 (x1 : Int), .int .i64 (y1 : Int), .slice A9 sr.length c9] 51) = w9 at *
                  generalize w8.heap.size = zg at *
                  clear hxg bg r9 hP8 bz
                  go_wp2_with fail
                  have hxd1 := (Ext.refl w9).drew
                  have hPA := hP9.ext hxd1
                  have r11 := r10.ext hxd1
                  obtain ⟨hput, hok, hls⟩ := HPUT.out
                  obtain ⟨O, fm, F, n1, n2, n3, n4, n5, n6⟩ := id hPA
                  obtain ⟨v, hv, L⟩ := n4.line (a := x1) (b := y1) (by omega) (by omega)
                  rw [hls] at L
                  obtain ⟨A0, cp, cs, rfl, l2, l3, l4⟩ := id L
                  obtain ⟨lb, lof, rfl, l5, ⟨lcu, lz, l6⟩, l7⟩ := l4.resolve_left (by omega)
                  obtain ⟨_, B, d, q2, q3, q4, q5, q6⟩ := l3.2 0 hlpos
                  have hr0 : ls[0] = sr := by
                    have := HTK.out
                    rw [List.getElem?_eq_getElem hlpos] at this
                    exact Option.some.inj this
                  rw [hr0] at q2 q3 q4 q6
                  have hl0 := l7 0 _ q2
                  rw [Nat.add_zero] at hl0
                  have bzf := hPA.blk (List.mem_cons_of_mem _ List.mem_cons_self)
                  have bzg := hPA.blk List.mem_cons_self
                  have ei1 : (x1 : Int) < 6 := by omega
                  have ei2 : (y1 : Int) < 6 := by omega
                  clear hput hok hls hr0 q2 q5 q6
                  refine wp_region_plan Ext [(0, true), (1, true), (2, true), (3, true), (4, true), (5, true), (6, true), (7, true), (8, true), (9, true), (10, true)] (fun _ _ _ x y => Ext.trans x y) Ext.refl (by kernel_rfl) (by kernel_rfl) ?_
                  intro K hK
                  have t0 : ∀ y : Above Ext w9.drew, y.1.cell? ⟨zf, 0, none⟩ = some (.int .i64 x1) := fun y => (bzf.ext y.2).cell 0
                  have t1 : ∀ y : Above Ext w9.drew, y.1.cell? ⟨zf, 1, none⟩ = some (.int .i64 y1) := fun y => (bzf.ext y.2).cell 1
                  have t2 : ∀ y : Above Ext w9.drew, y.1.cell? ⟨q, x1 * 6 + y1, none⟩ = some (.slice (some ⟨lb, lof, none⟩) ls.length cp) := fun y => y.2.cellSome hv
                  iterate 11 (
                    refine plan_q (v := ?_) rfl rfl ?_ ?_
                    rotate_left
                    · intro x
                      go_simp
                      first | done | rfl
                    simp only [Act.put, List.getElem_toArray, List.getElem_cons_zero, List.getElem_cons_succ, List.setIfInBounds_toArray, List.set_cons_zero, List.set_cons_succ])
                  refine plan_end (hK.out _ _ ?_)
                  clear hK K
                  clear t0 t1 t2 hxd1 hP9 r10
                  generalize w9.drew = wd at *
                  go_wp2_with fail
                  have hxd2 := (Ext.refl wd).drew
                  have hll0 : ((ls.length : Int) == 0) = false := by rw [beq_eq_false_iff_ne]; omega
                  have hlp : (0 : Int) < (ls.length : Int) := by omega
                  refine wp_region_plan Ext [(0, true), (1, false), (2, true), (3, true), (4, true), (5, true), (6, true), (7, true), (8, true), (9, true), (10, true), (11, true), (12, true), (13, true), (14, true), (15, true), (16, true), (17, true), (18, false), (19, true), (20, true)] (fun _ _ _ x y => Ext.trans x y) Ext.refl (by kernel_rfl) (by kernel_rfl) ?_
                  intro K hK
                  iterate 1 (
                    refine plan_q (v := ?_) rfl rfl ?_ ?_
                    rotate_left
                    · intro x
                      go_simp
                      first | done | rfl
                    simp only [Act.put, List.getElem_toArray, List.getElem_cons_zero, List.getElem_cons_succ, List.setIfInBounds_toArray, List.set_cons_zero, List.set_cons_succ])
                  refine plan_l rfl (by kernel_rfl) ?_
                  intro K2 hK2
                  go_simp
                  refine (num_any _ _).mono ?_
                  rintro x w10 ⟨rfl, rfl⟩
                  go_simp
                  refine hK2.out _ _ (Ext.refl _) ?_
                  clear hK2 K2
                  try simp only [Act.put, List.getElem_toArray, List.getElem_cons_zero, List.getElem_cons_succ, List.setIfInBounds_toArray, List.set_cons_zero, List.set_cons_succ]
                  have t0 : ∀ y : Above Ext wd.drew, y.1.cell? ⟨zf, 0, none⟩ = some (.int .i64 x1) := fun y => (bzf.ext (hxd2.trans y.2)).cell 0
                  have t1 : ∀ y : Above Ext wd.drew, y.1.cell? ⟨zf, 1, none⟩ = some (.int .i64 y1) := fun y => (bzf.ext (hxd2.trans y.2)).cell 1
                  have u0 : ∀ y : Above Ext wd.drew, y.1.cell? ⟨zg, 0, none⟩ = some (.int .i64 x1) := fun y => (bzg.ext (hxd2.trans y.2)).cell 0
                  have u1 : ∀ y : Above Ext wd.drew, y.1.cell? ⟨zg, 1, none⟩ = some (.int .i64 y1) := fun y => (bzg.ext (hxd2.trans y.2)).cell 1
                  have u2 : ∀ y : Above Ext wd.drew, y.1.cell? ⟨zg, 2, none⟩ = some (.slice A9 sr.length c9) := fun y => (bzg.ext (hxd2.trans y.2)).cell 2
                  have v0 : ∀ y : Above Ext wd.drew, y.1.cell? ⟨lb, lof, none⟩ = some (.slice B sr.length d) := fun y => (hxd2.trans y.2).cellSome hl0
                  iterate 16 (
                    refine plan_q (v := ?_) rfl rfl ?_ ?_
                    rotate_left
                    · intro x
                      go_simp
                      first | done | rfl
                    simp only [Act.put, List.getElem_toArray, List.getElem_cons_zero, List.getElem_cons_succ, List.setIfInBounds_toArray, List.set_cons_zero, List.set_cons_succ])
                  clear t0 t1 u0 u1 u2 v0
                  refine plan_l rfl (by kernel_rfl) ?_
                  intro K2 hK2
                  go_simp
                  refine (same_any wd.drew x1 y1 x1 y1 A9 B c9 d sr sr (r11.ext hxd2) (q3.ext hxd2) (by omega) (by omega)).mono ?_
                  rintro x w11 ⟨rfl, hx11⟩
                  rw [decide_eq_true (by simp)]
                  go_simp
                  refine hK2.out _ _ hx11 ?_
                  clear hK2 K2
                  try simp only [Act.put, List.getElem_toArray, List.getElem_cons_zero, List.getElem_cons_succ, List.setIfInBounds_toArray, List.set_cons_zero, List.set_cons_succ]
                  iterate 2 (
                    refine plan_q (v := ?_) rfl rfl ?_ ?_
                    rotate_left
                    · intro x
                      go_simp
                      first | done | rfl
                    simp only [Act.put, List.getElem_toArray, List.getElem_cons_zero, List.getElem_cons_succ, List.setIfInBounds_toArray, List.set_cons_zero, List.set_cons_succ])
                  refine plan_end (hK.out _ _ ?_)
                  clear hK K
                  have hxe2 := hxd2.trans hx11
                  have m1 := n1.ext hxe2
                  have m3 := n3.trans hxe2
                  have m4 := n4.ext hxe2
                  have m6 := held_ext n6 hxe2
                  have hvB := hxe2.cellSome hv
                  have LB := L.keep (w' := w11) (O' := O) hxe2.size (fun k hk e => ⟨hxe2.blk hk, e⟩)
                  clear hPA L hv r11 q3 bzf bzg l7 l6 l5 l4 hl0 n1 n3 n4 n6 hxd2 hx11 l3 q4
                  go_wp2_with fail
                  have hxd3 := (Ext.refl w11).drew
                  have p1 := m1.ext hxd3
                  have p3 := m3.trans hxd3
                  have p4 := m4.ext hxd3
                  have p6 := held_ext m6 hxd3
                  have hvD := hxd3.cellSome hvB
                  have LD := LB.keep (w' := w11.drew) (O' := O) hxd3.size (fun k hk e => ⟨hxd3.blk hk, e⟩)
                  obtain ⟨bzf, _, hzq⟩ := p6 _ (List.mem_cons_of_mem _ List.mem_cons_self)
                  obtain ⟨cq, hBq⟩ := p4.hasB
                  obtain ⟨A8, hA8⟩ : ∃ A8 : Option Addr, (if cp = 1 then some ⟨lb, lof, none⟩ else some ⟨lb, lof + 1, none⟩) = A8 := ⟨_, rfl⟩
                  have hl1 : (1 : Int) ≤ (ls.length : Int) := by omega
                  have hc1 : (1 : Int) ≤ (cp : Int) := by omega
                  clear m1 m3 m4 m6 hvB LB
                  refine wp_region_plan (Tu (fun k => k = q)) [(0, true), (1, true), (2, true), (3, true), (4, true), (5, true), (6, true), (7, true), (8, true), (9, true), (10, true), (11, false)] (fun _ _ _ x y => (fun x y => Tu.trans x y) x y) (Tu.refl (fun k => k = q)) (by kernel_rfl) (by kernel_rfl) ?_
                  intro K hK
                  have t0 : ∀ y : Above (Tu (fun k => k = q)) w11.drew, y.1.cell? ⟨zf, 0, none⟩ = some (.int .i64 x1) := fun y => (bzf.tu y.2 hzq).cell 0
                  have t1 : ∀ y : Above (Tu (fun k => k = q)) w11.drew, y.1.cell? ⟨zf, 1, none⟩ = some (.int .i64 y1) := fun y => (bzf.tu y.2 hzq).cell 1
                  iterate 6 (
                    refine plan_q (v := ?_) rfl rfl ?_ ?_
                    rotate_left
                    · intro x
                      go_simp
                      first | done | rfl
                    simp only [Act.put, List.getElem_toArray, List.getElem_cons_zero, List.getElem_cons_succ, List.setIfInBounds_toArray, List.set_cons_zero, List.set_cons_succ])
                  refine plan_q (v := .slice A8 (ls.length - 1) (cp - 1)) rfl (by kernel_rfl) (fun y => ?_) ?_
                  · go_simp
                    try rw [← hA8]
                  simp only [Act.put, List.getElem_toArray, List.getElem_cons_zero, List.getElem_cons_succ, List.setIfInBounds_toArray, List.set_cons_zero, List.set_cons_succ]
                  iterate 4 (
                    refine plan_q (v := ?_) rfl rfl ?_ ?_
                    rotate_left
                    · intro x
                      go_simp
                      first | done | rfl
                    simp only [Act.put, List.getElem_toArray, List.getElem_cons_zero, List.getElem_cons_succ, List.setIfInBounds_toArray, List.set_cons_zero, List.set_cons_succ])
                  clear t0 t1
                  have f37 := hBq.free (x1 * 6 + y1)
                  have T6 : Tu (fun k => k = q) w11.drew (w11.drew.setCell ⟨q, x1 * 6 + y1, none⟩ (.slice A8 (ls.length - 1) (cp - 1))) := Tu.of_grown (setCell_grownBy _ _ _) (by rintro k e; cases e; rfl)
                  refine plan_l rfl (by kernel_rfl) ?_
                  intro K2 hK2
                  go_simp
                  refine hK2.out _ _ T6 ?_
                  clear hK2 K2
                  try simp only [Act.put, List.getElem_toArray, List.getElem_cons_zero, List.getElem_cons_succ, List.setIfInBounds_toArray, List.set_cons_zero, List.set_cons_succ]
                  refine plan_end (hK.out _ _ ?_)
                  clear hK K
                  obtain ⟨hput, hok, hls⟩ := HPUT.out
                  have hoff : ∀ k, k = q → ∀ cu z', w11.drew.heap[k]? ≠ some (.cells cu 5 z') ∧ w11.drew.heap[k]? ≠ some (.cells cu 38 z') := fun k hk cu z' => ⟨hBq.not_ty (by decide) k hk cu z', hBq.not_ty (by decide) k hk cu z'⟩
                  have hRS := p4.set (show x1 < 6 by omega) (show y1 < 6 by omega) T6 (fun c hc => hc.set_ _ _) (LineR.off (LineR.tail LD hlpos hA8) T6 hoff) (by rw [List.length_drop]; omega) (fun hn => absurd hok hn)
                  rw [← hput] at hRS
                  have hPE := Pr.ref p1 n2 p3 p4 n5 p6 hRS T6
                  have he3 : g3.ends = ((4 : Nat) : Int) := by rw [hput]; exact he
                  have hHas : Has w2 n q _ ((flL g3 4 (4 * 4)).length) := ⟨g3, he3, rfl, hPE.hold (fun x hx => by cases hx)⟩
                  have hLe := (least_is hHas).2 _ hHas
                  go_wp2_with fail
                  refine ⟨⟨_, hHas⟩, ?_⟩
                  have h1 := hmu.out
                  rw [HTS.out] at h1
                  exact Nat.lt_of_le_of_lt hLe (by omega)
              · have q0' : (s.1 != t.1) = true := by simpa using q0
                have Q0 := Lib.hid q0
                clear q0
                iterate 9 (
                  refine plan_q (v := ?_) rfl rfl ?_ ?_
                  rotate_left
                  · intro x
                    go_simp
                    first | done | rfl
                  simp only [Act.put, List.getElem_toArray, List.getElem_cons_zero, List.getElem_cons_succ, List.setIfInBounds_toArray, List.set_cons_zero, List.set_cons_succ])
                iterate 8 (
                  refine plan_n rfl (by kernel_rfl) ?_
                  simp only [Act.put, List.getElem_toArray, List.getElem_cons_zero, List.getElem_cons_succ, List.setIfInBounds_toArray, List.set_cons_zero, List.set_cons_succ])
                iterate 1 (
                  refine plan_q (v := ?_) rfl rfl ?_ ?_
                  rotate_left
                  · intro x
                    go_simp
                    first | done | rfl
                  simp only [Act.put, List.getElem_toArray, List.getElem_cons_zero, List.getElem_cons_succ, List.setIfInBounds_toArray, List.set_cons_zero, List.set_cons_succ])
                refine plan_end (hK.out _ _ ?_)
                clear hK K
                clear t0 t1 c0 c1 d0 d1
                go_wp2_with fail
                obtain ⟨s1, s2⟩ := HST.out (by
                  have h1 := Q0.out
                  simp [ofL, h1])
                exact ⟨⟨k + 1, s1, by simp, Lib.hid s2, hxx⟩, by simp [nOf]; omega⟩

set_option maxRecDepth 100000 in
theorem lifted (os : Os) (started : os.Started) (H : Type) (enc : TypeId × Value → H) :
    ReturnsInHanded {} Try.checked os 6 .any (Rows.netComesSpec.pre6 enc Try.prog Try.f6 Rows.netComesRow.domain false) (Rows.netComesSpec.post enc Try.prog Try.f6 false true false false) := by
  refine returnsInHanded_of_change (C := Try.checked) own started (by kernel_rfl) Try.func6
    (ChangeSpec.witness6 (enc := enc) (C := Try.checked) false ⟨#[], #[.slice none 0 0, .int .i64 0], []⟩ 8 (by kernel_rfl) (by kernel_rfl) (by kernel_rfl) (by kernel_rfl)) ?_
  intro W base args ds gs before hval0 hW hcnd _
  have hval : ∀ (j : Nat) t v, Try.f6.params[j]? = some t → args[j]? = some v → Value.okWide Try.prog W .any base t v := hval0
  have hW' := hW
  obtain ⟨p, q, hA0, hV, rfl, hfz, hnd⟩ := hW
  have hA : DataW.TrodAll enc Try.prog W 0 (fun _ => true) true Try.f6.params.toList args.toList ds p := hA0
  rw [Try.params6] at hA hval
  obtain ⟨v0, vs0, d0, ds0, p0, q0, hargs, rfl, rfl, h0, r0⟩ := trodAll_cons hA
  obtain ⟨v1, vs1, d1, ds1, p1, q1, rfl, rfl, rfl, h1, r1⟩ := trodAll_cons r0
  obtain ⟨rfl, rfl, rfl⟩ := trodAll_nil r1
  obtain rfl : args = #[v0, v1] := by cases args; simp_all
  obtain ⟨rfl, rfl⟩ := trodVars_none hV
  obtain ⟨a0, n0, c0, rfl⟩ := okWide_slice Try.underlying22 (hval 0 22 v0 rfl rfl)
  have k0 := h0
  have lt0 : ∀ x ∈ p0, x.block < W.heap.size := by obtain ⟨m, hm⟩ := k0; exact DataW.trod_lt m _ _ _ hm
  obtain ⟨l0, w0, y0⟩ := open_acts h0
  obtain ⟨a1, rfl, rfl, rfl, w1⟩ := open_int Try.underlying3 (hval 1 3 v1 rfl rfl) h1
  clear hA0 hval0
  refine (walk W a0 n0 c0 l0 w0 y0 a1 w1).mono fun e W' ⟨he, bel⟩ => ?_
  subst he
  exact ⟨_, rfl, _, _, _, [], _, [], hW', trodAll_mk1 (shut_bool Try.underlying4 _), (trodAll_cons_mk (Below.trod laidOut (by kernel_rfl) (of_decide_eq_true (by kernel_rfl)) k0 bel lt0) (trodAll_cons_mk (shut_int Try.underlying3 w1) trodAll_mk0)), rfl, Below.frame bel _, fun h => by cases h⟩

theorem over_ : Rows.netComesRow.holds Try.pinned (OpenSpec.ofChange Rows.netComesSpec) :=
  OpenClaim.holds_of_wide 6 Try.f6 rfl rfl rfl rfl rfl rfl rfl ⟨rfl, rfl, rfl, rfl, rfl⟩ rfl rfl rfl rfl rfl (by kernel_rfl) Try.func6 (by kernel_rfl)
    (of_decide_eq_true (by kernel_rfl)) (by unfold Func.isWrapper; first | (rw [if_pos (by decide +kernel)]; kernel_rfl) | (rw [if_neg (by decide +kernel)]; exact ⟨rfl, rfl⟩))
    (fun os started H enc _ => lifted os started H enc)

theorem proved : Rows.NetComesSaid := over_
end Go.Proofs.Ytekbdpfiommmbaa.lawComes
