/- NetRoom answers true, whatever acts and numbers it is given. No conditions. -/
import Derived.Test.YtekbdpfiommmbaaRC
import Derived.Test.YtekbdpfiommmbaaNmuch
import Derived.Test.YtekbdpfiommmbaaNknown
import Derived.Test.YtekbdpfiommmbaaFrame
namespace Go.Proofs.Ytekbdpfiommmbaa.lawRoom
open Go.ChangeShapes Go.WideShapes Go.ChangeAt Go.RowKit Go.Maps Go.Shelf
open Go.ChangeMaps (open_string shut_string)
set_option linter.unusedVariables false
set_option linter.unusedSimpArgs false
attribute [local go_sem] Oper.semAt_some

theorem sendOut_bad {g : NC} {a b : Int} {row : Row} (h : ¬ g.ok a b) : sendOut g a b row = (2, g) := by rw [sendOut, if_pos (.inl h)]
theorem sendOut_full {g : NC} {a b : Int} {row : Row} (h : g.ok a b) (h1 : row.length ≤ 1048576) (h2 : 32 ≤ (g.L a b).length) : sendOut g a b row = (5, { g with lost := wrap64 (g.lost + 1) }) := by
  rw [sendOut, if_neg (by rintro (h' | h'); exact h' h; omega), if_pos h2]
theorem sendOut_good {g : NC} {a b : Int} {row : Row} (h : g.ok a b) (h1 : row.length ≤ 1048576) (h2 : (g.L a b).length < 32) : sendOut g a b row = (0, g.put a b (g.L a b ++ [row])) := by
  rw [sendOut, if_neg (by rintro (h' | h'); exact h' h; omega), if_neg (by omega)]
theorem put_len (g : NC) (a b : Int) (l : List Row) : ((g.put a b l).L a b) = l := by simp [NC.put]
theorem pr_wrote {w0 w w' : World} {n q : Nat} {g g' : NC} {b : Nat} {ty : TypeId} {cs : Array Value} (h : Pr w0 w n q g g' [.blk b ty cs]) (t1 : ty ≠ 5) (t2 : ty ≠ 38) (hlo : w0.heap.size ≤ b) (T : Tu (fun k => k = b) w w') : Pr w0 w' n q g g' [] := by
  obtain ⟨O, fm, F, h1, h2, h3, h4, h5, h6⟩ := h
  obtain ⟨hb, hO, hq⟩ := h6 _ List.mem_cons_self
  exact ⟨O, fm, F, h1.off T (fun k e => by rw [e]; exact hO) (hb.not_ty t1), h2, T.ext_of h3 (fun k e => by omega), h4.off T (fun k e cu z => ⟨hb.not_ty t1 k e cu z, hb.not_ty t2 k e cu z⟩) (fun e => hq e.symm), h5, fun x hx => by cases hx⟩
set_option maxRecDepth 100000 in
set_option maxHeartbeats 6400000 in
theorem walk (w : World) (A : Option Addr) (len c : Nat) (l : List Ac) (hl : ActsAt w A len l) (hc : len ≤ c) (a : Int) (wa : (Lit.int .i64 a).wf = true) (b : Int) (wb : (Lit.int .i64 b).wf = true) (en : Int) (we : (Lit.int .i64 en).wf = true) :
    Calls Try.prog 7 #[.slice A len c, .int .i64 a, .int .i64 b, .int .i64 en] w fun e w' => e = .returned (.bool true) ∧ Ext w w' := by
  go_enter Try.func7, Try.ntmps7
  go_wp2_with fail
  refine (much_any w A len c l hl).mono ?_
  rintro e w2 ⟨bb, rfl, hb, hx2⟩
  cases bb with
  | true =>
    go_wp2_with fail
    refine (known_any _).mono ?_
    rintro e wk ⟨rfl, hxk⟩
    go_wp2_with fail
    go_ret
    exact ⟨rfl, (hx2).trans hxk⟩
  | false =>
    obtain ⟨h60, h20⟩ := hb rfl
    have hl2 := hl.ext hx2
    have hll := hl.1
    clear hb
    go_wp2_with fail
    refine (lpair_any w2 A len c l hl2 (by omega) (fun k s h => by have := h20 k s h; omega)).mono ?_
    rintro e w3 ⟨n, q, g, rfl, hP, he⟩
    obtain ⟨hle, -, -, h32⟩ := hP.le 4 he
    have hll2 := h32 a b
    go_wp2_with fail
    refine (pr_line hP a b wa wb).mono ?_
    rintro e w4 ⟨rfl, rfl⟩
    go_wp2_with fail
    refine (pr_lost hP).mono ?_
    rintro e w4 ⟨rfl, rfl⟩
    by_cases hok : g.ok a b
    rotate_left
    · have hso := sendOut_bad (row := []) hok
      have key : ∀ z : Bool, z = (decide (a < 1) || (decide (b < 1) || (decide (4 < a) || (decide (4 < b) || (a == b))))) → z = true := by
        rintro z rfl
        unfold NC.ok at hok
        rw [he] at hok
        by_cases h1 : a < 1 <;> by_cases h2 : b < 1 <;> by_cases h3 : 4 < a <;> by_cases h4 : 4 < b <;> by_cases h5 : a = b <;> simp [h1, h2, h3, h4, h5]
        exact hok ⟨by omega, by omega, by omega, by omega, h5⟩
      obtain ⟨p1, q1⟩ : ∃ p, decide (a < 1) = p := ⟨_, rfl⟩
      obtain ⟨p2, q2⟩ : ∃ p, decide (b < 1) = p := ⟨_, rfl⟩
      obtain ⟨p3, q3⟩ : ∃ p, decide (4 < a) = p := ⟨_, rfl⟩
      obtain ⟨p4, q4⟩ : ∃ p, decide (4 < b) = p := ⟨_, rfl⟩
      obtain ⟨p5, q5⟩ : ∃ p, (a == b) = p := ⟨_, rfl⟩
      rw [q1, q2, q3, q4, q5] at key
      have hk := key _ rfl
      clear key
      have hcases : p1 = true ∨ (p1 = false ∧ p2 = true) ∨ (p1 = false ∧ p2 = false ∧ p3 = true) ∨ (p1 = false ∧ p2 = false ∧ p3 = false ∧ p4 = true) ∨ (p1 = false ∧ p2 = false ∧ p3 = false ∧ p4 = false ∧ p5 = true) := by
        cases p1 <;> cases p2 <;> cases p3 <;> cases p4 <;> cases p5 <;> simp at hk ⊢
      clear hk
      have HOK := Lib.hid hok
      clear hok
      rcases hcases with rfl | ⟨rfl, rfl⟩ | ⟨rfl, rfl, rfl⟩ | ⟨rfl, rfl, rfl, rfl⟩ | ⟨rfl, rfl, rfl, rfl, rfl⟩
      all_goals
        go_wp2_with fail
        refine (pr_send hP a b wa wb none 0 0 [] rfl (Rd.nil _ _ _) (by simp) 2 g hso).mono ?_
        rintro x w5 ⟨rfl, hP5⟩
        go_wp2_with fail
        refine (num_any _ _).mono ?_
        rintro x w6 ⟨rfl, rfl⟩
        go_wp2_with fail
        refine (pr_lost hP5).mono ?_
        rintro x w6 ⟨rfl, rfl⟩
        go_wp2_with fail
        refine (las_any hP5 4 he).mono ?_
        rintro x w6 ⟨rfl, hx6⟩
        have hxe := (hx2.trans hP5.x).trans hx6
        go_wp2_with fail
        refine (known_any _).mono ?_
        rintro e wk ⟨rfl, hxk⟩
        go_wp2_with fail
        go_ret
        exact ⟨rfl, (hxe).trans hxk⟩
    · obtain ⟨k1, k2, k3, k4, k5⟩ := id hok
      rw [he] at k3 k4
      have n1 : ¬ a < 1 := by omega
      have n2 : ¬ b < 1 := by omega
      have n3 : ¬ 4 < a := by omega
      have n4 : ¬ 4 < b := by omega
      have n5 : (a == b) = false := by simpa using k5
      have HOK := Lib.hid hok
      clear hok k1 k2 k3 k4 k5
      obtain ⟨m0, hm0⟩ : ∃ m0, (g.L a b).length = m0 := ⟨_, rfl⟩
      have hwr : IntKind.i64.wrap (32 - (m0 : Int)) = ((32 - m0 : Nat) : Int) := by rw [IntKind.wrap_i64]; omega
      rw [hm0] at hll2
      go_wp2_with fail
      go_loopw [13] (fun iv wr => ∃ (k : Nat) (g2 : NC), k ≤ 32 - m0 ∧ iv = .int .i64 (k : Int) ∧ g2.ends = ((4 : Nat) : Int) ∧ (g2.L a b).length = m0 + k ∧ g2.lost = g.lost ∧ Pr w2 wr n q g2 g2 []) (fun iv _ => 32 - m0 - (nOf iv).toNat)
      case atStart => exact ⟨0, g, Nat.zero_le _, rfl, he, hm0, rfl, hP⟩
      case round =>
        clear hP
        obtain ⟨k, g2, hk, rfl, he2, hml, hlo, hP⟩ := hrel
        have hok2 : g2.ok a b := by
          have := HOK.out
          unfold NC.ok at this ⊢
          rw [he2, ← he]
          exact this
        by_cases hlt : k < 32 - m0
        · have hki : (k : Int) < ((32 - m0 : Nat) : Int) := by omega
          have hso := sendOut_good (row := []) hok2 (by simp) (by omega)
          obtain ⟨g3, hg3⟩ : ∃ g3, g2.put a b (g2.L a b ++ [[]]) = g3 := ⟨_, rfl⟩
          rw [hg3] at hso
          have hL3 : (g3.L a b).length = m0 + (k + 1) := by rw [← hg3, put_len, List.length_append, hml]; simp; omega
          have hl3 : g3.lost = g.lost := by rw [← hg3]; exact hlo
          have he3 : g3.ends = ((4 : Nat) : Int) := by rw [← hg3]; exact he2
          clear hg3 hok2
          go_wp2_with fail
          refine (pr_send hP a b wa wb none 0 0 [] rfl (Rd.nil _ _ _) (by simp) 0 g3 hso).mono ?_
          rintro x w5 ⟨rfl, hP5⟩
          go_wp2_with fail
          refine (num_any _ _).mono ?_
          rintro x w6 ⟨rfl, rfl⟩
          go_wp2_with fail
          refine (pr_rsend hP5 a b none 0 0 [] rfl (Rd.nil _ _ _) (by simp) 0 g3 hso).mono ?_
          rintro x w6 ⟨rfl, hP6⟩
          go_wp2_with fail
          exact ⟨⟨k + 1, g3, by omega, by simp, he3, hL3, hl3, hP6⟩, by simp [nOf]; omega⟩
        · obtain rfl : k = 32 - m0 := by omega
          have hm32 : (g2.L a b).length = 32 := by omega
          have hso := sendOut_full (row := [1]) hok2 (by simp) (by omega)
          rw [hlo] at hso
          obtain ⟨g3, hg3⟩ : ∃ g3 : NC, { g2 with lost := wrap64 (g.lost + 1) } = g3 := ⟨_, rfl⟩
          rw [hg3] at hso
          have hL3 : (g3.L a b).length = 32 := by rw [← hg3]; exact hm32
          have hl3 : g3.lost = wrap64 (g.lost + 1) := by rw [← hg3]
          have he3 : g3.ends = ((4 : Nat) : Int) := by rw [← hg3]; exact he2
          have hok3 : g3.ok a b := by rw [← hg3]; exact hok2
          have HOK3 := Lib.hid hok3
          clear hg3 hok2 hok3
          have hx1 := (Ext.refl wr).alloc (.cells #[.int .u8 1] 5)
          have r1 := rd_one' wr 1 (x := 1) rfl
          go_upto_region 14 with fail
          go_wp2_with fail
          refine (pr_send (hP.ext hx1) a b wa wb _ 1 1 [1] rfl r1 (by simp [maxLen]) 5 g3 hso).mono ?_
          rintro x w5 ⟨rfl, hP5⟩
          go_wp2_with fail
          refine (num_any _ _).mono ?_
          rintro x w6 ⟨rfl, rfl⟩
          have hx2' := (Ext.refl w5).alloc (.cells #[.int .u8 1] 5)
          have r2 := rd_one' w5 1 (x := 1) rfl
          go_wp2_with fail
          refine (pr_rsend (hP5.ext hx2') a b _ 1 1 [1] rfl r2 (by simp [maxLen]) 5 g3 hso).mono ?_
          rintro x w6 ⟨rfl, hP6⟩
          clear hx1 r1 hx2' r2 hP5
          go_wp2_with fail
          refine (pr_lost hP6).mono ?_
          rintro x w7 ⟨rfl, rfl⟩
          rw [hl3]
          go_wp2_with fail
          refine (las_any hP6 4 he3).mono ?_
          rintro x w7 ⟨rfl, hx7⟩
          have hP7 := hP6.ext hx7
          clear hP hP6 hx7 hso
          go_wp2_with fail
          obtain ⟨i0, t0, hi0, ht0a, ht0b⟩ := line_has he3 HOK3.out (by rw [hL3]; omega)
          obtain ⟨fs, hfs⟩ : ∃ fs, flL g3 4 (4 * 4) = fs := ⟨_, rfl⟩
          have HFS := Lib.hid hfs
          have hfl := (hP7.le 4 he3).1
          rw [hfs] at hi0 hfl
          have hil := (List.getElem?_eq_some_iff.1 hi0).1
          have HI0 := Lib.hid (And.intro hi0 (And.intro ht0a ht0b))
          clear hfs hi0 ht0a ht0b
          obtain ⟨er, t, hat⟩ : ∃ er t, atL fs (0 : Int) = (er, t) := ⟨_, _, rfl⟩
          refine (pr_at hP7 4 he3 0 (by decide) er t (by rw [HFS.out]; exact hat)).mono ?_
          rintro x w8 ⟨A8, c8, rfl, r8, l8, hx8⟩
          have hxf := (Ext.refl w8).alloc (.cells #[.int .i64 t.1, .int .i64 t.2.1, .slice A8 t.2.2.length c8] 51)
          have bf := Blk.new w8 51 #[.int .i64 t.1, .int .i64 t.2.1, .slice A8 t.2.2.length c8]
          have hP9 := (hP7.ext hx8).ext hxf
          go_upto_block 3 with fail
          generalize w8.alloc (.cells #[.int .i64 t.1, .int .i64 t.2.1, .slice A8 t.2.2.length c8] 51) = w9 at *
          generalize w8.heap.size = zf at *
          clear hxf r8 hx8 hP7
          go_wp2_with fail
          go_loopw [14, 15, 16] (fun pv fv ev wr => ∃ (k zb : Nat) (t : Int × Int × Row) (A8 : Option Addr) (c8 : Nat), pv = .int .i64 (k : Int) ∧ fv = fptr zb ∧ ev = .int .i64 0 ∧ k ≤ i0 ∧ fs[k]? = some t ∧ Blk wr zb 51 #[.int .i64 t.1, .int .i64 t.2.1, .slice A8 t.2.2.length c8] ∧ Pr w2 wr n q g3 g3 []) (fun pv _ _ _ => i0 + 1 - (nOf pv).toNat)
          case atStart =>
            obtain ⟨er0, t0, hat0⟩ : ∃ er0 t0, fs[0]? = some t0 ∧ er0 = (0 : Int) := ⟨0, fs[0]'(by omega), List.getElem?_eq_getElem (by omega), rfl⟩
            have : atL fs 0 = (0, t0) := by rw [atL, if_neg (by omega), show (0 : Int).toNat = 0 from rfl, hat0.1]
            rw [this] at hat
            cases hat
            exact ⟨0, zf, _, A8, c8, rfl, rfl, rfl, Nat.zero_le _, hat0.1, bf, hP9⟩
          case round =>
            clear hP9 bf hat l8
            obtain ⟨k, zb, t, A8, c8, rfl, rfl, rfl, hki0, hfk, bf, hP9⟩ := hrel
            have s0 := bf.cell 0
            have s1 := bf.cell 1
            have s2 := bf.cell 2
            simp at s0 s1 s2
            by_cases hline : t.1 = a ∧ t.2.1 = b
            rotate_left
            · have hk1 : k + 1 ≤ i0 := by
                rcases Nat.lt_or_ge k i0 with h | h
                · exact h
                · obtain rfl : k = i0 := by omega
                  obtain ⟨h1, h2, h3⟩ := HI0.out
                  rw [hfk] at h1
                  cases h1
                  exact absurd ⟨h2, h3⟩ hline
              obtain ⟨t', hfk'⟩ : ∃ t', fs[k + 1]? = some t' := ⟨_, List.getElem?_eq_getElem (by omega)⟩
              have hat' : atL (flL g3 4 (4 * 4)) ((k : Int) + 1) = (0, t') := by
                rw [HFS.out, atL, if_neg (by omega), show ((k : Int) + 1).toNat = k + 1 by omega, hfk']
              have HL := Lib.hid (And.intro hat' (And.intro hfk hfk'))
              clear hfk hfk' hat'
              have hdec : (t.1 ≠ a) ∨ (t.1 = a ∧ t.2.1 ≠ b) := by
                by_cases h : t.1 = a
                · exact .inr ⟨h, fun h' => hline ⟨h, h'⟩⟩
                · exact .inl h
              clear hline
              rcases hdec with hd | ⟨hd, hd2⟩
              · have q1 : (t.1 == a) = false := by simpa using hd
                clear hd
                have hxb := (Ext.refl wr).alloc (.cells #[.int .i64 t.1, .int .i64 t.2.1, .slice A8 t.2.2.length c8] 51)
                have bb := Blk.new wr 51 #[.int .i64 t.1, .int .i64 t.2.1, .slice A8 t.2.2.length c8]
                have hPb := hP9.made hxb bb (Nat.le_refl _)
                have hzc : w2.heap.size ≤ wr.heap.size := hP9.x.size
                go_wp2_with fail
                refine (num_any _ _).mono ?_
                rintro x w10 ⟨rfl, rfl⟩
                go_upto_region 19 with fail
                generalize wr.alloc (.cells #[.int .i64 t.1, .int .i64 t.2.1, .slice A8 t.2.2.length c8] 51) = wb at *
                generalize wr.heap.size = zc at *
                go_wp2_with fail
                refine (pr_at hPb 4 he3 ((k : Int) + 1) (wf_small (by omega)) 0 t' HL.out.1).mono ?_
                rintro x w11 ⟨A9, c9, rfl, r9, l9, hx9⟩
                have hPc := hPb.ext hx9
                have b9 := bb.ext hx9
                have f0 := b9.free 0
                have f1 := b9.free 1
                have f2 := b9.free 2
                have u0 := b9.cell 0
                have u1 := b9.cell 1
                have u2 := b9.cell 2
                have T9 : Tu (fun b => b = zc) w11 (((w11.setCell ⟨zc, 0, none⟩ (.int .i64 t'.1)).setCell ⟨zc, 1, none⟩ (.int .i64 t'.2.1)).setCell ⟨zc, 2, none⟩ (.slice A9 t'.2.2.length c9)) :=
                  ((Tu.of_grown (setCell_grownBy _ _ _) (by rintro k e; cases e; rfl)).trans (Tu.of_grown (setCell_grownBy _ _ _) (by rintro k e; cases e; rfl))).trans (Tu.of_grown (setCell_grownBy _ _ _) (by rintro k e; cases e; rfl))
                have hPw := pr_wrote hPc (by decide) (by decide) hzc T9
                have hb9 := ((b9.set_ 0 (.int .i64 t'.1)).set_ 1 (.int .i64 t'.2.1)).set_ 2 (.slice A9 t'.2.2.length c9)
                go_wp2_with fail
                exact ⟨⟨k + 1, zc, t', A9, c9, by simp, rfl, rfl, hk1, HL.out.2.2, by simpa using hb9, hPw⟩, by simp [nOf]; omega⟩
              · obtain ⟨ta, tb, tr⟩ := t
                simp only at hd hd2 s0 s1 s2 bf HL
                obtain ⟨a1, ha1⟩ : ∃ a1, a = a1 := ⟨_, rfl⟩
                rw [hd] at bf s0 HL
                have q2 : (tb == b) = false := by simpa using hd2
                clear hd hd2 ha1
                have hxb := (Ext.refl wr).alloc (.cells #[.int .i64 a, .int .i64 tb, .slice A8 tr.length c8] 51)
                have bb := Blk.new wr 51 #[.int .i64 a, .int .i64 tb, .slice A8 tr.length c8]
                have hPb := hP9.made hxb bb (Nat.le_refl _)
                have hzc : w2.heap.size ≤ wr.heap.size := hP9.x.size
                go_wp2_with fail
                refine (num_any _ _).mono ?_
                rintro x w10 ⟨rfl, rfl⟩
                go_upto_region 19 with fail
                generalize wr.alloc (.cells #[.int .i64 a, .int .i64 tb, .slice A8 tr.length c8] 51) = wb at *
                generalize wr.heap.size = zc at *
                go_wp2_with fail
                refine (pr_at hPb 4 he3 ((k : Int) + 1) (wf_small (by omega)) 0 t' HL.out.1).mono ?_
                rintro x w11 ⟨A9, c9, rfl, r9, l9, hx9⟩
                have hPc := hPb.ext hx9
                have b9 := bb.ext hx9
                have f0 := b9.free 0
                have f1 := b9.free 1
                have f2 := b9.free 2
                have u0 := b9.cell 0
                have u1 := b9.cell 1
                have u2 := b9.cell 2
                have T9 : Tu (fun b => b = zc) w11 (((w11.setCell ⟨zc, 0, none⟩ (.int .i64 t'.1)).setCell ⟨zc, 1, none⟩ (.int .i64 t'.2.1)).setCell ⟨zc, 2, none⟩ (.slice A9 t'.2.2.length c9)) :=
                  ((Tu.of_grown (setCell_grownBy _ _ _) (by rintro k e; cases e; rfl)).trans (Tu.of_grown (setCell_grownBy _ _ _) (by rintro k e; cases e; rfl))).trans (Tu.of_grown (setCell_grownBy _ _ _) (by rintro k e; cases e; rfl))
                have hPw := pr_wrote hPc (by decide) (by decide) hzc T9
                have hb9 := ((b9.set_ 0 (.int .i64 t'.1)).set_ 1 (.int .i64 t'.2.1)).set_ 2 (.slice A9 t'.2.2.length c9)
                go_wp2_with fail
                exact ⟨⟨k + 1, zc, t', A9, c9, by simp, rfl, rfl, hk1, HL.out.2.2, by simpa using hb9, hPw⟩, by simp [nOf]; omega⟩
            · obtain ⟨hta, htb⟩ := hline
              have hat' : atL (flL g3 4 (4 * 4)) (k : Int) = (0, t) := by
                rw [HFS.out, atL, if_neg (by omega), Int.toNat_natCast, hfk]
              have hno3 := hP9.no
              have hdb : dblOut g3 4 (k : Int) = (5, g3) := by
                rw [dblOut, hat', if_neg (by simp), if_pos (show 32 ≤ (g3.L t.1 t.2.1).length by rw [hta, htb, hL3]; exact Nat.le_refl _)]
              have htk := take_at he3 hno3 hat'
              rw [hta, htb] at htk
              obtain ⟨cn, hcn⟩ : ∃ cn, cntB (flL g3 4 (4 * 4)) (k : Int).toNat t = cn := ⟨_, rfl⟩
              rw [hcn] at htk
              obtain ⟨g4, hg4⟩ : ∃ g4, takeG g3 4 (k : Int) = g4 := ⟨_, rfl⟩
              have hg4' : g4 = g3.del a b cn := by rw [← hg4, takeG, hat', if_pos rfl, hcn, hta, htb]
              have hcl := (List.getElem?_eq_some_iff.1 htk).1
              have hL4 : (g4.L a b).length = 31 := by
                rw [hg4', NC.del, put_len, List.length_append, List.length_take, List.length_drop]
                omega
              have he4 : g4.ends = ((4 : Nat) : Int) := by rw [hg4']; exact he3
              have hok4 : g4.ok a b := by rw [hg4']; exact HOK3.out
              have hso4 := sendOut_good (row := [1]) hok4 (by simp) (by omega)
              obtain ⟨g5, hg5⟩ : ∃ g5, g4.put a b (g4.L a b ++ [[1]]) = g5 := ⟨_, rfl⟩
              rw [hg5] at hso4
              have hL5 : (g5.L a b).length = 32 := by rw [← hg5, put_len, List.length_append, hL4]; rfl
              have he5 : g5.ends = ((4 : Nat) : Int) := by rw [← hg5]; exact he4
              have HAT := Lib.hid hat'
              have HDB := Lib.hid hdb
              have HG4 := Lib.hid hg4
              clear hg4' hg5 hok4 htk hcn hno3 hat' hfk hdb hg4 hcl
              rw [hta] at s0
              rw [htb] at s1
              clear hta htb bf
              go_wp2_with fail
              refine (num_any _ _).mono ?_
              rintro x w10 ⟨rfl, rfl⟩
              go_wp2_with fail
              refine (pr_double hP9 4 he3 (k : Int) (wf_small (by omega))).mono ?_
              rintro x w10 ⟨rfl, hPA⟩
              rw [HDB.out] at hPA ⊢
              clear s0 s1 s2 hP9
              go_wp2_with fail
              refine (num_any _ _).mono ?_
              rintro x w11 ⟨rfl, rfl⟩
              go_wp2_with fail
              refine (pr_drop hPA 4 he3 (k : Int) (wf_small (by omega))).mono ?_
              rintro x w11 ⟨rfl, hPB⟩
              rw [HG4.out] at hPB
              rw [HAT.out]
              go_wp2_with fail
              refine (num_any _ _).mono ?_
              rintro x w12 ⟨rfl, rfl⟩
              have hx3 := (Ext.refl w11).alloc (.cells #[.int .u8 1] 5)
              have r3 := rd_one' w11 1 (x := 1) rfl
              go_wp2_with fail
              refine (pr_send (hPB.ext hx3) a b wa wb _ 1 1 [1] rfl r3 (by simp [maxLen]) 0 g5 hso4).mono ?_
              rintro x w12 ⟨rfl, hPC⟩
              clear hx3 r3 hPA hPB hso4
              go_wp2_with fail
              refine (num_any _ _).mono ?_
              rintro x w13 ⟨rfl, rfl⟩
              go_wp2_with fail
              refine (pr_line hPC a b wa wb).mono ?_
              rintro x w13 ⟨rfl, rfl⟩
              rw [hL5]
              go_wp2_with fail
              refine (pr_keep hPC 4 he5).mono ?_
              rintro x w14 ⟨Aw, cw, pw, Lw, rfl, hRw, hPD⟩
              obtain ⟨ts, hts⟩ : ∃ ts, flL g5 4 (4 * 4) = ts := ⟨_, rfl⟩
              have htl := (hPD.le 4 he5).1
              rw [hts] at hRw htl ⊢
              have HTS := Lib.hid hts
              clear hts hPC
              go_wp2_with fail
              refine (pr_clear hPD 4 he5 en we).mono ?_
              rintro x w15 ⟨rfl, hPE⟩
              have hcl := clN_len g5 4 en
              have hclr := flL_clr g5 4 en
              rw [HTS.out] at hcl hclr
              obtain ⟨cl, hcl'⟩ : ∃ cl, clN g5 4 en = cl := ⟨_, rfl⟩
              rw [hcl'] at hcl ⊢
              have HCL := Lib.hid hcl
              have HCR := Lib.hid hclr
              clear hcl hclr hcl' hPD
              have heE : (g5.clr en).ends = ((4 : Nat) : Int) := he5
              go_wp2_with fail
              refine (pr_all hPE 4 heE).mono ?_
              rintro x w16 ⟨An, cn, pn, rfl, hFn, hx16⟩
              rw [HCR.out] at hFn ⊢
              have hPF := hPE.ext hx16
              have hFw := hRw.fla hPF (fun x hx => List.mem_append_left _ hx)
              have hxw := hx2.trans hPF.x
              obtain ⟨us0, hus0⟩ : ∃ us0, ts.filter (fun t => decide (t.2.1 ≠ en)) = us0 := ⟨_, rfl⟩
              have HU0 := Lib.hid hus0
              rw [hus0] at hFn ⊢
              have HCL2 := HCL.out
              rw [hus0] at HCL2
              clear hus0 hPE hRw HCL hPF hx16
              obtain ⟨i0', hi', hz0, hz1, hz2⟩ := info_parts info_fl
              go_wp2_with fail
              go_loopw [22, 23] (fun vv iv wr => ∃ (k : Nat) (us : List (Int × Int × Row)) (qs : List (Option Addr × Nat)), k ≤ ts.length ∧ iv = .int .i64 (k : Int) ∧ Hid (us = (ts.take k).filter (fun t => decide (t.2.1 ≠ en))) ∧ us.length ≤ k ∧ FlB w16 us qs ∧ wr.ownsRow w16.heap.size 51 3 vv us.length (flC us qs) ∧ Ext w16 wr) (fun _ iv _ => ts.length - (nOf iv).toNat)
              case atStart => exact ⟨0, [], [], Nat.zero_le _, rfl, Lib.hid (by simp), Nat.le_refl _, ⟨rfl, fun i t p e => by simp at e⟩, World.ownsRow_nil _ _ _ _, Ext.refl _⟩
              case round =>
                obtain ⟨k, us, qs, hk, rfl, hus, hul, hB, row, hx⟩ := hrel
                by_cases hlt : k < ts.length
                · have hki : (k : Int) < (ts.length : Int) := by omega
                  obtain ⟨t, ht⟩ : ∃ t, ts[k]? = some t := ⟨_, List.getElem?_eq_getElem hlt⟩
                  have htk : ts.take (k + 1) = ts.take k ++ [t] := by rw [List.take_add_one, ht]; rfl
                  obtain ⟨bb, off, p, rfl, -, ⟨r1, l1⟩, a0, a1, a2⟩ := hFw.pick ht
                  have HT := Lib.hid htk
                  clear ht htk
                  have c0 := hx.cellSome a0
                  have c1 := hx.cellSome a1
                  have c2 := hx.cellSome a2
                  clear a0 a1 a2
                  have hxt := (Ext.refl wr).alloc (.cells #[.int .i64 t.1, .int .i64 t.2.1, .slice p.1 t.2.2.length p.2] 51)
                  have bt := Blk.new wr 51 #[.int .i64 t.1, .int .i64 t.2.1, .slice p.1 t.2.2.length p.2]
                  have rowt := ownsRow_blk row (fun k e => hxt.blk (row.lt k e).2)
                  have hsz := hx.size
                  have hsz2 := hxt.size
                  by_cases hto : t.2.1 = en
                  · have q1 : (t.2.1 == en) = true := by simpa using hto
                    have HTO := Lib.hid hto
                    clear hto
                    go_wp2_with fail
                    refine ⟨⟨k + 1, us, qs, by omega, by simp, Lib.hid ?_, by omega, hB, row, hx⟩, by simp [nOf]; omega⟩
                    rw [HT.out, List.filter_append, hus.out, List.filter_cons, if_neg (by simp [HTO.out])]
                    simp
                  · have q1 : (t.2.1 == en) = false := by simpa using hto
                    have HTO := Lib.hid hto
                    clear hto
                    go_wp2_with (at_builtin; go_loud (refine wpList_append_own_at _ rfl _ _ 44 rfl w16.heap.size 51 i0' (.agg #[.int .i64 0, .int .i64 0, .slice none 0 0]) 3 40 Try.underlying44 hi' hz0 hz1 hz2 rfl (by decide) _ us.length (flC us qs) rfl rowt ⟨wr.heap.size, 0, none⟩ 1 1 [.int .i64 t.1, .int .i64 t.2.1, .slice p.1 t.2.2.length p.2] rfl rfl (flw_news bt) (flw_one t p) (by unfold maxLen; omega) (by omega) (by omega) ?_); intro v6 w6 row6 g6 _ loc6)
                    refine ⟨⟨k + 1, us ++ [t], qs ++ [p], by omega, by simp, Lib.hid ?_, by simp; omega, hB.snoc ⟨r1, l1⟩, ?_, ?_⟩, by simp [nOf]; omega⟩
                    · rw [HT.out, List.filter_append, hus.out, List.filter_cons, if_pos (by simp [HTO.out])]
                      rfl
                    · rw [flC_snoc _ _ _ _ hB.1, List.length_append]
                      exact row6
                    · exact (Tu.of_grown g6 (S := fun k => w16.heap.size ≤ k) (fun k e => (rowt.lt k e).1)).ext_of (hx.trans hxt) (fun k hk => hk)
                · obtain rfl : k = ts.length := by omega
                  obtain ⟨Ak, ck, rfl⟩ := own_slice row
                  have e1 := hus.out
                  rw [List.take_length, HU0.out] at e1
                  subst e1
                  have hFk := FlA.of_row row ⟨hB.1, fun i t p q1 q2 => ⟨(hB.2 i t p q1 q2).1.ext hx, (hB.2 i t p q1 q2).2⟩⟩
                  have hwk : IntKind.i64.wrap ((ts.length : Int) - (us.length : Int)) = ((cl : Nat) : Int) := by rw [IntKind.wrap_i64]; omega
                  go_wp2_with fail
                  refine (sameall_any wr An Ak cn ck us pn qs (hFn.ext hx) hFk (by omega)).mono ?_
                  rintro x w20 ⟨rfl, hx20⟩
                  have hxe := (hxw.trans hx).trans hx20
                  have hce : ((cl : Nat) : Int) == (ts.length : Int) - (us.length : Int) := by simp; omega
                  go_wp2_with fail
                  refine (known_any _).mono ?_
                  rintro e wk ⟨rfl, hxk⟩
                  go_wp2_with fail
                  go_ret
                  exact ⟨rfl, (hxe).trans hxk⟩

set_option maxRecDepth 100000 in
theorem lifted (os : Os) (started : os.Started) (H : Type) (enc : TypeId × Value → H) :
    ReturnsInHanded {} Try.checked os 7 .any (Rows.netRoomSpec.pre6 enc Try.prog Try.f7 Rows.netRoomRow.domain false) (Rows.netRoomSpec.post enc Try.prog Try.f7 false true false false) := by
  refine returnsInHanded_of_change (C := Try.checked) own started (by kernel_rfl) Try.func7
    (ChangeSpec.witness6 (enc := enc) (C := Try.checked) false ⟨#[], #[.slice none 0 0, .int .i64 0, .int .i64 0, .int .i64 0], []⟩ 8 (by kernel_rfl) (by kernel_rfl) (by kernel_rfl) (by kernel_rfl)) ?_
  intro W base args ds gs before hval0 hW hcnd _
  have hval : ∀ (j : Nat) t v, Try.f7.params[j]? = some t → args[j]? = some v → Value.okWide Try.prog W .any base t v := hval0
  have hW' := hW
  obtain ⟨p, q, hA0, hV, rfl, hfz, hnd⟩ := hW
  have hA : DataW.TrodAll enc Try.prog W 0 (fun _ => true) true Try.f7.params.toList args.toList ds p := hA0
  rw [Try.params7] at hA hval
  obtain ⟨v0, vs0, d0, ds0, p0, q0, hargs, rfl, rfl, h0, r0⟩ := trodAll_cons hA
  obtain ⟨v1, vs1, d1, ds1, p1, q1, rfl, rfl, rfl, h1, r1⟩ := trodAll_cons r0
  obtain ⟨v2, vs2, d2, ds2, p2, q2, rfl, rfl, rfl, h2, r2⟩ := trodAll_cons r1
  obtain ⟨v3, vs3, d3, ds3, p3, q3, rfl, rfl, rfl, h3, r3⟩ := trodAll_cons r2
  obtain ⟨rfl, rfl, rfl⟩ := trodAll_nil r3
  obtain rfl : args = #[v0, v1, v2, v3] := by cases args; simp_all
  obtain ⟨rfl, rfl⟩ := trodVars_none hV
  obtain ⟨a0, n0, c0, rfl⟩ := okWide_slice Try.underlying22 (hval 0 22 v0 rfl rfl)
  have k0 := h0
  have lt0 : ∀ x ∈ p0, x.block < W.heap.size := by obtain ⟨m, hm⟩ := k0; exact DataW.trod_lt m _ _ _ hm
  obtain ⟨l0, w0, y0⟩ := open_acts h0
  obtain ⟨a1, rfl, rfl, rfl, w1⟩ := open_int Try.underlying3 (hval 1 3 v1 rfl rfl) h1
  obtain ⟨a2, rfl, rfl, rfl, w2⟩ := open_int Try.underlying3 (hval 2 3 v2 rfl rfl) h2
  obtain ⟨a3, rfl, rfl, rfl, w3⟩ := open_int Try.underlying3 (hval 3 3 v3 rfl rfl) h3
  clear hA0 hval0
  refine (walk W a0 n0 c0 l0 w0 y0 a1 w1 a2 w2 a3 w3).mono fun e W' ⟨he, bel⟩ => ?_
  subst he
  exact ⟨_, rfl, _, _, _, [], _, [], hW', trodAll_mk1 (shut_bool Try.underlying4 _), (trodAll_cons_mk (Below.trod laidOut (by kernel_rfl) (of_decide_eq_true (by kernel_rfl)) k0 bel lt0) (trodAll_cons_mk (shut_int Try.underlying3 w1) (trodAll_cons_mk (shut_int Try.underlying3 w2) (trodAll_cons_mk (shut_int Try.underlying3 w3) trodAll_mk0)))), rfl, Below.frame bel _, fun h => by cases h⟩

theorem over_ : Rows.netRoomRow.holds Try.pinned (OpenSpec.ofChange Rows.netRoomSpec) :=
  OpenClaim.holds_of_wide 7 Try.f7 rfl rfl rfl rfl rfl rfl rfl ⟨rfl, rfl, rfl, rfl, rfl⟩ rfl rfl rfl rfl rfl (by kernel_rfl) Try.func7 (by kernel_rfl)
    (of_decide_eq_true (by kernel_rfl)) (by unfold Func.isWrapper; first | (rw [if_pos (by decide +kernel)]; kernel_rfl) | (rw [if_neg (by decide +kernel)]; exact ⟨rfl, rfl⟩))
    (fun os started H enc _ => lifted os started H enc)

theorem proved : Rows.NetRoomSaid := over_
end Go.Proofs.Ytekbdpfiommmbaa.lawRoom
