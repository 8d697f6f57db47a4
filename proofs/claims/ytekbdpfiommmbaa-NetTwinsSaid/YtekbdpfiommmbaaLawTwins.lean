/- NetTwins answers true, whatever acts and place it is given. No conditions. -/
import Derived.Test.YtekbdpfiommmbaaRC
import Derived.Test.YtekbdpfiommmbaaNmuch
import Derived.Test.YtekbdpfiommmbaaNknown
import Derived.Test.YtekbdpfiommmbaaFrame
namespace Go.Proofs.Ytekbdpfiommmbaa.lawTwins
open Go.ChangeShapes Go.WideShapes Go.ChangeAt Go.RowKit Go.Maps Go.Shelf
open Go.ChangeMaps (open_string shut_string)
set_option linter.unusedVariables false
set_option linter.unusedSimpArgs false
attribute [local go_sem] Oper.semAt_some

theorem results_b {fn : Func} {p : Tmp} (h : fn.results = #[.cell p 4]) (tmps : Array Value) (w : World) (g : Nat) {b : Value} (hp : tmps.getD p undef = fptr g) (hb : Blk w g 4 #[b]) : (results fn tmps).run Try.prog w = .ok b w := by
  have hp' : tmps[p]?.getD undef = fptr g := by simpa using hp
  have h0 := hb.cell 0
  simp [results, h, hp', asAddr, go_sem, Result.andThen, h0]
set_option maxRecDepth 100000 in
set_option maxHeartbeats 12800000 in
theorem walk (w : World) (A : Option Addr) (len c : Nat) (l : List Ac) (hl : ActsAt w A len l) (hc : len ≤ c) (A2 : Option Addr) (len2 c2 : Nat) (l2 : List Ac) (hl2 : ActsAt w A2 len2 l2) (hc2 : len2 ≤ c2) (lv : Int) (wl : (Lit.int .i64 lv).wf = true) :
    Calls Try.prog 8 #[.slice A len c, .slice A2 len2 c2, .int .i64 lv] w fun e w' => e = .returned (.bool true) ∧ Ext w w' := by
  have hxr := (Ext.refl w).alloc (.cells #[.bool false] 4)
  have br := Blk.new w 4 #[.bool false]
  refine calls_of_marks Try.func8 rfl ?_
  simp only [Try.ntmps8, List.size_toArray, List.length_cons, List.length_nil, Nat.reduceAdd, Nat.reduceSub, Array.replicate_succ, Array.replicate_zero, List.push_toArray, List.append_toArray, List.nil_append, List.cons_append]
  go_upto_region 1 with fail
  generalize w.alloc (.cells #[.bool false] 4) = w1 at *
  obtain ⟨zr, hzr⟩ : ∃ zr, w.heap.size = zr := ⟨_, rfl⟩
  rw [hzr] at br ⊢
  have HZR := Lib.hid hzr
  clear hzr
  have hl1 := hl.ext hxr
  have hk1 := hl2.ext hxr
  go_wp2_with fail
  refine (much_any w1 A len c l hl1).mono ?_
  rintro e w2 ⟨b1, rfl, hb1, hx2⟩
  have hxw := hxr.trans hx2
  cases b1 with
  | true =>
    have f0 := (br.ext hx2).free 0
    go_wp2_with fail
    refine (known_any _).mono ?_
    rintro e wk ⟨rfl, hxk⟩
    have bk := (br.ext hx2).ext hxk
    have f1 := bk.free 0
    have s1 := bk.cell 0
    have bk2 := bk.set_ 0 (.bool true)
    have hxe := ((hxw).trans hxk).setCell (p := ⟨zr, 0, none⟩) (by have := HZR.out; show w.heap.size ≤ zr; omega) (.bool true)
    go_wp2_with fail
    exact ⟨_, results_b rfl _ _ zr rfl bk2, rfl, hxe⟩
  | false =>
    obtain ⟨h60, h20⟩ := hb1 rfl
    clear hb1
    go_wp2_with fail
    refine (much_any w2 A2 len2 c2 l2 (hk1.ext hx2)).mono ?_
    rintro e w3 ⟨b2, rfl, hb2, hx3⟩
    have hxw3 := hxw.trans hx3
    have br3 := (br.ext hx2).ext hx3
    cases b2 with
    | true =>
      have f0 := (br3).free 0
      go_wp2_with fail
      refine (known_any _).mono ?_
      rintro e wk ⟨rfl, hxk⟩
      have bk := (br3).ext hxk
      have f1 := bk.free 0
      have s1 := bk.cell 0
      have bk2 := bk.set_ 0 (.bool true)
      have hxe := ((hxw3).trans hxk).setCell (p := ⟨zr, 0, none⟩) (by have := HZR.out; show w.heap.size ≤ zr; omega) (.bool true)
      go_wp2_with fail
      exact ⟨_, results_b rfl _ _ zr rfl bk2, rfl, hxe⟩
    | false =>
      obtain ⟨k60, k20⟩ := hb2 rfl
      clear hb2
      by_cases hA : 30 < len
      · have hAI : (30 : Int) < (len : Int) := by omega
        have f0 := (br3).free 0
        go_wp2_with fail
        refine (known_any _).mono ?_
        rintro e wk ⟨rfl, hxk⟩
        have bk := (br3).ext hxk
        have f1 := bk.free 0
        have s1 := bk.cell 0
        have bk2 := bk.set_ 0 (.bool true)
        have hxe := ((hxw3).trans hxk).setCell (p := ⟨zr, 0, none⟩) (by have := HZR.out; show w.heap.size ≤ zr; omega) (.bool true)
        go_wp2_with fail
        exact ⟨_, results_b rfl _ _ zr rfl bk2, rfl, hxe⟩
      have hAI : ¬ (30 : Int) < (len : Int) := by omega
      by_cases hB : 30 < len2
      · have hBI : (30 : Int) < (len2 : Int) := by omega
        have f0 := (br3).free 0
        go_wp2_with fail
        refine (known_any _).mono ?_
        rintro e wk ⟨rfl, hxk⟩
        have bk := (br3).ext hxk
        have f1 := bk.free 0
        have s1 := bk.cell 0
        have bk2 := bk.set_ 0 (.bool true)
        have hxe := ((hxw3).trans hxk).setCell (p := ⟨zr, 0, none⟩) (by have := HZR.out; show w.heap.size ≤ zr; omega) (.bool true)
        go_wp2_with fail
        exact ⟨_, results_b rfl _ _ zr rfl bk2, rfl, hxe⟩
      have hBI : ¬ (30 : Int) < (len2 : Int) := by omega
      have hl3 := (hl1.ext hx2).ext hx3
      have hk3 := (hk1.ext hx2).ext hx3
      have hll := hl.1
      have hkl := hl2.1
      go_wp2_with fail
      refine (lpair_any w3 A len c l hl3 (by omega) (fun k s h => by have := h20 k s h; omega)).mono ?_
      rintro e w4 ⟨n, q, g, rfl, hP, he⟩
      have hx8 := (Ext.refl w4).alloc (.cells #[fptr q] 30)
      have b8 := Blk.new w4 30 #[fptr q]
      have hP5 := hP.made hx8 b8 (Nat.le_refl _)
      go_upto_region 4 with fail
      generalize w4.alloc (.cells #[fptr q] 30) = w5 at *
      generalize w4.heap.size = z8 at *
      clear hx8 b8 hP
      go_wp2_with fail
      have hxd := (Ext.refl w5).drew
      have hPd := hP5.ext hxd
      have hx35 := hPd.x
      obtain ⟨O, fm, F, n1, n2, n3, n4, n5, n6⟩ := id hPd
      have b8 := hPd.blk List.mem_cons_self
      have q8 := n6 _ List.mem_cons_self
      have q8O := q8.2.1
      have q8q := q8.2.2
      clear q8
      obtain ⟨cq, hbq⟩ := n4.hasB
      refine wp_region_plan Ext [(0, true), (2, true), (4, true), (1, false), (3, false), (5, false), (6, true), (7, true), (8, true)] (fun _ _ _ x y => Ext.trans x y) Ext.refl (by kernel_rfl) (by kernel_rfl) ?_
      intro K hK
      have t0 : ∀ y : Above Ext w5.drew, y.1.cell? ⟨z8, 0, none⟩ = some (fptr q) := fun y => (b8.ext y.2).cell 0
      iterate 3 (
        refine plan_q (v := ?_) rfl rfl ?_ ?_
        rotate_left
        · intro x
          go_simp
          first | done | rfl
        simp only [Act.put, List.getElem_toArray, List.getElem_cons_zero, List.getElem_cons_succ, List.setIfInBounds_toArray, List.set_cons_zero, List.set_cons_succ])
      clear t0
      refine plan_l rfl (by kernel_rfl) ?_
      intro K2 hK2
      go_simp
      refine (copyN_any w5.drew O n fm F g n1).mono ?_
      rintro x w6 ⟨n', O', rfl, ⟨fm', F', t1, -⟩, tno, hx6⟩
      go_simp
      refine hK2.out _ _ hx6 ?_
      clear hK2 K2
      try simp only [Act.put, List.getElem_toArray, List.getElem_cons_zero, List.getElem_cons_succ, List.setIfInBounds_toArray, List.set_cons_zero, List.set_cons_succ]
      have r6 : RefX w6 O' q g := n4.keep hx6.size (fun k hk e => ⟨hx6.blk hk, tno k hk⟩)
      refine plan_l rfl (by kernel_rfl) ?_
      intro K2 hK2
      go_simp
      refine (rcopy_any w6 O' q g r6 t1.inn).mono ?_
      rintro x w7 ⟨rfl, r7, hx7⟩
      go_simp
      refine hK2.out _ _ hx7 ?_
      clear hK2 K2
      try simp only [Act.put, List.getElem_toArray, List.getElem_cons_zero, List.getElem_cons_succ, List.setIfInBounds_toArray, List.set_cons_zero, List.set_cons_succ]
      have hx67 := hx6.trans hx7
      have nm := netx_mark n1 hx67
      refine plan_l rfl (by kernel_rfl) ?_
      intro K2 hK2
      go_simp
      refine (allcN_any w7 _ n fm F g nm).mono ?_
      rintro x w8 ⟨qo, n'', O'', fm'', F'', rfl, bo, v8, vJ, vno, hqo, hOq, hx8⟩
      go_simp
      refine hK2.out _ _ hx8 ?_
      clear hK2 K2
      try simp only [Act.put, List.getElem_toArray, List.getElem_cons_zero, List.getElem_cons_succ, List.setIfInBounds_toArray, List.set_cons_zero, List.set_cons_succ]
      iterate 3 (
        refine plan_q (v := ?_) rfl rfl ?_ ?_
        rotate_left
        · intro x
          go_simp
          first | done | rfl
        simp only [Act.put, List.getElem_toArray, List.getElem_cons_zero, List.getElem_cons_succ, List.setIfInBounds_toArray, List.set_cons_zero, List.set_cons_succ])
      refine plan_end (hK.out _ _ ?_)
      clear hK K
      have hT7 : Pr w5.drew w7 n' w6.heap.size g g [] := ⟨O', fm', F', t1.ext hx7, fun b hb => by
        rcases Nat.lt_or_ge b w5.drew.heap.size with e | e
        · rw [Owned, tno b e] at hb
          cases hb
        · exact e, hx67, r7, hx6.size, fun x hx => by cases hx⟩
      have hT8 := hT7.since hx8
      have hx8d := hT8.x
      have hN : Pr w3 w5.drew n q g g (nob w5.drew O q) := ⟨O, fm, F, n1, n2, n3, n4, n5, nob_ok⟩
      have heq := run_eql_fn (w := w8) Try.underlying68 (.func 54) #[] #[fptr qo]
      generalize w6.heap.size = v at *
      generalize w5.drew = wd at *
      clear hP5 hPd hxd n6 r6 r7 t1 hT7
      go_wp2_with fail
      rw [List.append_nil] at hT8
      go_loopw [12] (fun iv wr => ∃ (k : Nat) (g2 : NC), k ≤ len2 ∧ iv = .int .i64 (k : Int) ∧ g2.ends = ((4 : Nat) : Int) ∧ Pr wd wr n' v g2 g2 (objs w8 w7.heap.size w8.heap.size)) (fun iv _ => len2 - (nOf iv).toNat)
      case atStart => exact ⟨0, g, Nat.zero_le _, rfl, he, hT8⟩
      case round =>
        clear hT8
        obtain ⟨k, g2, hk, rfl, he2, hT⟩ := hrel
        by_cases hlt : k < len2
        · have hki : (k : Int) < (len2 : Int) := by omega
          obtain ⟨b, off, rfl, hb, hcell⟩ := hk3.pos (by omega)
          obtain ⟨hok, hcc⟩ := hcell k (by omega)
          obtain ⟨s, hs⟩ : ∃ s, l2[k]'(by omega) = s := ⟨_, rfl⟩
          rw [hs] at hok hcc
          have hss := k20 k s (by rw [← hs]; exact List.getElem?_eq_getElem (by omega))
          have hxr3 := hx35.trans hT.x
          have m0 := hxr3.cellSome (hcc 0 (by simp [Ac.vals]))
          have m1 := hxr3.cellSome (hcc 1 (by simp [Ac.vals]))
          have m2 := hxr3.cellSome (hcc 2 (by simp [Ac.vals]))
          have m3 := hxr3.cellSome (hcc 3 (by simp [Ac.vals]))
          simp only [Ac.vals, List.getElem_cons_zero, List.getElem_cons_succ, Nat.add_zero] at m0 m1 m2 m3
          clear hs
          go_wp2_with fail
          refine (ldo_any hT 4 he2 s (hok.ext hx35) (by omega)).mono ?_
          rintro x w9 ⟨g3, rfl, hT2, he3⟩
          go_wp2_with fail
          exact ⟨⟨k + 1, g3, by omega, by simp, he3.trans he2, hT2⟩, by simp [nOf]; omega⟩
        · obtain rfl : k = len2 := by omega
          go_wp2_with fail
          refine (las_any hT 4 he2).mono ?_
          rintro x w9 ⟨rfl, hx9⟩
          have hTa := hT.ext hx9
          have hNa := hN.ext hTa.x
          have b8a := b8.ext hTa.x
          have m8 := b8a.cell 0
          simp at m8
          go_wp2_with fail
          refine (las_any hNa 4 he).mono ?_
          rintro x w10 ⟨rfl, hx10⟩
          have hTb := hTa.ext hx10
          have hNb := hNa.ext hx10
          clear hT hTa hNa m8 b8a hx9 hx10
          go_wp2_with fail
          obtain ⟨fs, hfs⟩ : ∃ fs, flL g 4 (4 * 4) = fs := ⟨_, rfl⟩
          have hfl := (hNb.le 4 he).1
          rw [hfs] at hfl
          have HFS := Lib.hid hfs
          obtain ⟨ts, hts⟩ : ∃ ts, (if 0 < lv ∧ lv ≤ (fs.length : Int) then fs.take lv.toNat else fs) = ts := ⟨_, rfl⟩
          have htl : ts.length ≤ 800 := by
            rw [← hts]
            split
            · have := List.length_take_le lv.toNat fs
              omega
            · exact hfl
          refine (pr_told hNb 4 he lv wl ts (by rw [hfs]; exact hts)).mono ?_
          rintro x w11 ⟨At, ct, pt, rfl, hFt, hTo, hx11⟩
          have HTS := Lib.hid hts
          clear hfs hts
          have hN11 := hNb.ext hx11
          have hT11 := hTb.ext hx11
          have b11 := b8.ext hT11.x
          have m8 := b11.cell 0
          simp at m8
          go_wp2_with fail
          refine (pr_rflightsC hN11 4 he).mono ?_
          rintro x w12 ⟨Aw, cw, pw, rfl, hcw, hFw, hx12⟩
          rw [HFS.out] at hFw hcw ⊢
          have hFt12 := hFt.ext hx12
          have hTo12 := hTo.ext hx12
          have hx1012 := hx11.trans hx12
          have hsame : ∃ (Az : Option Addr) (cz : Nat) (pz : List (Option Addr × Nat)), FlA w12 Az ts pz ∧ ((0 < lv ∧ lv < (fs.length : Int) → Az = Aw ∧ cz = cw ∧ ts.length = lv.toNat) ∧ (¬ (0 < lv ∧ lv < (fs.length : Int)) → Az = Aw ∧ cz = cw ∧ ts = fs)) := by
            by_cases hc : 0 < lv ∧ lv < (fs.length : Int)
            · have e1 := HTS.out
              rw [if_pos (by omega)] at e1
              refine ⟨Aw, cw, pw.take lv.toNat, ?_, fun _ => ⟨rfl, rfl, by rw [← e1, List.length_take]; omega⟩, fun h => absurd hc h⟩
              rw [← e1]
              obtain ⟨⟨f1, f2⟩, f3⟩ := hFw
              refine ⟨⟨by rw [List.length_take, List.length_take, f1], fun i t p q1 q2 => ?_⟩, .inr ?_⟩
              · rw [List.getElem?_take] at q1 q2
                split at q1
                · rename_i hi
                  rw [if_pos hi] at q2
                  exact f2 i t p q1 q2
                · cases q1
              · obtain ⟨b, off, e1, e2, e3⟩ := f3.resolve_left (by omega)
                refine ⟨b, off, e1, e2, fun j u hu => e3 j u ?_⟩
                rw [← flC_take _ _ _ f1, List.getElem?_take] at hu
                split at hu
                · exact hu
                · cases hu
            · have e1 := HTS.out
              refine ⟨Aw, cw, pw, ?_, fun h => absurd h hc, fun _ => ⟨rfl, rfl, ?_⟩⟩
              · by_cases h2 : 0 < lv ∧ lv ≤ (fs.length : Int)
                · rw [if_pos h2, List.take_of_length_le (by omega)] at e1
                  rw [← e1]
                  exact hFw
                · rw [if_neg h2] at e1
                  rw [← e1]
                  exact hFw
              · by_cases h2 : 0 < lv ∧ lv ≤ (fs.length : Int)
                · rw [if_pos h2, List.take_of_length_le (by omega)] at e1
                  exact e1.symm
                · rw [if_neg h2] at e1
                  exact e1.symm
          have HSM := Lib.hid hsame
          clear hsame hFw hFt hTo m8 b11
          obtain ⟨Az, cz, pz, hFz, hZ1, hZ2⟩ := HSM.out
          have hN12 := hN11.ext hx12
          have hT12 := hT11.ext hx12
          have b12 := b8.ext hT12.x
          clear HSM hN11 hT11
          have HZ1 := Lib.hid hZ1
          have HZ2 := Lib.hid hZ2
          clear hZ1 hZ2
          go_upto_region 18 with fail
          go_cut [98] from 91 to 98 (fun s wc => wc = w12 ∧ s = .bool (decide (0 < lv ∧ lv < (fs.length : Int))))
          case first =>
            have hway : (0 < lv ∧ lv < (fs.length : Int)) ∨ (¬ 0 < lv) ∨ (0 < lv ∧ ¬ lv < (fs.length : Int)) := by omega
            rcases hway with hw | hw | hw
            · obtain ⟨w1', w2'⟩ := hw
              go_wp2_with fail
              go_meet
              exact ⟨rfl, by simp [w1', w2']⟩
            · go_wp2_with fail
              go_meet
              exact ⟨rfl, by simp; omega⟩
            · obtain ⟨w1', w2'⟩ := hw
              go_wp2_with fail
              go_meet
              exact ⟨rfl, by simp; omega⟩
          case rest =>
            obtain ⟨rfl, rfl⟩ := hcut
            go_upto_if 98 with fail
            go_cut [15] from 99 to 101 (fun s w' => w' = wc ∧ s = .slice Az ts.length cz)
            case first =>
              by_cases hw : 0 < lv ∧ lv < (fs.length : Int)
              · have E := Lib.hid (HZ1.out hw)
                obtain ⟨lm, rfl⟩ : ∃ lm : Nat, lv = lm := ⟨lv.toNat, by omega⟩
                obtain ⟨w1', w2'⟩ := hw
                have w3' : (lm : Int) ≤ (cw : Int) := by omega
                go_wp2_with fail
                go_meet
                obtain ⟨e1, e2, e3⟩ := E.out
                rw [Int.toNat_natCast] at e3
                exact ⟨rfl, by rw [e1, e2, e3]⟩
              · have E := Lib.hid (HZ2.out hw)
                go_wp2_with fail
                go_meet
                obtain ⟨e1, e2, e3⟩ := E.out
                exact ⟨rfl, by rw [e1, e2, e3]⟩
            case rest =>
              obtain ⟨rfl, rfl⟩ := hcut
              clear HZ1 HZ2
              go_wp2_with fail
              refine (sameall_any _ _ _ _ _ ts pt pz hFt12 hFz (by omega)).mono ?_
              rintro x w13 ⟨rfl, hx13⟩
              have hN13 := hN12.ext hx13
              have hT13 := hT12.ext hx13
              have hTo13 := hTo12.ext hx13
              have b13 := b12.ext hx13
              clear hN12 hT12 hTo12 b12 hFt12 hFz
              go_wp2_with fail
              go_loopw [16] (fun iv wr => ∃ i : Nat, i ≤ ts.length ∧ iv = .int .i64 (i : Int) ∧ Ext w10 wr ∧ Told wr w10.heap.size At ts pt) (fun iv _ => ts.length - (nOf iv).toNat)
              case atStart => exact ⟨0, Nat.zero_le _, rfl, hx1012.trans hx13, hTo13⟩
              case round =>
                clear hTo13
                obtain ⟨i, hi, rfl, hxi, hToi⟩ := hrel
                by_cases hlt : i < ts.length
                · have hii : (i : Int) < (ts.length : Int) := by omega
                  obtain ⟨t, ht⟩ : ∃ t, ts[i]? = some t := ⟨_, List.getElem?_eq_getElem hlt⟩
                  obtain ⟨p, hp⟩ : ∃ p, pt[i]? = some p := ⟨_, List.getElem?_eq_getElem (by rw [hToi.1]; exact hlt)⟩
                  obtain ⟨rb, hAt⟩ : ∃ rb, At = some ⟨rb, 0, none⟩ := by
                    obtain ⟨rb, C, e1, -⟩ := hToi.2.1.resolve_left (by omega)
                    exact ⟨rb, e1⟩
                  have pk : ∀ wr, Told wr w10.heap.size At ts pt → wr.cell? ⟨rb, i * 3 + 2, none⟩ = some (.slice p.1 t.2.2.length p.2) := by
                    intro wr h
                    obtain ⟨rb', C, e1, e2, e3, e4⟩ := h.2.1.resolve_left (by omega)
                    rw [hAt] at e1
                    cases e1
                    rw [e3.cell]
                    exact e4 _ _ (flC_at ts pt i t p ht hp).2.2
                  have hlb : t.2.2.length ≤ 1048576 := (hToi.2.2 i t p ht hp).1
                  subst hAt
                  go_wp2_with fail
                  go_loopw [17] (fun jv wr => ∃ j : Nat, j ≤ t.2.2.length ∧ jv = .int .i64 (j : Int) ∧ Ext w10 wr ∧ Told wr w10.heap.size (some ⟨rb, 0, none⟩) ts pt) (fun jv _ => t.2.2.length - (nOf jv).toNat)
                  case atStart => exact ⟨0, Nat.zero_le _, rfl, hxi, hToi⟩
                  case round =>
                    clear hToi hxi
                    obtain ⟨j, hj, rfl, hxj, hToj⟩ := hrel
                    have m2 := pk _ hToj
                    by_cases hlj : j < t.2.2.length
                    · have hjj : (j : Int) < (t.2.2.length : Int) := by omega
                      obtain ⟨b, off, cs, hp1, hlo, hbk, hcs⟩ := (hToj.2.2 i t p ht hp).2.resolve_left (by omega)
                      obtain ⟨u, hu⟩ := hcs j hlj
                      have mu := hbk.cell (off + j)
                      rw [hu] at mu
                      rw [hp1] at m2
                      go_wp2_with fail
                      have hD : Ext wr wr.drew := (Ext.refl wr).drew
                      have hToD := hToj.ext hD
                      have hbD := hbk.ext hD
                      obtain ⟨rb', C, e1, -, e3, e4⟩ := hToD.2.1.resolve_left (by omega)
                      cases e1
                      have eb : rb ≠ b := by
                        intro e
                        subst e
                        have e3' : wr.drew.heap[rb]? = some (.cells C 51 (0, 0)) := e3
                        have hb' : wr.drew.heap[rb]? = some (.cells cs 5 (0, 0)) := hbD
                        rw [e3'] at hb'
                        cases hb'
                      have e5 := e4 _ _ (flC_at ts pt i t p ht hp).2.2
                      rw [hp1] at e5
                      have gT : ∀ {a b' c' : World}, a.grownBy b' (some b) → b'.grownBy c' (some b) → a.grownBy c' (some b) := fun h k => grownBy_trans h k
                      have fr0 := hbk.free (off + j)
                      have frD := hbD.free (off + j)
                      obtain ⟨u', hu'⟩ : ∃ u' : UInt8, IntKind.u8.wrap ((u.toNat : Int) + 1) = (u'.toNat : Int) := by
                        refine ⟨UInt8.ofNat (u.toNat + 1), ?_⟩
                        simp [IntKind.wrap, IntKind.bits, IntKind.signed]
                      have hgD : wr.grownBy wr.drew (some b) := hD.grownBy _
                      have M2 : ∀ x : Above (fun u u' => u.grownBy u' (some b)) wr.drew, x.1.cell? ⟨rb, i * 3 + 2, none⟩ = some (.slice (some ⟨b, off, none⟩) t.2.2.length p.2) := fun x => ((e3.other x.2 (by simpa using eb)).cell _).trans e5
                      refine wp_region_plan (fun u u' => u.grownBy u' (some b)) [(0, true), (1, true), (2, true), (3, true), (4, true), (5, true), (6, true), (7, true), (8, true), (9, true), (10, true), (11, true), (12, true), (13, false), (14, true), (15, true), (16, false)] (fun _ _ _ x y => (fun x y => gT x y) x y) (fun a => World.grownBy.refl a (some b)) (by kernel_rfl) (by kernel_rfl) ?_
                      intro K hK
                      iterate 13 (
                        refine plan_q (v := ?_) rfl rfl ?_ ?_
                        rotate_left
                        · intro x
                          go_simp
                          first | done | rfl
                        simp only [Act.put, List.getElem_toArray, List.getElem_cons_zero, List.getElem_cons_succ, List.setIfInBounds_toArray, List.set_cons_zero, List.set_cons_succ])
                      refine plan_l rfl (by kernel_rfl) ?_
                      intro K2 hK2
                      go_simp
                      refine hK2.out _ _ (World.grownBy.refl _ _) ?_
                      clear hK2 K2
                      try simp only [Act.put, List.getElem_toArray, List.getElem_cons_zero, List.getElem_cons_succ, List.setIfInBounds_toArray, List.set_cons_zero, List.set_cons_succ]
                      iterate 2 (
                        refine plan_q (v := ?_) rfl rfl ?_ ?_
                        rotate_left
                        · intro x
                          go_simp
                          first | done | rfl
                        simp only [Act.put, List.getElem_toArray, List.getElem_cons_zero, List.getElem_cons_succ, List.setIfInBounds_toArray, List.set_cons_zero, List.set_cons_succ])
                      refine plan_l rfl (by kernel_rfl) ?_
                      intro K2 hK2
                      go_simp
                      refine hK2.out _ _ (by exact setCell_grownBy wr.drew ⟨b, off + j, none⟩ _) ?_
                      clear hK2 K2
                      try simp only [Act.put, List.getElem_toArray, List.getElem_cons_zero, List.getElem_cons_succ, List.setIfInBounds_toArray, List.set_cons_zero, List.set_cons_succ]
                      refine plan_end (hK.out _ _ ?_)
                      clear hK K
                      go_wp2_with fail
                      refine ⟨⟨j + 1, by omega, by simp, (hxj.setCell (p := ⟨b, off + j, none⟩) hlo _).drew, ?_⟩, by simp [nOf]; omega⟩
                      exact (hToj.write hbk (off + j) u').ext ((Ext.refl _).drew)
                    · obtain rfl : j = t.2.2.length := by omega
                      go_wp2_with fail
                      exact ⟨⟨i + 1, by omega, by simp, hxj, hToj⟩, by simp [nOf]; omega⟩
                · obtain rfl : i = ts.length := by omega
                  go_wp2_with fail
                  have HNi := (hN.since hTb.x).ext hxi
                  clear hNb hN13 hT13
                  refine (pr_clear HNi 4 he 1 (by decide)).mono ?_
                  rintro x w14 ⟨rfl, hN14⟩
                  go_wp2_with fail
                  refine (pr_clear hN14 4 he 2 (by decide)).mono ?_
                  rintro x w15 ⟨rfl, hN15⟩
                  have HK : ∀ k, w7.heap.size ≤ k → k < w8.heap.size → w15.heap[k]? = w8.heap[k]? := fun k k1 k2 => by
                    have e1 := hTb.kept (wb := w8) (fun x hx => hx) k1 k2 k2
                    have e2 : k < w10.heap.size := (Array.getElem?_eq_some_iff.1 (e1.trans (Array.getElem?_eq_getElem k2))).1
                    have := hx67.size
                    exact (hN15.kept (wb := w10) (fun x hx => List.mem_append_left _ hx) (by omega) e2 e2).trans e1
                  have HO : ∀ k (hk : k < wd.heap.size), O k = none → k ≠ q → w15.heap[k]? = some wd.heap[k] := fun k hk h1 h2 => hN15.obj (List.mem_append_right _ (nob_mem hk h1 h2))
                  have hqo8 := bo.lt
                  have hs815 : w8.heap.size ≤ w15.heap.size := by
                    have e1 := HK (w8.heap.size - 1) (by omega) (by omega)
                    rw [Array.getElem?_eq_getElem (show w8.heap.size - 1 < w8.heap.size by omega)] at e1
                    have := (Array.getElem?_eq_some_iff.1 e1).1
                    omega
                  have v15 : NetX w15 O'' n'' fm'' F'' g := by
                    refine v8.move vJ hs815 (fun k k1 k2 => HK k ?_ k1) (fun k cu z k1 k2 => ?_)
                    · rcases Nat.lt_or_ge k w7.heap.size with e | e
                      · rw [vno k e] at k2
                        cases k2
                      · exact e
                    · have hk8 := (Array.getElem?_eq_some_iff.1 k1).1
                      rcases Nat.lt_or_ge k w7.heap.size with e | e
                      · rw [Jn.old e] at k2
                        split at k2
                        · cases k2
                        · have hkd : k < wd.heap.size := by omega
                          have e8 := hx8d.blk hkd
                          rw [e8, HO k hkd k2 (fun e => hbq.not_ty (by decide) k e cu z (e8.symm.trans k1)), Array.getElem?_eq_getElem hkd]
                      · exact HK k e hk8
                  have bo15 : Blk w15 qo 25 #[fptr n''] := (HK qo hqo hqo8).trans bo
                  have b815 : Blk w15 z8 30 #[fptr q] := (HO z8 b8.lt q8O q8q).trans ((Array.getElem?_eq_getElem b8.lt).symm.trans b8)
                  have br15 := br3.ext hN15.x
                  clear hTb hToi hxi hx1012 b13 HK HO
                  have hxz := (Ext.refl w15).alloc (.cells #[.int .i64 0] 3)
                  have bz := Blk.new w15 3 #[.int .i64 0]
                  have hM := hN15.mark hxz
                  have fz := bz.free 0
                  have cz0 := bz.cell 0
                  simp at cz0
                  go_wp2_with fail
                  obtain ⟨z, hz⟩ : ∃ z, w15.heap.size = z := ⟨_, rfl⟩
                  have hsz : (w15.alloc (.cells #[.int .i64 0] 3)).heap.size = z + 1 := by rw [World.size_alloc, hz]
                  have hM' : PrM w3 (w15.alloc (.cells #[.int .i64 0] 3)) n q ((g.clr 1).clr 2) g (objs w10 wd.heap.size w10.heap.size ++ nob wd O q) z (z + 1) := by rw [← hsz, ← hz]; exact hM
                  have vz := v15.ext hxz
                  have boz := bo15.ext hxz
                  have b8z := b815.ext hxz
                  have brz := br15.ext hxz
                  have hOz : O'' z = none := v15.inn.none (by omega)
                  have hqoz : qo < z := by have := bo15.lt; omega
                  have h8z : z8 < z := by have := b815.lt; omega
                  have hrz : zr < w7.heap.size := by have := br3.lt; have := n3.size; have := hx67.size; omega
                  have hnr : z8 ≠ zr := fun e => by
                    have e1 : wd.heap[z8]? = some (.cells #[fptr q] 30 (0, 0)) := b8
                    have e2 : wd.heap[zr]? = some (.cells #[.bool false] 4 (0, 0)) := br3.ext n3
                    rw [e, e2] at e1
                    cases e1
                  rw [hz] at bz ⊢
                  clear hM fz cz0
                  generalize w15.alloc (.cells #[.int .i64 0] 3) = wz at *
                  have hfl4 := HFS.out
                  have hSb : ∀ b, (b = zr ∨ b = z) → O'' b = none ∧ b < wz.heap.size ∧ b ≠ qo := by
                    rintro b (rfl | rfl)
                    · exact ⟨vno _ hrz, brz.lt, by omega⟩
                    · exact ⟨hOz, by omega, by omega⟩
                  refine' Exists.elim (⟨_, rfl⟩ : ∃ Actf : Tx fs → Nat → Act, Actf = _) ?_
                  rotate_left
                  intro Actf hActf
                  refine range_told (n := 2) (by omega) rfl (enters_of Try.func54 (by kernel_rfl) rfl)
                    (allcT wz O'' n'' fm'' F'' g vz qo boz 4 he (fun b => b = zr ∨ b = z) hSb ?hS8 fs hfl4) (Ext.refl _) (fun _ => rfl) PT.trans ?hKb (fun B A A' x => PT.of_ext x)
                    ?I ?Ix ?hI ?hIx ?hG ?h0 (fun x a' A => ∃ r : Nat, Blk A r 51 #[.int .i64 (fs[x.1.1]'x.1.2).1, .int .i64 (fs[x.1.1]'x.1.2).2.1, .slice x.2.1 (fs[x.1.1]'x.1.2).2.2.length x.2.2] ∧ a' = Actf x r) ?hAx ?assign ?body ?done ?stop
                  case I => exact fun pre W => Tu (fun b => b = z) wz W ∧ UpT pre pre.length ∧ Blk W z 3 #[.int .i64 (pre.length : Int)]
                  case Ix => exact fun c pre W => ¬ UpT pre pre.length
                  case hS8 =>
                    rintro b hb j x
                    rcases hb with rfl | rfl
                    · rw [brz.cell j]
                      rcases j with _ | j <;> simp
                    · rw [bz.cell j]
                      rcases j with _ | j <;> simp
                  case hKb =>
                    intro B A l o o' ho hc hl hB
                    have g' := grownBy_putObj' A l o'
                    refine ⟨g'.size, fun b x hb hn hx => ?_⟩
                    have hne : b ≠ l := by
                      rintro rfl
                      rw [ho] at hb
                      cases hb
                      rcases hx with hx | hx | hx
                      · have := vz.inn b hx; omega
                      · rw [hc] at hx; cases hx.1
                      · omega
                    exact (g'.block b (Array.getElem?_eq_some_iff.1 hb).1 (by simp; exact hne)).trans hb
                  case hI =>
                    rintro pre A B ⟨q1, q2, q3⟩ k
                    exact ⟨q1.kc k (Nat.le_refl _), q2, q3.kc k⟩
                  case hIx => exact fun c pre A B h k => h
                  case hG =>
                    rintro x A B ⟨q1, q2, q3, q4, q5⟩ k
                    exact ⟨q1.kc k, q2, q3, q4, q5.kc k⟩
                  case h0 => exact ⟨Tu.refl _ _, rfl, bz⟩
                  case hAx =>
                    rintro x a' A B ⟨r, q1, q2⟩ k
                    exact ⟨r, q1.kc k, q2⟩
                  case assign =>
                    intro l' pre x A K hi hg hK
                    obtain ⟨t, ht⟩ : ∃ t, fs[x.1.1]'x.1.2 = t := ⟨_, rfl⟩
                    have hxA := (Ext.refl A).alloc (.cells #[.int .i64 t.1, .int .i64 t.2.1, .slice x.2.1 t.2.2.length x.2.2] 51)
                    have bA := Blk.new A 51 #[.int .i64 t.1, .int .i64 t.2.1, .slice x.2.1 t.2.2.length x.2.2]
                    obtain ⟨r, hr⟩ : ∃ r, A.heap.size = r := ⟨_, rfl⟩
                    simp only [encT, ht, List.zip_toArray, List.zip_cons_cons, List.zip_nil_right, List.foldl_toArray, List.foldl_cons, List.foldl_nil]
                    gi_wp2
                    rw [hr] at bA
                    subst ht
                    refine hK _ _ hxA ⟨r, bA, ?_⟩
                    rw [hActf]
                  case body =>
                    rintro B l' pre x a' A hB1 hB2 ⟨T, hU, bv⟩ hgx ⟨r, br', rfl⟩ hlt
                    subst hActf
                    obtain ⟨t, ht⟩ : ∃ t, fs[x.1.1]'x.1.2 = t := ⟨_, rfl⟩
                    have hTB : TB wz.heap.size A t x.2 := by rw [← ht]; exact hgx
                    simp only [ht] at br' ⊢
                    have hfx : fs[x.1.1]? = some t := by rw [List.getElem?_eq_getElem x.1.2, ht]
                    obtain ⟨xi, hxi⟩ : ∃ xi : Int, (x.1.1 : Int) = xi := ⟨_, rfl⟩
                    have hat : atL (flL g 4 (4 * 4)) xi = (0, t) := by
                      rw [hfl4, atL, if_neg (by omega), show xi.toNat = x.1.1 by omega, hfx]
                    obtain ⟨len9, hlen9⟩ : ∃ len9, pre.length = len9 := ⟨_, rfl⟩
                    rw [hlen9] at bv
                    have hlen8 : len9 ≤ 800 := by omega
                    simp only [hxi]
                    have HX := Lib.hid (And.intro hxi (And.intro hlen9 (And.intro hU ht)))
                    clear hxi hlen9 hU ht hfx
                    have b8A := b8z.tu T (by omega)
                    have brA := brz.tu T (by omega)
                    have hMA := (hM'.write (T.mono (fun b e => by subst e; omega))).free
                    have c8 := b8A.cell 0
                    simp at c8
                    gi_wp2_with fail
                    refine ⟨trivial, rfl, ?_⟩
                    refine (call_round l' _ (pr_rat hMA 4 he xi 0 t hat)).mono ?_
                    rintro ee w16 ⟨A6, c6, rfl, r6, l6, hx6⟩
                    have hxq := (Ext.refl w16).alloc (.cells #[.int .i64 t.1, .int .i64 t.2.1, .slice A6 t.2.2.length c6] 51)
                    have bq' := Blk.new w16 51 #[.int .i64 t.1, .int .i64 t.2.1, .slice A6 t.2.2.length c6]
                    have hxA2 := hx6.trans hxq
                    have bz2 := bv.ext hxA2
                    have br2 := brA.ext hxA2
                    have cz2 := bz2.cell 0
                    have d0 := (br'.ext hxA2).cell 0
                    have d1 := (br'.ext hxA2).cell 1
                    have d2 := (br'.ext hxA2).cell 2
                    have e0 := bq'.cell 0
                    have e1 := bq'.cell 1
                    have e2 := bq'.cell 2
                    simp at cz2 d0 d1 d2 e0 e1 e2
                    have rx := (hTB.1.ext hxA2).low (Nat.zero_le _)
                    have r6q := r6.ext hxq
                    clear hx6 r6 c8
                    by_cases hne : xi = (len9 : Int)
                    · subst hne
                      gi_wp2_with fail
                      refine ⟨trivial, rfl, ?_⟩
                      refine (call_round l' _ (same_any _ t.1 t.2.1 t.1 t.2.1 x.2.1 A6 x.2.2 c6 t.2.2 t.2.2 rx r6q (by omega) (by omega))).mono ?_
                      rintro ee w18 ⟨rfl, hx18⟩
                      rw [decide_eq_true (by simp)]
                      have bz3 := bz2.ext hx18
                      have cz3 := bz3.cell 0
                      have fz3 := bz3.free 0
                      simp at cz3
                      gi_wp2_with fail
                      obtain ⟨hxi, hlen9, hU, ht⟩ := HX.out
                      have T9 : Tu (fun b => b = z) w18 (w18.setCell ⟨z, 0, none⟩ (.int .i64 ((len9 : Int) + 1))) := Tu.of_grown (setCell_grownBy _ _ _) (by rintro k e; cases e; rfl)
                      have bz4 := bz3.set_ 0 (.int .i64 ((len9 : Int) + 1))
                      have TA : Tu (fun b => b = z) A (w18.setCell ⟨z, 0, none⟩ (.int .i64 ((len9 : Int) + 1))) := (Tu.of_ext (hxA2.trans hx18)).trans T9
                      refine ⟨KeepsFrom.of_tuB TA (fun b e => by omega), PT.of_tu (TA.mono (fun b e => .inr e)), T.trans TA, ?_, ?_⟩
                      · have hU2 : pre.map (fun x => x.1.1) = List.range pre.length := hU
                        rw [UpT, List.map_append, List.length_append, hU2, List.map_cons, List.map_nil, show x.1.1 = pre.length by omega]
                        simp [List.range_succ]
                      · rw [List.length_append, hlen9]
                        simpa using bz4
                    · have hbe : (xi == (len9 : Int)) = false := by simpa using hne
                      have hbn : (xi != (len9 : Int)) = true := by simpa using hne
                      have HN := Lib.hid hne
                      clear hne
                      have f2 := br2.free 0
                      have k2 := br2.cell 0
                      simp at k2
                      gi_wp2_with fail
                      refine ⟨trivial, ?_⟩
                      gi_wp2_with fail
                      have T9 : Tu (fun b => b = zr) (w16.alloc (.cells #[.int .i64 t.1, .int .i64 t.2.1, .slice A6 t.2.2.length c6] 51)) ((w16.alloc (.cells #[.int .i64 t.1, .int .i64 t.2.1, .slice A6 t.2.2.length c6] 51)).setCell ⟨zr, 0, none⟩ (.bool false)) := Tu.of_grown (setCell_grownBy _ _ _) (by rintro k e; cases e; rfl)
                      have TA : Tu (fun b => b = zr) A ((w16.alloc (.cells #[.int .i64 t.1, .int .i64 t.2.1, .slice A6 t.2.2.length c6] 51)).setCell ⟨zr, 0, none⟩ (.bool false)) := (Tu.of_ext hxA2).trans T9
                      refine ⟨KeepsFrom.of_tuB TA (fun b e => by subst e; exact brz.lt), PT.of_tu (TA.mono (fun b e => .inl e)), fun hu => ?_⟩
                      obtain ⟨hxi, hlen9, hU, ht⟩ := HX.out
                      have hu' : (pre ++ [x]).map (fun x => x.1.1) = List.range (pre.length + 1) := by
                        have := hu
                        rw [List.length_append] at this
                        exact this
                      rw [List.map_append, List.range_succ] at hu'
                      have := (List.append_inj' hu' rfl).2
                      simp at this
                      refine HN.out ?_
                      rw [← hxi, ← hlen9, this]
                  case done =>
                    rintro D xs W hD hup ⟨T, hU, bv⟩ hK
                    have hl := hup.len
                    rw [hl] at bv
                    have hxd := (Ext.refl W).drew
                    have b8W := (b8z.tu T (by omega)).ext hxd
                    have brW := (brz.tu T (by omega)).ext hxd
                    have bzW := bv.ext hxd
                    have hMW := (hM'.write (T.mono (fun b e => by subst e; omega))).free.ext hxd
                    have hKd := (hxd.blk (Array.getElem?_eq_some_iff.1 hK).1).trans hK
                    go_wp2_with fail
                    refine wp_region_plan (Tu (fun b => b = zr)) [(0, true), (1, true), (2, false), (3, true), (4, true), (5, true), (6, false), (7, true), (8, false)] (fun _ _ _ x y => (fun x y => Tu.trans x y) x y) (fun a => Tu.refl (fun b => b = zr) a) (by kernel_rfl) (by kernel_rfl) ?_
                    intro K hK
                    have t0 : ∀ y : Above (Tu (fun b => b = zr)) W.drew, y.1.cell? ⟨z, 0, none⟩ = some (.int .i64 (fs.length : Int)) := fun y => (bzW.tu y.2 (by omega)).cell 0
                    have t1 : ∀ y : Above (Tu (fun b => b = zr)) W.drew, y.1.cell? ⟨z8, 0, none⟩ = some (fptr q) := fun y => (b8W.tu y.2 hnr).cell 0
                    iterate 2 (
                      refine plan_q (v := ?_) rfl rfl ?_ ?_
                      rotate_left
                      · intro x
                        go_simp
                        first | done | rfl
                      simp only [Act.put, List.getElem_toArray, List.getElem_cons_zero, List.getElem_cons_succ, List.setIfInBounds_toArray, List.set_cons_zero, List.set_cons_succ])
                    clear t0 t1
                    refine plan_l rfl (by kernel_rfl) ?_
                    intro K2 hK2
                    go_simp
                    refine (pr_rflights hMW 4 he).mono ?_
                    rintro x w16 ⟨A6, c6, p6, rfl, hF6, hx6⟩
                    rw [hfl4]
                    go_simp
                    refine hK2.out _ _ (Tu.of_ext hx6) ?_
                    clear hK2 K2
                    try simp only [Act.put, List.getElem_toArray, List.getElem_cons_zero, List.getElem_cons_succ, List.setIfInBounds_toArray, List.set_cons_zero, List.set_cons_succ]
                    iterate 3 (
                      refine plan_q (v := ?_) rfl rfl ?_ ?_
                      rotate_left
                      · intro x
                        go_simp
                        first | done | rfl
                      simp only [Act.put, List.getElem_toArray, List.getElem_cons_zero, List.getElem_cons_succ, List.setIfInBounds_toArray, List.set_cons_zero, List.set_cons_succ])
                    refine plan_l rfl (by kernel_rfl) ?_
                    intro K2 hK2
                    go_simp
                    refine (known_any _).mono ?_
                    rintro x w17 ⟨rfl, hx7⟩
                    go_simp
                    refine hK2.out _ _ (Tu.of_ext hx7) ?_
                    clear hK2 K2
                    try simp only [Act.put, List.getElem_toArray, List.getElem_cons_zero, List.getElem_cons_succ, List.setIfInBounds_toArray, List.set_cons_zero, List.set_cons_succ]
                    have br17 := (brW.ext hx6).ext hx7
                    have f17 := br17.free 0
                    have e17 := br17.cell 0
                    simp at e17
                    iterate 1 (
                      refine plan_q (v := ?_) rfl rfl ?_ ?_
                      rotate_left
                      · intro x
                        go_simp
                        first | done | rfl
                      simp only [Act.put, List.getElem_toArray, List.getElem_cons_zero, List.getElem_cons_succ, List.setIfInBounds_toArray, List.set_cons_zero, List.set_cons_succ])
                    refine plan_l rfl (by kernel_rfl) ?_
                    intro K2 hK2
                    go_simp
                    refine hK2.out _ _ (by exact Tu.of_grown (setCell_grownBy _ _ _) (by rintro k e; cases e; rfl)) ?_
                    clear hK2 K2
                    try simp only [Act.put, List.getElem_toArray, List.getElem_cons_zero, List.getElem_cons_succ, List.setIfInBounds_toArray, List.set_cons_zero, List.set_cons_succ]
                    refine plan_end (hK.out _ _ ?_)
                    clear hK K
                    go_wp2_with fail
                    have TW : Tu (fun b => b = zr) w17 (w17.setCell ⟨zr, 0, none⟩ (.bool true)) := Tu.of_grown (setCell_grownBy _ _ _) (by rintro k e; cases e; rfl)
                    have br9 := br17.set_ 0 (.bool true)
                    have hrzz : w.heap.size ≤ zr := by have := HZR.out; omega
                    have hDz : D ≠ zr := by have := brz.lt; omega
                    have hKc := (hx6.blk (Array.getElem?_eq_some_iff.1 hKd).1).trans hKd
                    have hKa := (hx7.blk (Array.getElem?_eq_some_iff.1 hKc).1).trans hKc
                    have hKb := (TW.blk D (Array.getElem?_eq_some_iff.1 hKa).1 hDz).trans hKa
                    have hx9 := TW.ext_of (((T.ext_of ((hxw3.trans hN15.x).trans hxz) (fun k e => by subst e; omega)).trans hxd).trans (hx6.trans hx7)) (fun k e => by subst e; exact hrzz)
                    refine ⟨by simp, .inl ⟨_, _, rfl, run_takeDeferred hKb, ?_⟩⟩
                    generalize w17.setCell ⟨zr, 0, none⟩ (.bool true) = W9 at *
                    have k8 : Kc wz.heap.size W9 (W9.putObj D (.deferred none)) := Kc.of_put hKb rfl hD
                    have t8 : Tu (fun b => b = D) W9 (W9.putObj D (.deferred none)) := Tu.of_grown (grownBy_putObj' W9 D (.deferred none)) (by rintro k e; cases e; rfl)
                    exact ⟨_, results_b rfl _ _ zr rfl ((by simpa using br9 : Blk W9 zr 4 #[.bool true]).kc k8), rfl, t8.ext_of hx9 (fun k e => by subst e; have := brz.lt; omega)⟩
                  case stop =>
                    rintro D c pre W hD ⟨k, hk, hup⟩ hn
                    exact absurd (by rw [hup.len]; exact hup) hn

set_option maxRecDepth 100000 in
theorem lifted (os : Os) (started : os.Started) (H : Type) (enc : TypeId × Value → H) :
    ReturnsInHanded {} Try.checked os 8 .any (Rows.netTwinsSpec.pre6 enc Try.prog Try.f8 Rows.netTwinsRow.domain false) (Rows.netTwinsSpec.post enc Try.prog Try.f8 false true false false) := by
  refine returnsInHanded_of_change (C := Try.checked) own started (by kernel_rfl) Try.func8
    (ChangeSpec.witness6 (enc := enc) (C := Try.checked) false ⟨#[], #[.slice none 0 0, .slice none 0 0, .int .i64 0], []⟩ 8 (by kernel_rfl) (by kernel_rfl) (by kernel_rfl) (by kernel_rfl)) ?_
  intro W base args ds gs before hval0 hW hcnd _
  have hval : ∀ (j : Nat) t v, Try.f8.params[j]? = some t → args[j]? = some v → Value.okWide Try.prog W .any base t v := hval0
  have hW' := hW
  obtain ⟨p, q, hA0, hV, rfl, hfz, hnd⟩ := hW
  have hA : DataW.TrodAll enc Try.prog W 0 (fun _ => true) true Try.f8.params.toList args.toList ds p := hA0
  rw [Try.params8] at hA hval
  obtain ⟨v0, vs0, d0, ds0, p0, q0, hargs, rfl, rfl, h0, r0⟩ := trodAll_cons hA
  obtain ⟨v1, vs1, d1, ds1, p1, q1, rfl, rfl, rfl, h1, r1⟩ := trodAll_cons r0
  obtain ⟨v2, vs2, d2, ds2, p2, q2, rfl, rfl, rfl, h2, r2⟩ := trodAll_cons r1
  obtain ⟨rfl, rfl, rfl⟩ := trodAll_nil r2
  obtain rfl : args = #[v0, v1, v2] := by cases args; simp_all
  obtain ⟨rfl, rfl⟩ := trodVars_none hV
  obtain ⟨a0, n0, c0, rfl⟩ := okWide_slice Try.underlying22 (hval 0 22 v0 rfl rfl)
  have k0 := h0
  have lt0 : ∀ x ∈ p0, x.block < W.heap.size := by obtain ⟨m, hm⟩ := k0; exact DataW.trod_lt m _ _ _ hm
  obtain ⟨l0, w0, y0⟩ := open_acts h0
  obtain ⟨a1, n1, c1, rfl⟩ := okWide_slice Try.underlying22 (hval 1 22 v1 rfl rfl)
  have k1 := h1
  have lt1 : ∀ x ∈ p1, x.block < W.heap.size := by obtain ⟨m, hm⟩ := k1; exact DataW.trod_lt m _ _ _ hm
  obtain ⟨l1, w1, y1⟩ := open_acts h1
  obtain ⟨a2, rfl, rfl, rfl, w2⟩ := open_int Try.underlying3 (hval 2 3 v2 rfl rfl) h2
  clear hA0 hval0
  refine (walk W a0 n0 c0 l0 w0 y0 a1 n1 c1 l1 w1 y1 a2 w2).mono fun e W' ⟨he, bel⟩ => ?_
  subst he
  exact ⟨_, rfl, _, _, _, [], _, [], hW', trodAll_mk1 (shut_bool Try.underlying4 _), (trodAll_cons_mk (Below.trod laidOut (by kernel_rfl) (of_decide_eq_true (by kernel_rfl)) k0 bel lt0) (trodAll_cons_mk (Below.trod laidOut (by kernel_rfl) (of_decide_eq_true (by kernel_rfl)) k1 bel lt1) (trodAll_cons_mk (shut_int Try.underlying3 w2) trodAll_mk0))), rfl, Below.frame bel _, fun h => by cases h⟩

theorem over_ : Rows.netTwinsRow.holds Try.pinned (OpenSpec.ofChange Rows.netTwinsSpec) :=
  OpenClaim.holds_of_wide 8 Try.f8 rfl rfl rfl rfl rfl rfl rfl ⟨rfl, rfl, rfl, rfl, rfl⟩ rfl rfl rfl rfl rfl (by kernel_rfl) Try.func8 (by kernel_rfl)
    (of_decide_eq_true (by kernel_rfl)) (by unfold Func.isWrapper; first | (rw [if_pos (by decide +kernel)]; kernel_rfl) | (rw [if_neg (by decide +kernel)]; exact ⟨rfl, rfl⟩))
    (fun os started H enc _ => lifted os started H enc)

theorem proved : Rows.NetTwinsSaid := over_
end Go.Proofs.Ytekbdpfiommmbaa.lawTwins
