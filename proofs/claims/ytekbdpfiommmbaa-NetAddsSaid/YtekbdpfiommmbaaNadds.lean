/- NetAdds answers true. Conditions: the acts are in memory as told. -/
import Derived.Test.YtekbdpfiommmbaaNbd
import Derived.Test.YtekbdpfiommmbaaNmuch
import Derived.Test.YtekbdpfiommmbaaNbag
import Derived.Test.YtekbdpfiommmbaaNknown
namespace Go.Proofs.Ytekbdpfiommmbaa
open Go.RowKit Go.Maps
set_option linter.unusedVariables false
set_option linter.unusedSimpArgs false
attribute [local go_sem] Oper.semAt_some

theorem so_flL {g g' : NC} (he : g.ends = ((4 : Nat) : Int)) {a b er : Int} {row : Row} (h : sendOut g a b row = (er, g')) : g'.ends = g.ends ∧ ((er = 0 ∧ (flL g' 4 (4 * 4)).Perm ((a, b, row) :: flL g 4 (4 * 4))) ∨ (er ≠ 0 ∧ flL g' 4 (4 * 4) = flL g 4 (4 * 4))) := by
  unfold sendOut at h
  split at h
  · cases h
    exact ⟨rfl, .inr ⟨by decide, rfl⟩⟩
  · rename_i hno
    split at h
    · cases h
      exact ⟨rfl, .inr ⟨by decide, rfl⟩⟩
    · cases h
      refine ⟨rfl, .inl ⟨rfl, flL_add g (mem_ord ?_ ?_) row⟩⟩
      · have : g.ok a b := Decidable.byContradiction fun e => hno (.inl e)
        unfold NC.ok at this
        omega
      · have : g.ok a b := Decidable.byContradiction fun e => hno (.inl e)
        unfold NC.ok at this
        omega
set_option maxRecDepth 100000 in
set_option maxHeartbeats 6400000 in
theorem adds_any (w : World) (A : Option Addr) (len c : Nat) (l : List Ac) (hl : ActsAt w A len l) :
    Calls Try.prog 5 #[.slice A len c] w fun e w' => e = .returned (.bool true) ∧ Ext w w' := by
  go_enter Try.func5, Try.ntmps5
  go_wp2_with fail
  refine (known_any _).mono ?_
  rintro e w1 ⟨rfl, hx1⟩
  go_wp2_with fail
  refine (much_any w1 A len c l (hl.ext hx1)).mono ?_
  rintro e w2 ⟨b, rfl, hb, hx2⟩
  cases b with
  | true =>
    go_wp2_with fail
    go_ret
    exact ⟨rfl, hx1.trans hx2⟩
  | false =>
    obtain ⟨h60, h20⟩ := hb rfl
    have hl2 := hl.ext (hx1.trans hx2)
    have hll := hl.1
    have hx12 := hx1.trans hx2
    clear hb hl hx1 hx2
    go_wp2_with fail
    refine (nst_new w2 4 (by decide)).mono ?_
    rintro e w3 ⟨n, rfl, hS⟩
    have hB := Bk.of_nst hS
    clear hS
    go_wp2_with fail
    refine (num_any _ _).mono ?_
    rintro e w4 ⟨rfl, rfl⟩
    go_wp2_with fail
    go_loopw [5, 6, 7] (fun vi vo i wr => ∃ (k : Nat) (is os : List Fl) (g : NC), k ≤ len ∧ i = .int .i64 k ∧ g.ends = ((4 : Nat) : Int) ∧ Hid (is.length ≤ k ∧ is.Perm (os ++ flL g 4 (4 * 4))) ∧ Bk w2 wr n g vi is vo os []) (fun _ _ i _ => len - (nOf i).toNat)
    case atStart => exact ⟨0, [], [], _, Nat.zero_le _, rfl, rfl, Lib.hid ⟨Nat.le_refl _, by decide⟩, hB⟩
    case round =>
      obtain ⟨k, is, os, g, hk, rfl, he, hH, hB⟩ := hrel
      by_cases hlt : k < len
      · have hki : (k : Int) < (len : Int) := by omega
        obtain ⟨b, off, rfl, hb, hcell⟩ := hl2.pos (by omega)
        obtain ⟨hok, hc⟩ := hcell k (by omega)
        obtain ⟨s, hs⟩ : ∃ s, l[k]'(by omega) = s := ⟨_, rfl⟩
        rw [hs] at hok hc
        have hs' : l[k]? = some s := by rw [← hs]; exact List.getElem?_eq_getElem (by omega)
        have hxr := hB.x
        have m0 := hxr.cellSome (hc 0 (by simp [Ac.vals]))
        have m1 := hxr.cellSome (hc 1 (by simp [Ac.vals]))
        have m2 := hxr.cellSome (hc 2 (by simp [Ac.vals]))
        have m3 := hxr.cellSome (hc 3 (by simp [Ac.vals]))
        simp only [Ac.vals, List.getElem_cons_zero, List.getElem_cons_succ, Nat.add_zero] at m0 m1 m2 m3
        have hxa := (Ext.refl wr).alloc (.cells #[.int .i64 s.kind, .int .i64 s.a, .int .i64 s.b, .slice s.A s.l.length s.c] 40)
        have ba := Blk.new wr 40 #[.int .i64 s.kind, .int .i64 s.a, .int .i64 s.b, .slice s.A s.l.length s.c]
        obtain ⟨kd, hkd⟩ : ∃ kd, s.kind = kd := ⟨_, rfl⟩
        rw [hkd] at m0 hxa ba
        go_wp2_with fail
        have hB1 := hB.made hxa ba (Nat.le_refl _)
        generalize wr.alloc (.cells #[.int .i64 kd, .int .i64 s.a, .int .i64 s.b, .slice s.A s.l.length s.c] 40) = wa at *
        generalize wr.heap.size = za at *
        clear m0 m1 m2 m3 ba
        refine (bk_at hB1 4 he s.a hok.2.1).mono ?_
        rintro x w5 ⟨t, q, err, rfl, hB2, hAt⟩
        have hxf := (Ext.refl w5).alloc (.cells #[.int .i64 t.1, .int .i64 t.2.1, .slice q.1 t.2.2.length q.2] 51)
        have bf := Blk.new w5 51 #[.int .i64 t.1, .int .i64 t.2.1, .slice q.1 t.2.2.length q.2]
        have hB3 := hB2.made hxf bf (Nat.le_refl _)
        have ba := hB3.at_blk (List.mem_cons_of_mem _ (List.mem_cons_of_mem _ List.mem_cons_self))
        have m0 := ba.cell 0
        have m1 := ba.cell 1
        have m2 := ba.cell 2
        have m3 := ba.cell 3
        simp at m0 m1 m2 m3
        by_cases h1 : kd = 1
        · subst h1
          have hsl := h20 k s hs'
          obtain ⟨er, g', hso⟩ : ∃ er g', sendOut g s.a s.b s.l = (er, g') := ⟨_, _, rfl⟩
          obtain ⟨he', hcase⟩ := so_flL he hso
          go_wp2_with fail
          clear m0 m1 m2 m3 ba bf
          have hB4 := (hB3.old (t := (s.a, s.b, s.l)) (p := (s.A, s.c)) hok.2.2.2.1 (by show s.l.length ≤ 1048576; omega))
          generalize w5.alloc (.cells #[.int .i64 t.1, .int .i64 t.2.1, .slice q.1 t.2.2.length q.2] 51) = w6 at *
          generalize w5.heap.size = zf at *
          refine (bk_send hB4 s.a s.b hok.2.1 hok.2.2.1 s.A s.c s.l (hok.2.2.2.1.ext hB4.x) (by unfold maxLen; omega)).mono ?_
          rw [hso]
          rintro x w7 ⟨rfl, hB5⟩
          have hHc := Lib.hid hcase
          clear hcase hso hB hB1 hB2 hB3 hB4
          have ba := hB5.at_blk (List.mem_cons_of_mem _ (List.mem_cons_of_mem _ (List.mem_cons_of_mem _ List.mem_cons_self)))
          have m0 := ba.cell 0
          have m1 := ba.cell 1
          have m2 := ba.cell 2
          have m3 := ba.cell 3
          simp at m0 m1 m2 m3
          go_wp2_with fail
          refine (num_any _ _).mono ?_
          rintro e w8 ⟨rfl, rfl⟩
          by_cases he0 : er = 0
          · subst he0
            have hxt := (Ext.refl w7).alloc (.cells #[.int .i64 s.a, .int .i64 s.b, .slice s.A s.l.length s.c] 51)
            have bt := Blk.new w7 51 #[.int .i64 s.a, .int .i64 s.b, .slice s.A s.l.length s.c]
            obtain ⟨O, fm, F, pi, po, n1, n2, n3, n4, n5, n6, n7⟩ := hB5.ext hxt
            obtain ⟨i0, hi, hz0, hz1, hz2⟩ := info_parts info_fl
            obtain ⟨hlen, hperm⟩ := hH.out
            have hHp := Lib.hid hperm
            clear hperm
            obtain ⟨Ai, ci, eu⟩ := own_slice n4.2.1
            subst eu
            have hnews : ∀ (j : Nat) (u : Value), [Value.int .i64 s.a, .int .i64 s.b, .slice s.A s.l.length s.c][j]? = some u → (w7.alloc (.cells #[.int .i64 s.a, .int .i64 s.b, .slice s.A s.l.length s.c] 51)).cell? ((⟨w7.heap.size, 0, none⟩ : Addr).add j) = some u := by
              intro j u hu
              have hadd : (⟨w7.heap.size, 0, none⟩ : Addr).add j = ⟨w7.heap.size, j, none⟩ := by unfold Addr.add; split <;> simp_all
              rw [hadd, bt.cell j]
              simpa using hu
            have hone : ∀ u ∈ [Value.int .i64 s.a, .int .i64 s.b, .slice s.A s.l.length s.c], u.oneCell' = true := by
              intro u hu
              simp at hu
              rcases hu with rfl | rfl | rfl <;> rfl
            go_wp2_with (at_builtin; refine wpList_append_own_at _ rfl _ _ 44 rfl w2.heap.size 51 i0 (.agg #[.int .i64 0, .int .i64 0, .slice none 0 0]) 3 40 Try.underlying44 hi hz0 hz1 hz2 rfl (by decide) (.slice Ai is.length ci) is.length (flC is pi) rfl n4.2.1 ⟨w7.heap.size, 0, none⟩ 1 1 [.int .i64 s.a, .int .i64 s.b, .slice s.A s.l.length s.c] rfl rfl hnews hone (by unfold maxLen; omega) (by omega) n3.size ?_; intro v6 w6 row6 g6 _ loc6)
            have hM := Bk.more n1 n2 n3 n4 n5 n6 n7 (n7 _ List.mem_cons_self) row6 g6 loc6
            have hp2 := (hHc.out.resolve_right (fun e => e.1 rfl)).2
            refine ⟨⟨k + 1, is ++ [(s.a, s.b, s.l)], os, g', by omega, by simp, he'.trans he, Lib.hid ⟨by simp; omega, ?_⟩, hM.hold (fun x hx => by cases hx)⟩, by simp [nOf]; omega⟩
            exact List.perm_append_comm.trans ((List.Perm.cons _ hHp.out).trans (List.perm_middle.symm.trans (hp2.symm.append_left os)))
          · have hne : (er == 0) = false := by simpa using he0
            have hHe := Lib.hid he0
            clear he0
            go_wp2_with fail
            obtain ⟨hlen, hperm⟩ := hH.out
            have hp2 := (hHc.out.resolve_left (fun e => hHe.out e.1)).2
            exact ⟨⟨k + 1, is, os, g', by omega, by simp, he'.trans he, Lib.hid ⟨by omega, by rw [hp2]; exact hperm⟩, hB5.hold (fun x hx => by cases hx)⟩, by simp [nOf]; omega⟩
        · by_cases h23 : kd = 2 ∨ kd = 3
          · have hAc := Lib.hid hAt
            have hHc := Lib.hid hAt
            clear hAc
            obtain ⟨hlen, hperm⟩ := hH.out
            have hol : os.length ≤ 60 := by
              have := hperm.length_eq
              rw [List.length_append] at this
              omega
            have hHp := Lib.hid hperm
            clear hperm hAt
            have hxr' := hB3.x
            rcases h23 with rfl | rfl
            all_goals
              go_wp2_with fail
              refine (num_any _ _).mono ?_
              rintro e w8 ⟨rfl, rfl⟩
              clear m0 m1 m2 m3 ba bf
              generalize w5.alloc (.cells #[.int .i64 t.1, .int .i64 t.2.1, .slice q.1 t.2.2.length q.2] 51) = w6 at *
              generalize w5.heap.size = zf at *
              by_cases he0 : err = 0
              · subst he0
                have bf := hB3.at_blk List.mem_cons_self
                have m0 := bf.cell 0
                have m1 := bf.cell 1
                have m2 := bf.cell 2
                simp at m0 m1 m2
                have hxt := (Ext.refl w6).alloc (.cells #[.int .i64 t.1, .int .i64 t.2.1, .slice q.1 t.2.2.length q.2] 51)
                have bt := Blk.new w6 51 #[.int .i64 t.1, .int .i64 t.2.1, .slice q.1 t.2.2.length q.2]
                have hB4 := hB3.ext hxt
                go_wp2_with (at_builtin; go_loud (refine bk_append2 rfl _ _ rfl hB4 t q (by simp) (by omega) w6.heap.size bt rfl rfl ?_); intro v7 w7 hB5; have bb := hB5.at_blk (List.mem_cons_of_mem _ (List.mem_cons_of_mem _ List.mem_cons_self)); have m5 := bb.cell 1; simp at m5)
                refine (bk_drop_at hB5 4 he s.a hok.2.1 t 0 (by have := hHc.out; exact this)).mono ?_
                rintro x w9 ⟨g', rfl, hB6, he', hcase⟩
                have hp2 := Lib.hid (hcase.resolve_right (fun e => e.1 rfl)).2
                clear hcase
                go_wp2_with fail
                refine (num_any _ _).mono ?_
                rintro e w8 ⟨rfl, rfl⟩
                go_wp2_with fail
                refine (num_any _ _).mono ?_
                rintro e w8 ⟨rfl, rfl⟩
                go_wp2_with fail
                exact ⟨⟨k + 1, is, os ++ [t], g', by omega, by simp, he'.trans he, Lib.hid ⟨by omega, hHp.out.trans (((hp2.out).append_left os).trans (by rw [List.append_assoc]; exact List.Perm.refl _))⟩, hB6.hold (fun x hx => by cases hx)⟩, by simp [nOf]; omega⟩
              · have hne : (err == 0) = false := by simpa using he0
                have hHe := Lib.hid he0
                clear he0
                have ba := hB3.at_blk (List.mem_cons_of_mem _ (List.mem_cons_of_mem _ List.mem_cons_self))
                have m1 := ba.cell 1
                simp at m1
                go_wp2_with fail
                refine (bk_drop_at hB3 4 he s.a hok.2.1 t err hHc.out).mono ?_
                rintro x w9 ⟨g', rfl, hB6, he', hcase⟩
                have hp2 := Lib.hid (hcase.resolve_left (fun e => hHe.out e.1)).2
                clear hcase
                go_wp2_with fail
                refine (num_any _ _).mono ?_
                rintro e w8 ⟨rfl, rfl⟩
                go_wp2_with fail
                refine (num_any _ _).mono ?_
                rintro e w8 ⟨rfl, rfl⟩
                go_wp2_with fail
                exact ⟨⟨k + 1, is, os, g', by omega, by simp, he'.trans he, Lib.hid ⟨by omega, by rw [hp2.out]; exact hHp.out⟩, hB6.hold (fun x hx => by cases hx)⟩, by simp [nOf]; omega⟩
          · by_cases h4 : kd = 4
            · subst h4
              have hHc := Lib.hid hAt
              obtain ⟨hlen, hperm⟩ := hH.out
              have hHp := Lib.hid hperm
              clear hperm hAt
              go_wp2_with fail
              clear m0 m1 m2 m3 ba bf
              generalize w5.alloc (.cells #[.int .i64 t.1, .int .i64 t.2.1, .slice q.1 t.2.2.length q.2] 51) = w6 at *
              generalize w5.heap.size = zf at *
              refine (bk_double_at hB3 4 he s.a hok.2.1 t err hHc.out).mono ?_
              rintro x w7 ⟨er, g', rfl, hB5, he', hcase⟩
              have hHcs := Lib.hid hcase
              clear hcase
              go_wp2_with fail
              refine (num_any _ _).mono ?_
              rintro e w8 ⟨rfl, rfl⟩
              by_cases he0 : er = 0
              · subst he0
                have hp2 := Lib.hid (hHcs.out.resolve_right (fun e => e.1 rfl)).2
                have bf := hB5.at_blk List.mem_cons_self
                have m0 := bf.cell 0
                have m1 := bf.cell 1
                have m2 := bf.cell 2
                simp at m0 m1 m2
                have hxt := (Ext.refl w7).alloc (.cells #[.int .i64 t.1, .int .i64 t.2.1, .slice q.1 t.2.2.length q.2] 51)
                have bt := Blk.new w7 51 #[.int .i64 t.1, .int .i64 t.2.1, .slice q.1 t.2.2.length q.2]
                have hB6 := hB5.ext hxt
                go_wp2_with (at_builtin; go_loud (refine bk_append rfl _ _ rfl hB6 t q (by simp) (by omega) w7.heap.size bt rfl rfl ?_); intro v9 w9 hB7)
                exact ⟨⟨k + 1, is ++ [t], os, g', by omega, by simp, he'.trans he, Lib.hid ⟨by simp; omega, List.perm_append_comm.trans ((List.Perm.cons _ hHp.out).trans (List.perm_middle.symm.trans (hp2.out.symm.append_left os)))⟩, hB7.hold (fun x hx => by cases hx)⟩, by simp [nOf]; omega⟩
              · have hne : (er == 0) = false := by simpa using he0
                have hp2 := Lib.hid (hHcs.out.resolve_left (fun e => he0 e.1)).2
                clear he0
                go_wp2_with fail
                exact ⟨⟨k + 1, is, os, g', by omega, by simp, he'.trans he, Lib.hid ⟨by omega, by rw [hp2.out]; exact hHp.out⟩, hB5.hold (fun x hx => by cases hx)⟩, by simp [nOf]; omega⟩
            · by_cases h5 : kd = 5
              · subst h5
                have hHc := Lib.hid hAt
                obtain ⟨hlen, hperm⟩ := hH.out
                have hHp := Lib.hid hperm
                clear hperm hAt
                go_wp2_with fail
                clear m0 m1 m2 m3 ba bf
                generalize w5.alloc (.cells #[.int .i64 t.1, .int .i64 t.2.1, .slice q.1 t.2.2.length q.2] 51) = w6 at *
                generalize w5.heap.size = zf at *
                refine (bk_flights2 hB3 4 he).mono ?_
                rintro x w7 ⟨Al, cl, ps, L, rfl, hR, hB5⟩
                obtain ⟨fs, hfs⟩ : ∃ fs, flL g 4 (4 * 4) = fs := ⟨_, rfl⟩
                rw [hfs] at hR hHp
                have hff := Lib.hid hfs
                rw [hfs]
                clear hfs
                obtain ⟨HD, hHD⟩ : ∃ HD, L ++ (Hd.blk zf 51 #[.int .i64 t.1, .int .i64 t.2.1, .slice q.1 t.2.2.length q.2] :: Hd.fl t q :: Hd.blk za 40 #[.int .i64 5, .int .i64 s.a, .int .i64 s.b, .slice s.A s.l.length s.c] :: []) = HD := ⟨_, rfl⟩
                rw [hHD] at hB5
                have hza : Hd.blk za 40 #[.int .i64 5, .int .i64 s.a, .int .i64 s.b, .slice s.A s.l.length s.c] ∈ HD := by rw [← hHD]; exact List.mem_append_right _ (List.mem_cons_of_mem _ (List.mem_cons_of_mem _ List.mem_cons_self))
                have hL : ∀ x ∈ L, x ∈ HD := fun x hx => by rw [← hHD]; exact List.mem_append_left _ hx
                have hLL := Lib.hid hL
                have hZA := Lib.hid hza
                have hRR := Lib.hid hR
                clear hHD hL hza hR
                have hlf : os.length + fs.length ≤ 60 := by
                  have := hHp.out.length_eq
                  rw [List.length_append] at this
                  omega
                go_wp2_with fail
                go_loopw [6, 13] (fun vo' kk wr' => ∃ (j : Nat) (os' : List Fl), j ≤ fs.length ∧ kk = .int .i64 j ∧ Hid (os' = os ++ (fs.take j).filter (fun t => decide (t.2.1 = s.a))) ∧ Bk w2 wr' n g u5 is vo' os' HD) (fun _ kk _ => fs.length - (nOf kk).toNat)
                case atStart => exact ⟨0, os, Nat.zero_le _, rfl, Lib.hid (by simp), hB5⟩
                case round =>
                  obtain ⟨j, os', hj, rfl, hos', hBr⟩ := hrel
                  by_cases hjl : j < fs.length
                  · have hjI : (j : Int) < (fs.length : Int) := by omega
                    obtain ⟨hR1, hR2, hR3⟩ := hRR.out
                    obtain ⟨rb, C, rfl, hm2, hC⟩ := hR3.resolve_left (by omega)
                    have hBL := hBr.at_blk (hLL.out _ hm2)
                    have hBA := hBr.at_blk hZA.out
                    obtain ⟨y, hy⟩ : ∃ y, fs[j]? = some y := ⟨_, List.getElem?_eq_getElem hjl⟩
                    obtain ⟨p, hp⟩ : ∃ p, ps[j]? = some p := ⟨_, List.getElem?_eq_getElem (by omega)⟩
                    obtain ⟨a0, a1, a2⟩ := flC_at fs ps j y p hy hp
                    have b0 := (hBL.cell (j * 3)).trans (hC _ _ a0)
                    have b1 := (hBL.cell (j * 3 + 1)).trans (hC _ _ a1)
                    have b2 := (hBL.cell (j * 3 + 2)).trans (hC _ _ a2)
                    have b3 := hBA.cell 1
                    simp only [List.getElem?_toArray, List.getElem?_cons_succ, List.getElem?_cons_zero] at b3
                    have hyz : (y, p) ∈ fs.zip ps := List.mem_of_getElem? (i := j) (by rw [List.getElem?_zip_eq_some]; exact ⟨hy, hp⟩)
                    have hym := Lib.hid (hLL.out _ (hR2 _ hyz))
                    have hyy := Lib.hid hy
                    have hol : os'.length ≤ 100 := by
                      rw [hos'.out, List.length_append]
                      refine Nat.le_trans (Nat.add_le_add_left (Nat.le_trans (List.length_filter_le _ _) (List.length_take_le _ _)) _) ?_
                      omega
                    clear a0 a1 a2 hy hp hyz hBL hBA hC hm2 hR1 hR2 hR3
                    go_wp2_with fail
                    have hxd := (Ext.refl wr).drew
                    refine wp_region_plan Ext [(0, true), (1, true), (2, true), (3, true), (4, true), (5, true), (6, true), (7, true)] (fun _ _ _ x y => Ext.trans x y) Ext.refl (by kernel_rfl) (by kernel_rfl) ?_
                    intro K hK
                    have c0 : ∀ z : Above Ext wr.drew, z.1.cell? ⟨rb, j * 3 + 1, none⟩ = some (.int .i64 y.2.1) := fun z => (hxd.trans z.2).cellSome b1
                    have c1 : ∀ z : Above Ext wr.drew, z.1.cell? ⟨za, 1, none⟩ = some (.int .i64 s.a) := fun z => (hxd.trans z.2).cellSome b3
                    iterate 8 (
                      refine plan_q (v := ?_) rfl rfl ?_ ?_
                      rotate_left
                      · intro x
                        go_simp
                        first | done | rfl
                      simp only [Act.put, List.getElem_toArray, List.getElem_cons_zero, List.getElem_cons_succ, List.setIfInBounds_toArray, List.set_cons_zero, List.set_cons_succ])
                    refine plan_end (hK.out _ _ ?_)
                    clear hK K
                    have hBd := hBr.ext hxd
                    have hb0 := hxd.cellSome b0
                    have hb1 := hxd.cellSome b1
                    have hb2 := hxd.cellSome b2
                    clear c0 c1 b0 b1 b2 b3
                    generalize wr.drew = wd at *
                    have hxt := (Ext.refl wd).alloc (.cells #[.int .i64 y.1, .int .i64 y.2.1, .slice p.1 y.2.2.length p.2] 51)
                    have bt := Blk.new wd 51 #[.int .i64 y.1, .int .i64 y.2.1, .slice p.1 y.2.2.length p.2]
                    have hBt := hBd.ext hxt
                    by_cases hya : y.2.1 = s.a
                    · have hyb : (y.2.1 == s.a) = true := by simpa using hya
                      have hYA := Lib.hid hya
                      clear hya
                      go_wp2_with (at_builtin; go_loud (refine bk_append2 rfl _ _ rfl hBt y p hym.out (by omega) wd.heap.size bt rfl rfl ?_); intro v7 w8 hB7)
                      refine ⟨⟨j + 1, os' ++ [y], by omega, by simp, Lib.hid ?_, hB7⟩, by simp [nOf]; omega⟩
                      rw [hos'.out, List.take_add_one, hyy.out]
                      simp [List.filter_append, hYA.out]
                    · have hyb : (y.2.1 == s.a) = false := by simpa using hya
                      have hYA := Lib.hid hya
                      clear hya
                      go_wp2_with fail
                      refine ⟨⟨j + 1, os', by omega, by simp, Lib.hid ?_, hBd⟩, by simp [nOf]; omega⟩
                      rw [hos'.out, List.take_add_one, hyy.out]
                      simp [List.filter_append, hYA.out]
                  · obtain rfl : j = fs.length := by omega
                    have hBA := hBr.at_blk hZA.out
                    have b3 := hBA.cell 1
                    simp only [List.getElem?_toArray, List.getElem?_cons_succ, List.getElem?_cons_zero] at b3
                    clear hBA
                    go_wp2_with fail
                    refine (bk_clear hBr 4 he s.a hok.2.1).mono ?_
                    rintro x w8 ⟨⟨z, rfl⟩, hB7⟩
                    go_wp2_with fail
                    refine ⟨⟨k + 1, is, os', g.clr s.a, by omega, by simp, he, Lib.hid ⟨by omega, ?_⟩, hB7.hold (fun x hx => by cases hx)⟩, by simp [nOf]; omega⟩
                    have hpart := flL_part g 4 s.a
                    rw [hff.out] at hpart
                    rw [hos'.out, List.take_length, List.append_assoc]
                    exact hHp.out.trans (hpart.append_left os)
              · have e1 : (kd == 1) = false := by simpa using h1
                have e2 : (kd == 2) = false := by simpa using fun e => h23 (.inl e)
                have e3 : (kd == 3) = false := by simpa using fun e => h23 (.inr e)
                have e4 : (kd == 4) = false := by simpa using h4
                have e5 : (kd == 5) = false := by simpa using h5
                clear h1 h23 h4 h5
                obtain ⟨hlen, hperm⟩ := hH.out
                have hHp := Lib.hid hperm
                clear hperm hAt
                go_wp2_with fail
                exact ⟨⟨k + 1, is, os, g, by omega, by simp, he, Lib.hid ⟨by omega, hHp.out⟩, hB3.hold (fun x hx => by cases hx)⟩, by simp [nOf]; omega⟩
      · obtain rfl : k = len := by omega
        go_wp2_with fail
        refine (bk_flights hB 4 he).mono ?_
        rintro x w5 ⟨v, ps, rfl, f1, f2, hB2⟩
        obtain ⟨hlen, hperm⟩ := hH.out
        obtain ⟨O, fm, F, pi, po, n1, n2, n3, n4, n5, n6, n7⟩ := hB2
        obtain ⟨fs, hfs⟩ : ∃ fs, flL g 4 (4 * 4) = fs := ⟨_, rfl⟩
        rw [hfs] at f1 f2 hperm n7
        have hpl := hperm.length_eq
        rw [List.length_append] at hpl
        have hxw := hx12.trans n3
        obtain ⟨Av, cv, rfl⟩ := own_slice f2
        obtain ⟨Ao, co, eo⟩ := own_slice n5.2.1
        obtain ⟨Ai, ci, ei⟩ := own_slice n4.2.1
        subst eo ei
        obtain ⟨i0, hi, hz0, hz1, hz2⟩ := info_parts info_fl
        have hHid := Lib.hid hperm
        clear hperm
        have hsrc : ∀ ad, Av = some ad → ∀ (j : Nat) (u : Value), (flC fs ps)[j]? = some u → w5.cell? (ad.add j) = some u := by
          intro ad e j u hu
          have hpos : 0 < fs.length := by
            have := (List.getElem?_eq_some_iff.1 hu).1
            rw [flC_len _ _ f1] at this
            omega
          obtain ⟨rb, e1, e2⟩ := row_cellsN f2 hpos
          rw [e1] at e
          cases e
          have hadd : (⟨rb, 0, none⟩ : Addr).add j = ⟨rb, j, none⟩ := by unfold Addr.add; split <;> simp_all
          rw [hadd]
          exact e2 j u hu
        have hnil : Av = none → fs.length = 0 := fun e => by
          rcases Nat.eq_zero_or_pos fs.length with h | h
          · exact h
          · obtain ⟨rb, e1, _⟩ := row_cellsN f2 h
            rw [e] at e1
            cases e1
        go_wp2_with (at_builtin; go_loud (refine wpList_append_any rfl _ _ 44 rfl w2.heap.size 51 i0 (.agg #[.int .i64 0, .int .i64 0, .slice none 0 0]) 3 40 Try.underlying44 hi hz0 hz1 hz2 rfl (by decide) (.slice Ao os.length co) os.length (flC os po) rfl n5.2.1 Av fs.length cv (flC fs ps) rfl (flC_len _ _ f1) hnil hsrc (flC_one _ _) (by unfold maxLen; omega) (by omega) n3.size ?_); intro v6 w6 row6 g6 loc6; obtain ⟨A6, c6, e6⟩ := own_slice row6; subst e6)
        rw [← flC_app _ _ _ _ n5.1] at row6
        have T6 : Tu (fun k => (Value.slice Ao os.length co).ownBlock = some k) w5 w6 := Tu.of_grown g6 (fun k e => e)
        have kt : ∀ {t : Fl} {p : Option Addr × Nat}, TBo w5 O (.slice Ai is.length ci) (.slice Ao os.length co) t p → Rd w6 0 p.1 t.2.2.length t.2.2 ∧ t.2.2.length ≤ 1048576 := fun h => by
          have := TBo.keep (w' := w6) (O' := O) (vi' := .slice none 0 0) (vo' := .slice none 0 0) h T6.size (fun k a1 a2 a3 a4 => ⟨T6.blk k a1 a4, a2, by simp [Value.ownBlock], by simp [Value.ownBlock]⟩)
          exact ⟨this.1, this.2.1⟩
        have rowi := ownsRow_blk n4.2.1 (w' := w6) (fun k e => T6.blk k (n4.2.1.lt k e).2 (n6 k e))
        have hA : FlA w6 Ai is pi := by
          refine ⟨⟨n4.1, fun i t p q1 q2 => kt (n4.2.2.2 i t p q1 q2)⟩, ?_⟩
          rcases Nat.eq_zero_or_pos is.length with h | h
          · exact .inl h
          · obtain ⟨rb, e1, e2⟩ := row_cellsN rowi h
            exact .inr ⟨rb, 0, e1, (rowi.lt rb (by rw [e1]; rfl)).2, fun j u hu => by rw [Nat.zero_add]; exact e2 j u hu⟩
        have hBb : FlA w6 A6 (os ++ fs) (po ++ ps) := by
          refine ⟨⟨by rw [List.length_append, List.length_append, n5.1, f1], fun i t p q1 q2 => ?_⟩, ?_⟩
          · by_cases hio : i < os.length
            · rw [List.getElem?_append_left hio] at q1
              rw [List.getElem?_append_left (by rw [n5.1]; exact hio)] at q2
              exact kt (n5.2.2.2 i t p q1 q2)
            · rw [List.getElem?_append_right (by omega)] at q1
              rw [List.getElem?_append_right (by rw [n5.1]; omega), n5.1] at q2
              have hz : (fs.zip ps)[i - os.length]? = some (t, p) := by rw [List.getElem?_zip_eq_some]; exact ⟨q1, q2⟩
              exact kt (n7 (.fl t p) (List.mem_append_left _ (List.mem_map.2 ⟨(t, p), List.mem_of_getElem? hz, rfl⟩)))
          · rw [List.length_append]
            rcases Nat.eq_zero_or_pos (os.length + fs.length) with h | h
            · exact .inl h
            · obtain ⟨rb, e1, e2⟩ := row_cellsN row6 h
              exact .inr ⟨rb, 0, e1, (row6.lt rb (by rw [e1]; rfl)).2, fun j u hu => by rw [Nat.zero_add]; exact e2 j u hu⟩
        have hx6 : Ext w w6 := T6.ext_of hxw (fun k e => by have := (n5.2.1.lt k e).1; have := hx12.size; omega)
        have hbag := bag_any w6 Ai A6 ci c6 is (os ++ fs) pi (po ++ ps) hA hBb (by rw [List.length_append]; omega) hHid.out
        rw [List.length_append, hpl] at hbag
        refine hbag.mono ?_
        rintro x w7 ⟨rfl, hx7⟩
        go_wp2_with fail
        go_ret
        exact ⟨rfl, hx6.trans hx7⟩
end Go.Proofs.Ytekbdpfiommmbaa
