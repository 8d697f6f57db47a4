/- A disk's files, as they are told. Conditions: the disk is in memory as told, or there is none. -/
import Derived.Test.YtenmdhdloibemaaDcopy
namespace Go.Proofs.Ytenmdhdloibemaa
open Go.RowKit Go.Maps Go.Sort
set_option linter.unusedVariables false
set_option linter.unusedSimpArgs false

def civ (cs : List Nat) : List Value := cs.map fun (c : Nat) => .int .i64 (c : Int)
/-- the function that goes over names and counts -/
def FilesFn (w : World) (bn bc : Nat) (ns : List Nm) (cs : List Nat) (lo : Nat) : Prop :=
  ∃ A ca B cb, w.cell? ⟨bn, 0, none⟩ = some (.slice A ns.length ca) ∧ RdV w A ns.length (ns.map nv) ∧ w.cell? ⟨bc, 0, none⟩ = some (.slice B ns.length cb) ∧ RdV w B ns.length (civ cs) ∧ lo ≤ bn ∧ lo ≤ bc ∧ (∀ a, A = some a → 0 < ns.length → lo ≤ a.block) ∧ ∀ a, B = some a → 0 < ns.length → lo ≤ a.block
abbrev filesV (bn bc : Nat) : Value := .func (.func 48) #[] #[fptr bn, fptr bc]

theorem strlen (ns : List Nm) (h : ∀ n ∈ ns, mayName n = true) : ∀ n ∈ ns, n.length ≤ 32 := by
  intro n hn
  have := h n hn
  simp [mayName] at this
  omega

set_option maxRecDepth 100000 in
set_option maxHeartbeats 3200000 in
theorem files_any (w : World) (O : Ow) (d fm : Nat) (F : DataW Value) (g : DC) (h : DiskX w O d fm F g) :
    Calls Try.prog 24 #[fptr d] w fun e w' => ∃ bn bc ns, e = .returned (filesV bn bc) ∧ IsNames g ns ∧ ns.Pairwise (fun x y => x ≤ y) ∧ FilesFn w' bn bc ns (ns.map (cntOf g)) w.heap.size ∧ Ext w w' := by
  have hns := h.names
  have hx1 := (Ext.refl w).alloc (.cells #[.slice none 0 0] 81)
  have bA := Blk.new w 81 #[.slice none 0 0]
  have s1 := Lib.hid (World.size_alloc w (.cells #[.slice none 0 0] 81))
  go_enter Try.func24, Try.ntmps24
  go_upto_region 2 with fail
  generalize w.alloc (.cells #[.slice none 0 0] 81) = W1 at *
  have hx2 := (Ext.refl W1).alloc (.cells #[.slice none 0 0] 23)
  have bB := Blk.new W1 23 #[.slice none 0 0]
  have s2 := Lib.hid (World.size_alloc W1 (.cells #[.slice none 0 0] 23))
  go_upto_region 3 with fail
  generalize W1.alloc (.cells #[.slice none 0 0] 23) = W2 at *
  have hx12 := hx1.trans hx2
  have bA2 := bA.ext hx2
  have hX2 := h.ext hx12
  have c1 := hX2.blk.cell 1
  go_wp2_with fail
  refine (none_at W2 O d fm F g hX2).mono ?_
  rintro e w1 ⟨rfl, rfl⟩
  go_wp2_with fail
  refine (keys_S (some fm) W2).mono ?_
  rintro e W ⟨rfl, rfl⟩
  have hsF := h.szF
  go_wp2_with fail
  refine (sorted_S fm _ F anyR W2 hX2.mapF (by unfold maxLen; omega) (by omega)).mono ?_
  rintro e w3 ⟨v, ss, rfl, hp, hown, hnil, hx3⟩
  obtain ⟨ns, hne⟩ : ∃ ns, (ss.mergeSort fun x y => decide (x ≤ y)) = ns := ⟨_, rfl⟩
  have hlen : ss.length = ns.length := by rw [← hne, List.length_mergeSort]
  have hperm : ns.Perm (strKeys F) := by rw [← hne]; exact (List.mergeSort_perm _ _).trans hp
  have hsorted : ns.Pairwise (fun x y => x ≤ y) := by
    have : (ss.mergeSort fun x y => decide (x ≤ y)).Pairwise (fun x y => decide (x ≤ y) = true) := List.pairwise_mergeSort (fun a b c => by simp; exact List.le_trans) (fun a b => by simp; exact List.le_total a b) _
    rw [hne] at this
    exact this.imp fun h => by simpa using h
  have hnames : IsNames g ns := ⟨hperm.nodup_iff.2 hns.1.1, fun n => by rw [hperm.mem_iff, hns.1.2]⟩
  have hl32 : ns.length ≤ 32 := by rw [hperm.length_eq]; exact hns.2
  rw [hne, hlen] at hown
  obtain ⟨A, ca, rfl⟩ : ∃ A ca, v = .slice A ns.length ca := by
    rcases hown.2 with ⟨h1, h2⟩ | ⟨g, kc, cur, h1, _⟩
    · exact ⟨none, 0, by rw [h1, h2]⟩
    · exact ⟨_, kc, h1⟩
  obtain ⟨hnr, hnc, hnm, hnb⟩ := RdV.of_own (vs := ns.map nv) hown
  clear hown hnil hne hp
  have hx23 : Ext W2 w3 := ((Ext.refl W2).alloc _).trans hx3
  have bA3 := bA2.ext hx23
  have fA3 := bA3.free 0
  have cA3 := bA3.cell 0
  have bA4 := bA3.set_ 0 (.slice A ns.length ca)
  have g4 := setCell_grownBy w3 ⟨w.heap.size, 0, none⟩ (.slice A ns.length ca)
  have z1 := s1.out
  have z2 := s2.out
  have z3 := hx23.size
  have z4 := g4.size
  have hx4 : Ext w (w3.setCell ⟨w.heap.size, 0, none⟩ (.slice A ns.length ca)) := (hx12.trans hx23).grown g4 (by rintro k e; cases e; exact Nat.le_refl _)
  have bB4 := (bB.ext hx23).tu (S := fun b => b = w.heap.size) (Tu.of_grown g4 (by rintro k e; cases e; rfl)) (by omega)
  have hnr4 := hnr.keepP (w' := w3.setCell ⟨w.heap.size, 0, none⟩ (.slice A ns.length ca)) z4 (fun hpos a e hb => g4.block a.block hb (by
    have := hnb a e hpos
    simp
    omega))
  have z1h := Lib.hid z1
  have z2h := Lib.hid z2
  clear z1 z2 bA2 bA3 bA c1 hX2 hx1 hx2 bB
  go_upto_region 5 with fail
  generalize w3.setCell ⟨w.heap.size, 0, none⟩ (.slice A ns.length ca) = W4 at *
  have cA4 := bA4.cell 0
  have hX4 := h.ext hx4
  go_wp2_with fail
  have i3 : ∃ i0, Try.prog.info? 3 = some i0 ∧ i0.zero = some (.int .i64 0) ∧ i0.size = 1 ∧ i0.bytes = 8 := info_parts (show (Try.prog.info? 3).map (fun i => (i.zero, i.size, i.bytes)) = some (some (.int .i64 0), 1, 8) by kernel_rfl)
  obtain ⟨i0, hi, hz0, hz1, hz2⟩ := i3
  have q1 := z1h.out
  have q2 := z2h.out
  have qb : W1.heap.size < W4.heap.size ∧ w.heap.size < W4.heap.size := by omega
  clear q1 q2
  go_loopw [6, 18] (fun _ i wr => ∃ k, k ≤ ns.length ∧ i = .int .i64 k ∧ (∃ cv, Blk wr W1.heap.size 23 #[cv] ∧ wr.ownsRow W4.heap.size 3 1 cv k (civ ((ns.map (cntOf g)).take k))) ∧ Blk wr w.heap.size 81 #[.slice A ns.length ca] ∧ RdV wr A ns.length (ns.map nv) ∧ Ext w wr ∧ W4.heap.size ≤ wr.heap.size) (fun _ i _ => ns.length - (nOf i).toNat)
  case atStart => exact ⟨0, Nat.zero_le _, rfl, ⟨_, bB4, World.ownsRow_nil _ _ _ _⟩, by simpa using bA4, hnr4, hx4, Nat.le_refl _⟩
  case round =>
    obtain ⟨k, hk, rfl, ⟨cv, hB, hcv⟩, hA, hnr', hxr, hge⟩ := hrel
    by_cases hlt : k < ns.length
    · obtain ⟨n, hn⟩ : ∃ n, ns[k] = n := ⟨_, rfl⟩
      have hmem : n ∈ ns := by rw [← hn]; exact List.getElem_mem hlt
      obtain ⟨b, off, rfl, hb, hcell⟩ := hnr'.pos (by omega)
      have hck := hcell k (by simpa using hlt)
      have e1 : (ns.map nv)[k]'(by simpa using hlt) = nv n := by simp [hn]
      rw [e1] at hck
      have hki : (k : Int) < (ns.length : Int) := by omega
      obtain ⟨c, hcf⟩ := Option.isSome_iff_exists.1 ((hnames.2 n).1 hmem)
      have hXr := h.ext hxr
      obtain ⟨_, _, b1, m1, hsz, hc, hfu, hch, hnm', q0, q1, q2, hO⟩ := id hXr
      obtain ⟨fb, r1, r2⟩ := q1 n c hcf
      have hnl : n.length ≤ maxLen := by
        obtain ⟨n', en, hm⟩ := hnm' (sk n) (by rw [m1.has_iff, r1]; rfl)
        have e3 : n = n' := by simpa [sk] using en
        rw [← e3] at hm
        simp [mayName] at hm
        unfold maxLen
        omega
      obtain ⟨lb, sb, hX⟩ := r2.x
      obtain ⟨DL, DS, p1, p2, p3, b2, n1, n2, hL2, hS2, hf2⟩ := id hX
      have hcnt : cntOf g n = c.cnt := by simp [cntOf, hcf]
      have hdlt := h.blk.lt
      have d1 : ∀ x : Above (Tu (fun b => b = W1.heap.size ∨ W4.heap.size ≤ b)) wr.drew, x.1.cell? ⟨d, 1, none⟩ = some (.map (some fm)) := fun x => (Blk.tu (w := wr.drew) b1 x.2 (by have := z1h.out; rintro (e | e) <;> omega)).cell 1
      go_wp2_with fail
      refine wp_region_tl (Tu (fun b => b = W1.heap.size ∨ W4.heap.size ≤ b)) Ext [.q 1, .q 2, .q 3, .q 4, .q 5, .seg [0, 6, 7, 8, 9, 10, 11], .f 12, .f 13] (fun _ _ _ x y => x.trans y) (fun a => Tu.refl _ a) (fun _ _ _ x y => x.trans y) (fun _ _ x => Tu.of_ext x) (fun a => Ext.refl a) (by kernel_rfl) (by kernel_rfl) ?_
      intro K hK
      iterate 5 (
        refine tl_q (v := ?_) rfl rfl ?_ ?_
        rotate_left
        · intro x
          go_simp
          first | done | rfl
        simp only [Act.put, List.getElem_toArray, List.getElem_cons_zero, List.getElem_cons_succ, List.setIfInBounds_toArray, List.set_cons_zero, List.set_cons_succ])
      refine tl_seg (A := ?A) (fun j x u => match j with | 0 => x = cv | 6 => x = fptr fb | 7 => x = fptr fb | 8 => x = fptr fb | 9 => x = .map (some lb) | 10 => x = .int .i64 (c.cnt : Int) | _ => ∃ gg, x = .slice (some ⟨gg, 0, none⟩) 1 1 ∧ u.cell? ⟨gg, 0, none⟩ = some (.int .i64 (c.cnt : Int))) ?hA ?h0 ?hput ?hmono ?hstep ?hend
      case hA =>
        intro v
        simp only [fillT, Option.bind_some, Option.bind_none, Option.bind, List.getElem?_toArray, List.getElem?_cons_zero, List.getElem?_cons_succ, List.setIfInBounds_toArray, List.set_cons_zero, List.set_cons_succ]
        exact rfl
      case h0 => exact rfl
      case hput => repeat' (first | exact trivial | refine And.intro (fun o ho v x => by obtain rfl := Option.some.inj ho; rfl) ?_)
      case hmono => exact ⟨fun x u u' hh e => e, fun x u u' hh e => e, fun x u u' hh e => e, fun x u u' hh e => e, fun x u u' hh e => e, fun x u u' hh e => e, fun x u u' hh ⟨gg, e, o⟩ => ⟨gg, e, hh.cellSome o⟩, trivial⟩
      case hstep =>
        refine And.intro ?_ (And.intro ?_ (And.intro ?_ (And.intro ?_ (And.intro ?_ (And.intro ?_ (And.intro ?_ trivial))))))
        ·
          intro o ho
          obtain rfl := Option.some.inj ho
          clear ho
          intro v u hR hD K2 hK2
          clear hD
          rw [if_pos (by rfl)]
          have hu := (hB.ext (((Ext.refl wr).drew).trans hR)).cell 0
          go_simp
          exact hK2.out _ _ _ (Ext.refl _) rfl rfl
        ·
          intro o ho
          obtain rfl := Option.some.inj ho
          clear ho
          intro v u hR hD K2 hK2
          clear hD
          rw [if_pos (by rfl)]
          have hu := (hXr.ext (((Ext.refl wr).drew).trans hR)).look hnl
          rw [r1, Option.getD_some] at hu
          go_simp
          exact hK2.out _ _ _ (Ext.refl _) rfl rfl
        ·
          intro o ho
          obtain rfl := Option.some.inj ho
          clear ho
          intro v u hR hD K2 hK2
          have d6 : v 6 = fptr fb := hD 6 (by kernel_rfl) (by kernel_rfl)
          clear hD
          rw [if_pos (by rfl)]
          simp only [d6]
          go_simp
          refine hK2.out _ _ _ (Ext.refl _) rfl ?_
          simp only [d6]
          rfl
        ·
          intro o ho
          obtain rfl := Option.some.inj ho
          clear ho
          intro v u hR hD K2 hK2
          have d7 : v 7 = fptr fb := hD 7 (by kernel_rfl) (by kernel_rfl)
          clear hD
          rw [if_pos (by rfl)]
          simp only [d7]
          go_simp
          refine hK2.out _ _ _ (Ext.refl _) rfl ?_
          simp only [d7]
          rfl
        ·
          intro o ho
          obtain rfl := Option.some.inj ho
          clear ho
          intro v u hR hD K2 hK2
          have d8 : v 8 = fptr fb := hD 8 (by kernel_rfl) (by kernel_rfl)
          clear hD
          rw [if_pos (by rfl)]
          have hu := (b2.ext (((Ext.refl wr).drew).trans hR)).cell 0
          simp only [d8]
          go_simp
          refine hK2.out _ _ _ (Ext.refl _) rfl ?_
          simp only [d8]
          rfl
        ·
          intro o ho
          obtain rfl := Option.some.inj ho
          clear ho
          intro v u hR hD K2 hK2
          have d9 : v 9 = .map (some lb) := hD 9 (by kernel_rfl) (by kernel_rfl)
          clear hD
          rw [if_pos (by rfl)]
          have hu := (n1.ext (((Ext.refl wr).drew).trans hR)).len Try.underlying69 3
          rw [hL2.1] at hu
          simp only [d9]
          go_simp
          refine hK2.out _ _ _ (Ext.refl _) rfl ?_
          simp only [d9]
          rfl
        ·
          intro o ho
          obtain rfl := Option.some.inj ho
          clear ho
          intro v u hR hD K2 hK2
          have d10 : v 10 = .int .i64 (c.cnt : Int) := hD 10 (by kernel_rfl) (by kernel_rfl)
          clear hD
          rw [if_pos (by rfl)]
          simp only [d10]
          go_simp
          refine hK2.out _ _ _ ((Ext.refl u).alloc _) ⟨u.heap.size, rfl, (Blk.new u 3 #[.int .i64 (c.cnt : Int)]).cell 0⟩ ?_
          simp only [d10]
          rfl
      case hend =>
        intro v u hR hF
        have d0 : v 0 = cv := hF.1
        obtain ⟨gg, d11, hgg⟩ : ∃ gg, v 11 = .slice (some ⟨gg, 0, none⟩) 1 1 ∧ u.cell? ⟨gg, 0, none⟩ = some (.int .i64 (c.cnt : Int)) := hF.2.2.2.2.2.2.1
        simp only [d0, d11]
        clear hF d0 d11
        have hru : Ext wr u := ((Ext.refl wr).drew).trans hR
        have zu := hru.size
        refine tl_l rfl rfl ?_
        intro K2 hK2
        refine wp_one rfl ?_
        refine wpList_append_own_at _ rfl _ _ 23 rfl W4.heap.size 3 i0 (.int .i64 0) 1 8 Try.underlying23 hi hz0 hz1 hz2 rfl (by decide) cv k _ rfl
          (hcv.kept (hru.grownBy none) (by cases h : cv.ownBlock with | none => exact .inl rfl | some k => exact .inr (by simp))) ⟨gg, 0, none⟩ 1 1 [.int .i64 (c.cnt : Int)] rfl rfl ?_ ?_ (by unfold maxLen; omega) (by omega) (by omega) ?_
        · intro j x hx
          match j, hx with
          | 0, hx =>
            simp at hx
            subst hx
            exact hgg
          | j + 1, hx => simp at hx
        · intro x hx
          simp at hx
          subst hx
          rfl
        intro v' w7 hown7 g7 hnil7 hloc7
        show K2 _ _
        obtain ⟨g', cap', rfl⟩ := ownsRow_succ hown7
        have rown : ∀ k', cv.ownBlock = some k' → W4.heap.size ≤ k' := fun k' e => (hcv.lt k' e).1
        refine hK2.out _ _ (Tu.of_grown g7 (fun k' e => .inr (rown k' e))) ?_
        clear hK2 K2
        try simp only [Act.put, List.getElem_toArray, List.getElem_cons_zero, List.getElem_cons_succ, List.setIfInBounds_toArray, List.set_cons_zero, List.set_cons_succ]
        have T7 : Tu (fun b => W4.heap.size ≤ b) wr w7 := (Tu.of_ext hru).trans (Tu.of_grown g7 rown)
        have B7 := hB.tu T7 (by omega)
        have c7 := B7.cell 0
        have f7 := B7.free 0
        have B8 := B7.set_ 0 (.slice (some ⟨g', 0, none⟩) (k + 1) cap')
        have g8 := setCell_grownBy w7 ⟨W1.heap.size, 0, none⟩ (.slice (some ⟨g', 0, none⟩) (k + 1) cap')
        refine tl_l rfl rfl ?_
        intro K2 hK2
        go_simp
        refine hK2.out _ _ (Tu.of_grown g8 (by rintro k' e; cases e; exact .inl rfl)) ?_
        clear hK2 K2
        try simp only [Act.put, List.getElem_toArray, List.getElem_cons_zero, List.getElem_cons_succ, List.setIfInBounds_toArray, List.set_cons_zero, List.set_cons_succ]
        refine tl_end (hK.out _ _ ?_)
        clear hK K
        have z1 := z1h.out
        have z2 := z2h.out
        clear z1 z2
        go_wp2_with fail
        have z1 := z1h.out
        have z2 := z2h.out
        have z7 := T7.size
        have z8 := g8.size
        have T8 : Tu (fun b => b = W1.heap.size) w7 (w7.setCell ⟨W1.heap.size, 0, none⟩ (.slice (some ⟨g', 0, none⟩) (k + 1) cap')) := Tu.of_grown g8 (by rintro k' e; cases e; rfl)
        have hx7 : Ext w w7 := T7.ext_of hxr (fun k' h => by have := hx4.size; omega)
        refine ⟨⟨k + 1, by omega, by go_num, ⟨_, by simpa using B8, ?_⟩, (hA.tu T7 (by omega)).tu T8 (by omega), ?_, T8.ext_of hx7 (fun k' h => by omega), by omega⟩, by simp [nOf]; omega⟩
        · have e9 : civ ((ns.map (cntOf g)).take (k + 1)) = civ ((ns.map (cntOf g)).take k) ++ [.int .i64 (c.cnt : Int)] := by
            rw [List.take_add_one, List.getElem?_map, List.getElem?_eq_getElem hlt, hn]
            simp [civ, hcnt]
          rw [e9]
          refine hown7.kept g8 (.inr ?_)
          have := (hown7.lt g' rfl).1
          simp [Value.ownBlock]
          omega
        · refine (hnr'.keepP T7.size (fun hpos a e hb => T7.blk a.block hb ?_)).keepP g8.size (fun hpos a e hb => T8.blk a.block hb ?_)
          · obtain ⟨b', off', e', hb', _⟩ := hnr4.pos hpos
            rw [e] at e'
            have eb : a.block = b' := by rw [Option.some.inj e']
            omega
          · have := hnb a e hpos
            omega
    · obtain rfl : k = ns.length := by omega
      go_wp2_with fail
      go_ret
      rw [List.take_of_length_le (by simp)] at hcv
      obtain ⟨B, cb, rfl⟩ : ∃ B cb, cv = .slice B ns.length cb := by
        rcases hcv.2 with ⟨h1, h2⟩ | ⟨g, kc, cur, h1, _⟩
        · exact ⟨none, 0, by rw [h1, h2]⟩
        · exact ⟨_, kc, h1⟩
      obtain ⟨hbr, _, _, hbb⟩ := RdV.of_own hcv
      have z1 := z1h.out
      have z2 := z2h.out
      have z4' := hx4.size
      exact ⟨w.heap.size, W1.heap.size, ns, rfl, hnames, hsorted, ⟨A, ca, B, cb, hA.cell 0, hnr', hB.cell 0, hbr, Nat.le_refl _, by omega, fun a e hp => by have := hnb a e hp; omega, fun a e hp => by have := hbb a e hp; omega⟩, hxr⟩
end Go.Proofs.Ytenmdhdloibemaa
