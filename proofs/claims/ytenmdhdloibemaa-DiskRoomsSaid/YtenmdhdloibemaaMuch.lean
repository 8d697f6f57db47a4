/- Have steps more than is gone through? Conditions: the steps are in memory as told. -/
import Derived.Test.YtenmdhdloibemaaDo
import Derived.Test.YtenmdhdloibemaaFlow
import Derived.Deep.CutRange
import Derived.Deep.CutBlock
namespace Go.Proofs.Ytenmdhdloibemaa
open Go.RowKit Go.Maps Go.Sort Go.Shelf
set_option linter.unusedVariables false
set_option linter.unusedSimpArgs false
attribute [local go_sem] Oper.semAt_some

theorem StepsAt.ext {w w' : World} {A : Option Addr} {len : Nat} {l : List Sp} (h : StepsAt w A len l) (hx : Ext w w') : StepsAt w' A len l := by
  refine ⟨h.1, h.2.imp id ?_⟩
  rintro ⟨b, off, h1, h2, h3⟩
  exact ⟨b, off, h1, Nat.lt_of_lt_of_le h2 hx.size, fun i hi => ⟨(h3 i hi).1.ext hx, fun j hj => hx.cellSome ((h3 i hi).2 j hj)⟩⟩
theorem StepsAt.pos {w : World} {A : Option Addr} {len : Nat} {l : List Sp} (h : StepsAt w A len l) (hn : 0 < len) : ∃ b off, A = some ⟨b, off, none⟩ ∧ b < w.heap.size ∧ ∀ i (h : i < l.length), l[i].ok w ∧ ∀ j (hj : j < l[i].vals.length), w.cell? ⟨b, off + i * 6 + j, none⟩ = some l[i].vals[j] := by
  rcases h.2 with h0 | h0
  · omega
  · exact h0

def MuchEnd (w w' : World) (len : Nat) (most : Int) (e : Ending) : Prop := ∃ b, e = .returned (.bool b) ∧ (b = false → (len : Int) ≤ most) ∧ Ext w w'
set_option maxRecDepth 100000 in
set_option maxHeartbeats 3200000 in
theorem much_any (w : World) (A : Option Addr) (len c : Nat) (l : List Sp) (hl : StepsAt w A len l) (most : Int) (h0 : 0 ≤ most) (h1 : most < 1000) :
    Calls Try.prog 7 #[.slice A len c, .int .i64 most] w fun e w' => MuchEnd w w' len most e := by
  go_enter Try.func7, Try.ntmps7
  go_wp2_with fail
  go_loopw [5, 6] (fun p i wr => ∃ (k : Nat) (z : Int), k ≤ len ∧ i = .int .i64 k ∧ p = .int .i64 z ∧ 0 ≤ z ∧ z ≤ 20000 ∧ Ext w wr) (fun _ i _ => len - (nOf i).toNat)
  case atStart => exact ⟨0, 0, Nat.zero_le _, rfl, rfl, by omega, by omega, Ext.refl _⟩
  case round =>
    obtain ⟨k, z, hk, rfl, rfl, z0, z1, hx⟩ := hrel
    by_cases hlt : k < len
    · have hki : (k : Int) < (len : Int) := by omega
      by_cases hm : (k : Int) ≤ most
      · have hlr := hl.ext hx
        obtain ⟨b, off, rfl, hb, hcell⟩ := hlr.pos (by omega)
        obtain ⟨hok, hc⟩ := hcell k (by rw [hl.1]; exact hlt)
        obtain ⟨s, hs⟩ : ∃ s, l[k]'(by rw [hl.1]; exact hlt) = s := ⟨_, rfl⟩
        rw [hs] at hok hc
        have hwd := (Ext.refl wr).drew
        have m2 : ∀ y : Above Ext wr.drew, y.1.cell? ⟨b, off + k * 6 + 2, none⟩ = some (nv s.name) := fun y => (hwd.trans y.2).cellSome (hc 2 (by simp [Sp.vals]))
        have m3 : ∀ y : Above Ext wr.drew, y.1.cell? ⟨b, off + k * 6 + 3, none⟩ = some (nv s.name2) := fun y => (hwd.trans y.2).cellSome (hc 3 (by simp [Sp.vals]))
        have m5 : ∀ y : Above Ext wr.drew, y.1.cell? ⟨b, off + k * 6 + 5, none⟩ = some (.slice s.A s.pn s.pc) := fun y => (hwd.trans y.2).cellSome (hc 5 (by simp [Sp.vals]))
        go_wp2_with fail
        refine wp_region_pl Ext [.q 0, .q 1, .q 2, .q 3, .q 4, .q 5, .q 6, .q 9, .q 10, .q 11, .q 12, .q 13, .q 14, .q 17, .q 18, .q 19, .q 20, .q 21, .q 22, .seg [7, 15, 23, 8, 16], .q 24, .q 25] (fun _ _ _ x y => (fun x y => Ext.trans x y) x y) Ext.refl (by kernel_rfl) (by kernel_rfl) ?_
        intro K hK
        iterate 19 (
          refine pl_q (v := ?_) rfl rfl ?_ ?_
          rotate_left
          · intro x
            go_simp
            first | done | rfl
          simp only [Act.put, List.getElem_toArray, List.getElem_cons_zero, List.getElem_cons_succ, List.setIfInBounds_toArray, List.set_cons_zero, List.set_cons_succ])
        obtain ⟨a1, ha1⟩ : ∃ a1 : Int, (s.name.length : Int) = a1 := ⟨_, rfl⟩
        obtain ⟨a2, ha2⟩ : ∃ a2 : Int, (s.name2.length : Int) = a2 := ⟨_, rfl⟩
        obtain ⟨a3, ha3⟩ : ∃ a3 : Int, (s.pn : Int) = a3 := ⟨_, rfl⟩
        rw [ha1, ha2, ha3]
        obtain ⟨y1, hy1⟩ : ∃ y1 : Int, min a1 20001 = y1 := ⟨_, rfl⟩
        obtain ⟨y2, hy2⟩ : ∃ y2 : Int, min a2 20001 = y2 := ⟨_, rfl⟩
        obtain ⟨y3, hy3⟩ : ∃ y3 : Int, min a3 20001 = y3 := ⟨_, rfl⟩
        obtain ⟨p1, r1⟩ : 0 ≤ y1 ∧ y1 ≤ 20001 := by omega
        obtain ⟨p2, r2⟩ : 0 ≤ y2 ∧ y2 ≤ 20001 := by omega
        obtain ⟨p3, r3⟩ : 0 ≤ y3 ∧ y3 ≤ 20001 := by omega
        clear ha1 ha2 ha3
        have v1 : IntKind.i64.wrap (z + y1) = z + y1 := by rw [IntKind.wrap_i64]; omega
        have v2 : IntKind.i64.wrap (z + y1 + y2) = z + y1 + y2 := by rw [IntKind.wrap_i64]; omega
        have v3 : IntKind.i64.wrap (z + y1 + y2 + y3) = z + y1 + y2 + y3 := by rw [IntKind.wrap_i64]; omega
        refine pl_seg (A := ?A) (fun j x u => match j with | 7 => x = .int .i64 (y1) | 15 => x = .int .i64 (y2) | 23 => x = .int .i64 (y3) | 8 => x = .int .i64 (z + y1) | _ => x = .int .i64 (z + y1 + y2)) (fun _ _ _ _ => True) ?hA ?h0 ?hput ?hmono ?hstep ?hend
        case hA =>
          intro v
          simp only [fillT, Option.bind_some, Option.bind_none, Option.bind, List.getElem?_toArray, List.getElem?_cons_zero, List.getElem?_cons_succ, List.setIfInBounds_toArray, List.set_cons_zero, List.set_cons_succ]
          exact rfl
        case h0 => exact rfl
        case hput => repeat' (first | exact trivial | refine And.intro (fun o ho v x => by obtain rfl := Option.some.inj ho; rfl) ?_)
        case hmono => exact ⟨fun x u u' hh e => e, fun x u u' hh e => e, fun x u u' hh e => e, fun x u u' hh e => e, fun x u u' hh e => e, trivial⟩
        case hstep =>
          refine And.intro ?_ (And.intro ?_ (And.intro ?_ (And.intro ?_ (And.intro ?_ trivial))))
          ·
            intro o ho
            obtain rfl := Option.some.inj ho
            clear ho
            intro v u hR hD K2 hK2
            clear hD
            rw [if_pos (by rfl)]
            go_simp
            exact hK2.out _ _ _ (Ext.refl _) (by first | rfl | rw [hy1]) (fun _ _ _ _ _ => trivial) rfl
          ·
            intro o ho
            obtain rfl := Option.some.inj ho
            clear ho
            intro v u hR hD K2 hK2
            clear hD
            rw [if_pos (by rfl)]
            go_simp
            exact hK2.out _ _ _ (Ext.refl _) (by first | rfl | rw [hy2]) (fun _ _ _ _ _ => trivial) rfl
          ·
            intro o ho
            obtain rfl := Option.some.inj ho
            clear ho
            intro v u hR hD K2 hK2
            clear hD
            rw [if_pos (by rfl)]
            go_simp
            exact hK2.out _ _ _ (Ext.refl _) (by first | rfl | rw [hy3]) (fun _ _ _ _ _ => trivial) rfl
          ·
            intro o ho
            obtain rfl := Option.some.inj ho
            clear ho
            intro v u hR hD K2 hK2
            have d7 : v 7 = .int .i64 (y1) := hD 7 (by kernel_rfl) (by kernel_rfl)
            clear hD
            rw [if_pos (by rfl)]
            simp only [d7]
            go_simp
            refine hK2.out _ _ _ (Ext.refl _) rfl (fun _ _ _ _ _ => trivial) ?_
            simp only [d7]
            rfl
          ·
            intro o ho
            obtain rfl := Option.some.inj ho
            clear ho
            intro v u hR hD K2 hK2
            have d8 : v 8 = .int .i64 (z + y1) := hD 8 (by kernel_rfl) (by kernel_rfl)
            have d15 : v 15 = .int .i64 (y2) := hD 15 (by kernel_rfl) (by kernel_rfl)
            clear hD
            rw [if_pos (by rfl)]
            simp only [d8, d15]
            go_simp
            refine hK2.out _ _ _ (Ext.refl _) rfl (fun _ _ _ _ _ => trivial) ?_
            simp only [d8, d15]
            rfl
        case hend =>
          intro v u hR hF hP
          have d7 : v 7 = .int .i64 (y1) := hF.1
          have d15 : v 15 = .int .i64 (y2) := hF.2.1
          have d23 : v 23 = .int .i64 (y3) := hF.2.2.1
          have d8 : v 8 = .int .i64 (z + y1) := hF.2.2.2.1
          have d16 : v 16 = .int .i64 (z + y1 + y2) := hF.2.2.2.2.1
          simp only [d7, d8, d15, d16, d23]
          clear hF hP d7 d8 d15 d16 d23
          have hru : Ext w u := (hx.trans hwd).trans hR
          iterate 2 (
            refine pl_q (v := ?_) rfl rfl ?_ ?_
            rotate_left
            · intro x
              go_simp
              first | done | rfl
            simp only [Act.put, List.getElem_toArray, List.getElem_cons_zero, List.getElem_cons_succ, List.setIfInBounds_toArray, List.set_cons_zero, List.set_cons_succ])
          refine pl_end (hK.out _ _ ?_)
          clear hK K
          by_cases hg : 20000 < z + y1 + y2 + y3
          · go_wp2_with fail
            go_ret
            exact ⟨_, rfl, fun h => by simp at h, hru⟩
          · go_wp2_with fail
            exact ⟨⟨k + 1, _, by omega, by simp, rfl, by omega, by omega, hru⟩, by simp [nOf]; omega⟩
      · go_wp2_with fail
        go_ret
        exact ⟨_, rfl, fun h => by simpa using h, hx⟩
    · obtain rfl : k = len := by omega
      go_wp2_with fail
      go_ret
      exact ⟨_, rfl, fun h => by simpa using h, hx⟩
end Go.Proofs.Ytenmdhdloibemaa
