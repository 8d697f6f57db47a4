/- A net in memory; New, none, has, full, Line, Lost. Conditions: the net is in memory as told. -/
import Derived.Test.YtekbdpfiommmbaaNt
import Derived.Deep.QuietTactic
import Derived.BigQuiet
namespace Go.Proofs.Ytekbdpfiommmbaa
open Go.RowKit Go.Maps
set_option linter.unusedVariables false
set_option linter.unusedSimpArgs false

abbrev Row := List UInt8
abbrev fptr (b : Nat) : Value := .pointer (some ⟨b, 0, none⟩)
abbrev Ow := Nat → Option (Int × Int)
structure NC where
  ends : Int
  lost : Int
  L : Int → Int → List Row
def NC.ok (g : NC) (a b : Int) : Prop := 1 ≤ a ∧ 1 ≤ b ∧ a ≤ g.ends ∧ b ≤ g.ends ∧ a ≠ b
instance (g : NC) (a b : Int) : Decidable (g.ok a b) := by unfold NC.ok; infer_instance
def In (O : Ow) (w : World) : Prop := ∀ b, (O b).isSome = true → b < w.heap.size
theorem In.none {O : Ow} {w : World} (h : In O w) {b : Nat} (hb : w.heap.size ≤ b) : O b = none := by
  cases e : O b with
  | none => rfl
  | some x => have := h b (by rw [e]; rfl); omega
theorem In.ext {O : Ow} {w w' : World} (h : In O w) (hs : w.heap.size ≤ w'.heap.size) : In O w' := fun b hb => Nat.lt_of_lt_of_le (h b hb) hs
/-- nobody's bytes, in a block of bytes -/
def BO (w : World) (O : Ow) (A : Option Addr) (n : Nat) : Prop := ∀ x, A = some x → 0 < n → O x.block = none ∧ ∃ cu z, w.heap[x.block]? = some (.cells cu 5 z)
theorem BO.keep {w w' : World} {O O' : Ow} {A : Option Addr} {n lo : Nat} {l : Row} (h : BO w O A n) (hr : Rd w lo A n l) (hk : ∀ k, k < w.heap.size → O k = none → w'.heap[k]? = w.heap[k]? ∧ O' k = none) : BO w' O' A n := by
  intro x e hp
  obtain ⟨h1, cu, z, h2⟩ := h x e hp
  obtain ⟨k1, k2⟩ := hk x.block (Array.getElem?_eq_some_iff.1 h2).1 h1
  exact ⟨k2, cu, z, k1.trans h2⟩
theorem BO.ext {w w' : World} {O : Ow} {A : Option Addr} {n : Nat} (h : BO w O A n) (hx : Ext w w') : BO w' O A n := by
  intro x e hp
  obtain ⟨h1, cu, z, h2⟩ := h x e hp
  exact ⟨h1, cu, z, (hx.blk (Array.getElem?_eq_some_iff.1 h2).1).trans h2⟩
theorem BO.tu {w w' : World} {O : Ow} {S : Nat → Prop} {A : Option Addr} {n : Nat} (h : BO w O A n) (t : Tu S w w') (hS : ∀ k, S k → O k ≠ none) : BO w' O A n := by
  intro x e hp
  obtain ⟨h1, cu, z, h2⟩ := h x e hp
  exact ⟨h1, cu, z, (t.blk _ (Array.getElem?_eq_some_iff.1 h2).1 (fun hs => hS _ hs h1)).trans h2⟩
/-- the bytes of a line's flights: rows that nobody owns -/
def RowsAt (w : World) (O : Ow) (cs : List Value) (rows : List Row) : Prop :=
  cs.length = rows.length ∧ ∀ i (hi : i < rows.length), rows[i].length ≤ 1048576 ∧ ∃ A c, cs[i]? = some (.slice A rows[i].length c) ∧ Rd w 0 A rows[i].length rows[i] ∧ rows[i].length ≤ c ∧ c ≤ maxLen ∧ BO w O A rows[i].length
def LineAt (w : World) (O : Ow) (a b : Int) (o : Option Value) (rows : List Row) : Prop :=
  (o = none ∧ rows = []) ∨ ∃ v cs, o = some v ∧ (∀ k, v.ownBlock = some k → O k = some (a, b)) ∧ w.ownsRow 0 38 1 v rows.length cs ∧ RowsAt w O cs rows
/-- all lines that there may be -/
def prs : List (Int × Int) := (List.range 25).map fun m => (((m / 5 : Nat) : Int) + 1, ((m % 5 : Nat) : Int) + 1)
def SizeOk (F : DataW Value) : Prop := Maps.size F ≤ prs.countP fun p => (val F (lnk p.1 p.2)).isSome
theorem SizeOk.le {F : DataW Value} (h : SizeOk F) : Maps.size F ≤ 25 := Nat.le_trans h (by simpa [prs] using List.countP_le_length (l := prs) (p := fun p => (val F (lnk p.1 p.2)).isSome))
theorem countP_more {α : Type} {p q : α → Bool} : ∀ (l : List α), (∀ y ∈ l, p y = true → q y = true) → (∃ x ∈ l, p x = false ∧ q x = true) → l.countP p + 1 ≤ l.countP q
  | [], _, h => by obtain ⟨x, hx, _⟩ := h; cases hx
  | a :: l, h1, h2 => by
    rw [List.countP_cons, List.countP_cons]
    have hm : l.countP p ≤ l.countP q := List.countP_mono_left fun y hy => h1 y (List.mem_cons_of_mem _ hy)
    obtain ⟨x, hx, h3, h4⟩ := h2
    rcases List.mem_cons.1 hx with rfl | hx
    · rw [h3, h4]
      simp
      exact hm
    · have := countP_more l (fun y hy => h1 y (List.mem_cons_of_mem _ hy)) ⟨x, hx, h3, h4⟩
      have ha := h1 a (List.mem_cons_self ..)
      cases hp : p a with
      | true => rw [ha hp]; simp; omega
      | false => simp; split <;> omega
theorem prs_mem {a b : Int} (h1 : 1 ≤ a) (h2 : a ≤ 5) (h3 : 1 ≤ b) (h4 : b ≤ 5) : (a, b) ∈ prs := by
  refine List.mem_map.2 ⟨((a - 1) * 5 + (b - 1)).toNat, List.mem_range.2 (by omega), ?_⟩
  have e1 : ((a - 1) * 5 + (b - 1)).toNat / 5 = (a - 1).toNat := by omega
  have e2 : ((a - 1) * 5 + (b - 1)).toNat % 5 = (b - 1).toNat := by omega
  rw [e1, e2]
  ext <;> simp <;> omega
def NetX (w : World) (O : Ow) (n fm : Nat) (F : DataW Value) (g : NC) : Prop :=
  O n = some (-5, -5) ∧ O fm = some (-4, -4) ∧ Blk w n 75 #[.int .i64 g.ends, .map (some fm), .int .i64 g.lost] ∧ MapOf Try.prog w 77 fm F ∧
    (1 ≤ g.ends ∧ g.ends ≤ 5) ∧ ((Lit.int .i64 g.lost).wf = true ∧ SizeOk F) ∧ (∀ kl, Maps.has F kl = true → ∃ a b, kl = lnk a b ∧ g.ok a b) ∧
    (∀ a b, g.ok a b → LineAt w O a b (val F (lnk a b)) (g.L a b)) ∧ (∀ a b, ¬ g.ok a b → g.L a b = []) ∧ (∀ a b, (g.L a b).length ≤ 32) ∧ In O w
def NetAt (w : World) (O : Ow) (n : Nat) (g : NC) : Prop := ∃ fm F, NetX w O n fm F g
/-- no net: nil, or a zero one -/
def NoNet (w : World) (v : Value) : Prop := v = .pointer none ∨ ∃ b, v = .pointer (some ⟨b, 0, none⟩) ∧ w.cell? ⟨b, 0, none⟩ = some (.int .i64 0)
theorem NoNet.ext {w w' : World} {v : Value} (h : NoNet w v) (hx : Ext w w') : NoNet w' v := by
  rcases h with h | ⟨b, h1, h2⟩
  · exact .inl h
  · exact .inr ⟨b, h1, hx.cellSome h2⟩

section
variable {w w' : World} {O O' : Ow} {n fm : Nat} {F : DataW Value} {g : NC} {cs : List Value} {rows : List Row} {a b : Int} {o : Option Value}
theorem RowsAt.keep (h : RowsAt w O cs rows) (hs : w.heap.size ≤ w'.heap.size) (hk : ∀ k, k < w.heap.size → O k = none → w'.heap[k]? = w.heap[k]? ∧ O' k = none) : RowsAt w' O' cs rows := by
  refine ⟨h.1, fun i hi => ?_⟩
  obtain ⟨h1, A, c, h2, h3, h4, h5, h6⟩ := h.2 i hi
  rcases Nat.eq_zero_or_pos rows[i].length with h0 | h0
  · exact ⟨h1, A, c, h2, ⟨h3.1, .inl h0⟩, h4, h5, fun x e hp => by omega⟩
  · obtain ⟨k, off, q1, q2, q3, q4⟩ := h3.2.resolve_left (by omega)
    obtain ⟨r1, r2⟩ := hk k q3 (h6 _ q1 h0).1
    have h7 := h6.keep h3 hk
    refine ⟨h1, A, c, h2, ⟨h3.1, .inr ⟨k, off, q1, q2, by omega, fun j hj => ?_⟩⟩, h4, h5, h7⟩
    rw [World.cell?_of_block (w := w) r1]
    exact q4 j hj
theorem ownsRow_blk {base : Nat} {e : TypeId} {size : Nat} {v : Value} {n : Nat} {xs : List Value} (h : w.ownsRow base e size v n xs) (hk : ∀ k, v.ownBlock = some k → w'.heap[k]? = w.heap[k]?) : w'.ownsRow base e size v n xs := by
  refine ⟨h.1, h.2.imp id ?_⟩
  rintro ⟨g, cap, cur, rfl, h1, h2, h3⟩
  exact ⟨g, cap, cur, rfl, h1, (hk g rfl).trans h2, h3⟩
theorem LineAt.keep (h : LineAt w O a b o rows) (hs : w.heap.size ≤ w'.heap.size) (hr : ∀ k, k < w.heap.size → O k = some (a, b) → w'.heap[k]? = w.heap[k]? ∧ O' k = O k) (hk : ∀ k, k < w.heap.size → O k = none → w'.heap[k]? = w.heap[k]? ∧ O' k = none) : LineAt w' O' a b o rows := by
  refine h.imp id ?_
  rintro ⟨v, cs, rfl, h1, h2, h3⟩
  refine ⟨v, cs, rfl, fun k e => ?_, ownsRow_blk h2 (fun k e => (hr k (h2.lt k e).2 (h1 k e)).1), h3.keep hs hk⟩
  rw [(hr k (h2.lt k e).2 (h1 k e)).2]
  exact h1 k e
theorem NetX.keep (h : NetX w O n fm F g) (hs : w.heap.size ≤ w'.heap.size) (hk : ∀ k, k < w.heap.size → (w'.heap[k]? = w.heap[k]? ∧ O' k = O k)) (hi : In O' w') : NetX w' O' n fm F g := by
  obtain ⟨o1, o2, b1, m1, hc, hf, hn, hl, h0, h32, hO⟩ := h
  have k1 := hk n (hO n (by rw [o1]; rfl))
  have k2 := hk fm (hO fm (by rw [o2]; rfl))
  refine ⟨k1.2.trans o1, k2.2.trans o2, k1.1.trans b1, m1.keep k2.1, hc, hf, hn, fun a b hab => (hl a b hab).keep hs (fun k hk' _ => hk k hk') (fun k hk' e => ⟨(hk k hk').1, (hk k hk').2.trans e⟩), h0, h32, hi⟩
theorem NetX.ext (h : NetX w O n fm F g) (hx : Ext w w') : NetX w' O n fm F g := h.keep hx.size (fun k hk => ⟨hx.blk hk, rfl⟩) (h.2.2.2.2.2.2.2.2.2.2.ext hx.size)
theorem NetX.inn (h : NetX w O n fm F g) : In O w := h.2.2.2.2.2.2.2.2.2.2
theorem NetX.blk (h : NetX w O n fm F g) : Blk w n 75 #[.int .i64 g.ends, .map (some fm), .int .i64 g.lost] := h.2.2.1
theorem NetX.endsb (h : NetX w O n fm F g) : 1 ≤ g.ends ∧ g.ends ≤ 5 := h.2.2.2.2.1
theorem ok_wf (g : NC) (hb : g.ends ≤ 5) {a b : Int} (h : g.ok a b) : (Lit.int .i64 a).wf = true ∧ (Lit.int .i64 b).wf = true := by
  obtain ⟨h1, h2, h3, h4, _⟩ := h
  have e1 : IntKind.min .i64 = -9223372036854775808 := by kernel_rfl
  have e2 : IntKind.max .i64 = 9223372036854775807 := by kernel_rfl
  simp only [Lit.wf, Bool.and_eq_true, decide_eq_true_eq, e1, e2]
  omega
theorem zero_rows (w : World) : (zeroValue 31).run Try.prog w = .ok (.slice none 0 0) w := Try.zeroValue31 w
/-- a line, looked up -/
theorem NetX.look (h : NetX w O n fm F g) (ha : (Lit.int .i64 a).wf = true) (hb : (Lit.int .i64 b).wf = true) : ∃ v cs, (Instr.lookup 73 (.map (some fm)) (lnv a b) false).run Try.prog w = .ok v w ∧ w.ownsRow 0 38 1 v (g.L a b).length cs ∧ RowsAt w O cs (g.L a b) ∧ ∃ A c, v = .slice A (g.L a b).length c := by
  obtain ⟨o1, o2, b1, m1, hc, hf, hn, hl, h0, h32, hO⟩ := h
  have hk := m1.look law_l Try.underlying73 (zero_rows w) (key_l ha hb)
  have nilcase : g.L a b = [] → val F (lnk a b) = none → ∃ v cs, (Instr.lookup 73 (.map (some fm)) (lnv a b) false).run Try.prog w = .ok v w ∧ w.ownsRow 0 38 1 v (g.L a b).length cs ∧ RowsAt w O cs (g.L a b) ∧ ∃ A c, v = .slice A (g.L a b).length c := fun e1 e2 => by
    rw [e2, Option.getD_none] at hk
    rw [e1]
    exact ⟨_, [], hk, World.ownsRow_nil _ _ _ _, ⟨rfl, fun i hi => by simp at hi⟩, none, 0, rfl⟩
  by_cases hab : g.ok a b
  · rcases hl a b hab with ⟨e1, e2⟩ | ⟨v, cs, e1, e2, e3, e4⟩
    · exact nilcase e2 e1
    · rw [e1, Option.getD_some] at hk
      refine ⟨v, cs, hk, e3, e4, ?_⟩
      rcases e3.2 with ⟨q1, q2⟩ | ⟨r, cap, cur, q1, _⟩
      · exact ⟨none, 0, by rw [q1, q2]⟩
      · exact ⟨_, _, q1⟩
  · refine nilcase (h0 a b hab) ?_
    have : Maps.has F (lnk a b) = false := by
      rw [Bool.eq_false_iff]
      intro e
      obtain ⟨c, d, e1, e2⟩ := hn _ e
      obtain ⟨wc, wd⟩ := ok_wf g hc.2 e2
      obtain ⟨rfl, rfl⟩ := lnk_inj ha hb wc wd e1
      exact hab e2
    rw [m1.has_iff] at this
    cases e : val F (lnk a b) with
    | none => rfl
    | some x => rw [e] at this; cases this
end

theorem none_blk (w : World) (b : Nat) (k : Int) (h : w.cell? ⟨b, 0, none⟩ = some (.int .i64 k)) :
    Calls Try.prog 42 #[.pointer (some ⟨b, 0, none⟩)] w fun e w' => e = .returned (.bool (k == 0)) ∧ w = w' := by
  go_enter Try.func42, Try.ntmps42
  go_wp2_with fail
  go_ret
  exact ⟨rfl, rfl⟩
theorem none_no (w : World) (v : Value) (h : NoNet w v) : Calls Try.prog 42 #[v] w fun e w' => e = .returned (.bool true) ∧ w = w' := by
  rcases h with rfl | ⟨b, rfl, hb⟩
  · go_enter Try.func42, Try.ntmps42
    go_wp2_with fail
    go_ret
    exact ⟨rfl, rfl⟩
  · exact none_blk w b 0 hb
theorem none_at (w : World) (O : Ow) (n fm : Nat) (F : DataW Value) (g : NC) (h : NetX w O n fm F g) : Calls Try.prog 42 #[fptr n] w fun e w' => e = .returned (.bool false) ∧ w = w' := by
  refine (none_blk w n g.ends (h.blk.cell 0)).mono ?_
  rintro e w' ⟨rfl, rfl⟩
  have := h.endsb
  have e : (g.ends == 0) = false := by simp; omega
  exact ⟨by rw [e], rfl⟩

set_option maxRecDepth 100000 in
theorem line_any (w : World) (O : Ow) (n fm : Nat) (F : DataW Value) (g : NC) (h : NetX w O n fm F g) (a b : Int) (ha : (Lit.int .i64 a).wf = true) (hb : (Lit.int .i64 b).wf = true) :
    Calls Try.prog 31 #[fptr n, .int .i64 a, .int .i64 b] w fun e w' => e = .returned (.int .i64 ((g.L a b).length : Int)) ∧ w = w' := by
  obtain ⟨v, cs, hk, hrow, hR, A, c, rfl⟩ := h.look ha hb
  have c1 := h.blk.cell 1
  go_enter Try.func31, Try.ntmps31
  go_wp2_with fail
  refine (none_at w O n fm F g h).mono ?_
  rintro e w1 ⟨rfl, rfl⟩
  go_wp2_with fail
  go_ret
  exact ⟨rfl, rfl⟩
theorem line_no (w : World) (v a b : Value) (h : NoNet w v) :
    Calls Try.prog 31 #[v, a, b] w fun e w' => e = .returned (.int .i64 0) ∧ w = w' := by
  go_enter Try.func31, Try.ntmps31
  go_wp2_with fail
  refine (none_no w v h).mono ?_
  rintro e w1 ⟨rfl, rfl⟩
  go_wp2_with fail
  go_ret
  exact ⟨rfl, rfl⟩
theorem lost_any (w : World) (O : Ow) (n fm : Nat) (F : DataW Value) (g : NC) (h : NetX w O n fm F g) :
    Calls Try.prog 32 #[fptr n] w fun e w' => e = .returned (.int .i64 g.lost) ∧ w = w' := by
  have c2 := h.blk.cell 2
  go_enter Try.func32, Try.ntmps32
  go_wp2_with fail
  refine (none_at w O n fm F g h).mono ?_
  rintro e w1 ⟨rfl, rfl⟩
  go_wp2_with fail
  go_ret
  exact ⟨rfl, rfl⟩
theorem lost_no (w : World) (v : Value) (h : NoNet w v) :
    Calls Try.prog 32 #[v] w fun e w' => e = .returned (.int .i64 0) ∧ w = w' := by
  go_enter Try.func32, Try.ntmps32
  go_wp2_with fail
  refine (none_no w v h).mono ?_
  rintro e w1 ⟨rfl, rfl⟩
  go_wp2_with fail
  go_ret
  exact ⟨rfl, rfl⟩
