/- A net through a row of acts: what it is, what stays. Conditions: told at each. -/
import Derived.Test.YtekbdpfiommmbaaNsame
namespace Go.Proofs.Ytekbdpfiommmbaa
open Go.RowKit Go.Maps
set_option linter.unusedVariables false
set_option linter.unusedSimpArgs false

/-- what stays: a row of bytes, a block of cells, that no net owns -/
inductive Keep where
  | row (A : Option Addr) (r : Row)
  | blk (b : Nat) (t : TypeId) (cs : Array Value)
def Keep.holds (w0 w : World) (O : Ow) : Keep → Prop
  | .row A r => Rd w w0.heap.size A r.length r ∧ ∀ x, A = some x → 0 < r.length → O x.block = none
  | .blk b t cs => Blk w b t cs ∧ O b = none
theorem Keep.ext {w0 w w' : World} {O : Ow} (hx : Ext w w') : ∀ {k : Keep}, k.holds w0 w O → k.holds w0 w' O
  | .row _ _, h => ⟨h.1.ext hx, h.2⟩
  | .blk _ _ _, h => ⟨h.1.ext hx, h.2⟩
theorem Keep.tu {w0 w w' : World} {O O' : Ow} (a3 : Tu (Owned O) w w') (a2 : ∀ b, b < w.heap.size → O' b = O b) : ∀ {k : Keep}, k.holds w0 w O → k.holds w0 w' O'
  | .row A r, ⟨r1, r2⟩ => by
    rcases Nat.eq_zero_or_pos r.length with e0 | e0
    · exact ⟨⟨r1.1, .inl e0⟩, fun x _ e => by omega⟩
    · refine ⟨r1.tu a3 (fun x e => ?_), fun x e hp' => ?_⟩
      · rw [Owned, r2 x e e0]
        simp
      · obtain ⟨b, off, q1, q2, q3, _⟩ := r1.pos e0
        rw [q1] at e
        cases e
        exact (a2 b q3).trans (r2 _ q1 e0)
  | .blk b t cs, ⟨r1, r2⟩ => ⟨r1.tu a3 (by rw [Owned, r2]; simp), (a2 b r1.lt).trans r2⟩
def Rows (w0 w : World) (O : Ow) (L : List Keep) : Prop := ∀ p ∈ L, p.holds w0 w O
/-- from w0 on, the net at n is g; the rows of L stay -/
def NSt (w0 w : World) (n : Nat) (g : NC) (L : List Keep) : Prop := ∃ O fm F, NetX w O n fm F g ∧ (∀ b, Owned O b → w0.heap.size ≤ b) ∧ Ext w0 w ∧ Rows w0 w O L
theorem row_at {g : NC} {e k i : Nat} {a b : Int} {row : Row} (ho : ordAt e k = (a, b)) (hrow : (g.L a b)[i]? = some row) (hi : i < (g.L (ordAt e k).1 (ordAt e k).2).length) : (g.L (ordAt e k).1 (ordAt e k).2)[i] = row := by
  have : (g.L (ordAt e k).1 (ordAt e k).2)[i]? = some row := by rw [ho]; exact hrow
  rw [List.getElem?_eq_getElem hi] at this
  exact Option.some.inj this
section
variable {w0 w w' : World} {n : Nat} {g : NC} {L : List Keep}
theorem Rows.ext {O : Ow} (h : Rows w0 w O L) (hx : Ext w w') : Rows w0 w' O L := fun p hp => Keep.ext hx (h p hp)
theorem NSt.ext (h : NSt w0 w n g L) (hx : Ext w w') : NSt w0 w' n g L := by
  obtain ⟨O, fm, F, h1, h2, h3, h4⟩ := h
  exact ⟨O, fm, F, h1.ext hx, h2, h3.trans hx, h4.ext hx⟩
theorem NSt.x (h : NSt w0 w n g L) : Ext w0 w := by
  obtain ⟨O, fm, F, h1, h2, h3, h4⟩ := h
  exact h3
theorem NSt.rd (h : NSt w0 w n g L) {A : Option Addr} {row : Row} (hm : .row A row ∈ L) : Rd w 0 A row.length row := by
  obtain ⟨O, fm, F, h1, h2, h3, h4⟩ := h
  exact (h4 _ hm).1.low (Nat.zero_le _)
theorem NSt.after {O : Ow} {fm : Nat} {F : DataW Value} {g' : NC} (h1 : NetX w O n fm F g) (h2 : ∀ b, Owned O b → w0.heap.size ≤ b) (h3 : Ext w0 w) (h4 : Rows w0 w O L) (hA : After w w' O n g') : NSt w0 w' n g' L := by
  obtain ⟨O', ⟨fm', F', a1⟩, a2, a3⟩ := hA
  refine ⟨O', fm', F', a1, fun b hb => ?_, a3.ext_of h3 (fun k hk => h2 k hk), fun p hp => ?_⟩
  · by_cases e : b < w.heap.size
    · refine h2 b ?_
      rw [Owned, ← a2 b e]
      exact hb
    · have := h3.size
      omega
  · exact Keep.tu a3 a2 (h4 p hp)
theorem NSt.rows {O : Ow} {fm : Nat} {F : DataW Value} (h1 : NetX w O n fm F g) (h2 : ∀ b, Owned O b → w0.heap.size ≤ b) (h3 : Ext w0 w) (h4 : Rows w0 w O L) (a3 : Tu (Owned O) w w') : Rows w0 w' O L := fun p hp => Keep.tu a3 (fun _ _ => rfl) (h4 p hp)
/-- a row that was told since -/
theorem NSt.more (h : NSt w0 w n g L) (hx : Ext w w') {A : Option Addr} {row : Row} (hr : Rd w' w.heap.size A row.length row) : NSt w0 w' n g (.row A row :: L) := by
  obtain ⟨O, fm, F, h1, h2, h3, h4⟩ := h
  refine ⟨O, fm, F, h1.ext hx, h2, h3.trans hx, fun p hp => ?_⟩
  rcases List.mem_cons.1 hp with rfl | hp
  · refine ⟨hr.low (by have := h3.size; omega), fun x e hl => ?_⟩
    obtain ⟨b, off, q1, q2, q3, _⟩ := hr.pos hl
    have q1' : A = some ⟨b, off, none⟩ := q1
    have e' : A = some x := e
    rw [q1'] at e'
    cases e'
    exact h1.inn.none q2
  · exact h4.ext hx p hp
/-- a block that was made since -/
theorem NSt.blk (h : NSt w0 w n g L) (hx : Ext w w') {b : Nat} {t : TypeId} {cs : Array Value} (hb : Blk w' b t cs) (hlo : w.heap.size ≤ b) : NSt w0 w' n g (.blk b t cs :: L) := by
  obtain ⟨O, fm, F, h1, h2, h3, h4⟩ := h
  refine ⟨O, fm, F, h1.ext hx, h2, h3.trans hx, fun p hp => ?_⟩
  rcases List.mem_cons.1 hp with rfl | hp
  · exact ⟨hb, h1.inn.none hlo⟩
  · exact h4.ext hx p hp
theorem NSt.at_blk (h : NSt w0 w n g L) {b : Nat} {t : TypeId} {cs : Array Value} (hm : .blk b t cs ∈ L) : Blk w b t cs := by
  obtain ⟨O, fm, F, h1, h2, h3, h4⟩ := h
  exact (h4 _ hm).1
theorem nst_new (w : World) (k : Int) (hk : 1 ≤ k ∧ k ≤ 5) : Calls Try.prog 12 #[.int .i64 k] w fun e w' => ∃ n, e = .returned (.tuple #[fptr n, .int .i64 0]) ∧ NSt w w' n ⟨k, 0, fun _ _ => []⟩ [] := by
  have hwf : (Lit.int .i64 k).wf = true := by
    have e1 : IntKind.min .i64 = -9223372036854775808 := by kernel_rfl
    have e2 : IntKind.max .i64 = 9223372036854775807 := by kernel_rfl
    simp only [Lit.wf, Bool.and_eq_true, decide_eq_true_eq, e1, e2]
    omega
  refine (new_any w k hwf).mono ?_
  rintro e w' ⟨hx, ⟨_, _, n, O, rfl, ⟨fm, F, h1⟩, h2⟩ | ⟨h, _⟩⟩
  · refine ⟨n, rfl, O, fm, F, h1, fun b hb => ?_, hx, fun p hp => by cases hp⟩
    rcases Nat.lt_or_ge b w.heap.size with e | e
    · rw [Owned, h2 b e] at hb
      cases hb
    · exact e
  · exact absurd hk h
theorem nst_send (h : NSt w0 w n g L) (a b : Int) (ha : (Lit.int .i64 a).wf = true) (hb : (Lit.int .i64 b).wf = true) (B : Option Addr) (d k : Nat) (row : Row) (hk : k = row.length) (hB : Rd w 0 B k row) (hd : row.length ≤ maxLen) :
    Calls Try.prog 18 #[fptr n, .int .i64 a, .int .i64 b, .slice B k d] w fun e w' => e = .returned (.int .i64 (sendOut g a b row).1) ∧ NSt w0 w' n (sendOut g a b row).2 L := by
  subst hk
  obtain ⟨O, fm, F, h1, h2, h3, h4⟩ := h
  refine (send_any w O n fm F g h1 a b ha hb B d row hB hd).mono ?_
  rintro e w' ⟨rfl, hA⟩
  exact ⟨rfl, NSt.after h1 h2 h3 h4 hA⟩
theorem nst_len (h : NSt w0 w n g L) (e : Nat) (he : g.ends = (e : Int)) : Calls Try.prog 28 #[fptr n] w fun x w' => x = .returned (.int .i64 (cntG g e (e * e) : Nat)) ∧ NSt w0 w' n g L := by
  obtain ⟨O, fm, F, h1, h2, h3, h4⟩ := id h
  refine (len_any w O n fm F g h1 e he).mono ?_
  rintro x w' ⟨rfl, hx⟩
  rw [flV_len h1 he (e * e) (Nat.le_refl _)]
  exact ⟨rfl, h.ext hx⟩
/-- At a place where there is a flight -/
theorem nst_at (h : NSt w0 w n g L) (e : Nat) (he : g.ends = (e : Int)) (p : Int) (hp : (Lit.int .i64 p).wf = true) (k i : Nat) (hs : Spot g e p k i) (a b : Int) (row : Row) (ho : ordAt e k = (a, b)) (hrow : (g.L a b)[i]? = some row) :
    Calls Try.prog 21 #[fptr n, .int .i64 p] w fun x w' => ∃ A c, x = .returned (.tuple #[fl a b A row.length c, .int .i64 0]) ∧ NSt w0 w' n g (.row A row :: L) ∧ row.length ≤ 1048576 := by
  obtain ⟨O, fm, F, h1, h2, h3, h4⟩ := id h
  refine (at_any w O n fm F g h1 e he p hp).mono ?_
  rintro x w' ⟨⟨q1, _⟩ | ⟨_, q1, _⟩ | ⟨k', i', hk', hi', A, c, q1, rfl, r1, r2, r3, r4⟩, hx⟩
  · have := hs.lt; omega
  · have := hs.lt; omega
  · obtain ⟨rfl, rfl⟩ := hs.one (k' := k') (i' := i') ⟨hk', hi', q1⟩
    have er := row_at ho hrow hi'
    rw [er] at r1 r2 r3 ⊢
    rw [ho]
    exact ⟨A, c, rfl, h.more hx r1, r2⟩
theorem nst_take (h : NSt w0 w n g L) (e : Nat) (he : g.ends = (e : Int)) (p : Int) (hp : (Lit.int .i64 p).wf = true) (k i : Nat) (hs : Spot g e p k i) (a b : Int) (row : Row) (ho : ordAt e k = (a, b)) (hrow : (g.L a b)[i]? = some row) :
    Calls Try.prog 23 #[fptr n, .int .i64 p] w fun x w' => ∃ A c, x = .returned (.tuple #[fl a b A row.length c, .int .i64 0]) ∧ NSt w0 w' n (g.del a b i) (.row A row :: L) ∧ row.length ≤ 1048576 := by
  obtain ⟨O, fm, F, h1, h2, h3, h4⟩ := id h
  refine (take_any w O n fm F g h1 e he p hp).mono ?_
  rintro x w' (⟨q1, _⟩ | ⟨_, q1, _⟩ | ⟨k', i', hi', A, c, hs', rfl, ⟨r1, r2, r3, r4⟩, hA⟩)
  · have := hs.lt; omega
  · have := hs.lt; omega
  · obtain ⟨rfl, rfl⟩ := hs.one hs'
    have er := row_at ho hrow hi'
    rw [er] at r1 r2 r3 ⊢
    rw [ho] at hA ⊢
    refine ⟨A, c, rfl, ?_, r2⟩
    obtain ⟨⟨fm', F', a1⟩, a3⟩ := hA
    have hr4 := (NSt.rows h1 h2 h3 h4 a3)
    refine ⟨O, fm', F', a1, h2, a3.ext_of h3 (fun k hk => h2 k hk), fun q hq => ?_⟩
    rcases List.mem_cons.1 hq with rfl | hq
    · refine ⟨r1.low h3.size, fun x ex hl => ?_⟩
      obtain ⟨b', off, q1, q2, q3, _⟩ := r1.pos hl
      have q1' : A = some ⟨b', off, none⟩ := q1
      have e' : A = some x := ex
      rw [q1'] at e'
      cases e'
      exact h1.inn.none q2
    · exact hr4 q hq
theorem nst_drop (h : NSt w0 w n g L) (e : Nat) (he : g.ends = (e : Int)) (p : Int) (hp : (Lit.int .i64 p).wf = true) (hs : 0 ≤ p ∧ (cntG g e (e * e) : Int) ≤ p) :
    Calls Try.prog 24 #[fptr n, .int .i64 p] w fun x w' => x = .returned (.int .i64 6) ∧ NSt w0 w' n g L := by
  obtain ⟨O, fm, F, h1, h2, h3, h4⟩ := id h
  refine (drop_any w O n fm F g h1 e he p hp).mono ?_
  rintro x w' (⟨q1, _⟩ | ⟨_, q1, rfl, hx⟩ | ⟨k', i', hs', _⟩)
  · omega
  · exact ⟨rfl, h.ext hx⟩
  · have := hs'.lt; omega
theorem nst_double (h : NSt w0 w n g L) (e : Nat) (he : g.ends = (e : Int)) (p : Int) (hp : (Lit.int .i64 p).wf = true) (k i : Nat) (hs : Spot g e p k i) (a b : Int) (row : Row) (ho : ordAt e k = (a, b)) (hrow : (g.L a b)[i]? = some row) (hroom : (g.L a b).length < 32) :
    Calls Try.prog 22 #[fptr n, .int .i64 p] w fun x w' => x = .returned (.int .i64 0) ∧ NSt w0 w' n (g.put a b (g.L a b ++ [row])) L := by
  obtain ⟨O, fm, F, h1, h2, h3, h4⟩ := id h
  refine (double_any w O n fm F g h1 e he p hp).mono ?_
  rintro x w' (⟨q1, _⟩ | ⟨_, q1, _⟩ | ⟨k', i', hi', hs', ⟨q1, _⟩ | ⟨q1, rfl, hA⟩⟩)
  · have := hs.lt; omega
  · have := hs.lt; omega
  · obtain ⟨rfl, rfl⟩ := hs.one hs'
    rw [ho] at q1
    simp only at q1
    omega
  · obtain ⟨rfl, rfl⟩ := hs.one hs'
    have er := row_at ho hrow hi'
    rw [er, ho] at hA
    exact ⟨rfl, NSt.after h1 h2 h3 h4 hA⟩
end
