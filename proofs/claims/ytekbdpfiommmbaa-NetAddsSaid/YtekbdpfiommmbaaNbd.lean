/- append of a flight to one of the two rows, at the operation; a drop and what stands at its place. Conditions: told at each. -/
import Derived.Test.YtekbdpfiommmbaaNbc
namespace Go.Proofs.Ytekbdpfiommmbaa
open Go.RowKit Go.Maps
set_option linter.unusedVariables false
set_option linter.unusedSimpArgs false

section
variable {w0 w w' : World} {n : Nat} {g : NC} {vi vo : Value} {is os : List Fl} {hd : List Hd}
theorem fl_news {b : Nat} {t : Fl} {p : Option Addr × Nat} (hb : Blk w b 51 #[.int .i64 t.1, .int .i64 t.2.1, .slice p.1 t.2.2.length p.2]) : ∀ (j : Nat) (u : Value), [Value.int .i64 t.1, .int .i64 t.2.1, .slice p.1 t.2.2.length p.2][j]? = some u → w.cell? ((⟨b, 0, none⟩ : Addr).add j) = some u := by
  intro j u hu
  have hadd : (⟨b, 0, none⟩ : Addr).add j = ⟨b, j, none⟩ := by unfold Addr.add; split <;> simp_all
  rw [hadd, hb.cell j]
  simpa using hu
theorem fl_one (t : Fl) (p : Option Addr × Nat) : ∀ u ∈ [Value.int .i64 t.1, .int .i64 t.2.1, .slice p.1 t.2.2.length p.2], u.oneCell' = true := by
  intro u hu
  simp at hu
  rcases hu with rfl | rfl | rfl <;> rfl
theorem bk_append {ops : Array Oper} {rest : List Oper} {o : Oper} {a : Act} {Q : Exit → Act → World → Prop} (hgd : o.guard = none) (s x : Operand)
    (ho : o.op = .call { callee := .builtin .append, args := #[s, x], argTypes := #[44, 44] })
    (h : Bk w0 w n g vi is vo os hd) (t : Fl) (p : Option Addr × Nat) (hm : .fl t p ∈ hd) (hn : is.length ≤ 100000) (b : Nat) (hb : Blk w b 51 #[.int .i64 t.1, .int .i64 t.2.1, .slice p.1 t.2.2.length p.2])
    (hs : a.eval s = vi) (hx : a.eval x = .slice (some ⟨b, 0, none⟩) 1 1)
    (k : ∀ v' w', Bk w0 w' n g v' (is ++ [t]) vo os hd → wpList Try.prog ops Q rest (a.put o.dst v') w') :
    wpList Try.prog ops Q (o :: rest) a w := by
  obtain ⟨O, fm, F, pi, po, n1, n2, n3, n4, n5, n6, n7⟩ := h
  obtain ⟨i0, hi, hz0, hz1, hz2⟩ := info_parts info_fl
  refine wpList_append_own_at _ hgd s x _ ho w0.heap.size 51 i0 (.agg #[.int .i64 0, .int .i64 0, .slice none 0 0]) 3 40 Try.underlying44 hi hz0 hz1 hz2 rfl (by decide) vi is.length (flC is pi) hs n4.2.1 ⟨b, 0, none⟩ 1 1 [.int .i64 t.1, .int .i64 t.2.1, .slice p.1 t.2.2.length p.2] hx rfl (fl_news hb) (fl_one t p) (by unfold maxLen; omega) (by omega) n3.size ?_
  intro v6 w6 row6 g6 _ loc6
  exact k v6 w6 (Bk.more n1 n2 n3 n4 n5 n6 n7 (n7 _ hm) row6 g6 loc6)
theorem bk_append2 {ops : Array Oper} {rest : List Oper} {o : Oper} {a : Act} {Q : Exit → Act → World → Prop} (hgd : o.guard = none) (s x : Operand)
    (ho : o.op = .call { callee := .builtin .append, args := #[s, x], argTypes := #[44, 44] })
    (h : Bk w0 w n g vi is vo os hd) (t : Fl) (p : Option Addr × Nat) (hm : .fl t p ∈ hd) (hn : os.length ≤ 100000) (b : Nat) (hb : Blk w b 51 #[.int .i64 t.1, .int .i64 t.2.1, .slice p.1 t.2.2.length p.2])
    (hs : a.eval s = vo) (hx : a.eval x = .slice (some ⟨b, 0, none⟩) 1 1)
    (k : ∀ v' w', Bk w0 w' n g vi is v' (os ++ [t]) hd → wpList Try.prog ops Q rest (a.put o.dst v') w') :
    wpList Try.prog ops Q (o :: rest) a w :=
  bk_append hgd s x ho h.swap t p hm hn b hb hs hx (fun v' w' hb' => k v' w' hb'.swap)
/-- Drop, behind At of the same place -/
theorem bk_drop_at (h : Bk w0 w n g vi is vo os hd) (e : Nat) (he : g.ends = (e : Int)) (p : Int) (hp : (Lit.int .i64 p).wf = true) (t : Fl) (err : Int) (ha : AtO g e p t err) :
    Calls Try.prog 24 #[fptr n, .int .i64 p] w fun x w' => ∃ g', x = .returned (.int .i64 err) ∧ Bk w0 w' n g' vi is vo os hd ∧ g'.ends = g.ends ∧ ((err = 0 ∧ (flL g e (e * e)).Perm (t :: flL g' e (e * e))) ∨ (err ≠ 0 ∧ flL g' e (e * e) = flL g e (e * e))) := by
  refine (bk_drop h e he p hp).mono ?_
  rintro x w' ⟨err', g', rfl, hB, hc⟩
  rcases ha with ⟨rfl, k, i, hs, ho, hrow⟩ | ⟨rfl, h0⟩ | ⟨rfl, h0, h1⟩
  · rcases hc with ⟨rfl, k', i', hs', rfl⟩ | ⟨_, h2, _⟩ | ⟨_, _, h2, _⟩
    · obtain ⟨rfl, rfl⟩ := hs.one hs'
      refine ⟨_, rfl, hB, rfl, .inl ⟨rfl, ?_⟩⟩
      rw [ho]
      exact flL_del g (by rw [← ho]; exact List.mem_map.2 ⟨k, List.mem_range.2 hs.1, rfl⟩) hrow
    · have := hs.lt; omega
    · have := hs.lt; omega
  · rcases hc with ⟨_, k', i', hs', _⟩ | ⟨rfl, h2, rfl⟩ | ⟨_, h2, _, _⟩
    · have := hs'.lt; omega
    · exact ⟨_, rfl, hB, rfl, .inr ⟨by decide, rfl⟩⟩
    · omega
  · rcases hc with ⟨_, k', i', hs', _⟩ | ⟨_, h2, _⟩ | ⟨rfl, h2, _, rfl⟩
    · have := hs'.lt; omega
    · omega
    · exact ⟨_, rfl, hB, rfl, .inr ⟨by decide, rfl⟩⟩
/-- Double, behind At of the same place -/
theorem bk_double_at (h : Bk w0 w n g vi is vo os hd) (e : Nat) (he : g.ends = (e : Int)) (p : Int) (hp : (Lit.int .i64 p).wf = true) (t : Fl) (err : Int) (ha : AtO g e p t err) :
    Calls Try.prog 22 #[fptr n, .int .i64 p] w fun x w' => ∃ (er : Int) (g' : NC), x = .returned (.int .i64 er) ∧ Bk w0 w' n g' vi is vo os hd ∧ g'.ends = g.ends ∧ ((er = 0 ∧ (flL g' e (e * e)).Perm (t :: flL g e (e * e))) ∨ (er ≠ 0 ∧ flL g' e (e * e) = flL g e (e * e))) := by
  refine (bk_double h e he p hp).mono ?_
  rintro x w' ⟨er, g', rfl, hB, ⟨rfl, k', i', row, hs', hrow', rfl⟩ | ⟨h0, rfl⟩⟩
  · rcases ha with ⟨rfl, k, i, hs, ho, hrow⟩ | ⟨rfl, h0⟩ | ⟨rfl, h0, h1⟩
    · obtain ⟨rfl, rfl⟩ := hs.one hs'
      have hmem : ordAt e k ∈ orderL e (e * e) := List.mem_map.2 ⟨k, List.mem_range.2 hs.1, rfl⟩
      rw [ho] at hrow' hB hmem
      simp only at hrow' hB
      rw [hrow] at hrow'
      cases hrow'
      exact ⟨0, _, rfl, hB, rfl, .inl ⟨rfl, flL_add g hmem _⟩⟩
    · have := hs'.lt; omega
    · have := hs'.lt; omega
  · exact ⟨er, _, rfl, hB, rfl, .inr ⟨h0, rfl⟩⟩
/-- what is new since a place -/
def Hd.new (lo : Nat) (w' : World) : Hd → Prop
  | .fl t p => Rd w' lo p.1 t.2.2.length t.2.2 ∧ t.2.2.length ≤ 1048576
  | .blk b ty cs => Blk w' b ty cs ∧ lo ≤ b
theorem Bk.news (h : Bk w0 w n g vi is vo os hd) (hx : Ext w w') {L : List Hd} (ht : ∀ x ∈ L, x.new w.heap.size w') : Bk w0 w' n g vi is vo os (L ++ hd) := by
  obtain ⟨O, fm, F, pi, po, h1, h2, h3, h4, h5, h6, h7⟩ := h
  have hk : ∀ k, k < w.heap.size → O k = none → w'.heap[k]? = w.heap[k]? ∧ O k = none := fun k a b => ⟨hx.blk a, b⟩
  refine ⟨O, fm, F, pi, po, h1.ext hx, h2, h3.trans hx, h4.keep hx.size hk, h5.keep hx.size hk, h6, fun x hx' => ?_⟩
  rcases List.mem_append.1 hx' with hx' | hx'
  · have hn := ht x hx'
    cases x with
    | fl t p =>
      obtain ⟨r1, r2⟩ := hn
      refine ⟨r1.low (Nat.zero_le _), r2, fun y e hp => ?_⟩
      obtain ⟨b, off, q1, q2, q3, q4⟩ := r1.pos hp
      rw [q1] at e
      cases e
      refine ⟨h1.inn.none q2, fun e => ?_, fun e => ?_⟩
      · have := (h4.2.1.lt b e).2; omega
      · have := (h5.2.1.lt b e).2; omega
    | blk b ty cs =>
      obtain ⟨hb, hlo⟩ := hn
      exact ⟨hb, h1.inn.none hlo, fun e => by have := (h4.2.1.lt b e).2; omega, fun e => by have := (h5.2.1.lt b e).2; omega⟩
  · exact Hd.keep hx.size (fun k a1 a2 a3 a4 => ⟨(hk k a1 a2).1, a2, a3, a4⟩) (h7 x hx')
/-- a row of flights that is held: its block, its flights' bytes -/
def RowHd (A : Option Addr) (ts : List Fl) (ps : List (Option Addr × Nat)) (L : List Hd) : Prop :=
  ps.length = ts.length ∧ (∀ x ∈ ts.zip ps, .fl x.1 x.2 ∈ L) ∧ (ts.length = 0 ∨ ∃ rb cs, A = some ⟨rb, 0, none⟩ ∧ .blk rb 51 cs ∈ L ∧ ∀ (j : Nat) (u : Value), (flC ts ps)[j]? = some u → cs[j]? = some u)
theorem row_blk {lo : Nat} {A : Option Addr} {k c : Nat} {cs : List Value} (h : w.ownsRow lo 51 3 (.slice A k c) k cs) (hn : 0 < k) : ∃ rb C, A = some ⟨rb, 0, none⟩ ∧ lo ≤ rb ∧ Blk w rb 51 C ∧ ∀ (j : Nat) (u : Value), cs[j]? = some u → C[j]? = some u := by
  obtain ⟨rb, e1, e2⟩ := row_cellsN h hn
  have hlt := h.lt rb (by rw [e1]; rfl)
  rcases h.2 with ⟨q1, q2⟩ | ⟨gb, cap, cur, q1, q2, q3, q4⟩
  · rw [e1] at q1
    cases q1
  · rw [e1] at q1
    cases q1
    refine ⟨_, _, e1, hlt.1, q3, fun j u hu => ?_⟩
    have hcell := e2 j u hu
    have q3' : Blk w rb 51 cur := q3
    rw [q3'.cell j] at hcell
    exact hcell
/-- all flights, in a row that is held -/
theorem bk_flights2 (h : Bk w0 w n g vi is vo os hd) (e : Nat) (he : g.ends = (e : Int)) :
    Calls Try.prog 17 #[fptr n, .int .i64 0] w fun x w' => ∃ (A : Option Addr) (c : Nat) (ps : List (Option Addr × Nat)) (L : List Hd), x = .returned (.tuple #[.slice A (flL g e (e * e)).length c, .bool true]) ∧ RowHd A (flL g e (e * e)) ps L ∧ Bk w0 w' n g vi is vo os (L ++ hd) := by
  obtain ⟨O, fm, F, pi, po, h1, h2, h3, h4, h5, h6, h7⟩ := id h
  refine (flights_any w O n fm F g h1 e he 0 (by decide)).mono ?_
  rintro x w' ⟨v, rfl, hF, hx⟩
  rw [if_neg (by omega)] at hF
  obtain ⟨ps, f1, f2, f3⟩ := hF
  obtain ⟨ts, hts⟩ : ∃ ts, flL g e (e * e) = ts := ⟨_, rfl⟩
  rw [hts] at f1 f2 f3 ⊢
  obtain ⟨A, c, rfl⟩ := own_slice f2
  have hnew : ∀ y ∈ ts.zip ps, (Hd.fl y.1 y.2).new w.heap.size w' := fun y hy => by
    obtain ⟨i, hi, e1⟩ := List.getElem_of_mem hy
    have hi2 : i < ts.length ∧ i < ps.length := by rw [List.length_zip] at hi; omega
    rw [List.getElem_zip] at e1
    obtain ⟨r1, _, _, r4, _⟩ := f3 i _ _ (List.getElem?_eq_getElem hi2.1) (List.getElem?_eq_getElem hi2.2)
    rw [← e1]
    exact ⟨r1, r4⟩
  rcases Nat.eq_zero_or_pos ts.length with h0 | h0
  · exact ⟨A, c, ps, hds (ts.zip ps), rfl, ⟨f1, fun x hx => List.mem_map.2 ⟨x, hx, rfl⟩, .inl h0⟩, h.news hx (fun x hx => by obtain ⟨y, hy, rfl⟩ := List.mem_map.1 hx; exact hnew y hy)⟩
  · obtain ⟨rb, C, e1, e2, e3, e4⟩ := row_blk f2 h0
    refine ⟨A, c, ps, .blk rb 51 C :: hds (ts.zip ps), rfl, ⟨f1, fun x hx => List.mem_cons_of_mem _ (List.mem_map.2 ⟨x, hx, rfl⟩), .inr ⟨rb, C, e1, List.mem_cons_self, e4⟩⟩, h.news hx (fun x hx => ?_)⟩
    rcases List.mem_cons.1 hx with rfl | hx
    · exact ⟨e3, e2⟩
    · obtain ⟨y, hy, rfl⟩ := List.mem_map.1 hx
      exact hnew y hy
end
end Go.Proofs.Ytekbdpfiommmbaa
