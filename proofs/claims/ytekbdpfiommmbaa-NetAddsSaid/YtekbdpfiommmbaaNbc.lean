/- What a net's functions do, its books beside it. Conditions: told at each. -/
import Derived.Test.YtekbdpfiommmbaaNbk
import Derived.Test.YtekbdpfiommmbaaNperm
namespace Go.Proofs.Ytekbdpfiommmbaa
open Go.RowKit Go.Maps
set_option linter.unusedVariables false
set_option linter.unusedSimpArgs false

section
variable {w0 w w' : World} {n : Nat} {g : NC} {vi vo : Value} {is os : List Fl} {hd : List Hd}
theorem Bk.of_nst {L : List Keep} (h : NSt w0 w n g L) : Bk w0 w n g (.slice none 0 0) [] (.slice none 0 0) [] [] := by
  obtain ⟨O, fm, F, h1, h2, h3, h4⟩ := h
  have hf : Hf w0 w O (.slice none 0 0) (.slice none 0 0) (.slice none 0 0) [] [] := ⟨rfl, World.ownsRow_nil _ _ _ _, (fun b e => by cases e), (fun i t p e1 => by simp at e1)⟩
  exact ⟨O, fm, F, [], [], h1, h2, h3, hf, hf, (fun b e => by cases e), (fun x hx => by cases hx)⟩
theorem bk_send (h : Bk w0 w n g vi is vo os hd) (a b : Int) (ha : (Lit.int .i64 a).wf = true) (hb : (Lit.int .i64 b).wf = true) (B : Option Addr) (d : Nat) (row : Row) (hB : Rd w 0 B row.length row) (hd' : row.length ≤ maxLen) :
    Calls Try.prog 18 #[fptr n, .int .i64 a, .int .i64 b, .slice B row.length d] w fun e w' => e = .returned (.int .i64 (sendOut g a b row).1) ∧ Bk w0 w' n (sendOut g a b row).2 vi is vo os hd := by
  obtain ⟨O, fm, F, pi, po, h1, h2, h3, h4, h5, h6, h7⟩ := h
  refine (send_any w O n fm F g h1 a b ha hb B d row hB hd').mono ?_
  rintro e w' ⟨rfl, hA⟩
  exact ⟨rfl, Bk.after h1 h2 h3 h4 h5 h6 h7 hA⟩
/-- what At answers -/
def AtO (g : NC) (e : Nat) (p : Int) (t : Fl) (err : Int) : Prop := (err = 0 ∧ ∃ k i, Spot g e p k i ∧ ordAt e k = (t.1, t.2.1) ∧ (g.L t.1 t.2.1)[i]? = some t.2.2) ∨ (err = 2 ∧ p < 0) ∨ (err = 6 ∧ 0 ≤ p ∧ (cntG g e (e * e) : Int) ≤ p)
theorem bk_at (h : Bk w0 w n g vi is vo os hd) (e : Nat) (he : g.ends = (e : Int)) (p : Int) (hp : (Lit.int .i64 p).wf = true) :
    Calls Try.prog 21 #[fptr n, .int .i64 p] w fun x w' => ∃ (t : Fl) (q : Option Addr × Nat) (err : Int), x = .returned (.tuple #[fl t.1 t.2.1 q.1 t.2.2.length q.2, .int .i64 err]) ∧ Bk w0 w' n g vi is vo os (.fl t q :: hd) ∧ AtO g e p t err := by
  obtain ⟨O, fm, F, pi, po, h1, h2, h3, h4, h5, h6, h7⟩ := id h
  refine (at_any w O n fm F g h1 e he p hp).mono ?_
  rintro x w' ⟨⟨q1, rfl⟩ | ⟨q0, q1, rfl⟩ | ⟨k, i, hk, hi, A, c, q1, rfl, r1, r2, r3, r4⟩, hx⟩
  · exact ⟨(0, 0, []), (none, 0), 2, rfl, h.fresh hx (ts := [((0, 0, []), (none, 0))]) (fun x hx => by simp at hx; subst hx; exact ⟨Rd.nil _ _ _, by simp⟩), .inr (.inl ⟨rfl, q1⟩)⟩
  · exact ⟨(0, 0, []), (none, 0), 6, rfl, h.fresh hx (ts := [((0, 0, []), (none, 0))]) (fun x hx => by simp at hx; subst hx; exact ⟨Rd.nil _ _ _, by simp⟩), .inr (.inr ⟨rfl, q0, q1⟩)⟩
  · refine ⟨((ordAt e k).1, (ordAt e k).2, (g.L (ordAt e k).1 (ordAt e k).2)[i]), (A, c), 0, rfl, h.fresh hx (ts := [(((ordAt e k).1, (ordAt e k).2, (g.L (ordAt e k).1 (ordAt e k).2)[i]), (A, c))]) (fun x hx => by simp at hx; subst hx; exact ⟨r1, r2⟩), .inl ⟨rfl, k, i, ⟨hk, hi, q1⟩, rfl, List.getElem?_eq_getElem hi⟩⟩
theorem bk_drop (h : Bk w0 w n g vi is vo os hd) (e : Nat) (he : g.ends = (e : Int)) (p : Int) (hp : (Lit.int .i64 p).wf = true) :
    Calls Try.prog 24 #[fptr n, .int .i64 p] w fun x w' => ∃ (err : Int) (g' : NC), x = .returned (.int .i64 err) ∧ Bk w0 w' n g' vi is vo os hd ∧ ((err = 0 ∧ ∃ k i, Spot g e p k i ∧ g' = g.del (ordAt e k).1 (ordAt e k).2 i) ∨ (err = 2 ∧ p < 0 ∧ g' = g) ∨ (err = 6 ∧ 0 ≤ p ∧ (cntG g e (e * e) : Int) ≤ p ∧ g' = g)) := by
  obtain ⟨O, fm, F, pi, po, h1, h2, h3, h4, h5, h6, h7⟩ := id h
  refine (drop_any w O n fm F g h1 e he p hp).mono ?_
  rintro x w' (⟨q1, rfl, hx⟩ | ⟨q0, q1, rfl, hx⟩ | ⟨k, i, hs, rfl, hA⟩)
  · exact ⟨2, g, rfl, h.ext hx, .inr (.inl ⟨rfl, q1, rfl⟩)⟩
  · exact ⟨6, g, rfl, h.ext hx, .inr (.inr ⟨rfl, q0, q1, rfl⟩)⟩
  · exact ⟨0, _, rfl, Bk.after h1 h2 h3 h4 h5 h6 h7 hA.to, .inl ⟨rfl, k, i, hs, rfl⟩⟩
theorem bk_double (h : Bk w0 w n g vi is vo os hd) (e : Nat) (he : g.ends = (e : Int)) (p : Int) (hp : (Lit.int .i64 p).wf = true) :
    Calls Try.prog 22 #[fptr n, .int .i64 p] w fun x w' => ∃ (err : Int) (g' : NC), x = .returned (.int .i64 err) ∧ Bk w0 w' n g' vi is vo os hd ∧ ((err = 0 ∧ ∃ k i row, Spot g e p k i ∧ (g.L (ordAt e k).1 (ordAt e k).2)[i]? = some row ∧ g' = g.put (ordAt e k).1 (ordAt e k).2 (g.L (ordAt e k).1 (ordAt e k).2 ++ [row])) ∨ (err ≠ 0 ∧ g' = g)) := by
  obtain ⟨O, fm, F, pi, po, h1, h2, h3, h4, h5, h6, h7⟩ := id h
  refine (double_any w O n fm F g h1 e he p hp).mono ?_
  rintro x w' (⟨q1, rfl, hx⟩ | ⟨q0, q1, rfl, hx⟩ | ⟨k, i, hi, hs, ⟨q1, rfl, hx⟩ | ⟨q1, rfl, hA⟩⟩)
  · exact ⟨2, g, rfl, h.ext hx, .inr ⟨by decide, rfl⟩⟩
  · exact ⟨6, g, rfl, h.ext hx, .inr ⟨by decide, rfl⟩⟩
  · exact ⟨5, g, rfl, h.ext hx, .inr ⟨by decide, rfl⟩⟩
  · exact ⟨0, _, rfl, Bk.after h1 h2 h3 h4 h5 h6 h7 hA, .inl ⟨rfl, k, i, _, hs, List.getElem?_eq_getElem hi, rfl⟩⟩
theorem bk_clear (h : Bk w0 w n g vi is vo os hd) (e : Nat) (he : g.ends = (e : Int)) (k : Int) (hk : (Lit.int .i64 k).wf = true) :
    Calls Try.prog 25 #[fptr n, .int .i64 k] w fun x w' => (∃ z : Int, x = .returned (.int .i64 z)) ∧ Bk w0 w' n (g.clr k) vi is vo os hd := by
  obtain ⟨O, fm, F, pi, po, h1, h2, h3, h4, h5, h6, h7⟩ := id h
  refine (clear_any w O n fm F g h1 e he k hk).mono ?_
  rintro x w' ⟨rfl, hA⟩
  exact ⟨⟨_, rfl⟩, Bk.after h1 h2 h3 h4 h5 h6 h7 hA.to⟩
theorem bk_flights (h : Bk w0 w n g vi is vo os hd) (e : Nat) (he : g.ends = (e : Int)) :
    Calls Try.prog 17 #[fptr n, .int .i64 0] w fun x w' => ∃ (v : Value) (ps : List (Option Addr × Nat)), x = .returned (.tuple #[v, .bool true]) ∧ ps.length = (flL g e (e * e)).length ∧ w'.ownsRow w.heap.size 51 3 v (flL g e (e * e)).length (flC (flL g e (e * e)) ps) ∧ Bk w0 w' n g vi is vo os (hds ((flL g e (e * e)).zip ps) ++ hd) := by
  obtain ⟨O, fm, F, pi, po, h1, h2, h3, h4, h5, h6, h7⟩ := id h
  refine (flights_any w O n fm F g h1 e he 0 (by decide)).mono ?_
  rintro x w' ⟨v, rfl, hF, hx⟩
  rw [if_neg (by omega)] at hF
  obtain ⟨ps, f1, f2, f3⟩ := hF
  refine ⟨v, ps, rfl, f1, f2, h.fresh hx (fun y hy => ?_)⟩
  obtain ⟨i, hi, e1⟩ := List.getElem_of_mem hy
  have hi2 : i < (flL g e (e * e)).length ∧ i < ps.length := by rw [List.length_zip] at hi; omega
  rw [List.getElem_zip] at e1
  obtain ⟨r1, _, _, r4, _⟩ := f3 i _ _ (List.getElem?_eq_getElem hi2.1) (List.getElem?_eq_getElem hi2.2)
  rw [← e1]
  exact ⟨r1, r4⟩
end
end Go.Proofs.Ytekbdpfiommmbaa
