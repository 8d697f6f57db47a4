/- append of a row that may be nil; rows of flights: read, set, cut; bags. Conditions: as each theorem says. -/
import Derived.Test.YtekbdpfiommmbaaNflt
import Derived.Laws.OwnMore
import Derived.Maps.AppendAt
namespace Go.Proofs.Ytekbdpfiommmbaa
open Go.RowKit Go.Maps
set_option linter.unusedVariables false
set_option linter.unusedSimpArgs false

theorem wpList_append_any {P : Program} {w : World} {ops : Array Oper} {rest : List Oper} {o : Oper} {a : Act} {Q : Exit → Act → World → Prop} (hw : Region.wanted o (yielded ops a.tmps) = true) (s x : Operand) (t : TypeId)
    (ho : o.op = .call { callee := .builtin .append, args := #[s, x], argTypes := #[t, t] })
    (base : Nat) (e : TypeId) (i : TypeInfo) (z : Value) (size bytes : Nat) (ht : P.underlying t = some (.slice e)) (hi : P.info? e = some i) (hz : i.zero = some z)
    (hsize : i.size = size) (hby : i.bytes = bytes) (hzs : z.cells.size = size) (hsz : 0 < size)
    (v : Value) (n : Nat) (xs : List Value) (hs : a.eval s = v) (hown : w.ownsRow base e size v n xs)
    (B : Option Addr) (m c : Nat) (news : List Value) (hx : a.eval x = .slice B m c) (hl : news.length = m * size) (hB : B = none → m = 0) (hnews : ∀ ad, B = some ad → ∀ j u, news[j]? = some u → w.cell? (ad.add j) = some u) (h1 : ∀ u ∈ news, u.oneCell' = true)
    (h63 : n + m ≤ maxLen) (hbytes : (n + m) * bytes ≤ 140737488355328) (hbase : base ≤ w.heap.size)
    (h : ∀ v' w', w'.ownsRow base e size v' (n + m) (xs ++ news) → w.grownBy w' v.ownBlock → (v'.ownBlock = v.ownBlock ∨ v'.ownBlock = some w.heap.size) → wpList P ops Q rest (a.put o.dst v') w') : wpList P ops Q (o :: rest) a w := by
  refine wpList_step fun K hK => ?_
  rw [if_pos hw]
  have key : ∃ v' w', (Builtin.append_ #[t, t] o.type #[v, .slice B m c]).run P w = .ok v' w' ∧ w'.ownsRow base e size v' (n + m) (xs ++ news) ∧ w.grownBy w' v.ownBlock ∧ (v'.ownBlock = v.ownBlock ∨ v'.ownBlock = some w.heap.size) := by
    rcases B with _ | ad
    · obtain rfl := hB rfl
      have hk : news = [] := List.eq_nil_of_length_eq_zero (by simpa using hl)
      subst hk
      refine ⟨v, w, ?_, by rw [List.append_nil]; exact hown, World.grownBy.refl w _, .inl rfl⟩
      rcases hown.2 with ⟨rfl, rfl⟩ | ⟨g, cap, cur, rfl, _, _, hnc, _⟩
      · simp [Builtin.append_, run_underlying ht, sizeOf, typeInfo, hi, Builtin.lenOf, Builtin.firstCells]
      · simp [Builtin.append_, run_underlying ht, sizeOf, typeInfo, hi, Builtin.lenOf, Builtin.firstCells, hnc, storeCells]
    · obtain ⟨v', w', h1, h2, h3, _, h4⟩ := run_append_own_at (P := P) w base t o.type e i z size bytes ht hi hz hsize hby hzs hsz v n xs hown ad m c news hl (hnews ad rfl) h1 h63 hbytes hbase
      exact ⟨v', w', h1, h2, h3, h4⟩
  obtain ⟨v', w', h1, h2, h3, h4⟩ := key
  unfold Oper.wp execOp
  simp only [ho, resolve, invoke, builtin, Sem.run_bind, Sem.run_pure, Result.andThen_ok, List.map_toArray, List.map_cons, List.map_nil, hs, hx, h1]
  exact hK _ _ (h v' w' h2 h3 h4)

/-- a row that is cut -/
theorem ownsRow_cut {w : World} {base : Nat} {e : TypeId} {size : Nat} {A : Option Addr} {n m c : Nat} {xs : List Value} (h : w.ownsRow base e size (.slice A n c) n xs) (hm : m ≤ n) : w.ownsRow base e size (.slice A m c) m (xs.take (m * size)) := by
  have hms : m * size ≤ n * size := Nat.mul_le_mul_right _ hm
  refine ⟨by rw [List.length_take, h.1]; omega, ?_⟩
  rcases h.2 with ⟨e1, rfl⟩ | ⟨g, cap, cur, e1, e2, e3, e4, e5, e6, e7⟩
  · obtain rfl : m = 0 := by omega
    exact .inl ⟨e1, rfl⟩
  · cases e1
    refine .inr ⟨g, c, cur, rfl, e2, e3, by omega, e5, e6, ?_⟩
    rw [← e7, List.take_take, Nat.min_eq_left hms]
theorem row_cellsN {w : World} {base size : Nat} {t : TypeId} {A : Option Addr} {n c : Nat} {cs : List Value} (h : w.ownsRow base t size (.slice A n c) n cs) (hn : 0 < n) : ∃ rb, A = some ⟨rb, 0, none⟩ ∧ ∀ (j : Nat) (u : Value), cs[j]? = some u → w.cell? ⟨rb, j, none⟩ = some u := by
  rcases h.2 with ⟨_, h0⟩ | ⟨g, cap, cur, e1, _⟩
  · omega
  · cases e1
    refine ⟨g, rfl, fun j u hu => ?_⟩
    have hadd : (⟨g, 0, none⟩ : Addr).add j = ⟨g, j, none⟩ := by unfold Addr.add; split <;> simp_all
    have := h.cells (g := g) rfl j u hu
    rwa [hadd] at this
/-- flights that are read -/
def FlB (w : World) (ts : List (Int × Int × Row)) (ps : List (Option Addr × Nat)) : Prop := ps.length = ts.length ∧ ∀ (i : Nat) (t : Int × Int × Row) (p : Option Addr × Nat), ts[i]? = some t → ps[i]? = some p → Rd w 0 p.1 t.2.2.length t.2.2 ∧ t.2.2.length ≤ 1048576
theorem FlB.ext {w w' : World} {ts : List (Int × Int × Row)} {ps : List (Option Addr × Nat)} (h : FlB w ts ps) (hx : Ext w w') : FlB w' ts ps := ⟨h.1, fun i t p q1 q2 => ⟨(h.2 i t p q1 q2).1.ext hx, (h.2 i t p q1 q2).2⟩⟩
def FlA (w : World) (A : Option Addr) (ts : List (Int × Int × Row)) (ps : List (Option Addr × Nat)) : Prop := FlB w ts ps ∧ (ts.length = 0 ∨ ∃ b off, A = some ⟨b, off, none⟩ ∧ b < w.heap.size ∧ ∀ j u, (flC ts ps)[j]? = some u → w.cell? ⟨b, off + j, none⟩ = some u)
theorem FlA.ext {w w' : World} {A : Option Addr} {ts : List (Int × Int × Row)} {ps : List (Option Addr × Nat)} (h : FlA w A ts ps) (hx : Ext w w') : FlA w' A ts ps := by
  refine ⟨h.1.ext hx, h.2.imp id ?_⟩
  rintro ⟨b, off, h1, h2, h3⟩
  exact ⟨b, off, h1, Nat.lt_of_lt_of_le h2 hx.size, fun j u hu => hx.cellSome (h3 j u hu)⟩
theorem flC_at : ∀ (ts : List (Int × Int × Row)) (ps : List (Option Addr × Nat)) (i : Nat) (t : Int × Int × Row) (p : Option Addr × Nat), ts[i]? = some t → ps[i]? = some p → (flC ts ps)[i * 3]? = some (.int .i64 t.1) ∧ (flC ts ps)[i * 3 + 1]? = some (.int .i64 t.2.1) ∧ (flC ts ps)[i * 3 + 2]? = some (.slice p.1 t.2.2.length p.2)
  | [], _, i, t, p, h, _ => by simp at h
  | s :: ts, [], i, t, p, _, h => by simp at h
  | s :: ts, q :: ps, 0, t, p, h, k => by
    simp at h k
    subst h k
    exact ⟨rfl, rfl, rfl⟩
  | s :: ts, q :: ps, i + 1, t, p, h, k => by
    have := flC_at ts ps i t p (by simpa using h) (by simpa using k)
    have e0 : (i + 1) * 3 = i * 3 + 3 := by omega
    rw [e0]
    exact this
theorem flC_set : ∀ (ts : List (Int × Int × Row)) (ps : List (Option Addr × Nat)) (i : Nat) (t : Int × Int × Row) (p : Option Addr × Nat), ps.length = ts.length → i < ts.length → (((flC ts ps).set (i * 3) (.int .i64 t.1)).set (i * 3 + 1) (.int .i64 t.2.1)).set (i * 3 + 2) (.slice p.1 t.2.2.length p.2) = flC (ts.set i t) (ps.set i p)
  | [], _, i, t, p, _, h => by simp at h
  | s :: ts, [], i, t, p, h, _ => by simp at h
  | s :: ts, q :: ps, 0, t, p, h, k => rfl
  | s :: ts, q :: ps, i + 1, t, p, h, k => by
    have := flC_set ts ps i t p (by simpa using h) (by simpa using k)
    have e0 : (i + 1) * 3 = i * 3 + 3 := by omega
    rw [e0]
    simp only [flC, List.set_cons_succ, List.set_cons_zero]
    rw [← this]
theorem flC_take : ∀ (ts : List (Int × Int × Row)) (ps : List (Option Addr × Nat)) (m : Nat), ps.length = ts.length → (flC ts ps).take (m * 3) = flC (ts.take m) (ps.take m)
  | [], ps, m, h => by simp [flC]
  | s :: ts, [], m, h => by simp at h
  | s :: ts, q :: ps, 0, h => by simp [flC]
  | s :: ts, q :: ps, m + 1, h => by
    have := flC_take ts ps m (by simpa using h)
    have e0 : (m + 1) * 3 = m * 3 + 3 := by omega
    rw [e0]
    simp only [flC, List.take_succ_cons]
    rw [this]
theorem flC_app : ∀ (ts : List (Int × Int × Row)) (ps : List (Option Addr × Nat)) (us : List (Int × Int × Row)) (qs : List (Option Addr × Nat)), ps.length = ts.length → flC (ts ++ us) (ps ++ qs) = flC ts ps ++ flC us qs
  | [], [], us, qs, _ => rfl
  | [], q :: ps, us, qs, h => by simp at h
  | s :: ts, [], us, qs, h => by simp at h
  | s :: ts, q :: ps, us, qs, h => by
    simp only [List.cons_append, flC, flC_app ts ps us qs (by simpa using h)]
/-- the last one laid over one: the others, in another order -/
theorem swap_out {α : Type} (rs : List α) (k : Nat) (hk : k < rs.length) : rs.Perm (rs[k] :: (rs.set k (rs[rs.length - 1]'(by omega))).take (rs.length - 1)) := by
  obtain ⟨init, x, rfl⟩ : ∃ init x, rs = init ++ [x] := ⟨rs.dropLast, rs.getLast (by intro e; subst e; simp at hk), (List.dropLast_concat_getLast _).symm⟩
  have hl : (init ++ [x])[(init ++ [x]).length - 1]'(by simp) = x := by simp
  rw [hl]
  have hn : (init ++ [x]).length - 1 = init.length := by simp
  rw [hn]
  by_cases he : k < init.length
  · rw [List.getElem_append_left he, List.set_append_left _ _ he, List.take_left' (by simp)]
    have h1 : init = init.take k ++ init[k] :: init.drop (k + 1) := by rw [List.getElem_cons_drop, List.take_append_drop]
    have h2 : init.set k x = init.take k ++ x :: init.drop (k + 1) := by rw [List.set_eq_take_append_cons_drop, if_pos he]
    rw [h2]
    generalize init[k] = c at *
    generalize init.take k = A at *
    generalize init.drop (k + 1) = B at *
    rw [h1, List.append_assoc, List.cons_append]
    refine List.perm_middle.trans (.cons _ ?_)
    rw [← List.append_assoc]
    refine List.perm_append_comm.trans ?_
    rw [List.singleton_append]
    exact List.perm_middle.symm
  · have hk2 : k = init.length := by simp at hk; omega
    subst hk2
    rw [List.getElem_concat_length]
    have h3 : (init ++ [x]).set init.length x = init ++ [x] := by
      rw [List.set_append_right _ _ (Nat.le_refl _)]
      simp
    rw [h3, List.take_left' rfl]
    · exact List.perm_append_comm
    · rfl
end Go.Proofs.Ytekbdpfiommmbaa
