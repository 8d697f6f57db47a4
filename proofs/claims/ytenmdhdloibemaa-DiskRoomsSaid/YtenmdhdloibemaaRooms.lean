/- What steps leave of the room, and what Room, Count, Has and Files answer of a disk under way. Conditions: told at each. -/
import Derived.Test.YtenmdhdloibemaaBack
namespace Go.Proofs.Ytenmdhdloibemaa
open Go.RowKit Go.Maps Go.Sort Go.Shelf
set_option linter.unusedVariables false
set_option linter.unusedSimpArgs false

section
variable {g g' : DC} {c c' : FC} {n : Nm} {ns : List Nm}
theorem cntOf_set (g : DC) (n m : Nm) (o : Option FC) : cntOf (g.set n o) m = if m = n then (match o with | some c => c.cnt | none => 0) else cntOf g m := by
  by_cases e : m = n <;> simp only [cntOf, DC.set, e, if_true, if_false] <;> cases o <;> rfl
theorem cntOf_some (h : g.file n = some c) : cntOf g n = c.cnt := by simp [cntOf, h]
theorem sum_set (g : DC) (n : Nm) (c' : FC) : ∀ (ns : List Nm), ns.Nodup → (n ∉ ns → (ns.map (cntOf (g.set n (some c')))).sum = (ns.map (cntOf g)).sum) ∧ (n ∈ ns → (ns.map (cntOf (g.set n (some c')))).sum + cntOf g n = (ns.map (cntOf g)).sum + c'.cnt)
  | [], _ => ⟨fun _ => rfl, fun h => by cases h⟩
  | a :: ns, hd => by
    obtain ⟨h1, h2⟩ := List.nodup_cons.1 hd
    obtain ⟨q1, q2⟩ := sum_set g n c' ns h2
    simp only [List.map_cons, List.sum_cons, cntOf_set]
    refine ⟨fun h => ?_, fun h => ?_⟩
    · rw [if_neg (fun e => h (by rw [e]; simp))]
      have := q1 (fun e => h (List.mem_cons_of_mem _ e))
      omega
    · by_cases e : a = n
      · subst e
        rw [if_pos rfl]
        have := q1 h1
        omega
      · rw [if_neg e]
        have := q2 ((List.mem_cons.1 h).resolve_left fun x => e x.symm)
        omega
theorem names_set (hns : IsNames g ns) (hc : g.file n = some c) : IsNames (g.set n (some c')) ns := by
  refine ⟨hns.1, fun m => ?_⟩
  simp only [DC.set]
  split
  · rename_i e
    subst e
    rw [hns.2, hc]
    simp
  · exact hns.2 m
theorem total_set {ns' : List Nm} (hns : IsNames g ns) (hc : g.file n = some c) (hns' : IsNames (g.set n (some c')) ns') : total (g.set n (some c')) ns' + c.cnt = total g ns + c'.cnt := by
  rw [hns'.total (names_set hns hc)]
  have := (sum_set g n c' ns hns.1).2 ((hns.2 n).2 (by rw [hc]; rfl))
  rw [cntOf_some hc] at this
  exact this
theorem cnt_keep (c : FC) (n : Int) (s : Sc) : (c.keep n s).cnt = c.cnt ∨ (c.keep n s).cnt = c.cnt + 1 := by
  simp only [FC.keep]
  split
  · exact .inl rfl
  · exact .inr rfl
theorem cnt_write (c : FC) (n : Int) (s : Sc) : (c.write n s).cnt = c.cnt ∨ (c.write n s).cnt = c.cnt + 1 := by
  simp only [FC.write]
  split
  · exact .inl rfl
  · exact cnt_keep c n zsec
theorem lasts_write (c : FC) (n : Int) (s : Sc) : ((c.write n s).lasts n).isSome = true := by
  simp only [FC.write, FC.add]
  split
  · assumption
  · simp [FC.keep]
theorem lasts_spoil (c : FC) (n : Int) (s : Sc) : ((c.spoil n s).lasts n).isSome = true := by simp [FC.spoil, FC.keep]
theorem crashed_total : ∀ {ns ks : List Nm} {picks rest : List Int} {g g' : DC}, IsNames g ks → Crashed ns picks g g' rest → IsNames g' ks ∧ total g' ks = total g ks
  | [], _, _, _, g, g', hk, hc => by rw [hc.1]; exact ⟨hk, rfl⟩
  | a :: ns, ks, _, _, g, g', hk, ⟨c, c', r, h1, h2, h3⟩ => by
    have hk2 := names_set (c' := c') hk h1
    obtain ⟨q1, q2⟩ := crashed_total hk2 h3
    have := total_set hk h1 hk2
    obtain ⟨_, _, e, _⟩ := h2
    rw [e] at this q2
    exact ⟨q1, by rw [q2]; simp only at this; omega⟩
theorem chg_x (g : DC) (a b : DC → DC) : (chg g a b).1 = 8 ∨ ((chg g a b).1 = 0 ∧ g.dead = false ∧ (chg g a b).2 = a g.next) := by
  simp only [chg]
  split
  · exact .inl rfl
  · split
    · exact .inl rfl
    · exact .inr ⟨rfl, by simpa using ‹¬ g.dead = true›, rfl⟩
theorem chg_cap (g : DC) {a b : DC → DC} (ha : ∀ k, (a k).cap = k.cap) (hb : ∀ k, (b k).cap = k.cap) : (chg g a b).2.cap = g.cap := by
  rcases chg_cases g a b with e | e | e <;> rw [e]
  · rw [hb]; rfl
  · rw [ha]; rfl
theorem findE_not5 (g : DC) (n : Nm) (s : Int) : findE g n s ≠ 5 := by
  simp only [findE]
  split
  · decide
  · split <;> decide
end

/-- what a step may leave -/
structure RoomR (g : DC) (s : Sp) (x : Int) (g' : DC) (T T' : Nat) : Prop where
  cap : g'.cap = g.cap
  lays : s.kind = 2 ∨ s.kind = 8 → x = 0 → (T' = T ∨ T' = T + 1) ∧ mayName s.name = true ∧ ∃ c, g'.file s.name = some c ∧ (c.lasts s.n).isSome = true
  full : s.kind = 2 ∨ s.kind = 8 → x = 5 → g.cap - (T : Int) = 0
  crash : s.kind = 7 → T' = T
  dead : g.dead = true → 1 ≤ s.kind → s.kind ≤ 5 → x ≠ 0
section
variable {g g' : DC} {s : Sp} {x : Int}
theorem wOut_cases {g : DC} {n : Nm} {m : Int} {T : Nat} {k : FC → Int × DC} (x : Int) (g' : DC) (e : wOut g n m T k = (x, g')) :
    (g' = g ∧ x ≠ 0 ∧ (x = 5 → g.cap - (T : Int) = 0)) ∨ ∃ c, findE g n m = 0 ∧ g.file n = some c ∧ k c = (x, g') := by
  rw [wOut] at e
  split at e
  · rename_i h
    cases e
    exact .inl ⟨rfl, h, fun h5 => absurd h5 (findE_not5 g n m)⟩
  · rename_i h
    have h0 : findE g n m = 0 := by simpa using h
    cases hf : g.file n with
    | none =>
      rw [hf] at e
      simp only at e
      cases e
      exact .inl ⟨rfl, by decide, fun h5 => absurd h5 (by decide)⟩
    | some c =>
      rw [hf] at e
      simp only at e
      split at e
      · rename_i hh
        cases e
        exact .inl ⟨rfl, by decide, fun _ => hh.2⟩
      · exact .inr ⟨c, h0, rfl, e⟩
theorem room_step {ns ns' : List Nm} (hd : DoR g s x g') (hns : IsNames g ns) (hns' : IsNames g' ns') : RoomR g s x g' (total g ns) (total g' ns') := by
  cases hd with
  | make k hn e =>
    have e1 := congrArg Prod.fst e
    have e2 := congrArg Prod.snd e
    simp only at e1 e2
    refine ⟨?_, fun h => by omega, fun h => by omega, fun h => by omega, fun h _ _ => ?_⟩
    · rw [← e2, makeOut]
      split
      · rfl
      · split
        · rfl
        · split
          · rfl
          · exact chg_cap g (fun _ => rfl) (fun _ => rfl)
    · rw [← e1, makeOut]
      split
      · simp
      · split
        · simp
        · split
          · simp
          · simp [chg, h]
  | write k hn e =>
    have hT : total g ns = total g _ := hns.total hn
    rcases wOut_cases x g' e with ⟨rfl, h1, h2⟩ | ⟨c, h0, hc, e⟩
    · refine ⟨rfl, fun _ h => absurd h h1, fun _ h => by rw [hT]; exact h2 h, fun h => by omega, fun _ _ _ => h1⟩
    · have e1 := congrArg Prod.fst e
      have e2 := congrArg Prod.snd e
      simp only at e1 e2
      have hcap : g'.cap = g.cap := by rw [← e2]; exact chg_cap g (fun _ => rfl) (fun _ => rfl)
      rcases chg_x g (fun g => g.set s.name (some (c.write s.n (fsec s.byt)))) (fun g => g.set s.name (some (c.write s.n (fsec s.byt)))) with q | ⟨q1, q2, q3⟩
      · rw [q] at e1
        subst e1
        exact ⟨hcap, fun _ h => absurd h (by decide), fun _ h => absurd h (by decide), fun h => by omega, fun _ _ _ => by decide⟩
      · rw [q1] at e1
        subst e1
        rw [q3] at e2
        subst e2
        have ht := total_set (g := g.next) (c' := c.write s.n (fsec s.byt)) (ns := ns) hns hc hns'
        have hb : total g.next ns = total g ns := rfl
        rw [hb] at ht
        refine ⟨hcap, fun _ _ => ⟨?_, (findE_zero h0).1, c.write s.n (fsec s.byt), by simp [DC.set], lasts_write c s.n _⟩, fun _ h => absurd h (by decide), fun h => by omega, fun h => by rw [h] at q2; cases q2⟩
        rcases cnt_write c s.n (fsec s.byt) with q | q <;> rw [q] at ht <;> omega
  | sync k e =>
    have e1 := congrArg Prod.fst e
    have e2 := congrArg Prod.snd e
    simp only at e1 e2
    refine ⟨?_, fun h => by omega, fun h => by omega, fun h => by omega, fun h _ _ => ?_⟩
    · rw [← e2, syncOut]
      split
      · rfl
      · cases e : g.file s.name with
        | none => rfl
        | some c => exact chg_cap g (fun _ => rfl) (fun _ => rfl)
    · rw [← e1, syncOut]
      split
      · assumption
      · cases e : g.file s.name with
        | none => simp
        | some c => simp [chg, h]
  | remove k e =>
    have e1 := congrArg Prod.fst e
    have e2 := congrArg Prod.snd e
    simp only at e1 e2
    refine ⟨?_, fun h => by omega, fun h => by omega, fun h => by omega, fun h _ _ => ?_⟩
    · rw [← e2, removeOut]
      split
      · rfl
      · exact chg_cap g (fun _ => rfl) (fun _ => rfl)
    · rw [← e1, removeOut]
      split
      · assumption
      · simp [chg, h]
  | rename k e =>
    have e1 := congrArg Prod.fst e
    have e2 := congrArg Prod.snd e
    simp only at e1 e2
    refine ⟨?_, fun h => by omega, fun h => by omega, fun h => by omega, fun h _ _ => ?_⟩
    · rw [← e2, renameOut]
      split
      · rfl
      · cases e : g.file s.name with
        | none => rfl
        | some c => exact chg_cap g (fun _ => rfl) (fun _ => rfl)
    · rw [← e1, renameOut]
      split
      · simp
      · cases e : g.file s.name with
        | none => simp
        | some c => simp [chg, h]
  | fuse k =>
    refine ⟨?_, fun h => by omega, fun h => by omega, fun h => by omega, fun h => by omega⟩
    simp only [fuseSet]
    split <;> rfl
  | crash k hn e =>
    refine ⟨(crashed_cap e).trans rfl, fun h => by omega, fun h => by omega, fun _ => ?_, fun h => by omega⟩
    obtain ⟨q1, q2⟩ := crashed_total hns e
    exact (IsNames.total hns' (show IsNames _ ns from q1)).trans q2
  | spoil k hn e =>
    have hT : total g ns = total g _ := hns.total hn
    rcases wOut_cases x g' e with ⟨rfl, h1, h2⟩ | ⟨c, h0, hc, e⟩
    · refine ⟨rfl, fun _ h => absurd h h1, fun _ h => by rw [hT]; exact h2 h, fun h => by omega, fun _ _ _ => h1⟩
    · cases e
      have ht := total_set (c' := c.spoil s.n (fsec s.byt)) hns hc hns'
      refine ⟨rfl, fun _ _ => ⟨?_, (findE_zero h0).1, c.spoil s.n (fsec s.byt), by simp [DC.set], lasts_spoil c s.n _⟩, fun _ h => absurd h (by decide), fun h => by omega, fun _ _ _ => by omega⟩
      have q : (c.spoil s.n (fsec s.byt)).cnt = (c.keep s.n (fsec s.byt)).cnt := rfl
      rcases cnt_keep c s.n (fsec s.byt) with q2 | q2 <;> rw [q, q2] at ht <;> omega
  | other k => exact ⟨rfl, fun h => by omega, fun h => by omega, fun h => by omega, fun h => by omega⟩
end

/-! ### what is answered of a disk under way -/
section
variable {w0 w w' : World} {d : Nat} {g : DC} {L : List (Nat × TypeId × Array Value)} {ns : List Nm} {n : Nm}
theorem st_room (h : St w0 w d g L) (hns : IsNames g ns) : Calls Try.prog 22 #[fptr d] w fun e w' => e = .returned (.int .i64 (g.cap - total g ns)) ∧ Ext w w' := by
  obtain ⟨O, fm, F, hX, _⟩ := h
  rw [← hX.totF hns]
  exact room_any w O d fm F g hX
theorem st_total (h : St w0 w d g L) (hns : IsNames g ns) : total g ns ≤ 2097152 := by
  obtain ⟨O, fm, F, hX, _⟩ := h
  rw [← hX.totF hns]
  exact hX.total_le
theorem st_count (h : St w0 w d g L) (n : Nm) (hn : n.length ≤ maxLen) : Calls Try.prog 21 #[fptr d, nv n] w fun e w' => e = .returned (.int .i64 (countI g n)) ∧ w = w' := by
  obtain ⟨O, fm, F, hX, _⟩ := h
  exact count_any w O d fm F g hX n hn
theorem st_has (h : St w0 w d g L) (n : Nm) (hn : n.length ≤ maxLen) : Calls Try.prog 26 #[fptr d, nv n] w fun e w' => e = .returned (.bool (findE g n 0 == 0)) ∧ w = w' := by
  obtain ⟨O, fm, F, hX, _⟩ := h
  exact has__any w O d fm F g hX n hn
theorem st_files (h : St w0 w d g L) : Calls Try.prog 24 #[fptr d] w fun e w' => ∃ bn bc ns, e = .returned (filesV bn bc) ∧ IsNames g ns ∧ ns.Pairwise (fun x y => x ≤ y) ∧ FilesFn w' bn bc ns (ns.map (cntOf g)) w.heap.size ∧ Ext w w' := by
  obtain ⟨O, fm, F, hX, _⟩ := h
  exact files_any w O d fm F g hX
theorem st_fin (h : St w0 w d g L) {c : FC} (e : g.file n = some c) {m : Int} (hl : (c.lasts m).isSome = true) : m < c.fin := by
  obtain ⟨O, fm, F, hX, _⟩ := h
  obtain ⟨_, _, _, _, _, _, _, _, _, _, h1, _⟩ := hX
  obtain ⟨fb, _, lb, sb, DL, DS, _, _, _, _, _, _, hL, _⟩ := h1 n c e
  obtain ⟨x, hx⟩ := Option.isSome_iff_exists.1 hl
  exact (hL.2.2.1 m x hx).2.2.1
theorem st_may (h : St w0 w d g L) (hns : IsNames g ns) (hn : n ∈ ns) : mayName n = true ∧ ∃ c, g.file n = some c ∧ (c.cnt : Int) ≤ c.fin ∧ c.fin ≤ 65536 := by
  obtain ⟨O, fm, F, hX, _⟩ := h
  obtain ⟨c, hc⟩ := Option.isSome_iff_exists.1 ((hns.2 n).1 hn)
  obtain ⟨_, _, _, m1, _, _, _, _, hnm, _, h1, _⟩ := hX
  obtain ⟨fb, hv, hF⟩ := h1 n c hc
  obtain ⟨k, hk, hm⟩ := hnm (sk n) (by rw [m1.has_iff, hv]; rfl)
  have : n = k := by
    have := hk
    simp [sk] at this
    exact this
  subst this
  exact ⟨hm, c, hc, hF.cnt_le⟩
theorem countI_of (hm : mayName n = true) {c : FC} (hc : g.file n = some c) : countI g n = c.fin ∧ findE g n 0 = 0 := by
  have : findE g n 0 = 0 := by simp [findE, hm, hc]
  exact ⟨by rw [countI, if_pos this, hc], this⟩
/-- a block that a call writes by itself -/
theorem St.turn {b : Nat} {t : TypeId} {cs : Array Value} (h : St w0 w d g ((b, t, cs) :: L)) (hL : ∀ q ∈ L, q.1 ≠ b) (hb : w0.heap.size ≤ b) {t' : TypeId} {cs' : Array Value} (x : Tu (fun k => k = b) w w') (hB : Blk w' b t' cs') : St w0 w' d g ((b, t', cs') :: L) := by
  obtain ⟨O, fm, F, hX, h0, hx, hl⟩ := h
  have ob := (hl _ (List.mem_cons_self ..)).1
  have hz := x.size
  refine ⟨O, fm, F, hX.keep (fun k hk => ⟨x.blk k (hX.inn k hk) (fun e => by subst e; rw [Owned, ob] at hk; cases hk), rfl⟩) (hX.inn.ext hz), h0, x.ext_of hx (fun k e => by omega), fun q hq => ?_⟩
  rcases List.mem_cons.1 hq with rfl | hq
  · exact ⟨ob, hB⟩
  · obtain ⟨q1, q2⟩ := hl q (List.mem_cons_of_mem _ hq)
    exact ⟨q1, q2.tu x (fun e => hL q hq e)⟩
end
end Go.Proofs.Ytenmdhdloibemaa
