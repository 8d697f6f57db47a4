/- What steps leave on a disk, and what a loss of power takes of it. Conditions: told at each. -/
import Derived.Test.YtenmdhdloibemaaMuch
namespace Go.Proofs.Ytenmdhdloibemaa
open Go.RowKit Go.Maps Go.Sort Go.Shelf
set_option linter.unusedVariables false
set_option linter.unusedSimpArgs false

/-- each write that is open was one of the steps' -/
def OkF (l : List Sp) (i : Nat) (c : FC) : Prop := ∀ m, (c.S m).length ≤ i ∧ ∀ s ∈ c.S m, ∃ (k : Nat) (h : k < l.length), k < i ∧ l[k].kind = 2 ∧ l[k].n = m ∧ s = fsec l[k].byt
def Src (l : List Sp) (i : Nat) (g : DC) : Prop := ∀ n c, g.file n = some c → OkF l i c
section
variable {l : List Sp} {i : Nat} {g g' : DC} {c c' : FC}
theorem OkF.mono (h : OkF l i c) : OkF l (i + 1) c := fun m => ⟨by have := (h m).1; omega, fun s hs => by obtain ⟨k, h1, h2, h3⟩ := (h m).2 s hs; exact ⟨k, h1, by omega, h3⟩⟩
theorem OkF.nil (h : ∀ m, c.S m = []) : OkF l i c := fun m => ⟨by rw [h]; simp, fun s hs => by rw [h] at hs; cases hs⟩
theorem Src.mono (h : Src l i g) : Src l (i + 1) g := fun n c e => (h n c e).mono
theorem Src.file (h : Src l i g) (e : g'.file = g.file) : Src l i g' := fun n c x => h n c (by rw [← e]; exact x)
theorem Src.set (h : Src l i g) (n : Nm) {o : Option FC} (ho : ∀ c, o = some c → OkF l i c) : Src l i (g.set n o) := by
  intro m c e
  simp only [DC.set] at e
  split at e
  · exact ho c e
  · exact h m c e
theorem chg_cases (g : DC) (a b : DC → DC) : (chg g a b).2 = g ∨ (chg g a b).2 = b g.met ∨ (chg g a b).2 = a g.next := by
  simp only [chg]
  split
  · exact .inl rfl
  · split
    · exact .inr (.inl rfl)
    · exact .inr (.inr rfl)
theorem Src.chg (h : Src l i g) {a b : DC → DC} (ha : ∀ k, Src l i k → k.file = g.file → Src l i (a k)) (hb : ∀ k, Src l i k → k.file = g.file → Src l i (b k)) : Src l i (chg g a b).2 := by
  rcases chg_cases g a b with e | e | e <;> rw [e]
  · exact h
  · exact hb _ (h.file rfl) rfl
  · exact ha _ (h.file rfl) rfl
theorem write_S (c : FC) (n : Int) (s : Sc) (m : Int) : (c.write n s).S m = if m = n then c.S n ++ [s] else c.S m := by
  simp only [FC.write, FC.add]
  split <;> split <;> rfl
theorem spoil_S (c : FC) (n : Int) (s : Sc) (m : Int) : (c.spoil n s).S m = if m = n then [] else c.S m := rfl
theorem OkF.write (h : OkF l i c) (hi : i < l.length) (hk : l[i].kind = 2) : OkF l (i + 1) (c.write l[i].n (fsec l[i].byt)) := by
  intro m
  rw [write_S]
  split
  · rename_i e
    refine ⟨by have := (h l[i].n).1; simp; omega, fun s hs => ?_⟩
    rcases List.mem_append.1 hs with hs | hs
    · obtain ⟨k, h1, h2, h3, h4, h5⟩ := (h l[i].n).2 s hs
      exact ⟨k, h1, by omega, h3, by rw [h4, e], h5⟩
    · exact ⟨i, hi, by omega, hk, e.symm, List.mem_singleton.1 hs⟩
  · exact h.mono m
theorem OkF.spoil (h : OkF l i c) (n : Int) (s : Sc) : OkF l i (c.spoil n s) := by
  intro m
  rw [spoil_S]
  split
  · exact ⟨by simp, fun s hs => by cases hs⟩
  · exact h m
theorem Src.crashed : ∀ {ns : List Nm} {picks rest : List Int} {g g' : DC}, Src l i g → Crashed ns picks g g' rest → Src l i g'
  | [], _, _, g, g', h, hc => by rw [hc.1]; exact h
  | n :: ns, _, _, g, g', h, ⟨c, c', r, h1, h2, h3⟩ => by
    refine Src.crashed (h.set n fun c0 e => ?_) h3
    cases e
    obtain ⟨ks, _, rfl, _⟩ := h2
    exact OkF.nil fun m => rfl
theorem Src.wOut (h : Src l i g) {n : Nm} {s : Int} {T : Nat} {k : FC → Int × DC} (hk : ∀ c, g.file n = some c → Src l i (k c).2) : Src l i (wOut g n s T k).2 := by
  rw [Ytenmdhdloibemaa.wOut]
  split
  · exact h
  · cases e : g.file n with
    | none => exact h
    | some c =>
      simp only []
      split
      · exact h
      · exact hk c e
theorem Src.step (h : Src l i g) (hi : i < l.length) {x : Int} (hd : DoR g l[i] x g') : Src l (i + 1) g' := by
  have hm := h.mono
  cases hd with
  | make k hn e =>
    have e2 := congrArg Prod.snd e
    simp only at e2
    rw [← e2, makeOut]
    split
    · exact hm
    · split
      · exact hm
      · split
        · exact hm
        · exact hm.chg (fun k hk _ => hk.set _ fun c e => by cases e; exact OkF.nil fun m => rfl) (fun k hk _ => hk)
  | write k hn e =>
    have e2 := congrArg Prod.snd e
    simp only at e2
    rw [← e2]
    refine hm.wOut fun c hc => ?_
    have hw : ∀ k' : DC, Src l (i + 1) k' → Src l (i + 1) (k'.set l[i].name (some (c.write l[i].n (fsec l[i].byt)))) := fun k' hk' => hk'.set _ fun c0 e0 => by cases e0; exact (h _ c hc).write hi k
    exact hm.chg (fun k' hk' _ => hw k' hk') (fun k' hk' _ => hw k' hk')
  | sync k e =>
    have e2 := congrArg Prod.snd e
    simp only at e2
    rw [← e2, syncOut]
    split
    · exact hm
    · cases e : g.file l[i].name with
      | none => exact hm
      | some c => exact hm.chg (fun k hk _ => hk.set _ fun c e => by cases e; exact OkF.nil fun m => rfl) (fun k hk _ => hk)
  | remove k e =>
    have e2 := congrArg Prod.snd e
    simp only at e2
    rw [← e2, removeOut]
    split
    · exact hm
    · exact hm.chg (fun k hk _ => hk.set _ fun c e => by cases e) (fun k hk _ => hk)
  | rename k e =>
    have e2 := congrArg Prod.snd e
    simp only at e2
    rw [← e2, renameOut]
    split
    · exact hm
    · cases e : g.file l[i].name with
      | none => exact hm
      | some c => exact hm.chg (fun k hk _ => (hk.set _ fun c e => by cases e).set _ fun c0 e0 => by cases e0; exact hm _ c e) (fun k hk _ => hk)
  | fuse k => 
    refine hm.file ?_
    simp only [fuseSet]
    split <;> rfl
  | crash k hn e => exact (hm.crashed e).file rfl
  | spoil k hn e =>
    have e2 := congrArg Prod.snd e
    simp only at e2
    rw [← e2]
    exact hm.wOut fun c hc => hm.set _ fun c0 e0 => by cases e0; exact (hm _ c hc).spoil _ _
  | other k => exact hm
theorem Src.big (h : Src l i g) (hi : i ≤ 150) : ∀ n c, g.file n = some c → ∀ m, (c.S m).length < 1000000 := fun n c e m => by have := (h n c e m).1; omega
end

/-! ### behind a loss of power -/
theorem settl_nil (c : FC) : ∀ (ks : List Int) (f : Int → Option Sc), (∀ n, f n = c.lasts n) → (∀ n, (c.settl ks [] f).1 n = c.lasts n) ∧ (c.settl ks [] f).2 = []
  | [], f, h => ⟨h, rfl⟩
  | n :: ks, f, h => settl_nil c ks _ fun m => by
    split
    · rename_i e
      subst e
      rw [FC.pick]
      simp
    · exact h m
/-- the file that a loss of power leaves -/
theorem crashed_file : ∀ {ns : List Nm} {picks rest : List Int} {g g' : DC}, ns.Nodup → Crashed ns picks g g' rest → ∀ n, (n ∉ ns → g'.file n = g.file n) ∧ (n ∈ ns → ∃ c c' pk r, g.file n = some c ∧ g'.file n = some c' ∧ c.Settles pk c' r ∧ (picks = [] → pk = []))
  | [], _, _, g, g', _, hc, n => ⟨fun _ => by rw [hc.1], fun h => by cases h⟩
  | a :: ns, picks, rest, g, g', hd, ⟨c, c', r, h1, h2, h3⟩, n => by
    obtain ⟨hna, hd'⟩ := List.nodup_cons.1 hd
    obtain ⟨q1, q2⟩ := crashed_file hd' h3 n
    have hr : picks = [] → r = [] := fun e => by
      subst e
      obtain ⟨ks, _, _, rfl⟩ := h2
      exact (settl_nil c ks c.lasts fun _ => rfl).2
    refine ⟨fun hn => ?_, fun hn => ?_⟩
    · rw [q1 (fun h => hn (List.mem_cons_of_mem _ h))]
      simp only [DC.set]
      rw [if_neg (fun e => hn (by rw [e]; simp))]
    · by_cases e : n = a
      · subst e
        refine ⟨c, c', picks, r, h1, ?_, h2, id⟩
        rw [q1 hna]
        simp [DC.set]
      · obtain ⟨d, d', pk, r', w1, w2, w3, w4⟩ := q2 ((List.mem_cons.1 hn).resolve_left e)
        refine ⟨d, d', pk, r', ?_, w2, w3, fun ep => w4 (hr ep)⟩
        simpa [DC.set, e] using w1
theorem crashed_any {ns : List Nm} {picks rest : List Int} {g g' : DC} (hn : IsNames g ns) (hc : Crashed ns picks g g' rest) (n : Nm) : (g.file n = none ∧ g'.file n = none) ∨ ∃ c c' pk r, g.file n = some c ∧ g'.file n = some c' ∧ c.Settles pk c' r ∧ (picks = [] → pk = []) := by
  obtain ⟨q1, q2⟩ := crashed_file hn.1 hc n
  by_cases h : n ∈ ns
  · exact .inr (q2 h)
  · have : g.file n = none := by
      cases e : g.file n with
      | none => rfl
      | some c => exact absurd ((hn.2 n).2 (by rw [e]; rfl)) h
    exact .inl ⟨this, (q1 h).trans this⟩
theorem crashed_cap : ∀ {ns : List Nm} {picks rest : List Int} {g g' : DC}, Crashed ns picks g g' rest → g'.cap = g.cap
  | [], _, _, g, g', hc => by rw [hc.1]
  | _ :: _, _, _, g, g', ⟨c, c', r, h1, h2, h3⟩ => (crashed_cap h3).trans rfl
theorem crashed_find {ns : List Nm} {picks rest : List Int} {g g' : DC} (hn : IsNames g ns) (hc : Crashed ns picks g g' rest) (n : Nm) (s : Int) : findE g' n s = findE g n s := by
  rcases crashed_any hn hc n with ⟨e1, e2⟩ | ⟨c, c', pk, r, e1, e2, _⟩ <;> simp [findE, e1, e2]
/-- nothing is open -/
def Calm (g : DC) : Prop := ∀ n c, g.file n = some c → ∀ m, c.S m = []
theorem crashed_calm {ns : List Nm} {picks rest : List Int} {g g' : DC} (hn : IsNames g ns) (hc : Crashed ns picks g g' rest) : Calm g' := by
  intro n c e m
  rcases crashed_any hn hc n with ⟨e1, e2⟩ | ⟨d, c', pk, r, e1, e2, ⟨ks, _, rfl, _⟩, _⟩
  · rw [e2] at e; cases e
  · rw [e2] at e; cases e; rfl
/-- a second loss of power takes nothing -/
theorem crashed_same {ns : List Nm} {picks rest : List Int} {g g' : DC} (h : Calm g) (hn : IsNames g ns) (hc : Crashed ns picks g g' rest) : g.Same (crashedDC g') := by
  refine ⟨(crashed_cap hc).symm, fun n => ?_⟩
  rcases crashed_any hn hc n with e | ⟨c, c', pk, r, e1, e2, ⟨ks, h1, rfl, _⟩, _⟩
  · exact .inl e
  · have hk : ks = [] := by
      cases hks : ks with
      | nil => rfl
      | cons a t => exact absurd (h n c e1 a) ((h1.2 a).1 (by rw [hks]; simp))
    subst hk
    refine .inr ⟨c, _, e1, e2, rfl, rfl, fun m => ⟨by rw [h n c e1 m], ?_⟩⟩
    simp [FC.has, h n c e1 m, FC.settl]
theorem settl_in (c : FC) (m : Int) (ks : List Int) (picks : List Int) (h : m ∉ ks) : (c.settl ks picks c.lasts).1 m = c.lasts m := settl_off c m ks picks _ h
theorem back_facts {l : List Sp} {i : Nat} {g g1 g2 : DC} {ns ns2 : List Nm} {picks rest rest2 : List Int} (hsrc : Src l i g) (hn : IsNames g ns) (hc : Crashed ns picks g g1 rest) (hn2 : IsNames g ns2) (hc2 : Crashed ns2 [] g g2 rest2) (nm : Nm) (s : Int) (hf : findE g nm s = 0) :
    lastsB g1 nm s = true ∧ (lastsB g nm s = true → readS g1 nm s = readS g2 nm s ∧ readS g1 nm s = readS g nm s) ∧
      (readS g1 nm s ≠ readS g2 nm s → ∃ (k : Nat) (h : k < l.length), k < i ∧ l[k].kind = 2 ∧ l[k].n = s ∧ readS g1 nm s = fsec l[k].byt) := by
  have f1 : findE g1 nm s = 0 := (crashed_find hn hc nm s).trans hf
  have f2 : findE g2 nm s = 0 := (crashed_find hn2 hc2 nm s).trans hf
  rcases crashed_any hn hc nm with ⟨e1, e2⟩ | ⟨c, c1, pk, r, e1, e2, ⟨ks, o1, h1, _⟩, _⟩
  · rw [findE, e1] at hf
    split at hf <;> simp at hf
  rcases crashed_any hn2 hc2 nm with ⟨e3, _⟩ | ⟨c0, c2, pk2, r2, e3, e4, ⟨ks2, o2, h2, _⟩, hpk⟩
  · rw [e1] at e3; cases e3
  rw [e1] at e3
  cases e3
  obtain rfl := hpk rfl
  have hl2 : c2.lasts s = c.lasts s := by
    rw [h2]
    exact (settl_nil c ks2 c.lasts fun _ => rfl).1 s
  have a1 : readS g1 nm s = (c1.lasts s).getD zsec := by
    rw [readS, if_pos f1, e2]
    simp [FC.has, h1]
  have a2 : readS g2 nm s = (c.lasts s).getD zsec := by
    rw [readS, if_pos f2, e4, ← hl2]
    simp [FC.has, h2]
  have a0 : readS g nm s = c.has s := by rw [readS, if_pos hf, e1]
  refine ⟨?_, fun hb => ?_, fun hne => ?_⟩
  · rw [lastsB, if_pos f1, e2]
    simp [h1]
  · rw [lastsB, if_pos hf, e1] at hb
    have hS : c.S s = [] := by simpa using hb
    have hni : s ∉ ks := fun h => (o1.2 s).1 h hS
    have q : c1.lasts s = c.lasts s := by
      rw [h1]
      exact settl_in c s ks pk hni
    rw [a1, a2, a0, q]
    exact ⟨rfl, by simp [FC.has, hS]⟩
  · have q : c1.lasts s = c.lasts s ∨ ∃ x ∈ c.S s, c1.lasts s = some x := by
      rw [h1]
      exact settl_from c s ks pk c.lasts (.inl rfl)
    rcases q with q | ⟨x, hx, q⟩
    · exact absurd (by rw [a1, a2, q]) hne
    · obtain ⟨k, hk, h3, h4, h5, h6⟩ := (hsrc nm c e1 s).2 x hx
      exact ⟨k, hk, h3, h4, h5, by rw [a1, q]; exact h6⟩

/-! ### looks, and Same, of a disk under way -/
theorem st_dead {w0 w : World} {d : Nat} {g : DC} {L : List (Nat × TypeId × Array Value)} (h : St w0 w d g L) : Calls Try.prog 12 #[fptr d] w fun e w' => e = .returned (.bool g.dead) ∧ w = w' := by
  obtain ⟨O, fm, F, hX, _⟩ := h
  exact dead_any w O d fm F g hX
theorem st_changes {w0 w : World} {d : Nat} {g : DC} {L : List (Nat × TypeId × Array Value)} (h : St w0 w d g L) : Calls Try.prog 13 #[fptr d] w fun e w' => e = .returned (.int .i64 g.chg) ∧ w = w' := by
  obtain ⟨O, fm, F, hX, _⟩ := h
  exact changes_any w O d fm F g hX
theorem st_lasts {w0 w : World} {d : Nat} {g : DC} {L : List (Nat × TypeId × Array Value)} (h : St w0 w d g L) (n : Nm) (hn : n.length ≤ maxLen) (s : Int) (hs : (Lit.int .i64 s).wf = true) :
    Calls Try.prog 16 #[fptr d, nv n, .int .i64 s] w fun e w' => e = .returned (.tuple #[.bool (lastsB g n s), .int .i64 (findE g n s)]) ∧ w = w' := by
  obtain ⟨O, fm, F, hX, _⟩ := h
  exact lasts_any w O d fm F g hX n hn s hs
theorem st_same {w0 v0 w : World} {d e : Nat} {g k : DC} {L M : List (Nat × TypeId × Array Value)} (h : St w0 w d g L) (h2 : St v0 w e k M) (hs : g.Same k) : Calls Try.prog 14 #[fptr d, fptr e] w fun e w' => e = .returned (.bool true) ∧ Ext w w' := by
  obtain ⟨O, fm, F, hX, _⟩ := h
  obtain ⟨O2, fm2, F2, hX2, _⟩ := h2
  exact same_any w O d fm F g hX O2 e fm2 F2 k hX2 hs
end Go.Proofs.Ytenmdhdloibemaa
