/- A disk under way: what it is, and what of the rest stays. Conditions: told at each. -/
import Derived.Test.YtenmdhdloibemaaNothing
namespace Go.Proofs.Ytenmdhdloibemaa
open Go.RowKit Go.Maps Go.Sort Go.Shelf
set_option linter.unusedVariables false
set_option linter.unusedSimpArgs false

/-- from w0 on: the disk d is g, what lay stays, and so do the blocks of L -/
def St (w0 w : World) (d : Nat) (g : DC) (L : List (Nat × TypeId × Array Value)) : Prop :=
  ∃ O fm F, DiskX w O d fm F g ∧ (∀ b, b < w0.heap.size → O b = none) ∧ Ext w0 w ∧ ∀ q ∈ L, O q.1 = none ∧ Blk w q.1 q.2.1 q.2.2
section
variable {w0 w w' : World} {d : Nat} {g g' : DC} {L : List (Nat × TypeId × Array Value)} {ns : List Nm} {n : Nm}
theorem St.low (h : St w0 w d g L) : Ext w0 w := by
  obtain ⟨O, fm, F, hX, h0, hx, hL⟩ := h
  exact hx
theorem St.blk (h : St w0 w d g L) {b : Nat} {t : TypeId} {cs : Array Value} (hq : (b, t, cs) ∈ L) : Blk w b t cs := by
  obtain ⟨O, fm, F, hX, h0, hx, hL⟩ := h
  exact (hL _ hq).2
theorem St.ext (h : St w0 w d g L) (hx : Ext w w') : St w0 w' d g L := by
  obtain ⟨O, fm, F, hX, h0, hx0, hL⟩ := h
  exact ⟨O, fm, F, hX.ext hx, h0, hx0.trans hx, fun q hq => ⟨(hL q hq).1, (hL q hq).2.ext hx⟩⟩
theorem St.add (h : St w0 w d g L) (hx : Ext w w') {b : Nat} {t : TypeId} {cs : Array Value} (hb : w.heap.size ≤ b) (hB : Blk w' b t cs) : St w0 w' d g ((b, t, cs) :: L) := by
  obtain ⟨O, fm, F, hX, h0, hx0, hL⟩ := h
  refine ⟨O, fm, F, hX.ext hx, h0, hx0.trans hx, fun q hq => ?_⟩
  rcases List.mem_cons.1 hq with rfl | hq
  · exact ⟨hX.inn.none hb, hB⟩
  · exact ⟨(hL q hq).1, (hL q hq).2.ext hx⟩
theorem St.sub (h : St w0 w d g L) {L' : List (Nat × TypeId × Array Value)} (hs : ∀ q ∈ L', q ∈ L) : St w0 w d g L' := by
  obtain ⟨O, fm, F, hX, h0, hx, hL⟩ := h
  exact ⟨O, fm, F, hX, h0, hx, fun q hq => hL q (hs q hq)⟩
theorem St.next {O : Ow} {fm : Nat} {F : DataW Value} (hX : DiskX w O d fm F g) (h0 : ∀ b, b < w0.heap.size → O b = none) (hx : Ext w0 w) (hL : ∀ q ∈ L, O q.1 = none ∧ Blk w q.1 q.2.1 q.2.2) (hA : After w w' O d g') : St w0 w' d g' L := by
  obtain ⟨O', ⟨fm', F', hX'⟩, hg, t⟩ := hA
  have hz := hx.size
  refine ⟨O', fm', F', hX', fun b hb => (hg b (by omega)).trans (h0 b hb), t.ext_of hx (fun k hk => Nat.le_of_not_lt fun hlt => by rw [Owned, h0 k hlt] at hk; cases hk), fun q hq => ?_⟩
  obtain ⟨q1, q2⟩ := hL q hq
  exact ⟨(hg _ q2.lt).trans q1, q2.tu t (by rw [Owned, q1]; simp)⟩
theorem DiskX.sizeF {O : Ow} {fm : Nat} {F : DataW Value} (h : DiskX w O d fm F g) (hns : IsNames g ns) : Maps.size F = ns.length := by
  obtain ⟨_, _, k3⟩ := str_keys h.mapF law_s fun kl hk => by
    obtain ⟨n, e, _⟩ := h.2.2.2.2.2.2.2.2.1 kl hk
    exact ⟨n, e⟩
  rw [← k3, (h.names.1.perm hns).length_eq]
theorem DiskX.totF {O : Ow} {fm : Nat} {F : DataW Value} (h : DiskX w O d fm F g) (hns : IsNames g ns) : total g (strKeys F) = total g ns := h.names.1.total hns

theorem st_make (h : St w0 w d g L) (hns : IsNames g ns) (n : Nm) (hn : n.length ≤ maxLen) {x : Int} (ho : makeOut ns.length g n = (x, g')) :
    Calls Try.prog 18 #[fptr d, nv n] w fun e w' => e = .returned (.int .i64 x) ∧ St w0 w' d g' L := by
  obtain ⟨O, fm, F, hX, h0, hx, hL⟩ := h
  refine (make_any w O d fm F g hX n hn).mono ?_
  rw [hX.sizeF hns, ho]
  rintro e w' ⟨rfl, hA⟩
  exact ⟨rfl, .next hX h0 hx hL hA⟩
theorem st_write (h : St w0 w d g L) (hns : IsNames g ns) (n : Nm) (hn : n.length ≤ maxLen) (s : Int) (hs : (Lit.int .i64 s).wf = true) (l : Sc) (hl : l.length = 256) (hbig : ∀ c, g.file n = some c → (c.S s).length < 1000000) {x : Int}
    (ho : (wOut g n s (total g ns) fun c => chg g (fun g => g.set n (some (c.write s l))) (fun g => g.set n (some (c.write s l)))) = (x, g')) :
    Calls Try.prog 20 #[fptr d, nv n, .int .i64 s, sec l] w fun e w' => e = .returned (.int .i64 x) ∧ St w0 w' d g' L := by
  obtain ⟨O, fm, F, hX, h0, hx, hL⟩ := h
  refine (write__any w O d fm F g hX n hn s hs l hl hbig).mono ?_
  rw [hX.totF hns, ho]
  rintro e w' ⟨rfl, hA⟩
  exact ⟨rfl, .next hX h0 hx hL hA⟩
theorem st_spoil (h : St w0 w d g L) (hns : IsNames g ns) (n : Nm) (hn : n.length ≤ maxLen) (s : Int) (hs : (Lit.int .i64 s).wf = true) (l : Sc) (hl : l.length = 256) {x : Int}
    (ho : (wOut g n s (total g ns) fun c => (0, g.set n (some (c.spoil s l)))) = (x, g')) :
    Calls Try.prog 30 #[fptr d, nv n, .int .i64 s, sec l] w fun e w' => e = .returned (.int .i64 x) ∧ St w0 w' d g' L := by
  obtain ⟨O, fm, F, hX, h0, hx, hL⟩ := h
  refine (spoil__any w O d fm F g hX n hn s hs l hl).mono ?_
  rw [hX.totF hns, ho]
  rintro e w' ⟨rfl, hA⟩
  exact ⟨rfl, .next hX h0 hx hL hA⟩
theorem st_sync (h : St w0 w d g L) (n : Nm) (hn : n.length ≤ maxLen) {x : Int} (ho : syncOut g n = (x, g')) :
    Calls Try.prog 27 #[fptr d, nv n] w fun e w' => e = .returned (.int .i64 x) ∧ St w0 w' d g' L := by
  obtain ⟨O, fm, F, hX, h0, hx, hL⟩ := h
  refine (sync__any w O d fm F g hX n hn).mono ?_
  rw [ho]
  rintro e w' ⟨rfl, hA⟩
  exact ⟨rfl, .next hX h0 hx hL hA⟩
theorem st_remove (h : St w0 w d g L) (n : Nm) (hn : n.length ≤ maxLen) {x : Int} (ho : removeOut g n = (x, g')) :
    Calls Try.prog 29 #[fptr d, nv n] w fun e w' => e = .returned (.int .i64 x) ∧ St w0 w' d g' L := by
  obtain ⟨O, fm, F, hX, h0, hx, hL⟩ := h
  refine (remove_any w O d fm F g hX n hn).mono ?_
  rw [ho]
  rintro e w' ⟨rfl, hA⟩
  exact ⟨rfl, .next hX h0 hx hL hA⟩
theorem st_rename (h : St w0 w d g L) (n nt : Nm) (hn : n.length ≤ maxLen) (hnt : nt.length ≤ maxLen) {x : Int} (ho : renameOut g n nt = (x, g')) :
    Calls Try.prog 19 #[fptr d, nv n, nv nt] w fun e w' => e = .returned (.int .i64 x) ∧ St w0 w' d g' L := by
  obtain ⟨O, fm, F, hX, h0, hx, hL⟩ := h
  refine (rename_any w O d fm F g hX n nt hn hnt).mono ?_
  rw [ho]
  rintro e w' ⟨rfl, hA⟩
  exact ⟨rfl, .next hX h0 hx hL hA⟩
theorem st_fuse (h : St w0 w d g L) (k : Int) (hk : (Lit.int .i64 k).wf = true) :
    Calls Try.prog 28 #[fptr d, .int .i64 k] w fun e w' => e = .returned (.tuple #[]) ∧ St w0 w' d (fuseSet g k) L := by
  obtain ⟨O, fm, F, hX, h0, hx, hL⟩ := h
  refine (fuse_any w O d fm F g hX k hk).mono ?_
  rintro e w' ⟨rfl, hA⟩
  exact ⟨rfl, .next hX h0 hx hL hA⟩
theorem st_read (h : St w0 w d g L) (n : Nm) (hn : n.length ≤ maxLen) (s : Int) (hs : (Lit.int .i64 s).wf = true) :
    Calls Try.prog 15 #[fptr d, nv n, .int .i64 s] w fun e w' => e = .returned (.tuple #[sec (readS g n s), .int .i64 (findE g n s)]) ∧ Ext w w' ∧ (readS g n s).length = 256 := by
  obtain ⟨O, fm, F, hX, h0, hx, hL⟩ := h
  exact read_any w O d fm F g hX n hn s hs
theorem st_crash (h : St w0 w d g L) (hbig : ∀ n c, g.file n = some c → ∀ m, (c.S m).length ≤ 1000000) (A : Option Addr) (n cap : Nat) (picks : List Int) (hr : RdI w A n picks) (hc : n ≤ cap) (hA : 0 < n → ∀ a, A = some a → a.block < w.heap.size) :
    Calls Try.prog 11 #[fptr d, .slice A n cap] w fun e w' => ∃ d' g' ns rest, e = .returned (fptr d') ∧ IsNames g ns ∧ Crashed ns picks g g' rest ∧ St w w' d' { g' with fuse := -1, dead := false, chg := 0 } [] ∧ Ext w w' ∧ St w0 w' d' { g' with fuse := -1, dead := false, chg := 0 } L := by
  obtain ⟨O, fm, F, hX, h0, hx, hL⟩ := h
  refine (crash_any w O d fm F g hX hbig A n cap picks hr hc hA).mono ?_
  rintro e w' ⟨d', O', g', ns, rest, rfl, h1, h2, ⟨fm', F', h3⟩, h4, h5⟩
  have hz := hx.size
  exact ⟨d', g', ns, rest, rfl, h1, h2, ⟨O', fm', F', h3, h4, h5, fun q hq => by cases hq⟩, h5, ⟨O', fm', F', h3, fun b hb => h4 b (by omega), hx.trans h5, fun q hq => ⟨h4 _ (hL q hq).2.lt, (hL q hq).2.ext h5⟩⟩⟩
theorem st_names (h : St w0 w d g L) : ∃ ns, IsNames g ns ∧ ns.length ≤ 32 := by
  obtain ⟨O, fm, F, hX, _⟩ := h
  exact ⟨_, hX.names⟩
end
end Go.Proofs.Ytenmdhdloibemaa
