/- A disk in memory; find, place, Room. Conditions: the disk is in memory as told. -/
import Derived.Test.YtenmdhdloibemaaDisk
namespace Go.Proofs.Ytenmdhdloibemaa
open Go.RowKit Go.Maps Go.Sort
set_option linter.unusedVariables false
set_option linter.unusedSimpArgs false

structure DC where
  cap : Int
  fuse : Int
  dead : Bool
  chg : Int
  file : Nm → Option FC

def DiskX (w : World) (O : Ow) (d fm : Nat) (F : DataW Value) (g : DC) : Prop :=
  O d = some (d, -5) ∧ O fm = some (d, -4) ∧ Blk w d 53 #[.int .i64 g.cap, .map (some fm), .int .i64 g.fuse, .bool g.dead, .int .i64 g.chg] ∧ MapOf Try.prog w 9 fm F ∧ Maps.size F ≤ 32 ∧
    (1 ≤ g.cap ∧ g.cap ≤ 1048576) ∧ (Lit.int .i64 g.fuse).wf = true ∧ (Lit.int .i64 g.chg).wf = true ∧ (∀ kl, Maps.has F kl = true → ∃ n, kl = sk n ∧ mayName n = true) ∧
    (∀ n, g.file n = none → val F (sk n) = none) ∧ (∀ n c, g.file n = some c → ∃ fb, val F (sk n) = some (fptr fb) ∧ FileAt w O fb c) ∧
    (∀ n m fb, val F (sk n) = some (fptr fb) → val F (sk m) = some (fptr fb) → n = m) ∧ In O w
def DiskAt (w : World) (O : Ow) (d : Nat) (g : DC) : Prop := ∃ fm F, DiskX w O d fm F g

/-- no disk: nil, or a zero one -/
def NoDisk (w : World) (v : Value) : Prop := v = .pointer none ∨ ∃ b, v = .pointer (some ⟨b, 0, none⟩) ∧ w.cell? ⟨b, 0, none⟩ = some (.int .i64 0)
theorem NoDisk.ext {w w' : World} {v : Value} (h : NoDisk w v) (hx : Ext w w') : NoDisk w' v := by
  rcases h with h | ⟨b, h1, h2⟩
  · exact .inl h
  · exact .inr ⟨b, h1, hx.cellSome h2⟩

section
variable {w w' : World} {O O' : Ow} {d fm : Nat} {F : DataW Value} {g : DC} {n : Nm}
theorem DiskX.keep (h : DiskX w O d fm F g) (hk : ∀ b, Owned O b → w'.heap[b]? = w.heap[b]? ∧ O' b = O b) (hi : In O' w') : DiskX w' O' d fm F g := by
  obtain ⟨o1, o2, b1, m1, hs, hc, hf, hg, hn, h0, h1, h2, hO⟩ := h
  have k1 := hk d (by simp [Owned, o1])
  have k2 := hk fm (by simp [Owned, o2])
  refine ⟨k1.2.trans o1, k2.2.trans o2, k1.1.trans b1, m1.keep k2.1, hs, hc, hf, hg, hn, h0, fun n c e => ?_, h2, hi⟩
  obtain ⟨fb, q1, q2⟩ := h1 n c e
  exact ⟨fb, q1, q2.keep fun b hb _ => hk b hb.owned⟩
theorem DiskX.ext (h : DiskX w O d fm F g) (hx : Ext w w') : DiskX w' O d fm F g := by
  obtain ⟨o1, o2, b1, m1, hs, hc, hf, hg, hn, h0, h1, h2, hO⟩ := id h
  exact h.keep (fun b hb => ⟨hx.blk (hO b hb), rfl⟩) (hO.ext hx.size)
theorem DiskAt.ext (h : DiskAt w O d g) (hx : Ext w w') : DiskAt w' O d g := by
  obtain ⟨fm, F, h⟩ := h
  exact ⟨fm, F, h.ext hx⟩
theorem DiskX.blk (h : DiskX w O d fm F g) : Blk w d 53 #[.int .i64 g.cap, .map (some fm), .int .i64 g.fuse, .bool g.dead, .int .i64 g.chg] := h.2.2.1
theorem DiskX.inn (h : DiskX w O d fm F g) : In O w := h.2.2.2.2.2.2.2.2.2.2.2.2
theorem DiskX.capb (h : DiskX w O d fm F g) : 1 ≤ g.cap ∧ g.cap ≤ 1048576 := h.2.2.2.2.2.1
theorem key_s (hn : n.length ≤ maxLen) : keyOf Try.prog 9 (nv n) = some (sk n) := by
  have := Go.WideMaps.keyOf_string_mk Try.underlying9 (s := ⟨n.toArray⟩) (by simpa [ByteArray.size] using hn)
  simpa using this
theorem zero_fp (w : World) : (zeroValue 62).run Try.prog w = .ok (.pointer none) w := Try.zeroValue62 w
/-- a file, looked up -/
theorem DiskX.look (h : DiskX w O d fm F g) (hn : n.length ≤ maxLen) : (Instr.lookup 51 (.map (some fm)) (nv n) false).run Try.prog w = .ok ((val F (sk n)).getD (.pointer none)) w := by
  obtain ⟨o1, o2, b1, m1, _⟩ := h
  exact m1.look law_s Try.underlying51 (zero_fp w) (key_s hn)
end

theorem none_blk (w : World) (b : Nat) (k : Int) (h : w.cell? ⟨b, 0, none⟩ = some (.int .i64 k)) :
    Calls Try.prog 33 #[.pointer (some ⟨b, 0, none⟩)] w fun e w' => e = .returned (.bool (k == 0)) ∧ w = w' := by
  go_enter Try.func33, Try.ntmps33
  go_wp2_with fail
  go_ret
  exact ⟨rfl, rfl⟩
theorem none_no (w : World) (v : Value) (h : NoDisk w v) : Calls Try.prog 33 #[v] w fun e w' => e = .returned (.bool true) ∧ w = w' := by
  rcases h with rfl | ⟨b, rfl, hb⟩
  · go_enter Try.func33, Try.ntmps33
    go_wp2_with fail
    go_ret
    exact ⟨rfl, rfl⟩
  · exact none_blk w b 0 hb
theorem none_at (w : World) (O : Ow) (d fm : Nat) (F : DataW Value) (g : DC) (h : DiskX w O d fm F g) : Calls Try.prog 33 #[fptr d] w fun e w' => e = .returned (.bool false) ∧ w = w' := by
  refine (none_blk w d g.cap (h.blk.cell 0)).mono ?_
  rintro e w' ⟨rfl, rfl⟩
  have := h.capb
  have e : (g.cap == 0) = false := by simp; omega
  exact ⟨by rw [e], rfl⟩

def findE (g : DC) (n : Nm) (s : Int) : Int := if mayName n = false ∨ s < 0 ∨ 65536 ≤ s then 2 else if (g.file n).isNone then 6 else 0

set_option maxRecDepth 100000 in
set_option maxHeartbeats 1600000 in
theorem find_any (w : World) (O : Ow) (d fm : Nat) (F : DataW Value) (g : DC) (h : DiskX w O d fm F g) (n : Nm) (hn : n.length ≤ maxLen) (s : Int) (hs : (Lit.int .i64 s).wf = true) :
    Calls Try.prog 35 #[fptr d, nv n, .int .i64 s] w fun e w' => w = w' ∧ ((∃ c fb, findE g n s = 0 ∧ g.file n = some c ∧ val F (sk n) = some (fptr fb) ∧ FileAt w O fb c ∧ e = .returned (.tuple #[fptr fb, .int .i64 0])) ∨
      (findE g n s ≠ 0 ∧ e = .returned (.tuple #[.pointer none, .int .i64 (findE g n s)]))) := by
  have c1 := h.blk.cell 1
  have hl := h.look hn
  go_enter Try.func35, Try.ntmps35
  go_wp2_with fail
  refine (none_at w O d fm F g h).mono ?_
  rintro e w1 ⟨rfl, rfl⟩
  go_wp2_with fail
  refine (mayName_any n w hn).mono ?_
  rintro e w1 ⟨rfl, rfl⟩
  obtain ⟨o1, o2, b1, m1, hsz, hc, hf, hg, hnm, h0, h1, h2, hO⟩ := h
  cases hm : mayName n with
  | false =>
    have e : findE g n s = 2 := by simp [findE, hm]
    go_wp2_with fail
    go_ret2
    rw [e]
    exact ⟨rfl, .inr ⟨by decide, rfl⟩⟩
  | true =>
    by_cases q1 : s < 0
    · have e : findE g n s = 2 := by simp [findE, q1]
      go_wp2_with fail
      go_ret2
      rw [e]
      exact ⟨rfl, .inr ⟨by decide, rfl⟩⟩
    by_cases q2 : 65536 ≤ s
    · have e : findE g n s = 2 := by simp [findE, q2]
      go_wp2_with fail
      go_ret2
      rw [e]
      exact ⟨rfl, .inr ⟨by decide, rfl⟩⟩
    cases hfl : g.file n with
    | none =>
      have e : findE g n s = 6 := by simp [findE, hm, q1, q2, hfl]
      rw [h0 n hfl, Option.getD_none] at hl
      go_wp2_with fail
      go_ret2
      rw [e]
      exact ⟨rfl, .inr ⟨by decide, rfl⟩⟩
    | some c =>
      have e : findE g n s = 0 := by simp [findE, hm, q1, q2, hfl]
      obtain ⟨fb, r1, r2⟩ := h1 n c hfl
      rw [r1, Option.getD_some] at hl
      go_wp2_with fail
      go_ret2
      rw [e]
      exact ⟨rfl, .inl ⟨c, fb, rfl, hfl, r1, r2, rfl⟩⟩

theorem find_no (w : World) (v : Value) (h : NoDisk w v) (n s : Value) :
    Calls Try.prog 35 #[v, n, s] w fun e w' => e = .returned (.tuple #[.pointer none, .int .i64 1]) ∧ w = w' := by
  go_enter Try.func35, Try.ntmps35
  go_wp2_with fail
  refine (none_no w v h).mono ?_
  rintro e w1 ⟨rfl, rfl⟩
  go_wp2_with fail
  go_ret2
  exact ⟨rfl, rfl⟩

/-! ### how many sectors count -/
def cntOf (g : DC) (n : Nm) : Nat := match g.file n with | some c => c.cnt | none => 0
def total (g : DC) (ns : List Nm) : Nat := (ns.map (cntOf g)).sum
def IsNames (g : DC) (ns : List Nm) : Prop := ns.Nodup ∧ ∀ n, n ∈ ns ↔ (g.file n).isSome = true
theorem IsNames.perm {g : DC} {a b : List Nm} (h : IsNames g a) (k : IsNames g b) : a.Perm b := (List.perm_ext_iff_of_nodup h.1 k.1).2 fun n => by rw [h.2, k.2]
theorem IsNames.total {g : DC} {a b : List Nm} (h : IsNames g a) (k : IsNames g b) : total g a = total g b := ((h.perm k).map _).sum_nat
theorem DiskX.names {w : World} {O : Ow} {d fm : Nat} {F : DataW Value} {g : DC} (h : DiskX w O d fm F g) : IsNames g (strKeys F) ∧ (strKeys F).length ≤ 32 := by
  obtain ⟨o1, o2, b1, m1, hsz, hc, hf, hg, hnm, h0, h1, h2, hO⟩ := h
  obtain ⟨k1, k2, k3⟩ := str_keys m1 law_s fun kl hk => by
    obtain ⟨n, e, _⟩ := hnm kl hk
    exact ⟨n, e⟩
  refine ⟨⟨k1, fun n => ?_⟩, by omega⟩
  rw [k2, m1.has_iff]
  cases e : g.file n with
  | none => rw [h0 n e]; simp
  | some c => obtain ⟨fb, q, _⟩ := h1 n c e; rw [q]; simp
/-- the total of those that are no longer left -/
def done (g : DC) (ns : List Nm) (left : Lit → Bool) : Nat := ((ns.filter fun n => !left (sk n)).map (cntOf g)).sum
theorem done_step (g : DC) (left : Lit → Bool) (x : Nm) (hx : left (sk x) = true) : ∀ (ns : List Nm), ns.Nodup → x ∈ ns → done g ns (fun z => left z && !z.sameKey (sk x)) = done g ns left + cntOf g x
  | [], _, h => by simp at h
  | y :: ns, hn, h => by
    obtain ⟨n1, n2⟩ := List.nodup_cons.1 hn
    have hsame : ∀ z : List Nm, x ∉ z → done g z (fun z => left z && !z.sameKey (sk x)) = done g z left := by
      intro z hz
      simp only [done]
      congr 2
      apply List.filter_congr
      intro m hm
      have : m ≠ x := fun e => hz (e ▸ hm)
      simp [sk_same, this]
    by_cases e : y = x
    · subst e
      have := hsame ns n1
      simp only [done, sk_same] at this ⊢
      simp only [List.filter_cons, sk_same, hx, decide_true, Bool.not_true, Bool.and_false, Bool.not_false, if_true, List.map_cons, List.sum_cons, Bool.false_eq_true, if_false]
      omega
    · have hx2 : x ∈ ns := by
        rcases List.mem_cons.1 h with e2 | e2
        · exact absurd e2.symm e
        · exact e2
      have ih := done_step g left x hx ns n2 hx2
      simp only [done, sk_same] at ih ⊢
      simp only [List.filter_cons, sk_same, e, decide_false, Bool.not_false, Bool.and_true]
      cases left (sk y) with
      | true => simpa using ih
      | false =>
        simp only [Bool.not_false, if_true, List.map_cons, List.sum_cons]
        omega
theorem done_le (g : DC) (ns : List Nm) (left : Lit → Bool) : done g ns left ≤ total g ns := by
  induction ns with
  | nil => simp [done, total]
  | cons y ns ih =>
    simp only [done, total, List.filter_cons, List.map_cons, List.sum_cons] at ih ⊢
    split
    · simp only [List.map_cons, List.sum_cons]; omega
    · omega
theorem FileAt.cnt_le {w : World} {O : Ow} {fb : Nat} {c : FC} (h : FileAt w O fb c) : (c.cnt : Int) ≤ c.fin ∧ c.fin ≤ 65536 := by
  obtain ⟨lb, sb, DL, DS, o1, o2, o3, b1, m1, m2, hL, hS, hf⟩ := h
  obtain ⟨k1, k2, k3⟩ := int_keys m1 law_i hL.2.2.2
  have := rising_len (intKeys DL) 0 c.fin k1 (fun x hx => by
    have := (k2 x).1 hx
    rw [m1.has_iff, hL.2.1, Option.isSome_map] at this
    obtain ⟨y, hy⟩ := Option.isSome_iff_exists.1 this
    have := hL.2.2.1 x y hy
    omega) hf.1
  rw [k3, hL.1] at this
  exact ⟨by omega, hf.2⟩
theorem DiskX.total_le {w : World} {O : Ow} {d fm : Nat} {F : DataW Value} {g : DC} (h : DiskX w O d fm F g) : total g (strKeys F) ≤ 32 * 65536 := by
  have hn := h.names
  obtain ⟨o1, o2, b1, m1, hsz, hc, hf, hg, hnm, h0, h1, h2, hO⟩ := h
  have hb : ∀ n, cntOf g n ≤ 65536 := by
    intro n
    simp only [cntOf]
    cases e : g.file n with
    | none => exact Nat.zero_le _
    | some c =>
      obtain ⟨fb, _, q⟩ := h1 n c e
      have := q.cnt_le
      show c.cnt ≤ 65536
      omega
  have : ∀ ns : List Nm, total g ns ≤ ns.length * 65536 := by
    intro ns
    induction ns with
    | nil => simp [total]
    | cons y ns ih =>
      have := hb y
      simp only [total, List.map_cons, List.sum_cons, List.length_cons] at ih ⊢
      omega
  have h3 := this (strKeys F)
  exact Nat.le_trans h3 (Nat.mul_le_mul_right _ hn.2)

theorem keyS_inv : ∀ key kl, keyOf Try.prog 9 key = some kl → ∃ x : Nm, key = nv x := fun key kl h => by
  obtain ⟨x, h1, _⟩ := Maps.keyOf_str Try.underlying9 h
  exact ⟨x, h1⟩
theorem keyS_val {x : Nm} {kl : Lit} (h : keyOf Try.prog 9 (nv x) = some kl) : kl = sk x ∧ x.length ≤ maxLen := by
  obtain ⟨y, h1, h2, h3⟩ := Maps.keyOf_str Try.underlying9 h
  injection h1 with h1
  injection h1 with h1
  have h1' : x = y := by simpa using h1
  subst h1'
  exact ⟨h2, h3⟩

set_option maxRecDepth 100000 in
set_option maxHeartbeats 1600000 in
theorem room_any (w : World) (O : Ow) (d fm : Nat) (F : DataW Value) (g : DC) (h : DiskX w O d fm F g) :
    Calls Try.prog 22 #[fptr d] w fun e w' => e = .returned (.int .i64 (g.cap - total g (strKeys F))) ∧ Ext w w' := by
  have c0 := h.blk.cell 0
  have c1 := h.blk.cell 1
  have hcb := h.capb
  have htl := h.total_le
  have hns := h.names
  obtain ⟨ns, hne⟩ : ∃ ns, strKeys F = ns := ⟨_, rfl⟩
  rw [hne] at htl hns ⊢
  obtain ⟨o1, o2, b1, m1, hsz, hc, hf, hg, hnm, h0, h1, h2, hO⟩ := id h
  go_enter Try.func22, Try.ntmps22
  go_wp2_with fail
  refine (none_at w O d fm F g h).mono ?_
  rintro e w1 ⟨rfl, rfl⟩
  go_wp2_with (at_range; refine wpList_rng _ _ law_s Try.underlying51 rfl rfl m1 rfl ?_; intro w1 hr1 hx1 hs1)
  go_frame
  go_loopw [3] (fun r wr => ∃ left cnt, Ranging Try.prog wr 9 fm w.heap.size F left cnt ∧ Ext w wr ∧ r = .int .i64 (g.cap - done g ns left) ∧ ∀ n, left (sk n) = true → n ∈ ns) (fun _ wr => wr.rangeLeft fm w.heap.size)
  case atStart =>
    refine ⟨_, _, hr1, hx1, ?_, fun n hn => (hns.1.2 n).2 ?_⟩
    · have : done g ns (Maps.has F) = 0 := by
        have : (ns.filter fun n => !Maps.has F (sk n)) = [] := by
          rw [List.filter_eq_nil_iff]
          intro n hn
          have := (hns.1.2 n).1 hn
          cases e : g.file n with
          | none => rw [e] at this; cases this
          | some c => obtain ⟨fb, q, _⟩ := h1 n c e; rw [m1.has_iff, q]; simp
        rw [done, this]
        rfl
      rw [this]
      simp
    · cases e : g.file n with
      | none => rw [m1.has_iff, h0 n e] at hn; cases hn
      | some c => rfl
  case round =>
    obtain ⟨left, cnt, hrg, hxr, rfl, hleft⟩ := hrel
    go_wp2_with (at_next; refine wpList_nxt nv keyS_inv _ law_s w.heap.size left cnt rfl rfl rfl hrg ?_ ?_)
    · intro hl0
      go_wp2_with fail
      go_ret
      have e : done g ns left = total g ns := by
        have : (ns.filter fun n => !left (sk n)) = ns := by
          rw [List.filter_eq_self]
          intro n _
          rw [hl0]
          rfl
        rw [done, this, total]
      rw [e]
      exact ⟨rfl, hxr⟩
    · intro x v kl w3 cnt' hkey hlk hv hrg3 hlt hg3 hs3 hen
      obtain ⟨rfl, hlen⟩ := keyS_val hkey
      have hx3 : Ext w w3 := hxr.grown hg3 (by intro k e; cases e; omega)
      have hxn := hleft x hlk
      have hst := done_step g left x hlk ns hns.1.1 hxn
      have hle := done_le g ns (fun z => left z && !z.sameKey (sk x))
      obtain ⟨c, hcf⟩ := Option.isSome_iff_exists.1 ((hns.1.2 x).1 hxn)
      obtain ⟨fb, q1, q2⟩ := h1 x c hcf
      obtain rfl : v = fptr fb := Option.some.inj (hv.symm.trans q1)
      have hcnt : cntOf g x = c.cnt := by simp [cntOf, hcf]
      obtain ⟨lb, sb, hX⟩ := (q2.ext hx3).x
      have k0 := hX.blk.cell 0
      obtain ⟨DL, DS, p1, p2, p3, b2, n1, n2, hL2, hS2, hf2⟩ := hX
      have hln := n1.len Try.underlying69 3
      rw [hL2.1] at hln
      rw [hcnt] at hst
      obtain ⟨D1, hD1⟩ : ∃ D1, done g ns left = D1 := ⟨_, rfl⟩
      rw [hD1] at hst
      rw [hst] at hle
      have hw : IntKind.i64.wrap (g.cap - (D1 : Int) - (c.cnt : Int)) = g.cap - ((D1 + c.cnt : Nat) : Int) := by rw [IntKind.wrap_i64]; omega
      rw [hD1]
      go_wp2_with fail
      refine ⟨⟨_, _, hrg3, hx3, by rw [hst]; simp, fun n hn => hleft n (by simp at hn; exact hn.1)⟩, hlt⟩

/-- what place answers: the file's block, or an error -/
def Place (w : World) (O : Ow) (F : DataW Value) (g : DC) (n : Nm) (s : Int) (e : Ending) : Prop :=
  (∃ c fb, findE g n s = 0 ∧ g.file n = some c ∧ val F (sk n) = some (fptr fb) ∧ FileAt w O fb c ∧ ((c.lasts s).isSome = true ∨ g.cap - total g (strKeys F) ≠ 0) ∧ e = .returned (.tuple #[fptr fb, .int .i64 0])) ∨
  (findE g n s ≠ 0 ∧ e = .returned (.tuple #[.pointer none, .int .i64 (findE g n s)])) ∨
  (∃ c, findE g n s = 0 ∧ g.file n = some c ∧ c.lasts s = none ∧ g.cap - total g (strKeys F) = 0 ∧ e = .returned (.tuple #[.pointer none, .int .i64 5]))

set_option maxRecDepth 100000 in
set_option maxHeartbeats 1600000 in
theorem place_any (w : World) (O : Ow) (d fm : Nat) (F : DataW Value) (g : DC) (h : DiskX w O d fm F g) (n : Nm) (hn : n.length ≤ maxLen) (s : Int) (hs : (Lit.int .i64 s).wf = true) :
    Calls Try.prog 42 #[fptr d, nv n, .int .i64 s] w fun e w' => Ext w w' ∧ Place w O F g n s e := by
  go_enter Try.func42, Try.ntmps42
  go_wp2_with fail
  refine (find_any w O d fm F g h n hn s hs).mono ?_
  rintro e w1 ⟨rfl, ⟨c, fb, e1, e2, e3, e4, rfl⟩ | ⟨e1, rfl⟩⟩
  · obtain ⟨lb, sb, hX⟩ := e4.x
    go_wp2_with fail
    refine (counts_any w O fb lb sb c s hX hs).mono ?_
    rintro e w2 ⟨rfl, hx2⟩
    cases hls : (c.lasts s).isSome with
    | true =>
      go_wp2_with fail
      go_ret2
      exact ⟨hx2, .inl ⟨c, fb, e1, e2, e3, e4, .inl hls, rfl⟩⟩
    | false =>
      go_wp2_with fail
      refine (room_any w2 O d fm F g (h.ext hx2)).mono ?_
      obtain ⟨R, hR⟩ : ∃ R, g.cap - (total g (strKeys F) : Int) = R := ⟨_, rfl⟩
      rw [hR]
      rintro e w3 ⟨rfl, hx3⟩
      by_cases h0 : R = 0
      · subst h0
        go_wp2_with fail
        go_ret2
        exact ⟨hx2.trans hx3, .inr (.inr ⟨c, e1, e2, by simpa using hls, hR, rfl⟩)⟩
      · have h0' : (R == 0) = false := by simpa using h0
        go_wp2_with fail
        go_ret2
        exact ⟨hx2.trans hx3, .inl ⟨c, fb, e1, e2, e3, e4, .inr (by rw [hR]; exact h0), rfl⟩⟩
  · obtain ⟨E, hE⟩ : ∃ E, findE g n s = E := ⟨_, rfl⟩
    rw [hE] at e1 ⊢
    have hb : (E == 0) = false := by simpa using e1
    go_wp2_with fail
    go_ret2
    exact ⟨Ext.refl _, .inr (.inl ⟨by rw [hE]; exact e1, by rw [hE]; rfl⟩)⟩
theorem place_no (w : World) (v : Value) (h : NoDisk w v) (n s : Value) :
    Calls Try.prog 42 #[v, n, s] w fun e w' => e = .returned (.tuple #[.pointer none, .int .i64 1]) ∧ w = w' := by
  go_enter Try.func42, Try.ntmps42
  go_wp2_with fail
  refine (find_no w v h n s).mono ?_
  rintro e w1 ⟨rfl, rfl⟩
  go_wp2_with fail
  go_ret2
  exact ⟨rfl, rfl⟩
end Go.Proofs.Ytenmdhdloibemaa
