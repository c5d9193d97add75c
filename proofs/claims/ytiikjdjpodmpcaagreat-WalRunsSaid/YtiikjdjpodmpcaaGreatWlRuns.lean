/- The walk of the law WalRuns. -/
import Derived.Test.YtiikjdjpodmpcaaGreatWlStr
import Derived.Test.YtiikjdjpodmpcaaGreatWlKeep
namespace Go.Proofs.YtiikjdjpodmpcaaGreat
open Go.RowKit Go.Maps
set_option linter.unusedVariables false

/-! ### The states -/
theorem read_one {s : St} {p : Str} {f : Nat} {X Y : Str} (h : One s p f X Y) (hp : okP p = true) : s.read p = (s, X, 0) := by
  have := read_idle h.idle p hp (f := f) (by rw [h.files]; exact look_one p f)
  rw [h.now] at this
  exact this
theorem sync_one {L : Lg} {s : St} {p : Str} {f : Nat} {X Y : Str} (h : One s p f X Y) (hp : okP p = true) (hL : L.path = p) (he : L.e = 0) : ∃ s', L.sync s = (L, s') ∧ One s' p f X X ∧ s'.room = s.room := by
  obtain ⟨a, b, c⟩ := h.sync hp
  refine ⟨(s.sync p).1, ?_, b, c⟩
  have hd : doS [fun s => s.sync L.path] s L.e = ((s.sync p).1, 0) := by
    rw [doS_cons, if_pos he, doS_nil]
    show ((s.sync L.path).1, (s.sync L.path).2) = _
    rw [hL, a]
  unfold Lg.sync
  rw [hd]
  simp only
  rw [← he]
theorem aside_one {L : Lg} {s : St} {p : Str} {f : Nat} {X Y : Str} (h : One s p f X Y) (hp : LogPath p) (hL : L.path = p) (he : L.e = 0) (rs : List Str) (hr : (X.length : Int) + (fra rs).length ≤ s.room) : ∃ s' g, L.aside s rs = (⟨p, ((fra rs).length : Nat), (rs.length : Nat), 0⟩, s') ∧ One s' p g (fra rs) (fra rs) ∧ s'.room = s.room := by
  obtain ⟨s', a, b, c⟩ := h.replace hp (fra rs) hr
  refine ⟨s', _, ?_, b, c⟩
  have := replace_of (L := L) (s := s) (s' := s') (b := fra rs) (n := (rs.length : Nat)) (e := 0) (by rw [hL, he]; exact a)
  unfold Lg.aside
  rw [this, if_pos rfl, hL]
theorem open_one {s : St} {p : Str} {f : Nat} {rs : List Str} {Y : Str} (h : One s p f (fra rs) Y) (hp : LogPath p) (hr : okR rs) : openL p s = (⟨p, ((fra rs).length : Nat), (rs.length : Nat), 0⟩, s, rs, 0) := open_whole h.idle hp h.files h.now hr
theorem okR_of {rs : List Str} {n : Nat} (h : sumLen rs ≤ n) (hn : n ≤ 100000) : okR rs := fun p hp => by
  obtain ⟨a, b, rfl⟩ := List.append_of_mem hp
  unfold sumLen at h
  simp only [List.map_append, List.map_cons, List.sum_append, List.sum_cons] at h
  omega
theorem fra_sum (rs : List Str) : (fra rs).length = 8 * rs.length + sumLen rs := fra_length rs
theorem len_sum {rs : List Str} {r : Str} (h : r ∈ rs) : r.length ≤ sumLen rs := by
  obtain ⟨a, b, rfl⟩ := List.append_of_mem h
  unfold sumLen
  simp only [List.map_append, List.map_cons, List.sum_append, List.sum_cons]
  omega
theorem light_of {n most : Nat} {ps : List Str} (h : lightB n most ps = true) : ps.length ≤ n ∧ sumLen ps ≤ most := by
  unfold lightB at h
  simpa using h
def Vq : Str := [108, 111, 103]
theorem Vq_ok : LogPath Vq := ⟨by decide +kernel, by decide +kernel, by decide +kernel, by decide +kernel⟩
theorem okR_append {a b : List Str} (ha : okR a) (hb : okR b) : okR (a ++ b) := fun p hp => by
  rcases List.mem_append.1 hp with h | h
  · exact ha p h
  · exact hb p h

/-! ### The walk -/
theorem LivZ.front {w W : World} {tb k : Nat} {s : St} {Z : List (Nat × Obj)} {x : Nat × Obj} (h : LivZ w tb s k Z W) (hm : x ∈ Z) : ∃ Z', LivZ w tb s k (x :: Z') W := by
  obtain ⟨p, q, rfl⟩ := List.append_of_mem hm
  exact ⟨p ++ q, h.perm List.perm_middle⟩
/-- An element of a slice of strings that came in. -/
theorem SArg.elem {w W : World} {A : Option Addr} {n c : Nat} {ps : List Str} (h : SArg w A n c ps) (hn : Nx w W) {i : Nat} (hi : i < n) : ∃ j o r, A = some ⟨j, o, none⟩ ∧ ps[i]? = some r ∧ W.cell? ⟨j, o + i, none⟩ = some (.string (S r)) := by
  obtain ⟨j, o, e, hj, hx⟩ := h.lies (by omega)
  refine ⟨j, o, ps[i]'(by rw [h.len]; exact hi), e, List.getElem?_eq_getElem _, ?_⟩
  rw [hn.cell hj, hx i hi]
  simp [List.getD, List.getElem?_eq_getElem (show i < ps.length by rw [h.len]; exact hi)]

theorem run_step {w W : World} {tb lb k : Nat} {L : Lg} {s : St} {Z : List (Nat × Obj)} {rs : List Str} {i : Nat} {r : Str} (hr : rs[i]? = some r) (hp : isPath L.path = true) (hs0 : 0 ≤ L.size) (hs1 : L.size ≤ 1000000) (hc0 : 0 ≤ L.count) (hc1 : L.count ≤ 1000000) (hsum : (fra rs).length ≤ 9000) (hk : k + 2 * i + 2 ≤ 1000)
    (h : LivZ w tb (runA L s (rs.take i)).2 (k + 2 * i) ((lb, logO tb (runA L s (rs.take i)).1) :: Z) W) :
    Calls Tryz.prog 32 #[.pointer (some ⟨lb, 0, none⟩), .string (S r)] W fun e w' => e = .returned (.int .i64 (runA L s (rs.take (i + 1))).1.e) ∧ LivZ w tb (runA L s (rs.take (i + 1))).2 (k + 2 * (i + 1)) ((lb, logO tb (runA L s (rs.take (i + 1))).1) :: Z) w' := by
  have hg := (runA_grow L s (rs.take i)).1
  have hl := fra_one_le (List.mem_of_getElem? hr)
  have ht := fra_take_le rs i
  have hln : (rs.take i).length ≤ 9000 := by have := fra_length (rs.take i); omega
  have := hg.s0
  have := hg.s1
  have := hg.c0
  have := hg.c1
  rw [runA_take L s rs i r hr]
  exact lappend_any h hk (by rw [hg.path]; exact hp) r (by omega) (by omega) (by omega) (by omega) (by omega)

set_option maxRecDepth 100000 in
set_option maxHeartbeats 8000000 in
theorem walRuns_in (w : World) (A1 A2 : Option Addr) (n1 c1 n2 c2 : Nat) (a b : List Str) (h1 : SArg w A1 n1 c1 a) (h2 : SArg w A2 n2 c2 b) (l1 : lightB 30 300 a = true) (l2 : lightB 30 300 b = true) :
    Calls Tryz.prog 8 #[.slice A1 n1 c1, .slice A2 n2 c2] w fun e w' => e = .returned (.bool true) ∧ Below w.heap.size w w' := by
  have la := light_of l1
  have lb := light_of l2
  have hna := h1.len
  have hnb := h2.len
  have fa := fra_sum a
  have fb := fra_sum b
  have ra := okR_of la.2 (by decide)
  have rb := okR_of lb.2 (by decide)
  have LT1 : Hid (∀ W, Nx w W → Calls Tryz.prog 16 #[.slice A1 n1 c1, .int .i64 30, .int .i64 300] W fun e w' => e = .returned (.bool true) ∧ Nx w w') := fun W hW => (light_any W A1 n1 c1 a (h1.nx hW) 30 300 (by decide) (by decide)).mono fun e w' ⟨e1, m, e2⟩ => ⟨by rw [e1, l1], by rw [e2]; exact hW.drewN m⟩
  have LT2 : Hid (∀ W, Nx w W → Calls Tryz.prog 16 #[.slice A2 n2 c2, .int .i64 30, .int .i64 300] W fun e w' => e = .returned (.bool true) ∧ Nx w w') := fun W hW => (light_any W A2 n2 c2 b (h2.nx hW) 30 300 (by decide) (by decide)).mono fun e w' ⟨e1, m, e2⟩ => ⟨by rw [e1, l2], by rw [e2]; exact hW.drewN m⟩
  -- the states
  obtain ⟨s1, o1, one1, room1⟩ := open_new 1048576 (by decide) Vq_ok
  have run1 := fun i => one_run Vq_ok.ok (a.take i) ⟨Vq, 0, 0, 0⟩ s1 0 [] [] rfl rfl one1 (by have := fra_take_le a i; rw [room1]; simp only [List.length_nil]; omega)
  obtain ⟨L2e, one2, room2⟩ := run1 a.length
  rw [List.take_length] at L2e one2 room2
  rw [List.nil_append] at one2
  obtain ⟨s3, sy3, one3, room3⟩ := sync_one (L := (runA ⟨Vq, 0, 0, 0⟩ s1 a).1) one2 Vq_ok.ok (by rw [L2e]) (by rw [L2e])
  have o4 := open_one one3 Vq_ok ra
  have run4 := fun i => one_run Vq_ok.ok (b.take i) ⟨Vq, ((fra a).length : Nat), (a.length : Nat), 0⟩ s3 0 (fra a) (fra a) rfl rfl one3 (by have := fra_take_le b i; rw [room3, room2, room1]; omega)
  obtain ⟨L5e, one5, room5⟩ := run4 b.length
  rw [List.take_length] at L5e one5 room5
  rw [← fra_append] at one5
  have o6 := open_one one5 Vq_ok (okR_append ra rb)
  obtain ⟨s7, g7, as7, one7, room7⟩ := aside_one (L := (runA ⟨Vq, ((fra a).length : Nat), (a.length : Nat), 0⟩ s3 b).1) one5 Vq_ok (by rw [L5e]) (by rw [L5e]) b (by rw [room5, room3, room2, room1, fra_append, List.length_append]; omega)
  have o8 := open_one one7 Vq_ok rb
  have hpaths : s7.paths [] = [Vq] := by unfold St.paths; rw [one7.files]; rfl
  have LV := Lib.hid (lives_any w)
  have SA := Lib.hid h1
  have SB := Lib.hid h2
  have X0 : Hid (∀ W, Nx w W → Calls Tryz.prog 17 #[.int .i64 1048576] W fun e w' => ∃ tb, e = .returned (.tuple #[.pointer (some ⟨tb, 0, none⟩), .int .i64 0]) ∧ LivZ w tb (St.new 1048576) 0 [] w') := fun W hW => (liv_new (w := w) (W := W) 1048576 (by decide) (by decide) hW).mono fun e w' ⟨e1, e2⟩ => ⟨_, e1, LivZ.of e2⟩
  have X1 : Hid (∀ W tb, LivZ w tb (St.new 1048576) 0 [] W → Calls Tryz.prog 11 #[.pointer (some ⟨tb, 0, none⟩), .string ⟨#[108, 111, 103]⟩] W fun e w' => ∃ lb A m c Z1, e = .returned (.tuple #[.pointer (some ⟨lb, 0, none⟩), .slice A m c, .int .i64 0]) ∧ LivZ w tb s1 12 ((lb, logO tb ⟨Vq, 0, 0, 0⟩) :: Z1) w' ∧ StrZ Z1 A m c []) := fun W tb h => by
    have := lopen_ok h (by decide) Vq Vq_ok.is (by decide +kernel) (by rw [o1])
    rw [o1] at this
    exact this.mono fun e w' ⟨lb, A, m, c, Z1, e1, e2, e3, e4⟩ => ⟨lb, A, m, c, Z1, e1, e3, e4⟩
  have X2 : Hid (∀ W tb lb Z i r, i < n1 → a[i]? = some r → LivZ w tb (runA ⟨Vq, 0, 0, 0⟩ s1 (a.take i)).2 (12 + 2 * i) ((lb, logO tb (runA ⟨Vq, 0, 0, 0⟩ s1 (a.take i)).1) :: Z) W → Calls Tryz.prog 32 #[.pointer (some ⟨lb, 0, none⟩), .string (S r)] W fun e w' => e = .returned (.int .i64 0) ∧ LivZ w tb (runA ⟨Vq, 0, 0, 0⟩ s1 (a.take (i + 1))).2 (12 + 2 * (i + 1)) ((lb, logO tb (runA ⟨Vq, 0, 0, 0⟩ s1 (a.take (i + 1))).1) :: Z) w') := fun W tb lb Z i r hi hr h => by
    have := run_step (L := ⟨Vq, 0, 0, 0⟩) (s := s1) (rs := a) (k := 12) hr Vq_ok.is (by decide) (by decide) (by decide) (by decide) (by omega) (by omega) h
    rw [(run1 (i + 1)).1] at this ⊢
    exact this
  have X3 : Hid (∀ W tb lb Z k i, i < n1 → LivZ w tb (runA ⟨Vq, 0, 0, 0⟩ s1 (a.take (i + 1))).2 k ((lb, logO tb (runA ⟨Vq, 0, 0, 0⟩ s1 (a.take (i + 1))).1) :: Z) W → Calls Tryz.prog 28 #[.pointer (some ⟨lb, 0, none⟩)] W fun e w' => e = .returned (.int .i64 ((i : Int) + 1)) ∧ W = w') := fun W tb lb Z k i hi h => by
    have := lcount_any h.logAt.log
    rw [(run1 (i + 1)).1] at this
    simp only [List.length_take] at this
    rw [show ((0 : Int) + ((min (i + 1) a.length : Nat) : Int)) = (i : Int) + 1 by omega] at this
    exact this
  have X4 : Hid (∀ W tb lb Z, LivZ w tb (runA ⟨Vq, 0, 0, 0⟩ s1 a).2 (12 + 2 * n1) ((lb, logO tb (runA ⟨Vq, 0, 0, 0⟩ s1 a).1) :: Z) W → Calls Tryz.prog 33 #[.pointer (some ⟨lb, 0, none⟩)] W fun e w' => e = .returned (.int .i64 0) ∧ LivZ w tb s3 (14 + 2 * n1) ((lb, logO tb ⟨Vq, ((fra a).length : Nat), (a.length : Nat), 0⟩) :: Z) w') := fun W tb lb Z h => by
    have := lsync_any h (by omega) (by rw [L2e]; exact Vq_ok.is)
    rw [sy3, L2e] at this
    simp only [Int.zero_add] at this
    rw [show 12 + 2 * n1 + 2 = 14 + 2 * n1 by omega] at this
    exact this
  have X5 : Hid (∀ W tb lb s k Z, LivZ w tb s k ((lb, logO tb ⟨Vq, ((fra a).length : Nat), (a.length : Nat), 0⟩) :: Z) W → Calls Tryz.prog 27 #[.pointer (some ⟨lb, 0, none⟩)] W fun e w' => e = .returned (.int .i64 ((fra a).length : Nat)) ∧ W = w') := fun W tb lb s k Z h => lsize_any h.logAt.log
  have X6 : Hid (∀ W tb Z, LivZ w tb s3 (14 + 2 * n1) Z W → Calls Tryz.prog 11 #[.pointer (some ⟨tb, 0, none⟩), .string ⟨#[108, 111, 103]⟩] W fun e w' => ∃ lb A m c Z1, e = .returned (.tuple #[.pointer (some ⟨lb, 0, none⟩), .slice A m c, .int .i64 0]) ∧ LivZ w tb s3 (26 + 2 * n1) ((lb, logO tb ⟨Vq, ((fra a).length : Nat), (a.length : Nat), 0⟩) :: Z1) w' ∧ StrZ Z1 A m c a) := fun W tb Z h => by
    have := lopen_ok h (by omega) Vq Vq_ok.is (by rw [read_one one3 Vq_ok.ok]; show (fra a).length ≤ _; omega) (by rw [o4])
    rw [o4, show 14 + 2 * n1 + 12 = 26 + 2 * n1 by omega] at this
    exact this.mono fun e w' ⟨lb, A, m, c, Z1, e1, e2, e3, e4⟩ => ⟨lb, A, m, c, Z1, e1, e3, e4⟩
  have X7 : Hid (∀ W tb lb s k Z, LivZ w tb s k ((lb, logO tb ⟨Vq, ((fra a).length : Nat), (a.length : Nat), 0⟩) :: Z) W → Calls Tryz.prog 28 #[.pointer (some ⟨lb, 0, none⟩)] W fun e w' => e = .returned (.int .i64 (n1 : Int)) ∧ W = w') := fun W tb lb s k Z h => by
    have := lcount_any h.logAt.log
    simp only at this
    rw [show ((a.length : Nat) : Int) = (n1 : Int) by omega] at this
    exact this
  have X8 : Hid (∀ W tb lb Z i r, i < n2 → b[i]? = some r → LivZ w tb (runA ⟨Vq, ((fra a).length : Nat), (a.length : Nat), 0⟩ s3 (b.take i)).2 (26 + 2 * n1 + 2 * i) ((lb, logO tb (runA ⟨Vq, ((fra a).length : Nat), (a.length : Nat), 0⟩ s3 (b.take i)).1) :: Z) W → Calls Tryz.prog 32 #[.pointer (some ⟨lb, 0, none⟩), .string (S r)] W fun e w' => e = .returned (.int .i64 0) ∧ LivZ w tb (runA ⟨Vq, ((fra a).length : Nat), (a.length : Nat), 0⟩ s3 (b.take (i + 1))).2 (26 + 2 * n1 + 2 * (i + 1)) ((lb, logO tb (runA ⟨Vq, ((fra a).length : Nat), (a.length : Nat), 0⟩ s3 (b.take (i + 1))).1) :: Z) w') := fun W tb lb Z i r hi hr h => by
    have := run_step (L := ⟨Vq, ((fra a).length : Nat), (a.length : Nat), 0⟩) (s := s3) (rs := b) (k := 26 + 2 * n1) hr Vq_ok.is (by show (0 : Int) ≤ ((fra a).length : Nat); omega) (by show (((fra a).length : Nat) : Int) ≤ _; omega) (by show (0 : Int) ≤ (a.length : Nat); omega) (by show ((a.length : Nat) : Int) ≤ _; omega) (by omega) (by omega) h
    rw [(run4 (i + 1)).1] at this ⊢
    exact this
  have X9 : Hid (∀ W tb Z, LivZ w tb (runA ⟨Vq, ((fra a).length : Nat), (a.length : Nat), 0⟩ s3 b).2 (26 + 2 * n1 + 2 * n2) Z W → Calls Tryz.prog 11 #[.pointer (some ⟨tb, 0, none⟩), .string ⟨#[108, 111, 103]⟩] W fun e w' => ∃ lb A m c Z1, e = .returned (.tuple #[.pointer (some ⟨lb, 0, none⟩), .slice A m c, .int .i64 0]) ∧ Z.Sublist Z1 ∧ LivZ w tb (runA ⟨Vq, ((fra a).length : Nat), (a.length : Nat), 0⟩ s3 b).2 (38 + 2 * n1 + 2 * n2) Z1 w' ∧ StrZ Z1 A m c (a ++ b)) := fun W tb Z h => by
    have := lopen_ok h (by omega) Vq Vq_ok.is (by rw [read_one one5 Vq_ok.ok]; show (fra (a ++ b)).length ≤ _; rw [fra_append, List.length_append]; omega) (by rw [o6])
    rw [o6, show 26 + 2 * n1 + 2 * n2 + 12 = 38 + 2 * n1 + 2 * n2 by omega] at this
    exact this.mono fun e w' ⟨lb, A, m, c, Z1, e1, e2, e3, e4⟩ => ⟨lb, A, m, c, Z1, e1, e2, e3.tail, e4⟩
  have X10 : Hid (∀ W tb lb Z A m c, LivZ w tb (runA ⟨Vq, ((fra a).length : Nat), (a.length : Nat), 0⟩ s3 b).2 (38 + 2 * n1 + 2 * n2) ((lb, logO tb (runA ⟨Vq, ((fra a).length : Nat), (a.length : Nat), 0⟩ s3 b).1) :: Z) W → Strs W A m b → Calls Tryz.prog 34 #[.pointer (some ⟨lb, 0, none⟩), .slice A m c] W fun e w' => e = .returned (.int .i64 0) ∧ ∃ Z1, LivZ w tb s7 (50 + 2 * n1 + 2 * n2) ((lb, logO tb ⟨Vq, ((fra b).length : Nat), (b.length : Nat), 0⟩) :: Z1) w') := fun W tb lb Z A m c h hs => by
    have := laside_any h (by omega) (by rw [L5e]; exact Vq_ok.is) A m c b hs (by omega)
    rw [as7, show 38 + 2 * n1 + 2 * n2 + 12 = 50 + 2 * n1 + 2 * n2 by omega] at this
    exact this.mono fun e w' ⟨e1, Z1, e2, e3⟩ => ⟨e1, Z1, e3⟩
  have X11 : Hid (∀ W tb lb s k Z, LivZ w tb s k ((lb, logO tb ⟨Vq, ((fra b).length : Nat), (b.length : Nat), 0⟩) :: Z) W → Calls Tryz.prog 28 #[.pointer (some ⟨lb, 0, none⟩)] W fun e w' => e = .returned (.int .i64 (n2 : Int)) ∧ W = w') := fun W tb lb s k Z h => by
    have := lcount_any h.logAt.log
    simp only at this
    rw [show ((b.length : Nat) : Int) = (n2 : Int) by omega] at this
    exact this
  have X12 : Hid (∀ W tb Z, LivZ w tb s7 (50 + 2 * n1 + 2 * n2) Z W → Calls Tryz.prog 11 #[.pointer (some ⟨tb, 0, none⟩), .string ⟨#[108, 111, 103]⟩] W fun e w' => ∃ lb A m c Z1, e = .returned (.tuple #[.pointer (some ⟨lb, 0, none⟩), .slice A m c, .int .i64 0]) ∧ LivZ w tb s7 (62 + 2 * n1 + 2 * n2) Z1 w' ∧ StrZ Z1 A m c b) := fun W tb Z h => by
    have := lopen_ok h (by omega) Vq Vq_ok.is (by rw [read_one one7 Vq_ok.ok]; show (fra b).length ≤ _; omega) (by rw [o8])
    rw [o8, show 50 + 2 * n1 + 2 * n2 + 12 = 62 + 2 * n1 + 2 * n2 by omega] at this
    exact this.mono fun e w' ⟨lb, A, m, c, Z1, e1, e2, e3, e4⟩ => ⟨lb, A, m, c, Z1, e1, e3.tail, e4⟩
  have X13 : Hid (∀ W tb k Z, k + 1 ≤ 1000 → LivZ w tb s7 k Z W → Calls Tryz.prog 21 #[.pointer (some ⟨tb, 0, none⟩), .string ⟨#[]⟩] W fun e w' => (∃ A n c, e = .returned (.slice A n c) ∧ Strs w' A n [Vq]) ∧ Nx W w') := fun W tb k Z hk h => by
    have := liv_paths h.liv hk []
    rw [hpaths] at this
    exact this
  have TX : Hid (∀ W A1 A2 m1 d1 m2 d2 ps, SRd W A1 m1 ps → SRd W A2 m2 ps → Calls Tryz.prog 13 #[.slice A1 m1 d1, .slice A2 m2 d2] W fun e w' => e = .returned (.bool true) ∧ ∃ m, w' = W.drewN m) := fun W A1 A2 m1 d1 m2 d2 ps h1 h2 => by
    have := texts_rd W A1 A2 m1 d1 m2 d2 ps ps h1 h2
    rw [decide_eq_true rfl] at this
    exact this
  have FA : Hid (∀ i, i ≤ n1 → ((runA ⟨Vq, 0, 0, 0⟩ s1 (a.take i)) = (runA ⟨Vq, 0, 0, 0⟩ s1 (a.take i)))) := fun _ _ => rfl
  have TA : Hid (a.take n1 = a) := List.take_of_length_le (by omega)
  have TB : Hid (b.take n2 = b) := List.take_of_length_le (by omega)
  have i1 : (n1 : Int) ≤ 30 := by omega
  have i2 : (n2 : Int) ≤ 30 := by omega
  have G0 : Hid (runA ⟨Vq, 0, 0, 0⟩ s1 (a.take 0) = (⟨Vq, 0, 0, 0⟩, s1)) := rfl
  have G4 : Hid (runA ⟨Vq, ((fra a).length : Nat), (a.length : Nat), 0⟩ s3 (b.take 0) = (⟨Vq, ((fra a).length : Nat), (a.length : Nat), 0⟩, s3)) := rfl
  have n1a : Hid (a.length = n1) := hna
  have n2b : Hid (b.length = n2) := hnb
  clear h1 h2 l1 l2 la lb hna hnb fa fb ra rb o1 one1 room1 run1 L2e one2 room2 sy3 one3 room3 o4 run4 L5e one5 room5 o6 as7 one7 room7 o8 hpaths FA
  go_enter Tryz.func8, Tryz.ntmps8
  go_wp2_with fail
  refine LV.out.mono ?_
  rintro e w1 ⟨rfl, hb⟩
  have H1 := Lib.hid hb
  clear hb LV
  go_wp2_with fail
  refine (LT1.out w1 H1.out).mono ?_
  rintro e w2 ⟨rfl, hb⟩
  have H2 := Lib.hid hb
  clear hb LT1
  go_wp2_with fail
  refine (LT2.out w2 H2.out).mono ?_
  rintro e w3 ⟨rfl, hb⟩
  have H3 := Lib.hid hb
  clear hb LT2
  go_wp2_with fail
  refine (X0.out w3 H3.out).mono ?_
  rintro e w4 ⟨tb, rfl, hl⟩
  have H4 := Lib.hid hl
  clear hl X0 H1 H2 H3
  go_wp2_with fail
  refine (X1.out w4 tb H4.out).mono ?_
  rintro e w5 ⟨lb, A5, m5, c5, Z5, rfl, hl, hz⟩
  have H5 := Lib.hid hl
  have hm : m5 = 0 := (hz.len fun z hz => hl.at_ z (List.mem_cons_of_mem _ hz)).symm
  subst hm
  clear hl hz X1 H4
  go_wp2
  go_loopw [9] (fun x wr => ∃ i : Nat, x = .int .i64 i ∧ i ≤ n1 ∧ Hid (LivZ w tb (runA ⟨Vq, 0, 0, 0⟩ s1 (a.take i)).2 (12 + 2 * i) ((lb, logO tb (runA ⟨Vq, 0, 0, 0⟩ s1 (a.take i)).1) :: Z5) wr)) (fun x _ => n1 - (intOf x).toNat)
  case atStart => exact ⟨0, rfl, Nat.zero_le _, by rw [G0.out]; exact H5.out⟩
  case round =>
    obtain ⟨i, rfl, hi, hrel⟩ := hrel
    by_cases hlt : i < n1
    · obtain ⟨j, o, r, rfl, hr, hc⟩ := SA.out.elem hrel.out.nx hlt
      have XA := Lib.hid (X2.out wr tb lb Z5 i r hlt hr hrel.out)
      have HLT := Lib.hid hlt
      clear hr
      generalize S r = sr at *
      go_wp2_with fail
      refine XA.out.mono ?_
      rintro e wa ⟨rfl, hl⟩
      have HA := Lib.hid hl
      clear hl XA
      go_wp2_with fail
      refine (X3.out wa tb lb Z5 _ i HLT.out HA.out).mono ?_
      rintro e wb ⟨rfl, rfl⟩
      go_wp2
      go_roundw
      case rel => exact ⟨i + 1, by go_num, by omega, HA.out⟩
      case measure => simp [intOf]; omega
    · obtain rfl : i = n1 := by omega
      have hl := hrel.out
      rw [TA.out] at hl
      have H6 := Lib.hid hl
      clear hl hrel X2 X3 H5
      go_wp2_with fail
      refine (X4.out wr tb lb Z5 H6.out).mono ?_
      rintro e w7 ⟨rfl, hl⟩
      have H7 := Lib.hid hl
      clear hl X4 H6
      go_wp2_with fail
      refine (X5.out w7 tb lb _ _ Z5 H7.out).mono ?_
      rintro e w8 ⟨rfl, rfl⟩
      go_wp2_with fail
      refine (X6.out w7 tb _ H7.out).mono ?_
      rintro e w9 ⟨lb2, A9, m9, c9, Z9, rfl, hl, hz⟩
      have H9 := Lib.hid hl
      have HZ := Lib.hid hz
      clear hl hz X6 H7
      go_wp2_with fail
      refine (TX.out w9 A9 A1 m9 c9 i c1 a (HZ.out.strs fun z hz => H9.out.at_ z (List.mem_cons_of_mem _ hz)).rd ((SA.out.nx H9.out.nx).rd (by omega))).mono ?_
      rintro e w10 ⟨rfl, m, hm⟩
      have H10 : Hid (LivZ w tb s3 (26 + 2 * i) ((lb2, logO tb ⟨Vq, ((fra a).length : Nat), (a.length : Nat), 0⟩) :: Z9) w10) := by rw [hm]; exact H9.out.drewN m
      clear hm H9 HZ
      go_wp2_with fail
      refine (X5.out w10 tb lb2 _ _ Z9 H10.out).mono ?_
      rintro e w11 ⟨rfl, rfl⟩
      go_wp2_with fail
      refine (X7.out w10 tb lb2 _ _ Z9 H10.out).mono ?_
      rintro e w11 ⟨rfl, rfl⟩
      clear X5 X7
      go_wp2
      go_loopw [11] (fun x wq => ∃ q : Nat, x = .int .i64 q ∧ q ≤ n2 ∧ Hid (LivZ w tb (runA ⟨Vq, ((fra a).length : Nat), (a.length : Nat), 0⟩ s3 (b.take q)).2 (26 + 2 * i + 2 * q) ((lb2, logO tb (runA ⟨Vq, ((fra a).length : Nat), (a.length : Nat), 0⟩ s3 (b.take q)).1) :: Z9) wq)) (fun x _ => n2 - (intOf x).toNat)
      case atStart => exact ⟨0, rfl, Nat.zero_le _, by rw [G4.out]; exact H10.out⟩
      case round =>
        obtain ⟨q, rfl, hq, hrel⟩ := hrel
        by_cases hlt2 : q < n2
        · obtain ⟨j, o, r, rfl, hr, hc⟩ := SB.out.elem hrel.out.nx hlt2
          have XB := Lib.hid (X8.out wr tb lb2 Z9 q r hlt2 hr hrel.out)
          clear hr
          generalize S r = sr at *
          go_wp2_with fail
          refine XB.out.mono ?_
          rintro e wa ⟨rfl, hl⟩
          have HA := Lib.hid hl
          clear hl XB
          go_wp2
          go_roundw
          case rel => exact ⟨q + 1, by go_num, by omega, HA.out⟩
          case measure => simp [intOf]; omega
        · obtain rfl : q = n2 := by omega
          have hl := hrel.out
          rw [TB.out] at hl
          have H12 := Lib.hid hl
          clear hl hrel X8 H10
          go_wp2_with fail
          refine (X9.out wr tb _ H12.out).mono ?_
          rintro e w13 ⟨lb3, A13, m13, c13, Z13, rfl, hsub, hl, hz⟩
          have H13 := Lib.hid hl
          have HZ13 := Lib.hid hz
          have HM13 := Lib.hid (hsub.subset List.mem_cons_self)
          clear hl hz hsub X9 H12
          go_wp2_with (first
            | (at_builtin; refine BigFrame.wpList_want rfl fun K hK => wp_strs_copy (.tmp 116) (.tmp 117) rfl rfl A1 i c1 a rfl (SA.out.nx H13.out.nx) (by omega) ?_; intro A14 c14 w14 hr14 hn14; have R14 := Lib.hid hr14; have N14 := Lib.hid hn14; clear hr14 hn14; refine hK _ _ ?_; clear hK K)
            | (at_builtin; refine BigFrame.wpList_want rfl fun K hK => wp_str_append (.tmp 118) (.tmp 119) rfl w13.heap.size A14 i c14 a rfl R14.out N14.out.size A2 q c2 b rfl (SB.out.nx (H13.out.nx.trans N14.out)) (by omega) ?_; intro A15 c15 w15 hr15 hn15; have R15 := Lib.hid hr15; have N15 := Lib.hid (hn15 w13 N14.out rfl); clear hr15 hn15; refine hK _ _ ?_; clear hK K))
          have H15 := Lib.hid (H13.out.next N15.out)
          refine (TX.out w15 A13 A15 m13 c13 (i + q) c15 (a ++ b) (HZ13.out.strs fun z hz => H15.out.at_ z hz).rd (R15.out.strs (by omega)).rd).mono ?_
          rintro e w16 ⟨rfl, m, hm⟩
          have H16 : Hid (LivZ w tb (runA ⟨Vq, ((fra a).length : Nat), (a.length : Nat), 0⟩ s3 b).2 (38 + 2 * i + 2 * q) Z13 w16) := by rw [hm]; exact H15.out.drewN m
          clear hm H15 H13 HZ13 R14 N14 R15 N15
          obtain ⟨Z16, hf⟩ := H16.out.front HM13.out
          have F16 := Lib.hid hf
          clear hf H16 HM13
          go_wp2_with (at_builtin; refine BigFrame.wpList_want rfl fun K hK => wp_strs_copy (.tmp 126) (.tmp 127) rfl rfl A2 q c2 b rfl (SB.out.nx F16.out.nx) (by omega) ?_; intro A17 c17 w17 hr17 hn17; have R17 := Lib.hid hr17; have N17 := Lib.hid hn17; clear hr17 hn17; refine hK _ _ ?_; clear hK K)
          refine (X10.out w17 tb lb2 Z16 A17 q c17 (F16.out.next N17.out) (R17.out.strs (by omega))).mono ?_
          rintro e w18 ⟨rfl, Z18, hl⟩
          have H18 := Lib.hid hl
          clear hl X10 F16 R17 N17
          go_wp2_with fail
          refine (X11.out w18 tb lb2 _ _ Z18 H18.out).mono ?_
          rintro e w19 ⟨rfl, rfl⟩
          go_wp2_with fail
          refine (X12.out w18 tb _ H18.out).mono ?_
          rintro e w20 ⟨lb4, A20, m20, c20, Z20, rfl, hl, hz⟩
          have H20 := Lib.hid hl
          have HZ20 := Lib.hid hz
          clear hl hz X12 H18 X11
          go_wp2_with fail
          refine (TX.out w20 A20 A2 m20 c20 q c2 b (HZ20.out.strs fun z hz => H20.out.at_ z hz).rd ((SB.out.nx H20.out.nx).rd (by omega))).mono ?_
          rintro e w21 ⟨rfl, m, hm⟩
          have H21 : Hid (LivZ w tb s7 (62 + 2 * i + 2 * q) Z20 w21) := by rw [hm]; exact H20.out.drewN m
          clear hm H20 HZ20
          go_wp2_with fail
          refine (X13.out w21 tb _ Z20 (by omega) H21.out).mono ?_
          rintro e w22 ⟨⟨A22, n22, c22, rfl, hs⟩, hn⟩
          have H22 := Lib.hid (H21.out.next hn)
          have HS := Lib.hid hs
          have h22 : n22 = 1 := hs.len.symm
          subst h22
          clear hs hn X13 H21
          have nx1 : Nx w22 (w22.alloc (.cells #[.string ⟨#[108, 111, 103]⟩] 9)) := (Below.refl _ w22).alloc (Nat.le_refl _) _
          have T2 := Lib.hid (TX.out (w22.alloc (.cells #[.string ⟨#[108, 111, 103]⟩] 9)) A22 (some ⟨w22.heap.size, 0, none⟩) 1 c22 1 1 [Vq] (HS.out.nx nx1).rd (strs_1 w22 Vq).rd)
          have H23 := Lib.hid (H22.out.next nx1)
          clear nx1
          go_wp2_with fail
          refine T2.out.mono ?_
          rintro e w24 ⟨rfl, m, hm⟩
          have H24 : Hid (Nx w w24) := by rw [hm]; exact H23.out.nx.drewN m
          clear hm H23 H22 T2
          go_wp2
          go_ret
          exact ⟨rfl, H24.out⟩
end Go.Proofs.YtiikjdjpodmpcaaGreat
