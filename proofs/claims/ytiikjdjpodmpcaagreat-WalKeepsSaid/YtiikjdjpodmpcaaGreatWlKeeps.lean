/- The walk of the law WalKeeps. -/
import Derived.Test.YtiikjdjpodmpcaaGreatWlRuns
import Derived.Test.YtiikjdjpodmpcaaGreatWlKeep2
import Derived.Test.YtiikjdjpodmpcaaGreatAll2
namespace Go.Proofs.YtiikjdjpodmpcaaGreat
open Go.RowKit Go.Maps
set_option linter.unusedVariables false

/-! ### The states -/
def Vk : Str := [108]
theorem Vk_ok : LogPath Vk := ⟨by decide +kernel, by decide +kernel, by decide +kernel, by decide +kernel⟩
structure KS (a b c : List Str) (fuse : Int) (s1 s3 s4 t : St) (er : Int) : Prop where
  op : openL Vk (St.new 100000) = (⟨Vk, 0, 0, 0⟩, s1, [], 0)
  e0 : ∀ i, (runA ⟨Vk, 0, 0, 0⟩ s1 (a.take i)).1.e = 0
  p0 : (runA ⟨Vk, 0, 0, 0⟩ s1 a).1.path = Vk
  sy : (runA ⟨Vk, 0, 0, 0⟩ s1 a).1.sync (runA ⟨Vk, 0, 0, 0⟩ s1 a).2 = (⟨Vk, ((fra a).length : Nat), (a.length : Nat), 0⟩, s3)
  fu : s3.fuse_ fuse = s4
  p4 : (runA ⟨Vk, ((fra a).length : Nat), (a.length : Nat), 0⟩ s4 b).1.path = Vk
  her : ((runA ⟨Vk, ((fra a).length : Nat), (a.length : Nat), 0⟩ s4 b).1.aside (runA ⟨Vk, ((fra a).length : Nat), (a.length : Nat), 0⟩ s4 b).2 c).1.e = er
  ht : ((runA ⟨Vk, ((fra a).length : Nat), (a.length : Nat), 0⟩ s4 b).1.aside (runA ⟨Vk, ((fra a).length : Nat), (a.length : Nat), 0⟩ s4 b).2 c).2 = t
  fin : ∀ (keep : Int) (parts : List Int), ∃ L5 s5 L6 rs, openL Vk (t.crash keep parts) = (L5, s5, rs, 0) ∧ openL Vk s5 = (L6, s5, rs, 0) ∧ (rs = c ∨ (er ≠ 0 ∧ ∃ m, m ≤ b.length ∧ rs = a ++ b.take m)) ∧ ((t.crash keep parts).read Vk).2.1.length ≤ 10000 ∧ (s5.read Vk).2.1.length ≤ 10000
theorem ks_of (a b c : List Str) (fuse : Int) (ra : okR a) (rb : okR b) (rc : okR c) (fa : (fra a).length ≤ 3400) (fb : (fra b).length ≤ 3400) (fc : (fra c).length ≤ 3400) : ∃ s1 s3 s4 t er, KS a b c fuse s1 s3 s4 t er := by
  obtain ⟨s1, o1, one1, room1⟩ := open_new 100000 (by decide) Vk_ok
  have run1 := fun i => one_run Vk_ok.ok (a.take i) ⟨Vk, 0, 0, 0⟩ s1 0 [] [] rfl rfl one1 (by have := fra_take_le a i; rw [room1]; simp only [List.length_nil]; omega)
  obtain ⟨L2e, one2, room2⟩ := run1 a.length
  rw [List.take_length] at L2e one2 room2
  rw [List.nil_append] at one2
  obtain ⟨s3, sy3, one3, room3⟩ := sync_one (L := (runA ⟨Vk, 0, 0, 0⟩ s1 a).1) one2 Vk_ok.ok (by rw [L2e]) (by rw [L2e])
  have hroom : s3.room = 100000 := by rw [room3, room2, room1]
  obtain ⟨t, e, hd, rt, he⟩ := keeps_run (b := b) (c := c) Vk_ok one3 (by rw [hroom]; omega) (max fuse (-1)) (by omega)
  obtain ⟨hg, g1, g2⟩ := runA_grow ⟨Vk, ((fra a).length : Nat), (a.length : Nat), 0⟩ (s3.wt (max fuse (-1)) false) b
  have hp4 := hg.path
  rw [doS_append] at hd
  have hr : doS (replS (runA ⟨Vk, ((fra a).length : Nat), (a.length : Nat), 0⟩ (s3.wt (max fuse (-1)) false) b).1.path (fra c)) (runA ⟨Vk, ((fra a).length : Nat), (a.length : Nat), 0⟩ (s3.wt (max fuse (-1)) false) b).2 (runA ⟨Vk, ((fra a).length : Nat), (a.length : Nat), 0⟩ (s3.wt (max fuse (-1)) false) b).1.e = (t, e) := by
    rw [hp4, g1, g2]
    exact hd
  have hrep := replace_of (n := (c.length : Nat)) hr
  refine ⟨s1, s3, s3.wt (max fuse (-1)) false, t, e, o1, fun i => by rw [(run1 i).1], by rw [L2e], ?_, fuse_wt one3.idle fuse, hp4, ?_, ?_, fun keep parts => ?_⟩
  · rw [sy3, L2e]
    simp only [Int.zero_add]
  · unfold Lg.aside
    rw [hrep]
    simp only
    split <;> rfl
  · unfold Lg.aside
    rw [hrep]
  · obtain ⟨L5, s5, L6, rs, x1, x2, x3, x4, x5⟩ := keeps_open Vk_ok he ra rb rc (by rw [rt, hroom]; omega) keep parts
    refine ⟨L5, s5, L6, rs, x1, x2, ?_, by omega, by omega⟩
    rcases x3 with x3 | ⟨x3, x6⟩
    · exact .inl x3
    · exact .inr ⟨by simpa using x3, x6⟩

theorem Strs.rdTake {w : World} {A : Option Addr} {n m : Nat} {ps : List Str} (h : Strs w A n ps) (hm : m ≤ n) : SRd w A m (ps.take m) := by
  have hl := h.len
  have hle := h.le
  refine ⟨by rw [List.length_take]; omega, by omega, fun h0 => ?_⟩
  obtain ⟨b, e, hb, hc⟩ := h.at_ (by omega)
  refine ⟨b, 0, e, hb, fun j hj => ?_⟩
  rw [Nat.zero_add, hc j (by omega)]
  simp only [List.getD, List.getElem?_take, if_pos hj]
theorem StrRow.le {w : World} {B : Nat} {A : Option Addr} {n c : Nat} {ps : List Str} (h : StrRow w B A n c ps) : n ≤ c ∧ c ≤ maxLen := by
  rcases h.2 with ⟨hv, h0⟩ | ⟨g, cap, cur, hv, hB, hg, r1, r2, r3, r4⟩
  · simp only [Value.slice.injEq] at hv
    omega
  · simp only [Value.slice.injEq] at hv
    omega

/-! ### The walk -/
set_option maxRecDepth 100000 in
set_option maxHeartbeats 8000000 in
theorem walKeeps_in (w : World) (A1 A2 A3 A4 : Option Addr) (n1 c1 n2 c2 n3 c3 n4 c4 : Nat) (a b c : List Str) (fuse keep : Int) (parts : List Int) (h1 : SArg w A1 n1 c1 a) (h2 : SArg w A2 n2 c2 b) (h3 : SArg w A3 n3 c3 c) (h4 : Nums w A4 n4 c4 parts) (hn4 : n4 ≤ 100) (hfuse : fuse ≤ 9223372036854775807) (hkeep : keep ≤ 9223372036854775807) (l1 : lightB 50 3000 a = true) (l2 : lightB 50 3000 b = true) (l3 : lightB 50 3000 c = true) :
    Calls Tryz.prog 7 #[.slice A1 n1 c1, .slice A2 n2 c2, .slice A3 n3 c3, .int .i64 fuse, .int .i64 keep, .slice A4 n4 c4] w fun e w' => e = .returned (.bool true) ∧ Below w.heap.size w w' := by
  have la := light_of l1
  have lb := light_of l2
  have lc := light_of l3
  have hna := h1.len
  have hnb := h2.len
  have hnc := h3.len
  have fa := fra_sum a
  have fb := fra_sum b
  have fc := fra_sum c
  have ra := okR_of la.2 (by decide)
  have rb := okR_of lb.2 (by decide)
  have rc := okR_of lc.2 (by decide)
  have LT1 : Hid (∀ W, Nx w W → Calls Tryz.prog 16 #[.slice A1 n1 c1, .int .i64 50, .int .i64 3000] W fun e w' => e = .returned (.bool true) ∧ Nx w w') := fun W hW => (light_any W A1 n1 c1 a (h1.nx hW) 50 3000 (by decide) (by decide)).mono fun e w' ⟨e1, m, e2⟩ => ⟨by rw [e1, l1], by rw [e2]; exact hW.drewN m⟩
  have LT2 : Hid (∀ W, Nx w W → Calls Tryz.prog 16 #[.slice A2 n2 c2, .int .i64 50, .int .i64 3000] W fun e w' => e = .returned (.bool true) ∧ Nx w w') := fun W hW => (light_any W A2 n2 c2 b (h2.nx hW) 50 3000 (by decide) (by decide)).mono fun e w' ⟨e1, m, e2⟩ => ⟨by rw [e1, l2], by rw [e2]; exact hW.drewN m⟩
  have LT3 : Hid (∀ W, Nx w W → Calls Tryz.prog 16 #[.slice A3 n3 c3, .int .i64 50, .int .i64 3000] W fun e w' => e = .returned (.bool true) ∧ Nx w w') := fun W hW => (light_any W A3 n3 c3 c (h3.nx hW) 50 3000 (by decide) (by decide)).mono fun e w' ⟨e1, m, e2⟩ => ⟨by rw [e1, l3], by rw [e2]; exact hW.drewN m⟩
  obtain ⟨s1, s3, s4, t, er, ks⟩ := ks_of a b c fuse ra rb rc (by omega) (by omega) (by omega)
  obtain ⟨L5, s5, L6, rs, o5, o6, hout, rd5, rd6⟩ := ks.fin keep parts
  have LV := Lib.hid (lives_any w)
  have SA := Lib.hid h1
  have SB := Lib.hid h2
  have SC := Lib.hid h3
  have PN := Lib.hid h4
  have X0 : Hid (∀ W, Nx w W → Calls Tryz.prog 17 #[.int .i64 100000] W fun e w' => ∃ tb, e = .returned (.tuple #[.pointer (some ⟨tb, 0, none⟩), .int .i64 0]) ∧ LivZ w tb (St.new 100000) 0 [] w') := fun W hW => (liv_new (w := w) (W := W) 100000 (by decide) (by decide) hW).mono fun e w' ⟨e1, e2⟩ => ⟨_, e1, LivZ.of e2⟩
  have X1 : Hid (∀ W tb, LivZ w tb (St.new 100000) 0 [] W → Calls Tryz.prog 11 #[.pointer (some ⟨tb, 0, none⟩), .string ⟨#[108]⟩] W fun e w' => ∃ lb A m c Z1, e = .returned (.tuple #[.pointer (some ⟨lb, 0, none⟩), .slice A m c, .int .i64 0]) ∧ LivZ w tb s1 12 ((lb, logO tb ⟨Vk, 0, 0, 0⟩) :: Z1) w') := fun W tb h => by
    have := lopen_ok h (by decide) Vk Vk_ok.is (by decide +kernel) (by rw [ks.op])
    rw [ks.op] at this
    exact this.mono fun e w' ⟨lb, A, m, c, Z1, e1, e2, e3, e4⟩ => ⟨lb, A, m, c, Z1, e1, e3⟩
  have X2 : Hid (∀ W tb lb Z i r, i < n1 → a[i]? = some r → LivZ w tb (runA ⟨Vk, 0, 0, 0⟩ s1 (a.take i)).2 (12 + 2 * i) ((lb, logO tb (runA ⟨Vk, 0, 0, 0⟩ s1 (a.take i)).1) :: Z) W → Calls Tryz.prog 32 #[.pointer (some ⟨lb, 0, none⟩), .string (S r)] W fun e w' => e = .returned (.int .i64 0) ∧ LivZ w tb (runA ⟨Vk, 0, 0, 0⟩ s1 (a.take (i + 1))).2 (12 + 2 * (i + 1)) ((lb, logO tb (runA ⟨Vk, 0, 0, 0⟩ s1 (a.take (i + 1))).1) :: Z) w') := fun W tb lb Z i r hi hr h => by
    have := run_step (L := ⟨Vk, 0, 0, 0⟩) (s := s1) (rs := a) (k := 12) hr Vk_ok.is (by decide) (by decide) (by decide) (by decide) (by omega) (by omega) h
    rw [ks.e0 (i + 1)] at this
    exact this
  have X4 : Hid (∀ W tb lb Z, LivZ w tb (runA ⟨Vk, 0, 0, 0⟩ s1 a).2 (12 + 2 * n1) ((lb, logO tb (runA ⟨Vk, 0, 0, 0⟩ s1 a).1) :: Z) W → Calls Tryz.prog 33 #[.pointer (some ⟨lb, 0, none⟩)] W fun e w' => e = .returned (.int .i64 0) ∧ LivZ w tb s3 (14 + 2 * n1) ((lb, logO tb ⟨Vk, ((fra a).length : Nat), (a.length : Nat), 0⟩) :: Z) w') := fun W tb lb Z h => by
    have := lsync_any h (by omega) (by rw [ks.p0]; exact Vk_ok.is)
    rw [ks.sy] at this
    rw [show 12 + 2 * n1 + 2 = 14 + 2 * n1 by omega] at this
    exact this
  have X5 : Hid (∀ W tb k Z, LivZ w tb s3 k Z W → Calls Tryz.prog 35 #[.pointer (some ⟨tb, 0, none⟩), .int .i64 fuse] W fun e w' => e = .returned (.int .i64 0) ∧ LivZ w tb s4 k Z w') := fun W tb k Z h => by
    have := livz_fuse h fuse hfuse
    rw [ks.fu] at this
    exact this
  have X8 : Hid (∀ W tb lb Z i r, i < n2 → b[i]? = some r → LivZ w tb (runA ⟨Vk, ((fra a).length : Nat), (a.length : Nat), 0⟩ s4 (b.take i)).2 (14 + 2 * n1 + 2 * i) ((lb, logO tb (runA ⟨Vk, ((fra a).length : Nat), (a.length : Nat), 0⟩ s4 (b.take i)).1) :: Z) W → Calls Tryz.prog 32 #[.pointer (some ⟨lb, 0, none⟩), .string (S r)] W fun e w' => ∃ v : Int, e = .returned (.int .i64 v) ∧ LivZ w tb (runA ⟨Vk, ((fra a).length : Nat), (a.length : Nat), 0⟩ s4 (b.take (i + 1))).2 (14 + 2 * n1 + 2 * (i + 1)) ((lb, logO tb (runA ⟨Vk, ((fra a).length : Nat), (a.length : Nat), 0⟩ s4 (b.take (i + 1))).1) :: Z) w') := fun W tb lb Z i r hi hr h => by
    have := run_step (L := ⟨Vk, ((fra a).length : Nat), (a.length : Nat), 0⟩) (s := s4) (rs := b) (k := 14 + 2 * n1) hr Vk_ok.is (by show (0 : Int) ≤ ((fra a).length : Nat); omega) (by show (((fra a).length : Nat) : Int) ≤ _; omega) (by show (0 : Int) ≤ (a.length : Nat); omega) (by show ((a.length : Nat) : Int) ≤ _; omega) (by omega) (by omega) h
    exact this.mono fun e w' ⟨e1, e2⟩ => ⟨_, e1, e2⟩
  have X10 : Hid (∀ W W0 tb lb Z A m q, LivZ w tb (runA ⟨Vk, ((fra a).length : Nat), (a.length : Nat), 0⟩ s4 b).2 (14 + 2 * n1 + 2 * n2) ((lb, logO tb (runA ⟨Vk, ((fra a).length : Nat), (a.length : Nat), 0⟩ s4 b).1) :: Z) W0 → Nx W0 W → Strs W A m c → Calls Tryz.prog 34 #[.pointer (some ⟨lb, 0, none⟩), .slice A m q] W fun e w' => e = .returned (.int .i64 er) ∧ ∃ Z1, LivZ w tb t (26 + 2 * n1 + 2 * n2) Z1 w') := fun W W0 tb lb Z A m q h hn hs => by
    have := laside_any (h.next hn) (by omega) (by rw [ks.p4]; exact Vk_ok.is) A m q c hs (by omega)
    rw [ks.her, ks.ht, show 14 + 2 * n1 + 2 * n2 + 12 = 26 + 2 * n1 + 2 * n2 by omega] at this
    exact this.mono fun e w' ⟨e1, Z1, e2, e3⟩ => ⟨e1, _, e3⟩
  have X11 : Hid (∀ W W0 tb Z A n q, LivZ w tb t (26 + 2 * n1 + 2 * n2) Z W0 → Nx W0 W → Nums W A n q parts → (∀ j o, A = some ⟨j, o, none⟩ → W0.heap.size ≤ j) → Calls Tryz.prog 36 #[.pointer (some ⟨tb, 0, none⟩), .int .i64 keep, .slice A n q] W fun e w' => e = .returned (.int .i64 0) ∧ LivZ w tb (t.crash keep parts) (28 + 2 * n1 + 2 * n2) Z w') := fun W W0 tb Z A n q h hn hN hA => by
    have := livz_crash h hn (by omega) keep hkeep A n q parts hN (fun j o e => .inl (hA j o e))
    rw [show 26 + 2 * n1 + 2 * n2 + 2 = 28 + 2 * n1 + 2 * n2 by omega] at this
    exact this
  have X12 : Hid (∀ W tb Z, LivZ w tb (t.crash keep parts) (28 + 2 * n1 + 2 * n2) Z W → Calls Tryz.prog 11 #[.pointer (some ⟨tb, 0, none⟩), .string ⟨#[108]⟩] W fun e w' => ∃ lb A m c Z1, e = .returned (.tuple #[.pointer (some ⟨lb, 0, none⟩), .slice A m c, .int .i64 0]) ∧ LivZ w tb s5 (40 + 2 * n1 + 2 * n2) Z1 w' ∧ StrZ Z1 A m c rs) := fun W tb Z h => by
    have := lopen_ok h (by omega) Vk Vk_ok.is rd5 (by rw [o5])
    rw [o5, show 28 + 2 * n1 + 2 * n2 + 12 = 40 + 2 * n1 + 2 * n2 by omega] at this
    exact this.mono fun e w' ⟨lb, A, m, c, Z1, e1, e2, e3, e4⟩ => ⟨lb, A, m, c, Z1, e1, e3.tail, e4⟩
  have X13 : Hid (∀ W tb Z, LivZ w tb s5 (40 + 2 * n1 + 2 * n2) Z W → Calls Tryz.prog 11 #[.pointer (some ⟨tb, 0, none⟩), .string ⟨#[108]⟩] W fun e w' => ∃ lb A m c Z1, e = .returned (.tuple #[.pointer (some ⟨lb, 0, none⟩), .slice A m c, .int .i64 0]) ∧ Z.Sublist Z1 ∧ LivZ w tb s5 (52 + 2 * n1 + 2 * n2) Z1 w' ∧ StrZ Z1 A m c rs) := fun W tb Z h => by
    have := lopen_ok h (by omega) Vk Vk_ok.is rd6 (by rw [o6])
    rw [o6, show 40 + 2 * n1 + 2 * n2 + 12 = 52 + 2 * n1 + 2 * n2 by omega] at this
    exact this.mono fun e w' ⟨lb, A, m, c, Z1, e1, e2, e3, e4⟩ => ⟨lb, A, m, c, Z1, e1, e2, e3.tail, e4⟩
  have TX : Hid (∀ W A1 A2 m1 d1 m2 d2 ps qs r, SRd W A1 m1 ps → SRd W A2 m2 qs → decide (ps = qs) = r → Calls Tryz.prog 13 #[.slice A1 m1 d1, .slice A2 m2 d2] W fun e w' => e = .returned (.bool r) ∧ ∃ m, w' = W.drewN m) := fun W A1 A2 m1 d1 m2 d2 ps qs r h1 h2 hr => by
    have := texts_rd W A1 A2 m1 d1 m2 d2 ps qs h1 h2
    rw [hr] at this
    exact this
  have TA : Hid (a.take n1 = a) := List.take_of_length_le (by omega)
  have TB : Hid (b.take n2 = b) := List.take_of_length_le (by omega)
  have i1 : (n1 : Int) ≤ 50 := by omega
  have i2 : (n2 : Int) ≤ 50 := by omega
  have i3 : (n3 : Int) ≤ 50 := by omega
  have i4 : (n4 : Int) ≤ 100 := by omega
  have G0 : Hid (runA ⟨Vk, 0, 0, 0⟩ s1 (a.take 0) = (⟨Vk, 0, 0, 0⟩, s1)) := rfl
  have G4 : Hid (runA ⟨Vk, ((fra a).length : Nat), (a.length : Nat), 0⟩ s4 (b.take 0) = (⟨Vk, ((fra a).length : Nat), (a.length : Nat), 0⟩, s4)) := rfl
  have n1a : Hid (a.length = n1) := hna
  have n2b : Hid (b.length = n2) := hnb
  have n3c : Hid (c.length = n3) := hnc
  have HO := Lib.hid hout
  clear h1 h2 h3 h4 hn4 hfuse hkeep l1 l2 l3 la lb lc hna hnb hnc fa fb fc ra rb rc ks o5 o6 hout rd5 rd6
  go_enter Tryz.func7, Tryz.ntmps7
  go_wp2_with fail
  refine LV.out.mono ?_
  rintro e w1 ⟨rfl, hb⟩
  have H1 := Lib.hid hb
  clear hb LV
  go_wp2_with fail
  refine (LT1.out w1 H1.out).mono ?_
  rintro e w2 ⟨rfl, hb⟩
  have H2 := Lib.hid hb
  clear hb LT1
  go_wp2_with fail
  refine (LT2.out w2 H2.out).mono ?_
  rintro e w3 ⟨rfl, hb⟩
  have H3 := Lib.hid hb
  clear hb LT2
  go_wp2_with fail
  refine (LT3.out w3 H3.out).mono ?_
  rintro e w4 ⟨rfl, hb⟩
  have H4 := Lib.hid hb
  clear hb LT3 H1 H2 H3
  go_wp2_with fail
  refine (X0.out w4 H4.out).mono ?_
  rintro e w5 ⟨tb, rfl, hl⟩
  have H5 := Lib.hid hl
  clear hl X0 H4
  go_wp2_with fail
  refine (X1.out w5 tb H5.out).mono ?_
  rintro e w6 ⟨lb, A6, m6, c6, Z6, rfl, hl⟩
  have H6 := Lib.hid hl
  clear hl X1 H5
  go_wp2
  go_loopw [14, 17] (fun ev x wr => ∃ i : Nat, ev = .int .i64 0 ∧ x = .int .i64 i ∧ i ≤ n1 ∧ Hid (LivZ w tb (runA ⟨Vk, 0, 0, 0⟩ s1 (a.take i)).2 (12 + 2 * i) ((lb, logO tb (runA ⟨Vk, 0, 0, 0⟩ s1 (a.take i)).1) :: Z6) wr)) (fun _ x _ => n1 - (intOf x).toNat)
  case atStart => exact ⟨0, rfl, rfl, Nat.zero_le _, by rw [G0.out]; exact H6.out⟩
  case round =>
    obtain ⟨i, rfl, rfl, hi, hrel⟩ := hrel
    by_cases hlt : i < n1
    · obtain ⟨j, o, r, rfl, hr, hc⟩ := SA.out.elem hrel.out.nx hlt
      have XA := Lib.hid (X2.out wr tb lb Z6 i r hlt hr hrel.out)
      have HLT := Lib.hid hlt
      clear hr
      generalize S r = sr at *
      go_wp2_with fail
      refine XA.out.mono ?_
      rintro e wa ⟨rfl, hl⟩
      have HA := Lib.hid hl
      clear hl XA
      go_wp2
      go_roundw
      case rel => exact ⟨i + 1, rfl, by go_num, by omega, HA.out⟩
      case measure => simp [intOf]; omega
    · obtain rfl : i = n1 := by omega
      have hl := hrel.out
      rw [TA.out] at hl
      have H7 := Lib.hid hl
      clear hl hrel X2 H6
      go_wp2_with fail
      refine (X4.out wr tb lb Z6 H7.out).mono ?_
      rintro e w8 ⟨rfl, hl⟩
      have H8 := Lib.hid hl
      clear hl X4 H7
      go_wp2_with fail
      refine (X5.out w8 tb _ _ H8.out).mono ?_
      rintro e w9 ⟨rfl, hl⟩
      have H9 := Lib.hid hl
      clear hl X5 H8
      go_wp2
      go_loopw [18] (fun x wq => ∃ q : Nat, x = .int .i64 q ∧ q ≤ n2 ∧ Hid (LivZ w tb (runA ⟨Vk, ((fra a).length : Nat), (a.length : Nat), 0⟩ s4 (b.take q)).2 (14 + 2 * i + 2 * q) ((lb, logO tb (runA ⟨Vk, ((fra a).length : Nat), (a.length : Nat), 0⟩ s4 (b.take q)).1) :: Z6) wq)) (fun x _ => n2 - (intOf x).toNat)
      case atStart => exact ⟨0, rfl, Nat.zero_le _, by rw [G4.out]; exact H9.out⟩
      case round =>
        obtain ⟨q, rfl, hq, hrel⟩ := hrel
        by_cases hlt2 : q < n2
        · obtain ⟨j, o, r, rfl, hr, hc⟩ := SB.out.elem hrel.out.nx hlt2
          have XB := Lib.hid (X8.out wr tb lb Z6 q r hlt2 hr hrel.out)
          clear hr
          generalize S r = sr at *
          go_wp2_with fail
          refine XB.out.mono ?_
          rintro e wa ⟨v, rfl, hl⟩
          have HA := Lib.hid hl
          clear hl XB
          go_wp2
          go_roundw
          case rel => exact ⟨q + 1, by go_num, by omega, HA.out⟩
          case measure => simp [intOf]; omega
        · obtain rfl : q = n2 := by omega
          have hl := hrel.out
          rw [TB.out] at hl
          have H10 := Lib.hid hl
          clear hl hrel X8 H9
          go_wp2_with (at_builtin; refine BigFrame.wpList_want rfl fun K hK => wp_strs_copy (.tmp 100) (.tmp 101) rfl rfl A3 n3 c3 c rfl (SC.out.nx H10.out.nx) (by omega) ?_; intro A11 c11 w11 hr11 hn11; have R11 := Lib.hid hr11; have N11 := Lib.hid hn11; clear hr11 hn11; refine hK _ _ ?_; clear hK K)
          refine (X10.out w11 wr tb lb Z6 A11 n3 c11 H10.out N11.out (R11.out.strs (by omega))).mono ?_
          rintro e w12 ⟨rfl, Z12, hl⟩
          have H12 := Lib.hid hl
          clear hl X10 H10 R11 N11
          go_wp2_with (at_builtin; refine BigFrame.wpList_want rfl fun K hK => wp_ints_copy (.tmp 107) (.tmp 108) rfl rfl A4 n4 c4 parts rfl (PN.out.nx H12.out.nx) ?_; intro A13 c13 w13 hr13 ha13 hn13; have R13 := Lib.hid hr13; have B13 := Lib.hid ha13; have N13 := Lib.hid hn13; clear hr13 ha13 hn13; refine hK _ _ ?_; clear hK K)
          refine (X11.out w13 w12 tb Z12 A13 n4 c13 H12.out N13.out R13.out B13.out).mono ?_
          rintro e w14 ⟨rfl, hl⟩
          have H14 := Lib.hid hl
          clear hl X11 H12 R13 N13 B13
          go_wp2_with fail
          refine (X12.out w14 tb _ H14.out).mono ?_
          rintro e w15 ⟨lb5, A15, m15, c15, Z15, rfl, hl, hz⟩
          have H15 := Lib.hid hl
          have HZ15 := Lib.hid hz
          clear hl hz X12 H14
          go_wp2_with fail
          refine (X13.out w15 tb _ H15.out).mono ?_
          rintro e w16 ⟨lb6, A16, m16, c16, Z16, rfl, hsub, hl, hz⟩
          have H16 := Lib.hid hl
          have HZ16 := Lib.hid hz
          have HY15 := Lib.hid (HZ15.out.more fun z hz => hsub.subset hz)
          clear hl hz hsub X13 H15 HZ15
          go_wp2_with fail
          refine (TX.out w16 A15 A16 m15 c15 m16 c16 rs rs true (HY15.out.strs fun z hz => H16.out.at_ z hz).rd (HZ16.out.strs fun z hz => H16.out.at_ z hz).rd (decide_eq_true rfl)).mono ?_
          rintro e w17 ⟨rfl, m, hm⟩
          have H17 : Hid (LivZ w tb s5 (52 + 2 * i + 2 * q) Z16 w17) := by rw [hm]; exact H16.out.drewN m
          clear hm H16 HZ16
          by_cases hrc : rs = c
          · have T1 := Lib.hid (TX.out w17 A15 A3 m15 c15 n3 c3 rs c true (HY15.out.strs fun z hz => H17.out.at_ z hz).rd ((SC.out.nx H17.out.nx).rd (by omega)) (decide_eq_true hrc))
            clear hrc
            go_wp2_with fail
            refine T1.out.mono ?_
            rintro e w18 ⟨rfl, m, hm⟩
            have H18 : Hid (Nx w w18) := by rw [hm]; exact H17.out.nx.drewN m
            clear hm T1
            go_wp2
            go_ret
            exact ⟨rfl, H18.out⟩
          · have T1 := Lib.hid (TX.out w17 A15 A3 m15 c15 n3 c3 rs c false (HY15.out.strs fun z hz => H17.out.at_ z hz).rd ((SC.out.nx H17.out.nx).rd (by omega)) (decide_eq_false hrc))
            obtain ⟨her, m, hmb, hrs⟩ : er ≠ 0 ∧ ∃ m, m ≤ b.length ∧ rs = a ++ b.take m := HO.out.resolve_left hrc
            have hlen := HY15.out.len fun z hz => H17.out.at_ z hz
            have hm15 : m15 = i + m := by
              rw [← hlen, hrs, List.length_append, n1a.out, List.length_take, Nat.min_eq_left hmb]
            have HRS : Hid ((a ++ b).take m15 = rs) := by
              show _ = _
              rw [hm15, hrs, ← n1a.out, List.take_append, List.take_of_length_le (by omega)]
              congr 2
              omega
            rw [n2b.out] at hmb
            have j1 : (i : Int) ≤ m15 := by omega
            have j2 : (m15 : Int) ≤ (i : Int) + q := by omega
            have HM := Lib.hid (And.intro hm15 hmb)
            have HER := her
            clear hrc hlen hm15 hrs hmb HO
            go_wp2_with fail
            refine T1.out.mono ?_
            rintro e w18 ⟨rfl, m', hm⟩
            have H18 : Hid (LivZ w tb s5 (52 + 2 * i + 2 * q) Z16 w18) := by rw [hm]; exact H17.out.drewN m'
            clear hm T1 H17
            go_wp2_with (first
              | (at_builtin; refine BigFrame.wpList_want rfl fun K hK => wp_strs_copy (.tmp 139) (.tmp 140) rfl rfl A1 i c1 a rfl (SA.out.nx H18.out.nx) (by omega) ?_; intro A19 c19 w19 hr19 hn19; have R19 := Lib.hid hr19; have N19 := Lib.hid hn19; clear hr19 hn19; refine hK _ _ ?_; clear hK K)
              | (at_builtin; refine BigFrame.wpList_want rfl fun K hK => wp_str_append (.tmp 141) (.tmp 142) rfl w18.heap.size A19 i c19 a rfl R19.out N19.out.size A2 q c2 b rfl (SB.out.nx (H18.out.nx.trans N19.out)) (by omega) ?_; intro A20 c20 w20 hr20 hn20; have R20 := Lib.hid hr20; have N20 := Lib.hid (hn20 w18 N19.out rfl); have j3 : ((i : Int) + q) ≤ c20 := (by have := hr20.le; omega); have j4 : (c20 : Int) ≤ 9223372036854775807 := (by have := hr20.le; unfold maxLen at this; omega); clear hr20 hn20; refine hK _ _ ?_; clear hK K))
            have H20 := Lib.hid (H18.out.next N20.out)
            refine (TX.out w20 A15 A20 m15 c15 m15 c20 rs rs true (HY15.out.strs fun z hz => H20.out.at_ z hz).rd (by have := (R20.out.strs (by omega)).rdTake (m := m15) (by omega); rw [HRS.out] at this; exact this) (decide_eq_true rfl)).mono ?_
            rintro e w21 ⟨rfl, m', hm⟩
            have H21 : Hid (Nx w w21) := by rw [hm]; exact H20.out.nx.drewN m'
            clear hm H20 H18 R19 R20 N19 N20
            go_wp2
            go_ret
            have E0 : (er == 0) = false := by simpa using HER
            refine ⟨?_, H21.out⟩
            rw [E0]
            rfl
end Go.Proofs.YtiikjdjpodmpcaaGreat
