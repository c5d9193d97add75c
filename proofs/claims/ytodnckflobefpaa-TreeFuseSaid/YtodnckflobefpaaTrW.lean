/- Package tree: Crash. -/
import Derived.Test.YtodnckflobefpaaTrV
import Derived.Deep.RegionHeld3
namespace Go.Proofs.Ytodnckflobefpaa
open Go.RowKit Go.Maps
set_option linter.unusedVariables false

/-- The bounds while a crash goes through the files. -/
structure Mid (k j : Nat) (s : St) : Prop where
  fs : ∀ e ∈ s.files, e.2 < s.fil.length
  ss : ∀ e ∈ s.safe, e.2 < s.fil.length
  cs : s.chs = []
  r0 : 0 ≤ s.room
  r1 : s.room ≤ 67108864
  u0 : 0 ≤ s.used
  u1 : s.used ≤ 10000000 * (j : Int)
  ck : s.clock ≤ 10000 * k + 1 + j
  f0 : -1 ≤ s.fuse
  f1 : s.fuse ≤ 9223372036854775807
  nf : s.fil.length ≤ k
  lf : s.files.length ≤ k
  ls : s.safe.length ≤ k
  sz : ∀ i, (s.at_ i).now.length ≤ 10000 * k
  sy : ∀ i, (s.at_ i).sf.length ≤ 10000 * k
theorem Mid.ok {k j : Nat} {s : St} (h : Mid k j s) (hj : j ≤ k) (hk : k + 1 ≤ 1000) : Ok (k + 1) s :=
  ⟨h.fs, h.ss, fun c hc => (by rw [h.cs] at hc; exact absurd hc (List.not_mem_nil)), h.r0, h.r1, by have := h.u0; omega, by have := h.u1; omega, by have := h.ck; omega, h.f0, h.f1, by have := h.nf; omega, by have := h.lf; omega, (by have := h.ls; rw [h.cs]; simp only [List.length_nil]; omega), fun i => by have := h.sz i; omega, fun i => by have := h.sy i; omega⟩
theorem restore_facts (s : St) (p : Str) (f : Nat) (was : Option Nat) (part : Int) : ∃ st, (s.restore p f was part).fil = s.fil.set f ⟨(s.at_ f).rem part, (s.at_ f).rem part, st⟩ ∧ (s.restore p f was part).used = s.used + (((s.at_ f).rem part).length : Int) ∧
    (s.restore p f was part).clock ≤ s.clock + 1 ∧ (s.restore p f was part).files = s.files ∧ (s.restore p f was part).safe = s.safe ∧ (s.restore p f was part).chs = s.chs ∧ (s.restore p f was part).room = s.room ∧ (s.restore p f was part).fuse = s.fuse := by
  cases h : keeps s f was part with
  | true => rw [restore_yes s p f was part h]; exact ⟨_, rfl, rfl, Nat.le_succ _, rfl, rfl, rfl, rfl, rfl⟩
  | false => rw [restore_no s p f was part h]; exact ⟨_, rfl, rfl, Nat.le_refl _, rfl, rfl, rfl, rfl, rfl⟩
theorem at_set2 (s s' : St) (f : Nat) (x : Fil) (h : s'.fil = s.fil.set f x) (P : Fil → Prop) (hx : P x) (hs : ∀ i, P (s.at_ i)) (i : Nat) : P (s'.at_ i) := by
  unfold St.at_
  rw [h]
  by_cases hf : f < s.fil.length
  · have := at_set s f i x hf
    unfold St.at_ at this
    rw [this]
    split
    · exact hx
    · exact hs i
  · rw [List.set_eq_of_length_le (by omega)]
    exact hs i
theorem Mid.restore {k j : Nat} {s : St} (h : Mid k j s) (hk : k ≤ 1000) (p : Str) (f : Nat) (was : Option Nat) (part : Int) : Mid k (j + 1) (s.restore p f was part) := by
  obtain ⟨st, e1, e2, e3, e4, e5, e6, e7, e8⟩ := restore_facts s p f was part
  have hl : ((s.at_ f).rem part).length ≤ 10000 * k := by
    have := h.sz f
    have := h.sy f
    rcases rem_len (s.at_ f) part with e | e <;> omega
  have hlen : (s.restore p f was part).fil.length = s.fil.length := by rw [e1, List.length_set]
  exact ⟨by rw [e4, hlen]; exact h.fs, by rw [e5, hlen]; exact h.ss, by rw [e6]; exact h.cs, by rw [e7]; exact h.r0, by rw [e7]; exact h.r1, by rw [e2]; have := h.u0; omega, by rw [e2]; have := h.u1; omega, by have := h.ck; omega,
    by rw [e8]; exact h.f0, by rw [e8]; exact h.f1, by rw [hlen]; exact h.nf, by rw [e4]; exact h.lf, by rw [e5]; exact h.ls,
    fun i => at_set2 s _ f _ e1 (fun x => x.now.length ≤ 10000 * k) hl h.sz i, fun i => at_set2 s _ f _ e1 (fun x => x.sf.length ≤ 10000 * k) hl h.sy i⟩
theorem restores_append (before : Dir) (parts : List Int) : ∀ (l : Dir) (i : Nat) (e : Str × Nat) (s : St), St.restores before parts i (l ++ [e]) s = (St.restores before parts i l s).restore e.1 e.2 (look before e.1) (partAt parts (i + l.length))
  | [], i, e, s => by obtain ⟨p, f⟩ := e; rfl
  | (p, f) :: r, i, e, s => by
    show St.restores before parts (i + 1) (r ++ [e]) _ = _
    rw [restores_append before parts r (i + 1) e]
    show _ = (St.restores before parts (i + 1) r _).restore e.1 e.2 (look before e.1) (partAt parts (i + (r.length + 1)))
    rw [show i + 1 + r.length = i + (r.length + 1) from by omega]
theorem restores_succ (before : Dir) (parts : List Int) (l : Dir) (i : Nat) (e : Str × Nat) (s : St) (h : l[i]? = some e) : St.restores before parts 0 (l.take (i + 1)) s = (St.restores before parts 0 (l.take i) s).restore e.1 e.2 (look before e.1) (partAt parts i) := by
  rw [List.take_add_one, h]
  have := restores_append before parts (l.take i) 0 e s
  have hi := (List.getElem?_eq_some_iff.1 h).1
  rw [show 0 + (l.take i).length = i from by rw [List.length_take]; omega] at this
  exact this
theorem Mid.restores {k : Nat} {s : St} (h : Mid k 0 s) (hk : k ≤ 1000) (before : Dir) (parts : List Int) (l : Dir) : ∀ i, i ≤ l.length → Mid k i (St.restores before parts 0 (l.take i) s) ∧ (St.restores before parts 0 (l.take i) s).files = s.files ∧ (St.restores before parts 0 (l.take i) s).fil.length = s.fil.length
  | 0, _ => by rw [List.take_zero]; exact ⟨h, rfl, rfl⟩
  | i + 1, hi => by
    have ih := Mid.restores h hk before parts l i (by omega)
    rw [restores_succ before parts l i _ s (List.getElem?_eq_getElem (show i < l.length by omega))]
    obtain ⟨st, e1, _, _, e4, _⟩ := restore_facts (St.restores before parts 0 (l.take i) s) (l[i]'(by omega)).1 (l[i]'(by omega)).2 (look before (l[i]'(by omega)).1) (partAt parts i)
    exact ⟨ih.1.restore hk _ _ _ _, by rw [e4, ih.2.1], by rw [e1, List.length_set, ih.2.2]⟩
def St.c1 (s : St) : St := { s with clock := s.clock + 1 }
def St.c2 (s : St) (keep : Int) : St := s.c1.settle (upTo keep (s.chs.length : Int)).toNat
def St.c3 (s : St) (keep : Int) : St := { s.c2 keep with files := (s.c2 keep).safe, used := 0 }
theorem crash_eq (s : St) (keep : Int) (parts : List Int) : s.crash keep parts = { St.restores s.files parts 0 (s.c3 keep).files (s.c3 keep) with fuse := -1, off := false } := rfl
theorem mem_apps {cs : List Chg} {n : Nat} (hcs : ∀ c ∈ cs, c.small n) : ∀ (l : Dir), (∀ e ∈ l, e.2 < n) → ∀ e ∈ apps cs l, e.2 < n := by
  induction cs with
  | nil => intro l hl; exact hl
  | cons c cs ih =>
    intro l hl
    refine ih (fun c' hc' => hcs c' (List.mem_cons_of_mem _ hc')) (c.app l) fun e he => ?_
    rcases mem_app he with h | h
    · exact hl e h
    · have hc := hcs c List.mem_cons_self
      cases c with
      | mk p f => simp only [Chg.new, Option.some.injEq] at h; rw [← h]; exact hc.2
      | mv p q f => simp only [Chg.new, Option.some.injEq] at h; rw [← h]; exact hc.2.2
      | rm p => cases h
theorem Ok.mid {k : Nat} {s : St} (h : Ok k s) (keep : Int) : Mid k 0 (s.c3 keep) := by
  have hm : ∀ e ∈ (s.c2 keep).safe, e.2 < s.fil.length := mem_apps (fun c hc => h.cs c (List.mem_of_mem_take hc)) s.safe h.ss
  have hl : (s.c2 keep).safe.length ≤ k := by
    have := apps_length (s.chs.take (upTo keep (s.chs.length : Int)).toNat) s.safe
    have h2 := h.ls
    rw [List.length_take] at this
    have h3 : (s.c2 keep).safe = apps (s.chs.take (upTo keep (s.chs.length : Int)).toNat) s.safe := rfl
    rw [h3]
    omega
  exact ⟨hm, hm, rfl, h.r0, h.r1, Int.le_refl _, by show (0 : Int) ≤ _; omega, by have := h.ck; show s.clock + 1 ≤ _; omega, h.f0, h.f1, h.nf, hl, hl, h.sz, h.sy⟩
theorem Ok.crash {k : Nat} {s : St} (h : Ok k s) (hk : k + 1 ≤ 1000) (keep : Int) (parts : List Int) : Ok (k + 1) (s.crash keep parts) := by
  rw [crash_eq]
  have M := (h.mid keep).restores (by omega) s.files parts (s.c3 keep).files _ (Nat.le_refl _)
  rw [List.take_length] at M
  have hlf : (s.c3 keep).files.length ≤ k := (h.mid keep).lf
  have O := M.1.ok hlf hk
  exact ⟨O.fs, O.ss, O.cs, O.r0, O.r1, O.u0, O.u1, O.ck, by show (-1 : Int) ≤ -1; omega, by show (-1 : Int) ≤ _; omega, O.nf, O.lf, O.ls, O.sz, O.sy⟩
theorem MapAt.nx3 {w w' : World} {b : Nat} {blk : Nat → Nat} {l : Dir} (h : MapAt w b blk l) (k : Below w.heap.size w w') : MapAt w' b blk l := h.chd (M := fun _ => False) (Chd.of_below k) (fun e => e)
def Gh.moved (g : Gh) (mb : Nat) : Gh := { g with mf := mb, tag := fun j => if j = mb then 2 else g.tag j }
theorem moved_end {w w' : World} {tb : Nat} {s : St} {g : Gh} {mb : Nat} (h : TreeAt w tb s g) (hn : Below w.heap.size w w') (h0 : g.tag mb = 0) (hm : MapAt w' mb g.blk s.safe) :
    TreeAt ((w'.setCell ⟨tb, 3, none⟩ (.map (some mb))).setCell ⟨tb, 1, none⟩ (.int .i64 0)) tb { s with files := s.safe, used := 0 } (g.moved mb) ∧ Chd (fun j => j = tb) w ((w'.setCell ⟨tb, 3, none⟩ (.map (some mb))).setCell ⟨tb, 1, none⟩ (.int .i64 0)) := by
  obtain ⟨w2, hw2⟩ : ∃ w2, ((w'.setCell ⟨tb, 3, none⟩ (.map (some mb))).setCell ⟨tb, 1, none⟩ (.int .i64 0)) = w2 := ⟨_, rfl⟩
  have H := h.nx hn
  have C : Chd (fun j => j = tb) w' w2 := by rw [← hw2]; exact (Chd.set w' tb 3 _).trans (Chd.set _ tb 1 _)
  have T : BlkIs w2 tb 64 (treeC { s with files := s.safe, used := 0 } (g.moved mb)) := by rw [← hw2]; exact (H.top.set 3 (.map (some mb))).set 1 (.int .i64 0)
  rw [hw2]
  have ht : ∀ j, g.tag j ≠ 0 → (g.moved mb).tag j = g.tag j := fun j hj => if_neg (fun e => hj (by rw [e]; exact h0))
  have hmt : mb ≠ tb := fun e => by rw [e, h.topT] at h0; omega
  have hms : mb ≠ g.ms := fun e => by rw [e, h.msT] at h0; omega
  refine ⟨?_, (Chd.of_below hn).trans C⟩
  have tg : ∀ j, j = tb → g.tag j = 1 := fun j e => by rw [e]; exact h.topT
  exact { top := T
          topT := by rw [ht tb (by rw [H.topT]; omega), H.topT]
          mfT := if_pos rfl
          msT := by show (g.moved mb).tag g.ms = 3; rw [ht _ (by rw [H.msT]; omega), H.msT]
          mfA := hm.chd C hmt
          msA := H.msA.chd C (fun e => by have := tg _ e; rw [H.msT] at this; omega)
          row := row_chd H.row C (fun b hb e => by have := tg _ e; rw [H.rowT b hb] at this; omega)
          rowT := fun b hb => by rw [ht _ (by rw [H.rowT b hb]; omega), H.rowT b hb]
          chs := fun i c hi => by
            obtain ⟨v, hv, ha⟩ := H.chs i c hi
            exact ⟨v, hv, (ha.chd C (fun j e => by have := tg _ e; omega)).retag ht⟩
          fil := fun i hi => ((H.fil i hi).chd C (fun j e => by have := tg _ e; omega)).retag ht
          dom := fun j hj => by
            have hj' : (if j = mb then 2 else g.tag j) ≠ 0 := hj
            split at hj'
            · rename_i e; rw [e]; exact Nat.lt_of_lt_of_le hm.lt C.size
            · exact Nat.lt_of_lt_of_le (H.dom j hj') C.size
          apart := hms }
/-- The blocks that a crash turns while it goes through the files. -/
def Turned (tb : Nat) (g : Gh) (n : Nat) (j : Nat) : Prop := j = tb ∨ ∃ f, f < n ∧ j = g.blk f
theorem row_cell {w : World} {B : Nat} {A : Option Addr} {n c : Nat} {ps : List Str} (h : StrRow w B A n c ps) {i : Nat} {p : Str} (hi : i < n) (hp : ps[i]? = some p) : ∃ b, A = some ⟨b, 0, none⟩ ∧ B ≤ b ∧ b < w.heap.size ∧ w.cell? ⟨b, i, none⟩ = some (.string (S p)) := by
  rcases h.2 with ⟨_, e⟩ | ⟨b, cap, cur, hv, hB, hb, _⟩
  · omega
  · simp only [Value.slice.injEq] at hv
    refine ⟨b, hv.1, hB, (Array.getElem?_eq_some_iff.1 hb).1, ?_⟩
    have := World.ownsRow.cells (w := w) h (g := b) (by rw [hv.1]; rfl) i (.string (S p)) (by simp [strV, hp])
    rwa [add_plain, Nat.zero_add] at this

set_option maxRecDepth 100000 in
theorem crash_any (w : World) (tb : Nat) (s : St) (g : Gh) {k : Nat} (hk : k + 1 ≤ 1000) (h : TreeAt w tb s g) (ok : Ok k s) (hps : ∀ e ∈ s.safe, e.1.length ≤ 10000) (keep : Int) (hkeep : keep ≤ 9223372036854775807)
    (A : Option Addr) (n c : Nat) (parts : List Int) (hn : Nums w A n c parts) (hA : ∀ j o, A = some ⟨j, o, none⟩ → g.tag j = 0) :
    Calls Try.prog 14 #[.pointer (some ⟨tb, 0, none⟩), .int .i64 keep, .slice A n c] w fun e w' => e = .returned (.int .i64 0) ∧ ∃ g', TreeAt w' tb (s.crash keep parts) g' ∧ Chd (Mine g) w w' ∧ Gh.le w g g' := by
  have V := Lib.hid (valid_any w tb g.mf (top_of h.top).c3)
  have k1 : (s.clock : Int) ≤ 10000000 := by have := ok.ck; omega
  have hL : s.chs.length ≤ 1000 := by have := ok.ls; omega
  obtain ⟨u, hu, hur⟩ : ∃ u : Nat, upTo keep (s.chs.length : Int) = (u : Int) ∧ u ≤ s.chs.length := by
    unfold upTo
    have h1 : 0 ≤ max 0 keep % ((s.chs.length : Int) + 1) := Int.emod_nonneg _ (by omega)
    have h2 : max 0 keep % ((s.chs.length : Int) + 1) < (s.chs.length : Int) + 1 := Int.emod_lt_of_pos _ (by omega)
    exact ⟨(max 0 keep % ((s.chs.length : Int) + 1)).toNat, by omega, by omega⟩
  have T1 : TreeAt (w.setCell ⟨tb, 2, none⟩ (.int .u64 ((s.clock : Int) + 1))) tb s.c1 g := h.retop (Chd.set w tb 2 _) (fun j e => .inl e) (h.top.set 2 (.int .u64 ((s.clock : Int) + 1))) rfl rfl rfl rfl
  have ok1 : Ok (k + 1) s.c1 := ⟨ok.fs, ok.ss, ok.cs, ok.r0, ok.r1, by have := ok.u0; show _ ≤ s.used; omega, by have := ok.u1; show s.used ≤ _; omega, by have := ok.ck; show s.clock + 1 ≤ _; omega, ok.f0, ok.f1, by have := ok.nf; show s.fil.length ≤ _; omega, by have := ok.lf; show s.files.length ≤ _; omega, by have := ok.ls; show s.safe.length + s.chs.length ≤ _; omega, fun i => by have := ok.sz i; show (s.at_ i).now.length ≤ _; omega, fun i => by have := ok.sy i; show (s.at_ i).sf.length ≤ _; omega⟩
  have UX := Lib.hid (upTo_any (w.setCell ⟨tb, 2, none⟩ (.int .u64 ((s.clock : Int) + 1))) keep (s.chs.length : Int) (by omega) (by omega) hkeep)
  rw [hu] at UX
  have SX := Lib.hid (settle_any _ tb s.c1 g hk T1 ok1 u hur)
  have hc2 : s.c1.settle u = s.c2 keep := by unfold St.c2; rw [hu]; rfl
  rw [hc2] at SX
  obtain ⟨A0, L0, hcv⟩ : ∃ A0 L0, g.cv = .slice A0 s.chs.length L0 := by
    rcases h.row.2 with ⟨hv, h0⟩ | ⟨gb, cap, cur, hv, _⟩
    · exact ⟨none, 0, by rw [hv, h0]⟩
    · exact ⟨_, _, hv⟩
  have c2 := (top_of h.top).c2
  have f2 := h.top.frozen 2
  have c5 := (top_of T1.top).c5
  rw [hcv] at c5
  have MD := Lib.hid (ok.mid keep)
  have H := Lib.hid h
  have OK := Lib.hid ok
  have NM := Lib.hid hn
  have HA := Lib.hid hA
  have HPS : Hid (∀ e ∈ (s.c3 keep).files, e.1.length ≤ 10000) := by
    have : ∀ (cs : List Chg) (l : Dir), (∀ c ∈ cs, c.small s.fil.length) → (∀ e ∈ l, e.1.length ≤ 10000) → ∀ e ∈ apps cs l, e.1.length ≤ 10000 := by
      intro cs
      induction cs with
      | nil => intro l _ hl; exact hl
      | cons c cs ih =>
        intro l hcs hl
        refine ih (c.app l) (fun c' hc' => hcs c' (List.mem_cons_of_mem _ hc')) fun e he => ?_
        rcases mem_app he with h | h
        · exact hl e h
        · have hc := hcs c List.mem_cons_self
          cases c with
          | mk p f => simp only [Chg.new, Option.some.injEq] at h; rw [← h]; exact hc.1
          | mv p q f => simp only [Chg.new, Option.some.injEq] at h; rw [← h]; exact hc.2.1
          | rm p => cases h
    exact this _ s.safe (fun c hc => ok.cs c (List.mem_of_mem_take hc)) hps
  have CE := Lib.hid (crash_eq s keep parts)
  have HMF := Lib.hid (h.mfA.chd (Chd.set w tb 2 (.int .u64 ((s.clock : Int) + 1))) (fun e => by have := h.mfT; rw [e, h.topT] at this; omega))
  have hct : Hid (Chd (fun j => j = tb) w (w.setCell ⟨tb, 2, none⟩ (.int .u64 ((s.clock : Int) + 1)))) := Chd.set w tb 2 _
  clear h ok hn hA T1 ok1 hc2 hcv hps
  rw [CE.out]
  have hkk := hkeep
  go_enter Try.func14, Try.ntmps14
  go_wp2_with fail
  refine V.out.mono ?_
  rintro e w' ⟨rfl, rfl⟩
  go_wp2_with fail
  refine UX.out.mono ?_
  rintro e w' ⟨rfl, rfl⟩
  go_wp2_with fail
  refine SX.out.mono ?_
  rintro e w2 ⟨rfl, ht2, hc2⟩
  have om2a := HMF.out.chd hc2 (fun e => by
    rcases e with e | e
    · have := H.out.mfT; rw [e, H.out.topT] at this; omega
    · exact H.out.apart e)
  have C2 := Lib.hid ((hct.out.mono (M' := fun j => j = tb ∨ j = g.ms) fun _ _ e => .inl e).trans hc2)
  have CLX := Lib.hid (Try.maps_Clone_owns 9 ptrE g.ms (s.c2 keep).safe.length (dat g.blk (s.c2 keep).safe) w2 ht2.msA)
  have c3 : w2.cell? ⟨tb, 3, none⟩ = some (.map (some g.mf)) := (top_of ht2.top).c3
  have c4 : w2.cell? ⟨tb, 4, none⟩ = some (.map (some g.ms)) := (top_of ht2.top).c4
  have T2 := Lib.hid ht2
  have OM2 := Lib.hid om2a
  clear ht2 hc2 om2a UX V SX HMF hct c2 f2 c5
  go_wp2_with fail
  refine CLX.out.mono ?_
  rintro e w3 ⟨rfl, hm3, _, hb3⟩
  have hz3 : g.clean.tag w2.heap.size = 0 := new_zero T2.out (Nat.le_refl _)
  have ME := moved_end T2.out hb3 hz3 hm3
  have T3' := T2.out.nx hb3
  have c3' : w3.cell? ⟨tb, 3, none⟩ = some (.map (some g.mf)) := (top_of T3'.top).c3
  have c1' := (top_of T3'.top).c1
  have f3' := T3'.top.frozen 3
  have f1' := T3'.top.frozen 1
  have OM3 := Lib.hid (OM2.out.nx3 hb3)
  have ME' := Lib.hid ME
  clear ME T3' hm3 hb3 CLX c3 c4 OM2
  go_wp2_with fail
  obtain ⟨w4, hw4⟩ : ∃ w4, ((w3.setCell ⟨tb, 3, none⟩ (.map (some w2.heap.size))).setCell ⟨tb, 1, none⟩ (.int .i64 0)) = w4 := ⟨_, rfl⟩
  have hmt : g.mf ≠ tb := fun e => by have := H.out.mfT; rw [e, H.out.topT] at this; omega
  have hmb : g.mf ≠ w2.heap.size := fun e => by have h1 := H.out.mfT; have h2 : g.tag w2.heap.size = 0 := hz3; rw [← e, h1] at h2; omega
  have om4 : MapAt w4 g.mf g.blk s.files := by rw [← hw4]; exact (OM3.out.chd (Chd.set w3 tb 3 _) hmt).chd (Chd.set _ tb 1 _) hmt
  have T4 := ME'.out.1
  have C4 := ME'.out.2
  rw [hw4] at T4 C4 ⊢
  have hsl : w.heap.size ≤ w2.heap.size := C2.out.size
  obtain ⟨mb, hmbe⟩ : ∃ mb, w2.heap.size = mb := ⟨_, rfl⟩
  obtain ⟨g3, hg3⟩ : ∃ g3, g.clean.moved mb = g3 := ⟨_, rfl⟩
  rw [hmbe] at T4 hmb hsl ⊢
  have T4 : TreeAt w4 tb (s.c3 keep) (g.clean.moved mb) := T4
  rw [hg3] at T4
  have hblk : g3.blk = g.blk := by rw [← hg3]; rfl
  have hmf3 : g3.mf = mb := by rw [← hg3]; rfl
  have htag : ∀ j, j ≠ mb → g3.tag j = g.tag j := fun j hj => by rw [← hg3]; exact if_neg hj
  have hlf : (s.c3 keep).files.length ≤ k := MD.out.lf
  have SR := Lib.hid (sorted_any w4 mb g3.blk (s.c3 keep).files (by have := T4.mfA; rwa [hmf3] at this) (by omega))
  have CW4 : Chd (Mine g) w w4 := by
    have a1 : Chd (Mine g) w w2 := C2.out.mono fun j _ e => by
      rcases e with e | e
      · rw [e]; exact (mine_cv H.out).1
      · rw [e]; exact (mine_cv H.out).2.2.1
    exact a1.trans (C4.mono fun j _ e => by rw [e]; exact (mine_cv H.out).1)
  have T4' := Lib.hid T4
  have OM4 := Lib.hid om4
  have CW4' := Lib.hid CW4
  have HBLK := Lib.hid hblk
  have HTAG := Lib.hid htag
  have HSL := Lib.hid hsl
  have HMT := Lib.hid hmt
  have HMB := Lib.hid hmb
  have HG3 := Lib.hid hg3
  clear T4 om4 CW4 hw4 hmbe hg3 hblk hmf3 htag hsl hmt hmb C4 ME' OM3 C2 T2 c3' c1' f3' f1' hz3
  refine SR.out.mono ?_
  rintro e w5 ⟨A5, c5, rfl, hrow, hb5⟩
  have T5 := Lib.hid (T4'.out.nx hb5)
  have OM5 := Lib.hid (OM4.out.nx3 hb5)
  have CW5 := Lib.hid (CW4'.out.trans (Nx.chd hb5))
  have RW := Lib.hid hrow
  have LN := Lib.hid (show (s.c3 keep).files.length ≤ k from hlf)
  clear hrow hb5 SR OM4 CW4'
  go_wp2
  go_loopw [50] (fun x wr => ∃ i : Nat, x = .int .i64 i ∧ i ≤ (s.c3 keep).files.length ∧ Hid (TreeAt wr tb (St.restores s.files parts 0 ((s.c3 keep).files.take i) (s.c3 keep)) g3 ∧ Chd (Turned tb g3 s.fil.length) w5 wr)) (fun x _ => (s.c3 keep).files.length - (intOf x).toNat)
  case atStart => exact ⟨0, rfl, Nat.zero_le _, T5.out, Chd.refl _⟩
  case round =>
    obtain ⟨i, rfl, hi, hrel⟩ := hrel
    have tgT : ∀ j, Turned tb g3 s.fil.length j → g3.tag j = 1 ∨ ∃ f, g3.tag j = 10 + 2 * f := fun j hj => by
      rcases hj with e | ⟨f, hf, e⟩
      · rw [e]; exact .inl T5.out.topT
      · rw [e]; exact .inr ⟨f, (T5.out.fil f hf).tg⟩
    have htT : g3.tag g.mf = 2 := by rw [HTAG.out g.mf HMB.out, H.out.mfT]
    have notT : ¬ Turned tb g3 s.fil.length g.mf := fun e => by
      rcases tgT _ e with e | ⟨f, e⟩ <;> omega
    have om2 : MapAt wr g.mf g.blk s.files := OM5.out.chd hrel.out.2 notT
    have TGT := Lib.hid tgT
    by_cases hlt : i < (s.c3 keep).files.length
    · obtain ⟨p, f, hpf⟩ : ∃ p f, (s.c3 keep).files[i]? = some (p, f) := ⟨_, _, List.getElem?_eq_getElem hlt⟩
      have hmem := List.mem_of_getElem? hpf
      have hplen : p.length ≤ 10000 := HPS.out _ hmem
      obtain ⟨b5, rfl, hbB, hbl, hcell⟩ := row_cell RW.out (i := i) (p := p) hlt (by rw [List.getElem?_map, hpf]; rfl)
      have hbz : g3.tag b5 = 0 := new_zero T4'.out hbB
      have hcell' : wr.cell? ⟨b5, i, none⟩ = some (.string (S p)) := by
        rw [World.cell?_of_block (hrel.out.2.block b5 hbl (fun e => by rcases tgT _ e with e | ⟨f, e⟩ <;> omega))]
        exact hcell
      have MI := MD.out.restores (by omega) s.files parts (s.c3 keep).files i hi
      have oki := MI.1.ok (by have := LN.out; omega) hk
      have hlk2 : look (St.restores s.files parts 0 ((s.c3 keep).files.take i) (s.c3 keep)).files p = some f := by
        rw [MI.2.1]
        exact rising_look (by have := T4'.out.mfA.rising; exact this) hmem
      have hfl : f < s.fil.length := MD.out.fs _ hmem
      have hwas : ∀ q, look s.files p = some q → q < (St.restores s.files parts 0 ((s.c3 keep).files.take i) (s.c3 keep)).fil.length := fun q hq => by
        rw [MI.2.2]
        exact OK.out.fs _ (look_mem hq)
      have hlkAll : Hid (∀ W, MapAt W g.mf g.blk s.files → (Instr.lookup 61 (.map (some g.mf)) (.string (S p)) false).run Try.prog W = .ok (optP g (look s.files p)) W) := fun W hW => lookup_in hW p (by omega) g rfl
      have hnums : Nums wr A n c parts := NM.out.chd ((CW5.out.mono (M' := fun j => Mine g j ∨ Turned tb g3 s.fil.length j) fun _ _ e => .inl e).trans (hrel.out.2.mono fun _ _ e => .inr e)) (fun j o e hj e2 => by
        have h0 := HA.out j o e
        have hjw : ¬ j = mb := fun e3 => by have := HSL.out; omega
        have := HTAG.out j hjw
        rcases e2 with e2 | e2
        · exact e2 h0
        · rcases tgT _ e2 with e3 | ⟨f, e3⟩ <;> omega)
      have ATX : Hid (Calls Try.prog 47 #[.slice A n c, .int .i64 (i : Int)] wr.drew fun e w' => e = .returned (.int .i64 (partAt parts i)) ∧ wr.drew = w') := at_any wr.drew A n c parts (hnums.chd (Chd.drew (Chd.refl (M := fun _ => False) wr)) (fun _ _ _ _ e => e)) i (by have := LN.out; omega)
      have RSX : Hid (Calls Try.prog 46 #[.pointer (some ⟨tb, 0, none⟩), .string (S p), optP g (look s.files p), .int .i64 (partAt parts i)] wr.drew fun e w' => e = .returned (.tuple #[]) ∧
          TreeAt w' tb ((St.restores s.files parts 0 ((s.c3 keep).files.take i) (s.c3 keep)).restore p f (look s.files p) (partAt parts i)) g3 ∧ Chd (fun j => j = tb ∨ j = g3.blk f) wr.drew w') := by
        have := restore_any wr.drew tb _ g3 hk (hrel.out.1.nx (Nx.drew (Nx.refl _))) oki p (by omega) f hlk2 (look s.files p) hwas (partAt parts i) (NM.out.ok i)
        rw [show optP g3 (look s.files p) = optP g (look s.files p) from by unfold optP; rw [HBLK.out]] at this
        exact this
      have STEP : Hid (∀ w7, TreeAt w7 tb ((St.restores s.files parts 0 ((s.c3 keep).files.take i) (s.c3 keep)).restore p f (look s.files p) (partAt parts i)) g3 → Chd (fun j => j = tb ∨ j = g3.blk f) wr.drew w7 →
          TreeAt w7 tb (St.restores s.files parts 0 ((s.c3 keep).files.take (i + 1)) (s.c3 keep)) g3 ∧ ¬ (g.mf = tb ∨ g.mf = g3.blk f) ∧ Chd (fun j => j = tb ∨ j = g3.blk f) wr.drew w7) := fun w7 h1 h2 => by
        refine ⟨by rw [restores_succ s.files parts _ i (p, f) _ hpf]; exact h1, fun e => notT ?_, h2⟩
        exact e.imp id fun e => ⟨f, hfl, e⟩
      have REL := hrel
      have HFL := Lib.hid hfl
      clear hrel MI oki hlk2 hwas hnums hmem hplen hcell hbz hbB hbl tgT htT notT hpf hfl
      generalize S p = sp at *
      generalize hov : optP g (look s.files p) = ov at *
      clear hov
      generalize partAt parts i = pt at *
      go_upto_region 10 with fail
      refine wp_region_held_drew (S := (fun W => MapAt W g.mf g.blk s.files)) (by kernel_rfl) om2 (fun hHeld => ?_)
      change wpAnyH _ _ _ _ _ 9 (Array.replicate 9 false) _ _
      refine wpAnyH_take (i := 0) (oi := { dst := some 55, op := Op.move (Operand.tmp 0), type := 22, pos := "crash.go:36", after := #[], guard := none }) (v := ?va0) rfl (by kernel_rfl) (by kernel_rfl) (by kernel_rfl) (fun _ _ _ h => h) (Or.inl ⟨by rfl, ?hya0⟩) hHeld ?resta0
      case hya0 =>
        intro W hSw
        go_simp
        try with_reducible rfl
      try simp only [Act.put, List.setIfInBounds_toArray, List.set_cons_zero, List.set_cons_succ]
      refine wpAnyH_take (i := 1) (oi := { dst := some 56, op := Op.move (Operand.tmp 9), type := 9, pos := "crash.go:36", after := #[], guard := none }) (v := ?va1) rfl (by kernel_rfl) (by kernel_rfl) (by kernel_rfl) (fun _ _ _ h => h) (Or.inl ⟨by rfl, ?hya1⟩) hHeld ?resta1
      case hya1 =>
        intro W hSw
        go_simp
        try with_reducible rfl
      try simp only [Act.put, List.setIfInBounds_toArray, List.set_cons_zero, List.set_cons_succ]
      refine wpAnyH_take (i := 2) (oi := { dst := some 57, op := Op.move (Operand.tmp 7), type := 61, pos := "crash.go:36", after := #[], guard := none }) (v := ?va2) rfl (by kernel_rfl) (by kernel_rfl) (by kernel_rfl) (fun _ _ _ h => h) (Or.inl ⟨by rfl, ?hya2⟩) hHeld ?resta2
      case hya2 =>
        intro W hSw
        go_simp
        try with_reducible rfl
      try simp only [Act.put, List.setIfInBounds_toArray, List.set_cons_zero, List.set_cons_succ]
      refine wpAnyH_take (i := 3) (oi := { dst := some 58, op := Op.move (Operand.tmp 9), type := 9, pos := "crash.go:36", after := #[], guard := none }) (v := ?va3) rfl (by kernel_rfl) (by kernel_rfl) (by kernel_rfl) (fun _ _ _ h => h) (Or.inl ⟨by rfl, ?hya3⟩) hHeld ?resta3
      case hya3 =>
        intro W hSw
        go_simp
        try with_reducible rfl
      try simp only [Act.put, List.setIfInBounds_toArray, List.set_cons_zero, List.set_cons_succ]
      refine wpAnyH_take (i := 4) (oi := { dst := some 59, op := Op.lookup 61 (Operand.tmp 57) (Operand.tmp 58) false, type := 66, pos := "crash.go:36", after := #[{ on := 2, ground := Ground.data }, { on := 3, ground := Ground.data }], guard := none }) (v := ?va4) rfl (by kernel_rfl) (by kernel_rfl) (by kernel_rfl) (fun _ _ _ h => h) (Or.inl ⟨by rfl, ?hya4⟩) hHeld ?resta4
      case hya4 =>
        intro W hSw
        have s1 := hlkAll.out W hSw
        go_simp
        try with_reducible rfl
      try simp only [Act.put, List.setIfInBounds_toArray, List.set_cons_zero, List.set_cons_succ]
      refine wpAnyH_take (i := 5) (oi := { dst := some 60, op := Op.move (Operand.tmp 2), type := 37, pos := "crash.go:36", after := #[], guard := none }) (v := ?va5) rfl (by kernel_rfl) (by kernel_rfl) (by kernel_rfl) (fun _ _ _ h => h) (Or.inl ⟨by rfl, ?hya5⟩) hHeld ?resta5
      case hya5 =>
        intro W hSw
        go_simp
        try with_reducible rfl
      try simp only [Act.put, List.setIfInBounds_toArray, List.set_cons_zero, List.set_cons_succ]
      refine wpAnyH_take (i := 6) (oi := { dst := some 61, op := Op.move (Operand.tmp 8), type := 3, pos := "crash.go:36", after := #[], guard := none }) (v := ?va6) rfl (by kernel_rfl) (by kernel_rfl) (by kernel_rfl) (fun _ _ _ h => h) (Or.inl ⟨by rfl, ?hya6⟩) hHeld ?resta6
      case hya6 =>
        intro W hSw
        go_simp
        try with_reducible rfl
      try simp only [Act.put, List.setIfInBounds_toArray, List.set_cons_zero, List.set_cons_succ]
      refine wpAnyH_ready (rs := [7]) (by kernel_rfl) (by simp) ?_
      refine AllReadyH.cons (o := { dst := some 62, op := Op.call { callee := Callee.value (Operand.func 47), args := #[Operand.tmp 60, Operand.tmp 61], argTypes := #[37, 3] }, type := 3, pos := "crash.go:36", after := #[{ on := 5, ground := Ground.data }, { on := 6, ground := Ground.data }], guard := none }) rfl (fun K' hK => ?_) AllReadyH.nil
      go_simp
      refine ATX.out.mono ?_
      rintro e w6 ⟨rfl, rfl⟩
      show K' _ wr.drew
      refine hK.out _ _ om2 (fun hHeld => ?_)
      clear hK K'
      try simp only [Act.put, List.setIfInBounds_toArray, List.set_cons_zero, List.set_cons_succ]
      refine wpAnyH_ready (rs := [8]) (by kernel_rfl) (by simp) ?_
      refine AllReadyH.cons (o := { dst := some 63, op := Op.call { callee := Callee.value (Operand.func 46), args := #[Operand.tmp 55, Operand.tmp 56, Operand.tmp 59, Operand.tmp 62], argTypes := #[22, 9, 66, 3] }, type := 0, pos := "crash.go:36", after := #[{ on := 0, ground := Ground.data }, { on := 1, ground := Ground.data }, { on := 4, ground := Ground.data }, { on := 7, ground := Ground.data }, { on := 7, ground := Ground.chain }], guard := none }) rfl (fun K' hK => ?_) AllReadyH.nil
      go_simp
      refine RSX.out.mono ?_
      rintro e w7 ⟨rfl, ht7, hc7⟩
      have TC7 := Lib.hid (STEP.out w7 ht7 hc7)
      clear ht7 hc7
      show K' _ w7
      refine hK.out _ _ ((om2.chd (M := fun _ => False) (Chd.drew (Chd.refl wr)) (fun e => e)).chd TC7.out.2.2 TC7.out.2.1) (fun hHeld => ?_)
      clear hK K'
      try simp only [Act.put]
      refine wpAnyH_done (by kernel_rfl) ?_ _
      go_wp2
      go_roundw
      case rel => exact ⟨i + 1, by go_num, by omega, TC7.out.1, REL.out.2.trans ((Chd.drew (Chd.refl wr)).trans (TC7.out.2.2.mono fun j _ e => e.imp id fun e => ⟨f, HFL.out, e⟩))⟩
      case measure => simp [intOf]; omega
    · obtain rfl : i = (s.c3 keep).files.length := by omega
      have c6 := (top_of hrel.out.1.top).c6
      have c7 := (top_of hrel.out.1.top).c7
      have f6 := hrel.out.1.top.frozen 6
      have f7 := hrel.out.1.top.frozen 7
      have hT := hrel.out.1
      rw [List.take_length] at hT
      have CE : Chd (fun j => j = tb) wr ((wr.setCell ⟨tb, 6, none⟩ (.int .i64 (-1))).setCell ⟨tb, 7, none⟩ (.bool false)) := (Chd.set wr tb 6 _).trans (Chd.set _ tb 7 _)
      have TE : TreeAt ((wr.setCell ⟨tb, 6, none⟩ (.int .i64 (-1))).setCell ⟨tb, 7, none⟩ (.bool false)) tb { St.restores s.files parts 0 (s.c3 keep).files (s.c3 keep) with fuse := -1, off := false } g3 :=
        hT.retop CE (fun j e => .inl e) ((hT.top.set 6 (.int .i64 (-1))).set 7 (.bool false)) rfl rfl rfl rfl
      have mineT : ∀ j, j < w5.heap.size → Turned tb g3 s.fil.length j → j < w.heap.size → Mine g j := fun j _ e hj => by
        have hjm : j ≠ mb := fun e2 => by have := HSL.out; omega
        show g.tag j ≠ 0
        rw [← HTAG.out j hjm]
        rcases tgT _ e with e | ⟨f, e⟩ <;> omega
      have CF : Chd (Mine g) w ((wr.setCell ⟨tb, 6, none⟩ (.int .i64 (-1))).setCell ⟨tb, 7, none⟩ (.bool false)) :=
        (CW5.out.then_ hrel.out.2 (fun j hj e => mineT j (Nat.lt_of_lt_of_le hj CW5.out.size) e hj)).trans (CE.mono fun j _ e => by rw [e]; exact (mine_cv H.out).1)
      have hle : Gh.le w g g3 := fun j hj => by
        by_cases e : j = mb
        · right; have := HSL.out; omega
        · left; rw [← HTAG.out j e]; exact hj
      have TE' := Lib.hid TE
      have CF' := Lib.hid CF
      have HLE := Lib.hid hle
      clear TE CF hle mineT CE hT hrel tgT htT notT om2
      go_wp2
      go_ret
      exact ⟨rfl, g3, TE'.out, CF'.out, HLE.out⟩
end Go.Proofs.Ytodnckflobefpaa
