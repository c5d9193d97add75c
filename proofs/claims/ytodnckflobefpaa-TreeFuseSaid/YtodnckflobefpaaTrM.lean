/- Package tree: changes of paths are made safe. -/
import Derived.Test.YtodnckflobefpaaTrL
namespace Go.Proofs.Ytodnckflobefpaa
open Go.RowKit Go.Maps
set_option linter.unusedVariables false

theorem app_length (c : Chg) (l : Dir) : (c.app l).length ≤ l.length + 1 := by
  cases c with
  | mk p f => exact put_length l p f
  | mv p q f => have := put_length (era l p) q f; have := era_length l p; show (put (era l p) q f).length ≤ _; omega
  | rm p => have := era_length l p; show (era l p).length ≤ _; omega
def apps (cs : List Chg) (l : Dir) : Dir := cs.foldl (fun l c => c.app l) l
theorem apps_length (cs : List Chg) : ∀ l : Dir, (apps cs l).length ≤ l.length + cs.length := by
  induction cs with
  | nil => intro l; exact Nat.le_refl _
  | cons c cs ih => intro l; have := ih (c.app l); have := app_length c l; show (apps cs (c.app l)).length ≤ _; simp only [List.length_cons]; omega
theorem apps_take_succ (cs : List Chg) (l : Dir) (i : Nat) (c : Chg) (h : cs[i]? = some c) : apps (cs.take (i + 1)) l = c.app (apps (cs.take i) l) := by
  unfold apps
  rw [List.take_add_one, List.foldl_append, h]
  rfl
def Gh.clean (g : Gh) : Gh := { g with cv := .slice none 0 0, vs := [] }
theorem settle_end {w w' : World} {tb : Nat} {s : St} {g : Gh} {n : Nat} (h : TreeAt w tb s g) (hm : MapAt w' g.ms g.blk (apps (s.chs.take n) s.safe)) (hc : Chd (fun j => j = g.ms) w w') :
    TreeAt (w'.setCell ⟨tb, 5, none⟩ (.slice none 0 0)) tb (s.settle n) g.clean ∧ Chd (fun j => j = tb ∨ j = g.ms) w (w'.setCell ⟨tb, 5, none⟩ (.slice none 0 0)) := by
  have hst : tb ≠ g.ms := fun e => by have := h.msT; rw [← e, h.topT] at this; omega
  have T := (h.top.chd hc hst).set 5 (.slice none 0 0)
  have C5 := Chd.set w' tb 5 (.slice none 0 0)
  have C : Chd (fun j => j = tb ∨ j = g.ms) w (w'.setCell ⟨tb, 5, none⟩ (.slice none 0 0)) := (hc.mono fun _ _ e => .inr e).trans (C5.mono fun _ _ e => .inl e)
  have tg : ∀ j, (j = tb ∨ j = g.ms) → g.tag j = 1 ∨ g.tag j = 3 := fun j hj => by
    rcases hj with rfl | rfl
    · exact .inl h.topT
    · exact .inr h.msT
  refine ⟨?_, C⟩
  exact { top := T, topT := h.topT, mfT := h.mfT, msT := h.msT
          mfA := h.mfA.chd C (fun e => by have := tg _ e; rw [h.mfT] at this; omega)
          msA := hm.chd C5 (fun e => hst e.symm)
          row := ⟨rfl, .inl ⟨rfl, rfl⟩⟩
          rowT := fun b hb => by cases hb
          chs := fun i c hi => by simp [St.settle] at hi
          fil := fun i hi => (h.fil i hi).chd C (fun j e => by have := tg _ e; omega)
          dom := fun j hj => Nat.lt_of_lt_of_le (h.dom j hj) C.size
          apart := h.apart }

set_option maxRecDepth 100000 in
theorem settle_any (w : World) (tb : Nat) (s : St) (g : Gh) {k : Nat} (hk : k ≤ 1000) (h : TreeAt w tb s g) (ok : Ok k s) (n : Nat) (hn : n ≤ s.chs.length) :
    Calls Try.prog 42 #[.pointer (some ⟨tb, 0, none⟩), .int .i64 (n : Int)] w fun e w' => e = .returned (.tuple #[]) ∧ TreeAt w' tb (s.settle n) g.clean ∧ Chd (fun j => j = tb ∨ j = g.ms) w w' := by
  have hvl : g.vs.length = s.chs.length := by have := h.row.1; omega
  have hL : s.chs.length ≤ 1000 := by have := ok.ls; omega
  have c5 := (top_of h.top).c5
  have hst : tb ≠ g.ms := fun e => by have := h.msT; rw [← e, h.topT] at this; omega
  obtain ⟨A, L, c, hcv, hcell, hLc⟩ : ∃ A L c, g.cv = .slice A L c ∧ L = s.chs.length ∧ L ≤ c ∧ c ≤ maxLen ∧ ∀ i v, i < n → g.vs[i]? = some v → ∃ gb, A = some ⟨gb, 0, none⟩ ∧ gb ≠ g.ms ∧ gb < w.heap.size ∧ w.cell? ⟨gb, i, none⟩ = some v := by
    rcases h.row.2 with ⟨hv, h0⟩ | ⟨gb, cap, cur, hv, _, hb, hle, hcap, _⟩
    · exact ⟨none, 0, 0, hv, h0.symm, Nat.le_refl _, Nat.zero_le _, fun i v hi _ => by omega⟩
    · refine ⟨_, _, _, hv, rfl, hle, hcap, fun i v hi hv' => ⟨gb, rfl, fun e => ?_, (Array.getElem?_eq_some_iff.1 hb).1, ?_⟩⟩
      · have := h.rowT gb (by rw [hv]; rfl)
        rw [e, h.msT] at this
        omega
      · have hr := h.row
        rw [hv] at hr
        have := World.ownsRow.cells (w := w) hr (g := gb) rfl i v hv'
        rwa [add_plain, Nat.zero_add] at this
  obtain ⟨hLc, hcm, hcells⟩ := hLc
  have i1 : (n : Int) ≤ (L : Int) := by omega
  have i2 : (n : Int) ≤ (c : Int) := by omega
  have i3 : (c : Int) ≤ 9223372036854775807 := by unfold maxLen at hcm; omega
  rw [hcv] at c5
  have H := Lib.hid h
  have OK := Lib.hid ok
  have HC := Lib.hid hcells
  have HN := Lib.hid hn
  clear h ok hcells hcv hcell hn hcm
  go_enter Try.func42, Try.ntmps42
  go_wp2
  go_loopw [13] (fun x wr => ∃ i : Nat, x = .int .i64 i ∧ i ≤ n ∧ Hid (MapAt wr g.ms g.blk (apps (s.chs.take i) s.safe) ∧ Chd (fun j => j = g.ms) w wr)) (fun x _ => n - (intOf x).toNat)
  case atStart => exact ⟨0, rfl, Nat.zero_le _, H.out.msA, Chd.refl _⟩
  case round =>
    obtain ⟨i, rfl, hi, hm⟩ := hrel
    by_cases hlt : i < n
    · have hn := HN.out
      obtain ⟨c0, hc0⟩ : ∃ c0, s.chs[i]? = some c0 := ⟨_, List.getElem?_eq_getElem (show i < s.chs.length by omega)⟩
      obtain ⟨v, hv, ha⟩ := H.out.chs i c0 hc0
      obtain ⟨gb, rfl, hgm, hgl, hgc⟩ := HC.out i v hlt hv
      have hgc' : wr.cell? ⟨gb, i, none⟩ = some v := by rw [World.cell?_of_block (hm.out.2.block gb hgl hgm)]; exact hgc
      have hl := apps_length (s.chs.take i) s.safe
      have hls := OK.out.ls
      rw [List.length_take] at hl
      have c4 := (top_of (H.out.top.chd hm.out.2 hst)).c4
      have hstep := apps_take_succ s.chs s.safe i c0 hc0
      obtain ⟨fn, caps, hve, hfn, hrun⟩ := (ha.chd hm.out.2 (fun j e => by rw [e, H.out.msT]; omega)).runs (OK.out.cs c0 (List.mem_of_getElem? hc0)) hm.out.1 (by omega) (by rw [H.out.msT]; omega)
      rw [← hstep] at hrun
      obtain ⟨args, hargs⟩ : ∃ args, #[Value.map (some g.ms)] ++ caps = args := ⟨_, rfl⟩
      rw [hargs] at hrun
      have HR := Lib.hid hrun
      have HM := hm
      clear hrun hl hls hstep hgc ha hv hc0 hm hn
      rcases hfn with rfl | rfl | rfl <;> (
        subst hve
        go_wp2_with fail
        refine HR.out.mono ?_
        rintro e w2 ⟨rfl, hm2, hc2⟩
        have HM2 := Lib.hid (And.intro hm2 (HM.out.2.trans hc2))
        clear hm2 hc2 HR HM hargs
        go_wp2
        go_roundw
        case rel => exact ⟨i + 1, by go_num, by omega, HM2.out⟩
        case measure => simp [intOf]; omega)
    · obtain rfl : i = n := by omega
      have hT := H.out.top.chd hm.out.2 hst
      have c5' := (top_of hT).c5
      have f5' := hT.frozen 5
      have E := settle_end H.out hm.out.1 hm.out.2
      have E' := Lib.hid E
      clear E hT hm
      go_wp2
      refine bodyPost_end (results_none rfl _ _ _) rfl ?_
      exact ⟨rfl, E'.out⟩

def syncR (s1 : St) (e : Int) : St × Int := if e = 0 then (s1.settle s1.chs.length, 0) else (s1, e)
theorem syncPaths_eq (s : St) : s.syncPaths = syncR (s.begin_ []).1 (s.begin_ []).2 := by
  unfold St.syncPaths syncR
  generalize s.begin_ [] = r
  obtain ⟨s1, e⟩ := r
  rfl
set_option maxRecDepth 100000 in
theorem syncPaths_any (w : World) (tb : Nat) (s : St) (g : Gh) {k : Nat} (hk : k ≤ 1000) (h : TreeAt w tb s g) (ok : Ok k s) :
    Calls Try.prog 27 #[.pointer (some ⟨tb, 0, none⟩)] w fun e w' => e = .returned (.int .i64 s.syncPaths.2) ∧ ∃ g', TreeAt w' tb s.syncPaths.1 g' ∧ Chd (Mine g) w w' ∧ Gh.le w g g' := by
  rw [syncPaths_eq]
  have B := Lib.hid (begin_at (tb := tb) (g := g) ok.f0 ok.f1 w h none 0 0 [] ⟨rfl, Nat.zero_le _, fun e => by omega⟩)
  have ok1 := ok.begin []
  generalize s.begin_ [] = r at *
  obtain ⟨s1, er⟩ := r
  simp only at B ok1 ⊢
  have ST := Lib.hid (fun W hW => settle_any W tb s1 g hk hW ok1 s1.chs.length (Nat.le_refl _))
  have H := Lib.hid h
  have hl : s1.chs.length ≤ 1000 := by have := ok1.ls; omega
  clear h ok ok1
  generalize hR : syncR s1 er = R
  have HR := Lib.hid hR
  clear hR
  go_enter Try.func27, Try.ntmps27
  go_wp2_with fail
  refine B.out.mono ?_
  rintro e w2 ⟨rfl, ht2, hc2⟩
  by_cases he : er = 0
  · have hR : (s1.settle s1.chs.length, (0 : Int)) = R := by have := HR.out; simp only [syncR, if_pos he] at this; exact this
    subst hR he
    obtain ⟨A, c, hcv⟩ : ∃ A c, g.cv = .slice A s1.chs.length c := by
      rcases ht2.row.2 with ⟨hv, h0⟩ | ⟨gb, cap, cur, hv, _⟩
      · exact ⟨none, 0, by rw [hv, h0]⟩
      · exact ⟨_, _, hv⟩
    have c5 := (top_of ht2.top).c5
    rw [hcv] at c5
    have T2 := Lib.hid ht2
    have C2 := Lib.hid hc2
    clear ht2 hc2 hcv B HR
    go_wp2_with fail
    refine (ST.out w2 T2.out).mono ?_
    rintro e w3 ⟨rfl, ht3, hc3⟩
    have T3 := Lib.hid ht3
    have CF : Chd (Mine g) w w3 := (C2.out.mono (fun j _ e => by rw [e]; exact (mine_cv H.out).1)).trans (hc3.mono (fun j _ e => by
      rcases e with e | e
      · rw [e]; exact (mine_cv H.out).1
      · rw [e]; exact (mine_cv H.out).2.2.1))
    have CF' := Lib.hid CF
    clear ht3 hc3 CF ST
    go_wp2
    go_ret
    exact ⟨rfl, _, T3.out, CF'.out, fun j hj => .inl hj⟩
  · have hR : (s1, er) = R := by have := HR.out; simp only [syncR, if_neg he] at this; exact this
    subst hR
    have hne : (er == 0) = false := by simpa using he
    have T2 := Lib.hid ht2
    have CF' := Lib.hid (hc2.mono (M' := Mine g) (fun j _ e => by rw [e]; exact (mine_cv H.out).1))
    clear ht2 hc2 he HR ST B
    go_wp2
    go_ret
    exact ⟨rfl, g, T2.out, CF'.out, Gh.le_refl _ _⟩
end Go.Proofs.Ytodnckflobefpaa
