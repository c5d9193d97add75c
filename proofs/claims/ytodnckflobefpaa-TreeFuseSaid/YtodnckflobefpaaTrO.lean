/- Package tree: Sync and Read. -/
import Derived.Test.YtodnckflobefpaaTrN
namespace Go.Proofs.Ytodnckflobefpaa
open Go.RowKit Go.Maps
set_option linter.unusedVariables false

def syncFR (s1 : St) (er : Int) : Option Nat → St × Int
  | some f => (s1.set_ f { s1.at_ f with sf := (s1.at_ f).now }, 0)
  | none => (s1, er)
theorem sync_eq (s : St) (p : Str) {s1 : St} {r : Option Nat} {er : Int} (h : Found s p [] s1 r er) : s.sync p = syncFR s1 er r := by
  unfold St.sync
  rw [h.eq]
  cases r <;> rfl
theorem Found.lt {s s1 : St} {p : Str} {o : List Str} {r : Option Nat} {er : Int} {k : Nat} (hf : Found s p o s1 r er) (ok : Ok k s) (f : Nat) (e : r = some f) : f < s1.fil.length := by
  have ok1 : Ok k s1 := by have := ok.find p o; rwa [hf.eq] at this
  exact ok1.fs _ (look_mem (hf.yes f e).2)
theorem Found.ok {s s1 : St} {p : Str} {o : List Str} {r : Option Nat} {er : Int} {k : Nat} (hf : Found s p o s1 r er) (ok : Ok k s) : Ok k s1 := by have := ok.find p o; rwa [hf.eq] at this

set_option maxRecDepth 100000 in
theorem sync_any (w : World) (tb : Nat) (s : St) (g : Gh) {k : Nat} (hk : k ≤ 1000) (h : TreeAt w tb s g) (ok : Ok k s) (p : Str) (hp : p.length ≤ 10000) :
    Calls Try.prog 12 #[.pointer (some ⟨tb, 0, none⟩), .string (S p)] w fun e w' => e = .returned (.int .i64 (s.sync p).2) ∧ ∃ g', TreeAt w' tb (s.sync p).1 g' ∧ Chd (Mine g) w w' ∧ Gh.le w g g' := by
  obtain ⟨s1, r, er, hf⟩ := found s p []
  rw [sync_eq s p hf]
  have FA := Lib.hid (find_at (tb := tb) (g := g) ok p hp hf w h)
  have hfid := Lib.hid (fun f e => hf.lt ok f e)
  have HF := Lib.hid hf
  have H := Lib.hid h
  clear hf h hp ok
  generalize hR : syncFR s1 er r = R
  have HR := Lib.hid hR
  clear hR
  generalize S p = sp at *
  go_enter Try.func12, Try.ntmps12
  go_wp2_with fail
  refine FA.out.mono ?_
  rintro e w2 ⟨rfl, ht2, hc2⟩
  cases r with
  | none =>
    have hR : (s1, er) = R := HR.out
    subst hR
    have hne : (er == 0) = false := by have := HF.out.no rfl; simpa using this
    have T2 := Lib.hid ht2
    have CF' := Lib.hid (hc2.mono (M' := Mine g) (fun j _ e => by rw [e]; exact (mine_cv H.out).1))
    clear HR HF ht2 hc2 FA
    unfold optP
    go_wp2
    go_ret
    exact ⟨rfl, g, T2.out, CF'.out, Gh.le_refl _ _⟩
  | some f =>
    have hR : (s1.set_ f { s1.at_ f with sf := (s1.at_ f).now }, (0 : Int)) = R := HR.out
    subst hR
    obtain rfl : er = 0 := (HF.out.yes f rfl).1
    have hlt := hfid.out f rfl
    have hfa := ht2.fil f hlt
    obtain ⟨A, n, c, A2, n2, c2, hb, o1, o2, hal, t1, t2⟩ := hfa.ex
    have d0 : w2.cell? ⟨g.blk f, 0, none⟩ = some (.slice A n c) := by rw [hb.cell]; rfl
    have d1 : w2.cell? ⟨g.blk f, 1, none⟩ = some (.slice A2 n2 c2) := by rw [hb.cell]; rfl
    have d2 := hb.frozen 1
    have C3 := Chd.set w2 (g.blk f) 1 (.slice A n c)
    have nt : ∀ j, A = some ⟨j, 0, none⟩ → ¬ j = g.blk f := fun j e e2 => by
      have h1 := t1 j e
      have h2 := hfa.tg
      rw [e2] at h1
      omega
    have hne := blk_ne ht2 hlt
    have T3 : TreeAt (w2.setCell ⟨g.blk f, 1, none⟩ (.slice A n c)) tb (s1.set_ f { s1.at_ f with sf := (s1.at_ f).now }) g :=
      ht2.refile (f := f) (x := { s1.at_ f with sf := (s1.at_ f).now }) C3 (fun j e => by rw [e]; exact .inr (.inr (.inl hfa.tg))) hlt
        ⟨⟨A, n, c, A, n, c, hb.set 1 _, own_chd o1 C3 nt, own_chd o1 C3 nt, fun _ => Nat.le_refl _, t1, t1⟩, hfa.tg⟩ (ht2.top.chd C3 (fun e => hne e.symm)) rfl rfl rfl rfl
    have CF : Chd (Mine g) w (w2.setCell ⟨g.blk f, 1, none⟩ (.slice A n c)) := (hc2.mono (M' := Mine g) (fun j _ e => by rw [e]; exact (mine_cv H.out).1)).trans (C3.mono fun j _ e => by rw [e]; show g.tag _ ≠ 0; rw [hfa.tg]; omega)
    have T3' := Lib.hid T3
    have CF' := Lib.hid CF
    clear HR HF ht2 hc2 FA T3 CF C3 nt hfa hb o1 o2 hal t1 t2 hne hlt
    unfold optP fptr
    go_wp2
    go_ret
    exact ⟨rfl, g, T3'.out, CF'.out, Gh.le_refl _ _⟩

def readR (s1 : St) (er : Int) : Option Nat → St × Str × Int
  | some f => (s1, (s1.at_ f).now, 0)
  | none => (s1, [], er)
theorem read_eq (s : St) (p : Str) {s1 : St} {r : Option Nat} {er : Int} (h : Found s p [] s1 r er) : s.read p = readR s1 er r := by
  unfold St.read
  rw [h.eq]
  cases r <;> rfl
theorem Own.arg {w : World} {B n c : Nat} {A : Option Addr} {b : Str} (h : Own w B A n c b) : Arg w A n c b := Arg.of_byt h.byt (Nat.le_refl _)
theorem Own.nil_cap {w : World} {B n c : Nat} {b : Str} (h : Own w B none n c b) : c = 0 := by
  rcases h.2 with ⟨hv, _⟩ | ⟨g, cap, cur, hv, _⟩
  · simp only [Value.slice.injEq] at hv
    exact hv.2.2
  · cases hv

set_option maxRecDepth 100000 in
theorem read_any (w : World) (tb : Nat) (s : St) (g : Gh) {k : Nat} (hk : k ≤ 1000) (h : TreeAt w tb s g) (ok : Ok k s) (p : Str) (hp : p.length ≤ 10000) :
    Calls Try.prog 18 #[.pointer (some ⟨tb, 0, none⟩), .string (S p)] w fun e w' => ∃ A n c, e = .returned (.tuple #[.slice A n c, .int .i64 (s.read p).2.2]) ∧ Own w' w.heap.size A n c (s.read p).2.1 ∧ TreeAt w' tb (s.read p).1 g ∧ Chd (fun j => j = tb) w w' := by
  obtain ⟨s1, r, er, hf⟩ := found s p []
  rw [read_eq s p hf]
  have FA := Lib.hid (find_at (tb := tb) (g := g) ok p hp hf w h)
  have hfid := Lib.hid (fun f e => hf.lt ok f e)
  have OK1 := Lib.hid (hf.ok ok)
  have HF := Lib.hid hf
  have H := Lib.hid h
  clear hf h hp ok
  generalize hR : readR s1 er r = R
  have HR := Lib.hid hR
  clear hR
  generalize S p = sp at *
  go_enter Try.func18, Try.ntmps18
  go_wp2_with fail
  refine FA.out.mono ?_
  rintro e w2 ⟨rfl, ht2, hc2⟩
  cases r with
  | none =>
    have hR : (s1, ([] : Str), er) = R := HR.out
    subst hR
    have hne : (er != 0) = true := by have := HF.out.no rfl; simpa using this
    have T2 := Lib.hid ht2
    have C2 := Lib.hid hc2
    clear HR HF ht2 hc2 FA
    unfold optP
    go_wp2
    go_ret2
    exact ⟨none, 0, 0, rfl, ⟨rfl, .inl ⟨rfl, rfl⟩⟩, T2.out, C2.out⟩
  | some f =>
    have hR : (s1, (s1.at_ f).now, (0 : Int)) = R := HR.out
    subst hR
    obtain rfl : er = 0 := (HF.out.yes f rfl).1
    have hlt := hfid.out f rfl
    have hfa := ht2.fil f hlt
    obtain ⟨A, n, c, A2, n2, c2, hb, o1, o2, hal, t1, t2⟩ := hfa.ex
    have d0 : w2.cell? ⟨g.blk f, 0, none⟩ = some (.slice A n c) := by rw [hb.cell]; rfl
    have hn : n ≤ 100000000 := by have h1 := OK1.out.sz f; have h2 := o1.len; omega
    have BC := Lib.hid (bclone_any w2 A n c _ o1.arg hn (fun e => by subst e; exact o1.nil_cap))
    have T2 := Lib.hid ht2
    have C2 := Lib.hid hc2
    clear HR HF ht2 hc2 FA hfa hb o1 o2 hal t1 t2 hlt
    unfold optP fptr
    go_wp2_with fail
    refine BC.out.mono ?_
    rintro e w3 ⟨A3, c3, rfl, ho3, hb3⟩
    have HO := Lib.hid ho3
    have HB := Lib.hid hb3
    clear ho3 hb3 BC
    go_wp2
    go_ret2
    exact ⟨A3, n, c3, rfl, HO.out.more (C2.out.size), T2.out.nx HB.out, C2.out.trans (Nx.chd HB.out)⟩
end Go.Proofs.Ytodnckflobefpaa
