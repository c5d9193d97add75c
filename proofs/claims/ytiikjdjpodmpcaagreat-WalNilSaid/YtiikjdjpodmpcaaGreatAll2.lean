/- Texts of one proof, laid together: TrK, TrL, TrM, TrN, TrO, TrQ, TrR, TrS, TrT, TrU, TrV, TrW, TrX, TrStep, TrY, TrZ, TrLit, WiPure, WiOps. -/
import Derived.Test.YtiikjdjpodmpcaaGreatAll1
import Derived.Deep.RegionHeld3
import Derived.Sort.OwnSorted
import Derived.Lib.SlBytesConst
import Derived.WalkKit
import Derived.BigQuiet
import Derived.Deep.QuietTactic

/- Package tree: Remove. -/
namespace Go.Proofs.YtiikjdjpodmpcaaGreat
open Go.RowKit Go.Maps
set_option linter.unusedVariables false

/-- What an operation with a file finds. -/
structure Found (s : St) (p : Str) (o : List Str) (s1 : St) (r : Option Nat) (e : Int) : Prop where
  eq : s.find p o = (s1, r, e)
  yes : ∀ f, r = some f → e = 0 ∧ look s1.files p = some f
  no : r = none → e ≠ 0
theorem found (s : St) (p : Str) (o : List Str) : ∃ s1 r e, Found s p o s1 r e := by
  refine ⟨_, _, _, find_eq s p o, fun f hf => ?_, fun hn => ?_⟩
  · split at hf
    · rename_i h0
      rw [if_pos h0, (begin_same s _).1, hf]
      exact ⟨rfl, rfl⟩
    · cases hf
  · split at hn
    · rename_i h0
      rw [if_pos h0, hn]
      decide
    · rename_i h0
      rw [if_neg h0]
      exact h0
theorem find_at {tb : Nat} {s : St} {g : Gh} {k : Nat} (ok : Ok k s) (p : Str) (hp : p.length ≤ 10000) {s1 : St} {r : Option Nat} {er : Int} (hf : Found s p [] s1 r er) (W : World) (h : TreeAt W tb s g) :
    Calls Tryz.prog 93 #[.pointer (some ⟨tb, 0, none⟩), .string (S p), .slice none 0 0] W fun e w' => e = .returned (.tuple #[optP g r, .int .i64 er]) ∧ TreeAt w' tb s1 g ∧ Chd (fun j => j = tb) W w' := by
  have X := find_any W tb s g h ok.f0 ok.f1 p (by omega) none 0 0 [] (by decide) ⟨rfl, .inl ⟨rfl, rfl⟩⟩ (fun b hb => by cases hb)
  rw [hf.eq] at X
  exact X.mono fun e w' ⟨a, b, c⟩ => ⟨a, b, c.mono fun j _ hj => hj.elim id (fun e => by cases e)⟩
def Gh.boxes (g : Gh) (l : List Nat) : Gh := { g with tag := fun j => if j ∈ l then 5 else g.tag j }
theorem TreeAt.boxes {w : World} {tb : Nat} {s : St} {g : Gh} (h : TreeAt w tb s g) (l : List Nat) (hl : ∀ j ∈ l, g.tag j = 0 ∧ j < w.heap.size) : TreeAt w tb s (g.boxes l) :=
  h.retag (fun j hj => by
    show (if j ∈ l then 5 else g.tag j) = g.tag j
    rw [if_neg (fun e => hj (hl j e).1)]) (fun j hj => by
    have hj' : (if j ∈ l then 5 else g.tag j) ≠ 0 := hj
    split at hj'
    · rename_i e; exact (hl j e).2
    · exact h.dom j hj')
theorem BlkIs.alloc {w : World} {g : Nat} {t : TypeId} {cs : Array Value} (h : BlkIs w g t cs) (o : Obj) : BlkIs (w.alloc o) g t cs := h.chd (M := fun _ => False) (Chd.of_below ((Below.refl _ _).alloc (Nat.le_refl _) _)) (fun e => e)
def removeR (s1 : St) (p : Str) (er : Int) : Option Nat → St × Int
  | some _ => ((s1.free p).record (.rm p), 0)
  | none => (s1, er)
theorem remove_eq (s : St) (p : Str) {s1 : St} {r : Option Nat} {er : Int} (h : Found s p [] s1 r er) : s.remove p = removeR s1 p er r := by
  unfold St.remove
  rw [h.eq]
  cases r <;> rfl
theorem mine_cv {w : World} {tb : Nat} {s : St} {g : Gh} (H : TreeAt w tb s g) : g.tag tb ≠ 0 ∧ g.tag g.mf ≠ 0 ∧ g.tag g.ms ≠ 0 ∧ ∀ j, g.cv.ownBlock = some j → g.tag j ≠ 0 :=
  ⟨by rw [H.topT]; omega, by rw [H.mfT]; omega, by rw [H.msT]; omega, fun j e => by rw [H.rowT j e]; omega⟩
theorem new_zero {w : World} {tb : Nat} {s : St} {g : Gh} (H : TreeAt w tb s g) {j : Nat} (hj : w.heap.size ≤ j) : g.tag j = 0 := by
  rcases Nat.eq_zero_or_pos (g.tag j) with e | e
  · exact e
  · have := H.dom j (by omega); omega

set_option maxRecDepth 100000 in
theorem remove_any (w : World) (tb : Nat) (s : St) (g : Gh) {k : Nat} (hk : k + 1 ≤ 1000) (h : TreeAt w tb s g) (ok : Ok k s) (p : Str) (hp : p.length ≤ 10000) :
    Calls Tryz.prog 132 #[.pointer (some ⟨tb, 0, none⟩), .string (S p)] w fun e w' => e = .returned (.int .i64 (s.remove p).2) ∧ ∃ g', TreeAt w' tb (s.remove p).1 g' ∧ Chd (Mine g) w w' ∧ Gh.le w g g' := by
  obtain ⟨s1, r, er, hf⟩ := found s p []
  rw [remove_eq s p hf]
  have FA := Lib.hid (fun W hW => find_at (tb := tb) (g := g) ok p hp hf W hW)
  have ok1 : Ok k s1 := by have := ok.find p []; rwa [hf.eq] at this
  have FR := Lib.hid (fun W hW => free_any W tb s1 g (by omega) hW ok1 p (by omega))
  have okf := Lib.hid (ok1.free (by omega) p)
  have HF := Lib.hid hf
  have H := Lib.hid h
  have HP := Lib.hid hp
  have hsz : (S p).size ≤ 1000000000000 := by rw [S_size]; omega
  have CL := Lib.hid (fun W => clone_any W (S p) hsz)
  have T1 := Lib.hid (h.nx ((Below.refl _ w).alloc (Nat.le_refl _) (.cells #[.string (S p)] 9)))
  have X1 := Lib.hid (BlkIs.new w 9 #[.string (S p)])
  clear hf h hp hsz ok ok1
  generalize hsp : S p = sp at *
  have HSP := Lib.hid hsp
  clear hsp
  generalize hR : removeR s1 p er r = R
  have HR := Lib.hid hR
  clear hR
  go_enter Tryz.func132, Tryz.ntmps132
  go_wp2_with fail
  refine (FA.out _ T1.out).mono ?_
  rintro e w2 ⟨rfl, ht2, hc2⟩
  have hb0 : w.heap.size ≠ tb := by have := H.out.top.lt; omega
  have T2 := Lib.hid ht2
  have C2 := Lib.hid ((Chd.of_below ((Below.refl _ w).alloc (Nat.le_refl _) (.cells #[.string sp] 9)) : Chd (fun j => j = tb) w _).trans hc2)
  have X2 := Lib.hid (X1.out.chd hc2 hb0)
  clear ht2 hc2 T1 X1 FA
  cases r with
  | none =>
    have hR : (s1, er) = R := HR.out
    subst hR
    have hne : (er != 0) = true := by have := HF.out.no rfl; simpa using this
    clear HR HF
    unfold optP
    go_wp2
    go_ret
    exact ⟨rfl, g, T2.out, C2.out.mono (fun j _ e => by rw [e]; exact (mine_cv H.out).1), Gh.le_refl _ _⟩
  | some f =>
    have hR : ((s1.free p).record (.rm p), (0 : Int)) = R := HR.out
    subst hR
    obtain rfl : er = 0 := (HF.out.yes f rfl).1
    have d0 := X2.out.cell 0
    simp only [List.getElem?_toArray, List.getElem?_cons_zero] at d0
    unfold optP fptr
    clear HR HF
    go_wp2_with fail
    refine (FR.out w2 T2.out).mono ?_
    rintro e w3 ⟨rfl, ht3, hc3⟩
    have T3 := Lib.hid ht3
    have C3 := Lib.hid (C2.out.trans hc3)
    have x3 := X2.out.chd hc3 hb0
    have d0 := x3.cell 0
    simp only [List.getElem?_toArray, List.getElem?_cons_zero] at d0
    have X3 := Lib.hid x3
    clear ht3 hc3 x3 FR T2 C2 X2
    go_wp2_with fail
    refine (CL.out w3).mono ?_
    rintro e w4 ⟨rfl, hb4⟩
    have T4 := Lib.hid (T3.out.nx hb4)
    have C4 := Lib.hid (C3.out.trans (Nx.chd hb4))
    have x4 := X3.out.nx hb4
    have d4 := x4.cell 0
    simp only [List.getElem?_toArray, List.getElem?_cons_zero] at d4
    have f4 := x4.frozen 0
    have X4 := Lib.hid x4
    clear hb4 x4 d0 T3 C3 X3 CL
    go_wp2_with fail
    have C5 := Chd.set w4 w.heap.size 0 (.string sp)
    have X5 : BlkIs (w4.setCell ⟨w.heap.size, 0, none⟩ (.string sp)) w.heap.size 9 #[.string sp] := X4.out.set 0 _
    have T5 := (T4.out.chd C5 (fun j e => by rw [e]; exact new_zero H.out (Nat.le_refl _))).boxes [w.heap.size] (fun j e => by
      rw [List.mem_singleton.1 e]; exact ⟨new_zero H.out (Nat.le_refl _), X5.lt⟩)
    have hv : ChAt (w4.setCell ⟨w.heap.size, 0, none⟩ (.string sp)) (g.boxes [w.heap.size]).tag (g.boxes [w.heap.size]).blk (.func (.func 149) #[] #[.pointer (some ⟨w.heap.size, 0, none⟩)]) (.rm p) :=
      ⟨w.heap.size, rfl, by rw [show (⟨p.toArray⟩ : ByteArray) = sp from HSP.out]; exact X5, by show (if w.heap.size ∈ [w.heap.size] then 5 else _) = 5; simp⟩
    have RC := record_any _ tb _ _ hk T5 okf.out _ (.rm p) HP.out hv
    refine RC.mono ?_
    rintro e w6 ⟨rfl, ⟨cv, T6, hcv⟩, C6⟩
    have CF : Chd (Mine g) w w6 := by
      have a1 : Chd (Mine g) w w4 := C4.out.mono fun j _ e => by rw [e]; exact (mine_cv H.out).1
      have a2 := a1.then_ C5 (fun j hj e => by omega)
      exact a2.then_ C6 (fun j hj e => by
        rcases e with e | e | e
        · rw [e]; exact (mine_cv H.out).1
        · rw [e]; exact (mine_cv H.out).2.1
        · exact (mine_cv H.out).2.2.2 j e)
    have hle : Gh.le w g ((g.boxes [w.heap.size]).more cv (.func (.func 149) #[] #[.pointer (some ⟨w.heap.size, 0, none⟩)])) := fun j hj => by
      have hj' : (if cv.ownBlock = some j then 4 else if j ∈ [w.heap.size] then 5 else g.tag j) ≠ 0 := hj
      split at hj'
      · rename_i e
        rcases hcv with e2 | ⟨i, e2, hi⟩
        · exact .inl ((mine_cv H.out).2.2.2 j (by rw [e2.symm] at e; exact e))
        · rw [e2, Option.some.injEq] at e
          have := C4.out.size
          simp only [World.setCell] at hi
          right
          have h2 : w4.heap.size ≤ i := by simpa using hi
          omega
      · split at hj'
        · rename_i e
          rw [List.mem_singleton.1 e]
          exact .inr (Nat.le_refl _)
        · exact .inl hj'
    have T6' := Lib.hid T6
    have CF' := Lib.hid CF
    have HLE := Lib.hid hle
    clear T6 CF hle C6 hcv RC hv T5 X5 C5
    go_wp2
    go_ret
    exact ⟨rfl, _, T6'.out, CF'.out, HLE.out⟩
end Go.Proofs.YtiikjdjpodmpcaaGreat

/- Package tree: Rename. -/
namespace Go.Proofs.YtiikjdjpodmpcaaGreat
open Go.RowKit Go.Maps
set_option linter.unusedVariables false

theorem find_at2 {tb : Nat} {s : St} {g : Gh} {k : Nat} (ok : Ok k s) (p q : Str) (hp : p.length ≤ 10000) {s1 : St} {r : Option Nat} {er : Int} (hf : Found s p [q] s1 r er) (W : World) (h : TreeAt W tb s g) (b : Nat) (hb : BlkIs W b 9 #[.string (S q)]) (h0 : g.tag b = 0) :
    Calls Tryz.prog 93 #[.pointer (some ⟨tb, 0, none⟩), .string (S p), .slice (some ⟨b, 0, none⟩) 1 1] W fun e w' => e = .returned (.tuple #[optP g r, .int .i64 er]) ∧ TreeAt w' tb s1 g ∧ Chd (fun j => j = tb ∨ j = b) W w' := by
  have X := find_any W tb s g h ok.f0 ok.f1 p (by omega) (some ⟨b, 0, none⟩) 1 1 [q] (by decide) ⟨rfl, .inr ⟨b, 1, _, rfl, Nat.zero_le _, hb, Nat.le_refl _, by decide, rfl, rfl⟩⟩ (fun j hj => by
    have : some b = some j := hj
    rw [Option.some.injEq] at this
    rw [← this]; exact h0)
  rw [hf.eq] at X
  exact X.mono fun e w' ⟨a, b, c⟩ => ⟨a, b, c.mono fun j _ hj => hj.imp id (fun e => by
    have : some _ = some j := e
    rw [Option.some.injEq] at this
    exact this.symm)⟩
def renameR (s1 : St) (p q : Str) (er : Int) : Option Nat → St × Int
  | some f => if p = q then (s1, 0) else ((s1.free q).record (.mv p q f), 0)
  | none => (s1, er)
theorem rename_eq (s : St) (p q : Str) {s1 : St} {r : Option Nat} {er : Int} (h : Found s p [q] s1 r er) : s.rename p q = renameR s1 p q er r := by
  unfold St.rename
  rw [h.eq]
  cases r <;> rfl

set_option maxRecDepth 100000 in
theorem rename_any (w : World) (tb : Nat) (s : St) (g : Gh) {k : Nat} (hk : k + 1 ≤ 1000) (h : TreeAt w tb s g) (ok : Ok k s) (p q : Str) (hp : p.length ≤ 10000) (hq : q.length ≤ 10000) :
    Calls Tryz.prog 108 #[.pointer (some ⟨tb, 0, none⟩), .string (S p), .string (S q)] w fun e w' => e = .returned (.int .i64 (s.rename p q).2) ∧ ∃ g', TreeAt w' tb (s.rename p q).1 g' ∧ Chd (Mine g) w w' ∧ Gh.le w g g' := by
  obtain ⟨s1, r, er, hf⟩ := found s p [q]
  rw [rename_eq s p q hf]
  have FA := Lib.hid (fun W hW b hb h0 => find_at2 (tb := tb) (g := g) ok p q hp hf W hW b hb h0)
  have ok1 : Ok k s1 := by have := ok.find p [q]; rwa [hf.eq] at this
  have FR := Lib.hid (fun W hW => free_any W tb s1 g (by omega) hW ok1 q (by omega))
  have okf := Lib.hid (ok1.free (by omega) q)
  have hfid : Hid (∀ f, r = some f → f < (s1.free q).fil.length) := fun f e => by
    rw [(free_same s1 q).2.1]
    exact ok1.fs _ (look_mem (hf.yes f e).2)
  have HF := Lib.hid hf
  have H := Lib.hid h
  have HP := Lib.hid hp
  have HQ := Lib.hid hq
  have hsz : (S p).size ≤ 1000000000000 := by rw [S_size]; omega
  have hsz2 : (S q).size ≤ 1000000000000 := by rw [S_size]; omega
  have CL1 := Lib.hid (fun W => clone_any W (S p) hsz)
  have CL2 := Lib.hid (fun W => clone_any W (S q) hsz2)
  have bl : Below w.heap.size w (((w.alloc (.cells #[.string (S p)] 9)).alloc (.cells #[.string (S q)] 9)).alloc (.cells #[.string (S q)] 9)) := (((Below.refl _ w).alloc (Nat.le_refl _) _).alloc (by simp) _).alloc (by simp; omega) _
  have T1 := Lib.hid (h.nx bl)
  have X1 := Lib.hid (((BlkIs.new w 9 #[.string (S p)]).alloc (.cells #[.string (S q)] 9)).alloc (.cells #[.string (S q)] 9))
  have Y1 : Hid (BlkIs (((w.alloc (.cells #[.string (S p)] 9)).alloc (.cells #[.string (S q)] 9)).alloc (.cells #[.string (S q)] 9)) (w.heap.size + 1) 9 #[.string (S q)]) := by
    have := (BlkIs.new (w.alloc (.cells #[.string (S p)] 9)) 9 #[.string (S q)]).alloc (.cells #[.string (S q)] 9)
    rw [World.size_alloc] at this
    exact this
  have Z1 : Hid (BlkIs (((w.alloc (.cells #[.string (S p)] 9)).alloc (.cells #[.string (S q)] 9)).alloc (.cells #[.string (S q)] 9)) (w.heap.size + 2) 9 #[.string (S q)]) := by
    have := (BlkIs.new ((w.alloc (.cells #[.string (S p)] 9)).alloc (.cells #[.string (S q)] 9)) 9 #[.string (S q)])
    rw [World.size_alloc, World.size_alloc] at this
    exact this
  have CB := Lib.hid (Chd.of_below bl : Chd (fun j => j = tb) w _)
  have hpq : Hid ((S p = S q) ↔ p = q) := S_inj
  clear hf h hp hq hsz hsz2 ok ok1 bl
  generalize hsp : S p = sp at *
  generalize hsq : S q = sq at *
  have HSP := Lib.hid hsp
  have HSQ := Lib.hid hsq
  clear hsp hsq
  generalize hR : renameR s1 p q er r = R
  have HR := Lib.hid hR
  clear hR
  go_enter Tryz.func108, Tryz.ntmps108
  go_wp2_with fail
  refine (FA.out _ T1.out (w.heap.size + 2) Z1.out (new_zero H.out (by omega))).mono ?_
  rintro e w2 ⟨rfl, ht2, hc2⟩
  have htb := H.out.top.lt
  have hb0 : ¬ (w.heap.size = tb ∨ w.heap.size = w.heap.size + 2) := by omega
  have hb1 : ¬ (w.heap.size + 1 = tb ∨ w.heap.size + 1 = w.heap.size + 2) := by omega
  have T2 := Lib.hid ht2
  have C2 := Lib.hid ((CB.out.mono fun _ _ e => .inl e).trans hc2)
  have x2 := X1.out.chd hc2 hb0
  have y2 := Y1.out.chd hc2 hb1
  have dx2 : ∀ o, (w2.alloc o).cell? ⟨w.heap.size, 0, none⟩ = some (.string sp) := fun o => by rw [(x2.alloc o).cell]; rfl
  have dy2 : ∀ o, (w2.alloc o).cell? ⟨w.heap.size + 1, 0, none⟩ = some (.string sq) := fun o => by rw [(y2.alloc o).cell]; rfl
  have X2 := Lib.hid x2
  have Y2 := Lib.hid y2
  have HTB := Lib.hid htb
  clear ht2 hc2 T1 X1 Y1 Z1 FA CB x2 y2 hb0 hb1 htb
  cases r with
  | none =>
    have hR : (s1, er) = R := HR.out
    subst hR
    have hne : (er != 0) = true := by have := HF.out.no rfl; simpa using this
    clear HR HF
    unfold optP
    go_wp2
    go_ret
    refine ⟨rfl, g, T2.out.nx ((Below.refl _ w2).alloc (Nat.le_refl _) _), ?_, Gh.le_refl _ _⟩
    have a1 : Chd (Mine g) w w2 := C2.out.mono (fun j hj e => by
      rcases e with e | e
      · rw [e]; exact (mine_cv H.out).1
      · omega)
    exact a1.trans (Chd.of_below ((Below.refl _ w2).alloc (Nat.le_refl _) _))
  | some f =>
    obtain rfl : er = 0 := (HF.out.yes f rfl).1
    have HFL : Hid (f < (s1.free q).fil.length) := hfid.out f rfl
    unfold optP fptr
    by_cases hq : p = q
    · have hR : (s1, (0 : Int)) = R := by have := HR.out; simp only [renameR, if_pos hq] at this; exact this
      subst hR
      have hs : (sp.toList == sq.toList) = true := by rw [hpq.out.2 hq]; simp
      clear HR HF hfid hq
      go_wp2
      go_ret
      refine ⟨rfl, g, T2.out.nx ((Below.refl _ w2).alloc (Nat.le_refl _) _), ?_, Gh.le_refl _ _⟩
      have a1 : Chd (Mine g) w w2 := C2.out.mono (fun j hj e => by
        rcases e with e | e
        · rw [e]; exact (mine_cv H.out).1
        · omega)
      exact a1.trans (Chd.of_below ((Below.refl _ w2).alloc (Nat.le_refl _) _))
    have hR : ((s1.free q).record (.mv p q f), (0 : Int)) = R := by have := HR.out; simp only [renameR, if_neg hq] at this; exact this
    subst hR
    have hs : (sp.toList == sq.toList) = false := by
      have h1 : sp.toList = p := by rw [← HSP.out, S_toList]
      have h2 : sq.toList = q := by rw [← HSQ.out, S_toList]
      rw [h1, h2]
      simpa using hq
    clear HR HF hfid
    go_wp2_with fail
    refine (FR.out _ (T2.out.nx ((Below.refl _ w2).alloc (Nat.le_refl _) _))).mono ?_
    rintro e w3 ⟨rfl, ht3, hc3⟩
    have C3 := Lib.hid ((C2.out.trans (Chd.of_below ((Below.refl _ w2).alloc (Nat.le_refl _) (.cells #[fptr (g.blk f)] 102)))).trans (hc3.mono fun _ _ e => .inl e))
    have htb := HTB.out
    have x3 := (X2.out.alloc (.cells #[fptr (g.blk f)] 102)).chd hc3 (by omega)
    have y3 := (Y2.out.alloc (.cells #[fptr (g.blk f)] 102)).chd hc3 (by omega)
    have z3 := (BlkIs.new w2 102 #[fptr (g.blk f)]).chd hc3 (by have := X2.out.lt; omega)
    have hlt : Hid (w.heap.size + 1 < w2.heap.size) := Y2.out.lt
    have T3 := Lib.hid ht3
    have dx3 := x3.cell 0
    have dy3 := y3.cell 0
    simp only [List.getElem?_toArray, List.getElem?_cons_zero] at dx3 dy3
    have d3 := And.intro dx3 dy3
    have l3 := Lib.hid (And.intro x3.lt y3.lt)
    have X3 := Lib.hid x3
    have Y3 := Lib.hid y3
    have Z3 := Lib.hid z3
    clear ht3 hc3 x3 y3 z3 T2 C2 X2 Y2 dx2 dy2 dx3 dy3 FR htb
    go_upto_region 5 with fail
    refine wp_region_held_drew (S := (fun W => W.cell? ⟨w.heap.size, 0, none⟩ = some (.string sp) ∧ W.cell? ⟨w.heap.size + 1, 0, none⟩ = some (.string sq))) (by kernel_rfl) ⟨d3.1, d3.2⟩ (fun hHeld => ?_)
    change wpAnyH _ _ _ _ _ 6 (Array.replicate 6 false) _ _
    refine wpAnyH_take (i := 0) (oi := { dst := some 28, op := Op.load 9 (Operand.tmp 4), type := 9, pos := "operation.go:78", after := #[], guard := none }) (v := ?va0) rfl (by kernel_rfl) (by kernel_rfl) (by kernel_rfl) (fun _ _ _ h => h) (Or.inl ⟨by rfl, ?hya0⟩) hHeld ?resta0
    case hya0 =>
      intro W hSw
      have s1 := hSw.1
      have s2 := hSw.2
      go_simp
      try with_reducible rfl
    try simp only [Act.put, List.setIfInBounds_toArray, List.set_cons_zero, List.set_cons_succ]
    refine wpAnyH_take (i := 2) (oi := { dst := some 30, op := Op.load 9 (Operand.tmp 5), type := 9, pos := "operation.go:78", after := #[], guard := none }) (v := ?va2) rfl (by kernel_rfl) (by kernel_rfl) (by kernel_rfl) (fun _ _ _ h => h) (Or.inl ⟨by rfl, ?hya2⟩) hHeld ?resta2
    case hya2 =>
      intro W hSw
      have s1 := hSw.1
      have s2 := hSw.2
      go_simp
      try with_reducible rfl
    try simp only [Act.put, List.setIfInBounds_toArray, List.set_cons_zero, List.set_cons_succ]
    refine wpAnyH_ready (rs := [1]) (by kernel_rfl) (by simp) ?_
    refine AllReadyH.cons (o := { dst := some 29, op := Op.call { callee := Callee.value (Operand.func 39), args := #[Operand.tmp 28], argTypes := #[9] }, type := 9, pos := "operation.go:78", after := #[{ on := 0, ground := Ground.data }], guard := none }) rfl (fun K' hK => ?_) AllReadyH.nil
    go_simp
    refine (CL1.out w3.drew).mono ?_
    rintro e w4 ⟨rfl, hb⟩
    have B4 := Lib.hid (Nx.trans (Nx.drew (Nx.refl w3)) hb)
    clear hb
    show K' _ w4
    refine hK.out _ _ ⟨(B4.out.cell (l3.out.1)).trans d3.1, (B4.out.cell (l3.out.2)).trans d3.2⟩ (fun hHeld => ?_)
    clear hK K'
    try simp only [Act.put, List.setIfInBounds_toArray, List.set_cons_zero, List.set_cons_succ]
    refine wpAnyH_ready (rs := [3]) (by kernel_rfl) (by simp) ?_
    refine AllReadyH.cons (o := { dst := some 31, op := Op.call { callee := Callee.value (Operand.func 39), args := #[Operand.tmp 30], argTypes := #[9] }, type := 9, pos := "operation.go:78", after := #[{ on := 2, ground := Ground.data }, { on := 1, ground := Ground.chain }], guard := none }) rfl (fun K' hK => ?_) AllReadyH.nil
    go_simp
    refine (CL2.out w4).mono ?_
    rintro e w5 ⟨rfl, hb⟩
    have B5 := Lib.hid (Nx.trans B4.out hb)
    have x5 := X3.out.nx B5.out
    have y5 := Y3.out.nx B5.out
    have z5 := Z3.out.nx B5.out
    have X5 := Lib.hid x5
    have Y5 := Lib.hid y5
    have Z5 := Lib.hid z5
    have dx5 := x5.cell 0
    have fx5 := x5.frozen 0
    have dy5 := y5.cell 0
    have fy5 := y5.frozen 0
    simp only [List.getElem?_toArray, List.getElem?_cons_zero] at dx5 dy5
    clear hb x5 y5 z5
    show K' _ w5
    refine hK.out _ _ ⟨dx5, dy5⟩ (fun hHeld => ?_)
    clear hK K'
    try simp only [Act.put, List.setIfInBounds_toArray, List.set_cons_zero, List.set_cons_succ]
    refine wpAnyH_ready (rs := [4]) (by kernel_rfl) (by simp) ?_
    refine AllReadyH.cons (o := { dst := none, op := Op.store 9 (Operand.tmp 4) (Operand.tmp 29), type := 0, pos := "operation.go:78", after := #[{ on := 1, ground := Ground.data }, { on := 3, ground := Ground.chain }, { on := 0, ground := Ground.phase }, { on := 1, ground := Ground.phase }, { on := 2, ground := Ground.textOnly Departure.inlinedCapture }, { on := 3, ground := Ground.textOnly Departure.lateStoresUnsure }], guard := none }) rfl (fun K' hK => ?_) AllReadyH.nil
    go_simp
    refine hK.out _ _ ⟨by rw [show (w5.setCell ⟨w.heap.size, 0, none⟩ (.string sp)).cell? ⟨w.heap.size, 0, none⟩ = (#[Value.string sp])[0]? from (X5.out.set 0 (.string sp)).cell 0]; rfl, by rw [(Y5.out.chd (Chd.set w5 w.heap.size 0 (.string sp)) (by omega)).cell 0]; rfl⟩ (fun hHeld => ?_)
    clear hK K'
    try simp only [Act.put, List.setIfInBounds_toArray, List.set_cons_zero, List.set_cons_succ]
    have X7 := Lib.hid ((X5.out.set 0 (.string sp)).chd (Chd.set _ (w.heap.size + 1) 0 (.string sq)) (by omega))
    have Y7 := Lib.hid ((Y5.out.chd (Chd.set w5 w.heap.size 0 (.string sp)) (by omega)).set 0 (.string sq))
    refine wpAnyH_ready (rs := [5]) (by kernel_rfl) (by simp) ?_
    refine AllReadyH.cons (o := { dst := none, op := Op.store 9 (Operand.tmp 5) (Operand.tmp 31), type := 0, pos := "operation.go:78", after := #[{ on := 3, ground := Ground.data }, { on := 4, ground := Ground.chain }, { on := 0, ground := Ground.phase }, { on := 1, ground := Ground.phase }, { on := 2, ground := Ground.phase }, { on := 3, ground := Ground.phase }, { on := 4, ground := Ground.phase }], guard := none }) rfl (fun K' hK => ?_) AllReadyH.nil
    go_simp
    refine hK.out _ _ ⟨by rw [X7.out.cell 0]; rfl, by rw [Y7.out.cell 0]; rfl⟩ (fun hHeld => ?_)
    clear hK K'
    try simp only [Act.put]
    refine wpAnyH_done (by kernel_rfl) ?_ _
    go_wp2_with fail
    have hlt' := hlt.out
    have l3' := Z3.out.lt
    have hsz5 := B5.out.size
    obtain ⟨w7, hw7⟩ : ∃ w7, (w5.setCell ⟨w.heap.size, 0, none⟩ (.string sp)).setCell ⟨w.heap.size + 1, 0, none⟩ (.string sq) = w7 := ⟨_, rfl⟩
    have C57 : Chd (fun j => j = w.heap.size ∨ j = w.heap.size + 1) w5 w7 := by
      subst hw7
      exact ((Chd.set w5 w.heap.size 0 _).mono fun _ _ e => .inl e).trans ((Chd.set _ (w.heap.size + 1) 0 _).mono fun _ _ e => .inr e)
    have x7 := X7.out
    have y7 := Y7.out
    have z7 : BlkIs w7 w2.heap.size 102 #[fptr (g.blk f)] := Z5.out.chd C57 (by omega)
    rw [hw7] at x7 y7
    rw [hw7]
    have tz : ∀ j, w.heap.size ≤ j → g.tag j = 0 := fun j hj => new_zero H.out hj
    have T7 := ((T3.out.nx B5.out).chd C57 (fun j e => tz j (by omega))).boxes [w.heap.size, w2.heap.size, w.heap.size + 1] (fun j e => by
      simp only [List.mem_cons, List.not_mem_nil, or_false] at e
      rcases e with e | e | e <;> subst e
      · exact ⟨tz _ (Nat.le_refl _), x7.lt⟩
      · exact ⟨tz _ (by omega), z7.lt⟩
      · exact ⟨tz _ (by omega), y7.lt⟩)
    have tb5 : ∀ j, (j = w.heap.size ∨ j = w2.heap.size ∨ j = w.heap.size + 1) → (g.boxes [w.heap.size, w2.heap.size, w.heap.size + 1]).tag j = 5 := fun j e => if_pos (by simpa using e)
    have hv : ChAt w7 (g.boxes [w.heap.size, w2.heap.size, w.heap.size + 1]).tag (g.boxes [w.heap.size, w2.heap.size, w.heap.size + 1]).blk (.func (.func 136) #[] #[.pointer (some ⟨w.heap.size, 0, none⟩), .pointer (some ⟨w2.heap.size, 0, none⟩), .pointer (some ⟨w.heap.size + 1, 0, none⟩)]) (.mv p q f) :=
      ⟨w.heap.size, w2.heap.size, w.heap.size + 1, rfl, ⟨by rw [show (⟨p.toArray⟩ : ByteArray) = sp from HSP.out]; exact x7, tb5 _ (.inl rfl)⟩, ⟨z7, tb5 _ (.inr (.inl rfl))⟩, ⟨by rw [show (⟨q.toArray⟩ : ByteArray) = sq from HSQ.out]; exact y7, tb5 _ (.inr (.inr rfl))⟩⟩
    have RC := record_any _ tb _ _ hk T7 okf.out _ (.mv p q f) ⟨HP.out, HQ.out, HFL.out⟩ hv
    refine RC.mono ?_
    rintro e w8 ⟨rfl, ⟨cv, T8, hcv⟩, C8⟩
    have hC7 := C57.size
    have hC3 := C3.out.size
    have CF : Chd (Mine g) w w8 := by
      have a1 : Chd (Mine g) w w3 := C3.out.mono (fun j hj e => by
        rcases e with e | e
        · rw [e]; exact (mine_cv H.out).1
        · omega)
      have a2 : Chd (Mine g) w w7 := (a1.trans (Nx.chd B5.out)).then_ C57 (fun j hj e => by omega)
      exact a2.then_ C8 (fun j hj e => by
        rcases e with e | e | e
        · rw [e]; exact (mine_cv H.out).1
        · rw [e]; exact (mine_cv H.out).2.1
        · exact (mine_cv H.out).2.2.2 j e)
    have hle : Gh.le w g ((g.boxes [w.heap.size, w2.heap.size, w.heap.size + 1]).more cv (.func (.func 136) #[] #[.pointer (some ⟨w.heap.size, 0, none⟩), .pointer (some ⟨w2.heap.size, 0, none⟩), .pointer (some ⟨w.heap.size + 1, 0, none⟩)])) := fun j hj => by
      have hj' : (if cv.ownBlock = some j then 4 else if j ∈ [w.heap.size, w2.heap.size, w.heap.size + 1] then 5 else g.tag j) ≠ 0 := hj
      split at hj'
      · rename_i e
        rcases hcv with e2 | ⟨i, e2, hi⟩
        · exact .inl ((mine_cv H.out).2.2.2 j (by rw [e2.symm] at e; exact e))
        · rw [e2, Option.some.injEq] at e
          right
          omega
      · split at hj'
        · rename_i e
          simp only [List.mem_cons, List.not_mem_nil, or_false] at e
          right
          omega
        · exact .inl hj'
    have T8' := Lib.hid T8
    have CF' := Lib.hid CF
    have HLE := Lib.hid hle
    clear T8 CF hle C8 hcv RC hv T7 tb5 tz x7 y7 z7 C57 hw7 hC7 hC3 hsz5 l3' hlt' hHeld
    go_wp2
    go_ret
    exact ⟨rfl, _, T8'.out, CF'.out, HLE.out⟩
end Go.Proofs.YtiikjdjpodmpcaaGreat

/- Package tree: changes of paths are made safe. -/
namespace Go.Proofs.YtiikjdjpodmpcaaGreat
open Go.RowKit Go.Maps
set_option linter.unusedVariables false

theorem app_length (c : Chg) (l : Dir) : (c.app l).length ≤ l.length + 1 := by
  cases c with
  | mk p f => exact put_length l p f
  | mv p q f => have := put_length (era l p) q f; have := era_length l p; show (put (era l p) q f).length ≤ _; omega
  | rm p => have := era_length l p; show (era l p).length ≤ _; omega
def apps (cs : List Chg) (l : Dir) : Dir := cs.foldl (fun l c => c.app l) l
theorem apps_length (cs : List Chg) : ∀ l : Dir, (apps cs l).length ≤ l.length + cs.length := by
  induction cs with
  | nil => intro l; exact Nat.le_refl _
  | cons c cs ih => intro l; have := ih (c.app l); have := app_length c l; show (apps cs (c.app l)).length ≤ _; simp only [List.length_cons]; omega
theorem apps_take_succ (cs : List Chg) (l : Dir) (i : Nat) (c : Chg) (h : cs[i]? = some c) : apps (cs.take (i + 1)) l = c.app (apps (cs.take i) l) := by
  unfold apps
  rw [List.take_add_one, List.foldl_append, h]
  rfl
def Gh.clean (g : Gh) : Gh := { g with cv := .slice none 0 0, vs := [] }
theorem settle_end {w w' : World} {tb : Nat} {s : St} {g : Gh} {n : Nat} (h : TreeAt w tb s g) (hm : MapAt w' g.ms g.blk (apps (s.chs.take n) s.safe)) (hc : Chd (fun j => j = g.ms) w w') :
    TreeAt (w'.setCell ⟨tb, 5, none⟩ (.slice none 0 0)) tb (s.settle n) g.clean ∧ Chd (fun j => j = tb ∨ j = g.ms) w (w'.setCell ⟨tb, 5, none⟩ (.slice none 0 0)) := by
  have hst : tb ≠ g.ms := fun e => by have := h.msT; rw [← e, h.topT] at this; omega
  have T := (h.top.chd hc hst).set 5 (.slice none 0 0)
  have C5 := Chd.set w' tb 5 (.slice none 0 0)
  have C : Chd (fun j => j = tb ∨ j = g.ms) w (w'.setCell ⟨tb, 5, none⟩ (.slice none 0 0)) := (hc.mono fun _ _ e => .inr e).trans (C5.mono fun _ _ e => .inl e)
  have tg : ∀ j, (j = tb ∨ j = g.ms) → g.tag j = 1 ∨ g.tag j = 3 := fun j hj => by
    rcases hj with rfl | rfl
    · exact .inl h.topT
    · exact .inr h.msT
  refine ⟨?_, C⟩
  exact { top := T, topT := h.topT, mfT := h.mfT, msT := h.msT
          mfA := h.mfA.chd C (fun e => by have := tg _ e; rw [h.mfT] at this; omega)
          msA := hm.chd C5 (fun e => hst e.symm)
          row := ⟨rfl, .inl ⟨rfl, rfl⟩⟩
          rowT := fun b hb => by cases hb
          chs := fun i c hi => by simp [St.settle] at hi
          fil := fun i hi => (h.fil i hi).chd C (fun j e => by have := tg _ e; omega)
          dom := fun j hj => Nat.lt_of_lt_of_le (h.dom j hj) C.size
          apart := h.apart }

set_option maxRecDepth 100000 in
theorem settle_any (w : World) (tb : Nat) (s : St) (g : Gh) {k : Nat} (hk : k ≤ 1000) (h : TreeAt w tb s g) (ok : Ok k s) (n : Nat) (hn : n ≤ s.chs.length) :
    Calls Tryz.prog 65 #[.pointer (some ⟨tb, 0, none⟩), .int .i64 (n : Int)] w fun e w' => e = .returned (.tuple #[]) ∧ TreeAt w' tb (s.settle n) g.clean ∧ Chd (fun j => j = tb ∨ j = g.ms) w w' := by
  have hvl : g.vs.length = s.chs.length := by have := h.row.1; omega
  have hL : s.chs.length ≤ 1000 := by have := ok.ls; omega
  have c5 := (top_of h.top).c5
  have hst : tb ≠ g.ms := fun e => by have := h.msT; rw [← e, h.topT] at this; omega
  obtain ⟨A, L, c, hcv, hcell, hLc⟩ : ∃ A L c, g.cv = .slice A L c ∧ L = s.chs.length ∧ L ≤ c ∧ c ≤ maxLen ∧ ∀ i v, i < n → g.vs[i]? = some v → ∃ gb, A = some ⟨gb, 0, none⟩ ∧ gb ≠ g.ms ∧ gb < w.heap.size ∧ w.cell? ⟨gb, i, none⟩ = some v := by
    rcases h.row.2 with ⟨hv, h0⟩ | ⟨gb, cap, cur, hv, _, hb, hle, hcap, _⟩
    · exact ⟨none, 0, 0, hv, h0.symm, Nat.le_refl _, Nat.zero_le _, fun i v hi _ => by omega⟩
    · refine ⟨_, _, _, hv, rfl, hle, hcap, fun i v hi hv' => ⟨gb, rfl, fun e => ?_, (Array.getElem?_eq_some_iff.1 hb).1, ?_⟩⟩
      · have := h.rowT gb (by rw [hv]; rfl)
        rw [e, h.msT] at this
        omega
      · have hr := h.row
        rw [hv] at hr
        have := World.ownsRow.cells (w := w) hr (g := gb) rfl i v hv'
        rwa [add_plain, Nat.zero_add] at this
  obtain ⟨hLc, hcm, hcells⟩ := hLc
  have i1 : (n : Int) ≤ (L : Int) := by omega
  have i2 : (n : Int) ≤ (c : Int) := by omega
  have i3 : (c : Int) ≤ 9223372036854775807 := by unfold maxLen at hcm; omega
  rw [hcv] at c5
  have H := Lib.hid h
  have OK := Lib.hid ok
  have HC := Lib.hid hcells
  have HN := Lib.hid hn
  clear h ok hcells hcv hcell hn hcm
  go_enter Tryz.func65, Tryz.ntmps65
  go_wp2
  go_loopw [13] (fun x wr => ∃ i : Nat, x = .int .i64 i ∧ i ≤ n ∧ Hid (MapAt wr g.ms g.blk (apps (s.chs.take i) s.safe) ∧ Chd (fun j => j = g.ms) w wr)) (fun x _ => n - (intOf x).toNat)
  case atStart => exact ⟨0, rfl, Nat.zero_le _, H.out.msA, Chd.refl _⟩
  case round =>
    obtain ⟨i, rfl, hi, hm⟩ := hrel
    by_cases hlt : i < n
    · have hn := HN.out
      obtain ⟨c0, hc0⟩ : ∃ c0, s.chs[i]? = some c0 := ⟨_, List.getElem?_eq_getElem (show i < s.chs.length by omega)⟩
      obtain ⟨v, hv, ha⟩ := H.out.chs i c0 hc0
      obtain ⟨gb, rfl, hgm, hgl, hgc⟩ := HC.out i v hlt hv
      have hgc' : wr.cell? ⟨gb, i, none⟩ = some v := by rw [World.cell?_of_block (hm.out.2.block gb hgl hgm)]; exact hgc
      have hl := apps_length (s.chs.take i) s.safe
      have hls := OK.out.ls
      rw [List.length_take] at hl
      have c4 := (top_of (H.out.top.chd hm.out.2 hst)).c4
      have hstep := apps_take_succ s.chs s.safe i c0 hc0
      obtain ⟨fn, caps, hve, hfn, hrun⟩ := (ha.chd hm.out.2 (fun j e => by rw [e, H.out.msT]; omega)).runs (OK.out.cs c0 (List.mem_of_getElem? hc0)) hm.out.1 (by omega) (by rw [H.out.msT]; omega)
      rw [← hstep] at hrun
      obtain ⟨args, hargs⟩ : ∃ args, #[Value.map (some g.ms)] ++ caps = args := ⟨_, rfl⟩
      rw [hargs] at hrun
      have HR := Lib.hid hrun
      have HM := hm
      clear hrun hl hls hstep hgc ha hv hc0 hm hn
      rcases hfn with rfl | rfl | rfl <;> (
        subst hve
        go_wp2_with fail
        refine HR.out.mono ?_
        rintro e w2 ⟨rfl, hm2, hc2⟩
        have HM2 := Lib.hid (And.intro hm2 (HM.out.2.trans hc2))
        clear hm2 hc2 HR HM hargs
        go_wp2
        go_roundw
        case rel => exact ⟨i + 1, by go_num, by omega, HM2.out⟩
        case measure => simp [intOf]; omega)
    · obtain rfl : i = n := by omega
      have hT := H.out.top.chd hm.out.2 hst
      have c5' := (top_of hT).c5
      have f5' := hT.frozen 5
      have E := settle_end H.out hm.out.1 hm.out.2
      have E' := Lib.hid E
      clear E hT hm
      go_wp2
      refine bodyPost_end (results_none rfl _ _ _) rfl ?_
      exact ⟨rfl, E'.out⟩

def syncR (s1 : St) (e : Int) : St × Int := if e = 0 then (s1.settle s1.chs.length, 0) else (s1, e)
theorem syncPaths_eq (s : St) : s.syncPaths = syncR (s.begin_ []).1 (s.begin_ []).2 := by
  unfold St.syncPaths syncR
  generalize s.begin_ [] = r
  obtain ⟨s1, e⟩ := r
  rfl
set_option maxRecDepth 100000 in
theorem syncPaths_any (w : World) (tb : Nat) (s : St) (g : Gh) {k : Nat} (hk : k ≤ 1000) (h : TreeAt w tb s g) (ok : Ok k s) :
    Calls Tryz.prog 109 #[.pointer (some ⟨tb, 0, none⟩)] w fun e w' => e = .returned (.int .i64 s.syncPaths.2) ∧ ∃ g', TreeAt w' tb s.syncPaths.1 g' ∧ Chd (Mine g) w w' ∧ Gh.le w g g' := by
  rw [syncPaths_eq]
  have B := Lib.hid (begin_at (tb := tb) (g := g) ok.f0 ok.f1 w h none 0 0 [] ⟨rfl, Nat.zero_le _, fun e => by omega⟩)
  have ok1 := ok.begin []
  generalize s.begin_ [] = r at *
  obtain ⟨s1, er⟩ := r
  simp only at B ok1 ⊢
  have ST := Lib.hid (fun W hW => settle_any W tb s1 g hk hW ok1 s1.chs.length (Nat.le_refl _))
  have H := Lib.hid h
  have hl : s1.chs.length ≤ 1000 := by have := ok1.ls; omega
  clear h ok ok1
  generalize hR : syncR s1 er = R
  have HR := Lib.hid hR
  clear hR
  go_enter Tryz.func109, Tryz.ntmps109
  go_wp2_with fail
  refine B.out.mono ?_
  rintro e w2 ⟨rfl, ht2, hc2⟩
  by_cases he : er = 0
  · have hR : (s1.settle s1.chs.length, (0 : Int)) = R := by have := HR.out; simp only [syncR, if_pos he] at this; exact this
    subst hR he
    obtain ⟨A, c, hcv⟩ : ∃ A c, g.cv = .slice A s1.chs.length c := by
      rcases ht2.row.2 with ⟨hv, h0⟩ | ⟨gb, cap, cur, hv, _⟩
      · exact ⟨none, 0, by rw [hv, h0]⟩
      · exact ⟨_, _, hv⟩
    have c5 := (top_of ht2.top).c5
    rw [hcv] at c5
    have T2 := Lib.hid ht2
    have C2 := Lib.hid hc2
    clear ht2 hc2 hcv B HR
    go_wp2_with fail
    refine (ST.out w2 T2.out).mono ?_
    rintro e w3 ⟨rfl, ht3, hc3⟩
    have T3 := Lib.hid ht3
    have CF : Chd (Mine g) w w3 := (C2.out.mono (fun j _ e => by rw [e]; exact (mine_cv H.out).1)).trans (hc3.mono (fun j _ e => by
      rcases e with e | e
      · rw [e]; exact (mine_cv H.out).1
      · rw [e]; exact (mine_cv H.out).2.2.1))
    have CF' := Lib.hid CF
    clear ht3 hc3 CF ST
    go_wp2
    go_ret
    exact ⟨rfl, _, T3.out, CF'.out, fun j hj => .inl hj⟩
  · have hR : (s1, er) = R := by have := HR.out; simp only [syncR, if_neg he] at this; exact this
    subst hR
    have hne : (er == 0) = false := by simpa using he
    have T2 := Lib.hid ht2
    have CF' := Lib.hid (hc2.mono (M' := Mine g) (fun j _ e => by rw [e]; exact (mine_cv H.out).1))
    clear ht2 hc2 he HR ST B
    go_wp2
    go_ret
    exact ⟨rfl, g, T2.out, CF'.out, Gh.le_refl _ _⟩
end Go.Proofs.YtiikjdjpodmpcaaGreat

/- Package tree: Sync, Write, Append, Read. -/
namespace Go.Proofs.YtiikjdjpodmpcaaGreat
open Go.RowKit Go.Maps
set_option linter.unusedVariables false

/-- Bytes that come as an argument. -/
structure Arg (w : World) (A : Option Addr) (n c : Nat) (b : Str) : Prop where
  len : b.length = n
  le : n ≤ c
  cap : c ≤ maxLen
  lies : 0 < n → ∃ j o, A = some ⟨j, o, none⟩ ∧ j < w.heap.size ∧ ∀ i, i < n → w.cell? ⟨j, o + i, none⟩ = some (.int .u8 (nth b i))
theorem Arg.chd {w w' : World} {M : Nat → Prop} {A : Option Addr} {n c : Nat} {b : Str} (h : Arg w A n c b) (hc : Chd M w w') (hm : ∀ j o, A = some ⟨j, o, none⟩ → ¬ M j) : Arg w' A n c b := ⟨h.len, h.le, h.cap, fun hn => by
  obtain ⟨j, o, e, hj, hx⟩ := h.lies hn
  exact ⟨j, o, e, Nat.lt_of_lt_of_le hj hc.size, fun i hi => by rw [World.cell?_of_block (hc.block j hj (hm j o e))]; exact hx i hi⟩⟩
theorem Arg.nx {w w' : World} {A : Option Addr} {n c : Nat} {b : Str} (h : Arg w A n c b) (k : Nx w w') : Arg w' A n c b := h.chd (M := fun _ => False) (Chd.of_below k) (fun _ _ _ e => e)
theorem Arg.byt {w : World} {A : Option Addr} {n c : Nat} {b : Str} (h : Arg w A n c b) : Byt w w.heap.size A n c b := ⟨h.len, h.le, h.cap, h.lies⟩
theorem Arg.of_byt {w : World} {B n c : Nat} {A : Option Addr} {b : Str} (h : Byt w B A n c b) (hB : B ≤ w.heap.size) : Arg w A n c b := ⟨h.len, h.le, h.cap, fun hn => by
  obtain ⟨j, o, e, hj, hx⟩ := h.lies hn
  exact ⟨j, o, e, by omega, hx⟩⟩
theorem Arg.none_eq {w : World} {n c : Nat} {b : Str} (h : Arg w none n c b) : n = 0 ∧ b = [] := by
  have h0 : n = 0 := by
    rcases Nat.eq_zero_or_pos n with e | e
    · exact e
    · obtain ⟨_, _, e, _⟩ := h.lies e; cases e
  exact ⟨h0, List.eq_nil_of_length_eq_zero (by rw [h.len, h0])⟩

theorem run_eqIn_slice (w : World) (d : Nat) (A : Option Addr) (n c : Nat) : (Op.equalIn (d + 1) 22 (.slice A n c) (.slice none 0 0)).run Tryz.prog w = .ok A.isNone w := by
  cases A <;> simp [Op.equalIn, run_underlying Tryz.underlying22]
theorem run_eq_slice (w : World) (A : Option Addr) (n c : Nat) : (binOp .eql 22 (.slice A n c) (.slice none 0 0)).run Tryz.prog w = .ok (.bool A.isNone) w := by
  simp only [binOp]
  simp [show Op.equal 22 (.slice A n c) (.slice none 0 0) = Op.equalIn (9999 + 1) 22 (.slice A n c) (.slice none 0 0) from rfl, run_eqIn_slice w 9999 A n c]
set_option maxRecDepth 100000 in
theorem bclone_any (w : World) (A : Option Addr) (n c : Nat) (b : Str) (h : Arg w A n c b) (hn : n ≤ 100000000) (hnil : A = none → c = 0) :
    Calls Tryz.prog 57 #[.slice A n c] w fun e w' => ∃ A2 c2, e = .returned (.slice A2 n c2) ∧ Own w' w.heap.size A2 n c2 b ∧ Nx w w' := by
  cases A with
  | none =>
    obtain ⟨rfl, rfl⟩ := h.none_eq
    obtain rfl := hnil rfl
    have he := run_eq_slice w none 0 0
    clear h hn hnil
    go_enter Tryz.func57, Tryz.ntmps57
    go_wp2
    go_ret
    exact ⟨none, 0, rfl, ⟨rfl, .inl ⟨rfl, rfl⟩⟩, Nx.refl _⟩
  | some ad =>
    have b1 : Below w.heap.size w (w.alloc (.cells #[] 5)) := (Below.refl _ w).alloc (Nat.le_refl _) _
    have ho : Own (w.alloc (.cells #[] 5)) w.heap.size (some ⟨w.heap.size, 0, none⟩) 0 0 [] := Own.lit w #[] [] rfl (by simp [maxLen])
    have ha := (h.nx b1).byt
    have HO := Lib.hid ho
    have HA := Lib.hid ha
    have HB := Lib.hid b1
    have he := run_eq_slice w (some ad) n c
    clear h ho ha b1 hnil
    go_enter Tryz.func57, Tryz.ntmps57
    go_wp2_with (at_builtin; refine wpList_byte_append rfl _ _ rfl w.heap.size (some ⟨w.heap.size, 0, none⟩) 0 0 [] rfl HO.out _ (some ad) n c b rfl HA.out (by omega) (by simp) ?_; intro A2 c2 w2 ho2 hg2 _)
    go_ret
    refine ⟨A2, c2, ?_, ?_, ?_⟩
    · simp
    · simpa using ho2
    · have c1 : Chd (fun j => j = w.heap.size) w w2 := (Chd.of_below HB.out).trans (Chd.of_grown hg2)
      exact c1.below (Nat.le_refl _) (fun j hj e => by omega)
end Go.Proofs.YtiikjdjpodmpcaaGreat

/- Package tree: Sync and Read. -/
namespace Go.Proofs.YtiikjdjpodmpcaaGreat
open Go.RowKit Go.Maps
set_option linter.unusedVariables false

def syncFR (s1 : St) (er : Int) : Option Nat → St × Int
  | some f => (s1.set_ f { s1.at_ f with sf := (s1.at_ f).now }, 0)
  | none => (s1, er)
theorem sync_eq (s : St) (p : Str) {s1 : St} {r : Option Nat} {er : Int} (h : Found s p [] s1 r er) : s.sync p = syncFR s1 er r := by
  unfold St.sync
  rw [h.eq]
  cases r <;> rfl
theorem Found.lt {s s1 : St} {p : Str} {o : List Str} {r : Option Nat} {er : Int} {k : Nat} (hf : Found s p o s1 r er) (ok : Ok k s) (f : Nat) (e : r = some f) : f < s1.fil.length := by
  have ok1 : Ok k s1 := by have := ok.find p o; rwa [hf.eq] at this
  exact ok1.fs _ (look_mem (hf.yes f e).2)
theorem Found.ok {s s1 : St} {p : Str} {o : List Str} {r : Option Nat} {er : Int} {k : Nat} (hf : Found s p o s1 r er) (ok : Ok k s) : Ok k s1 := by have := ok.find p o; rwa [hf.eq] at this

set_option maxRecDepth 100000 in
theorem sync_any (w : World) (tb : Nat) (s : St) (g : Gh) {k : Nat} (hk : k ≤ 1000) (h : TreeAt w tb s g) (ok : Ok k s) (p : Str) (hp : p.length ≤ 10000) :
    Calls Tryz.prog 62 #[.pointer (some ⟨tb, 0, none⟩), .string (S p)] w fun e w' => e = .returned (.int .i64 (s.sync p).2) ∧ ∃ g', TreeAt w' tb (s.sync p).1 g' ∧ Chd (Mine g) w w' ∧ Gh.le w g g' := by
  obtain ⟨s1, r, er, hf⟩ := found s p []
  rw [sync_eq s p hf]
  have FA := Lib.hid (find_at (tb := tb) (g := g) ok p hp hf w h)
  have hfid := Lib.hid (fun f e => hf.lt ok f e)
  have HF := Lib.hid hf
  have H := Lib.hid h
  clear hf h hp ok
  generalize hR : syncFR s1 er r = R
  have HR := Lib.hid hR
  clear hR
  generalize S p = sp at *
  go_enter Tryz.func62, Tryz.ntmps62
  go_wp2_with fail
  refine FA.out.mono ?_
  rintro e w2 ⟨rfl, ht2, hc2⟩
  cases r with
  | none =>
    have hR : (s1, er) = R := HR.out
    subst hR
    have hne : (er == 0) = false := by have := HF.out.no rfl; simpa using this
    have T2 := Lib.hid ht2
    have CF' := Lib.hid (hc2.mono (M' := Mine g) (fun j _ e => by rw [e]; exact (mine_cv H.out).1))
    clear HR HF ht2 hc2 FA
    unfold optP
    go_wp2
    go_ret
    exact ⟨rfl, g, T2.out, CF'.out, Gh.le_refl _ _⟩
  | some f =>
    have hR : (s1.set_ f { s1.at_ f with sf := (s1.at_ f).now }, (0 : Int)) = R := HR.out
    subst hR
    obtain rfl : er = 0 := (HF.out.yes f rfl).1
    have hlt := hfid.out f rfl
    have hfa := ht2.fil f hlt
    obtain ⟨A, n, c, A2, n2, c2, hb, o1, o2, hal, t1, t2⟩ := hfa.ex
    have d0 : w2.cell? ⟨g.blk f, 0, none⟩ = some (.slice A n c) := by rw [hb.cell]; rfl
    have d1 : w2.cell? ⟨g.blk f, 1, none⟩ = some (.slice A2 n2 c2) := by rw [hb.cell]; rfl
    have d2 := hb.frozen 1
    have C3 := Chd.set w2 (g.blk f) 1 (.slice A n c)
    have nt : ∀ j, A = some ⟨j, 0, none⟩ → ¬ j = g.blk f := fun j e e2 => by
      have h1 := t1 j e
      have h2 := hfa.tg
      rw [e2] at h1
      omega
    have hne := blk_ne ht2 hlt
    have T3 : TreeAt (w2.setCell ⟨g.blk f, 1, none⟩ (.slice A n c)) tb (s1.set_ f { s1.at_ f with sf := (s1.at_ f).now }) g :=
      ht2.refile (f := f) (x := { s1.at_ f with sf := (s1.at_ f).now }) C3 (fun j e => by rw [e]; exact .inr (.inr (.inl hfa.tg))) hlt
        ⟨⟨A, n, c, A, n, c, hb.set 1 _, own_chd o1 C3 nt, own_chd o1 C3 nt, fun _ => Nat.le_refl _, t1, t1⟩, hfa.tg⟩ (ht2.top.chd C3 (fun e => hne e.symm)) rfl rfl rfl rfl
    have CF : Chd (Mine g) w (w2.setCell ⟨g.blk f, 1, none⟩ (.slice A n c)) := (hc2.mono (M' := Mine g) (fun j _ e => by rw [e]; exact (mine_cv H.out).1)).trans (C3.mono fun j _ e => by rw [e]; show g.tag _ ≠ 0; rw [hfa.tg]; omega)
    have T3' := Lib.hid T3
    have CF' := Lib.hid CF
    clear HR HF ht2 hc2 FA T3 CF C3 nt hfa hb o1 o2 hal t1 t2 hne hlt
    unfold optP fptr
    go_wp2
    go_ret
    exact ⟨rfl, g, T3'.out, CF'.out, Gh.le_refl _ _⟩

def readR (s1 : St) (er : Int) : Option Nat → St × Str × Int
  | some f => (s1, (s1.at_ f).now, 0)
  | none => (s1, [], er)
theorem read_eq (s : St) (p : Str) {s1 : St} {r : Option Nat} {er : Int} (h : Found s p [] s1 r er) : s.read p = readR s1 er r := by
  unfold St.read
  rw [h.eq]
  cases r <;> rfl
theorem Own.arg {w : World} {B n c : Nat} {A : Option Addr} {b : Str} (h : Own w B A n c b) : Arg w A n c b := Arg.of_byt h.byt (Nat.le_refl _)
theorem Own.nil_cap {w : World} {B n c : Nat} {b : Str} (h : Own w B none n c b) : c = 0 := by
  rcases h.2 with ⟨hv, _⟩ | ⟨g, cap, cur, hv, _⟩
  · simp only [Value.slice.injEq] at hv
    exact hv.2.2
  · cases hv

set_option maxRecDepth 100000 in
theorem read_any (w : World) (tb : Nat) (s : St) (g : Gh) {k : Nat} (hk : k ≤ 1000) (h : TreeAt w tb s g) (ok : Ok k s) (p : Str) (hp : p.length ≤ 10000) :
    Calls Tryz.prog 72 #[.pointer (some ⟨tb, 0, none⟩), .string (S p)] w fun e w' => ∃ A n c, e = .returned (.tuple #[.slice A n c, .int .i64 (s.read p).2.2]) ∧ Own w' w.heap.size A n c (s.read p).2.1 ∧ TreeAt w' tb (s.read p).1 g ∧ Chd (fun j => j = tb) w w' := by
  obtain ⟨s1, r, er, hf⟩ := found s p []
  rw [read_eq s p hf]
  have FA := Lib.hid (find_at (tb := tb) (g := g) ok p hp hf w h)
  have hfid := Lib.hid (fun f e => hf.lt ok f e)
  have OK1 := Lib.hid (hf.ok ok)
  have HF := Lib.hid hf
  have H := Lib.hid h
  clear hf h hp ok
  generalize hR : readR s1 er r = R
  have HR := Lib.hid hR
  clear hR
  generalize S p = sp at *
  go_enter Tryz.func72, Tryz.ntmps72
  go_wp2_with fail
  refine FA.out.mono ?_
  rintro e w2 ⟨rfl, ht2, hc2⟩
  cases r with
  | none =>
    have hR : (s1, ([] : Str), er) = R := HR.out
    subst hR
    have hne : (er != 0) = true := by have := HF.out.no rfl; simpa using this
    have T2 := Lib.hid ht2
    have C2 := Lib.hid hc2
    clear HR HF ht2 hc2 FA
    unfold optP
    go_wp2
    go_ret2
    exact ⟨none, 0, 0, rfl, ⟨rfl, .inl ⟨rfl, rfl⟩⟩, T2.out, C2.out⟩
  | some f =>
    have hR : (s1, (s1.at_ f).now, (0 : Int)) = R := HR.out
    subst hR
    obtain rfl : er = 0 := (HF.out.yes f rfl).1
    have hlt := hfid.out f rfl
    have hfa := ht2.fil f hlt
    obtain ⟨A, n, c, A2, n2, c2, hb, o1, o2, hal, t1, t2⟩ := hfa.ex
    have d0 : w2.cell? ⟨g.blk f, 0, none⟩ = some (.slice A n c) := by rw [hb.cell]; rfl
    have hn : n ≤ 100000000 := by have h1 := OK1.out.sz f; have h2 := o1.len; omega
    have BC := Lib.hid (bclone_any w2 A n c _ o1.arg hn (fun e => by subst e; exact o1.nil_cap))
    have T2 := Lib.hid ht2
    have C2 := Lib.hid hc2
    clear HR HF ht2 hc2 FA hfa hb o1 o2 hal t1 t2 hlt
    unfold optP fptr
    go_wp2_with fail
    refine BC.out.mono ?_
    rintro e w3 ⟨A3, c3, rfl, ho3, hb3⟩
    have HO := Lib.hid ho3
    have HB := Lib.hid hb3
    clear ho3 hb3 BC
    go_wp2
    go_ret2
    exact ⟨A3, n, c3, rfl, HO.out.more (C2.out.size), T2.out.nx HB.out, C2.out.trans (Nx.chd HB.out)⟩
end Go.Proofs.YtiikjdjpodmpcaaGreat

/- Package tree: bytes appended to those of a file. -/
namespace Go.Proofs.YtiikjdjpodmpcaaGreat
open Go.RowKit Go.Maps
set_option linter.unusedVariables false

theorem Own.at_ {w : World} {B n c j : Nat} {b : Str} (h : Own w B (some ⟨j, 0, none⟩) n c b) : B ≤ j ∧ j < w.heap.size := by
  rcases h.2 with ⟨hv, _⟩ | ⟨g, cap, cur, hv, hB, hg, _⟩
  · cases hv
  · simp only [Value.slice.injEq, Option.some.injEq, Addr.mk.injEq] at hv
    rw [hv.1.1]
    exact ⟨hB, (Array.getElem?_eq_some_iff.1 hg).1⟩
theorem Own.form {w : World} {B n c : Nat} {A : Option Addr} {b : Str} (h : Own w B A n c b) : (A = none ∧ n = 0 ∧ c = 0) ∨ ∃ j, A = some ⟨j, 0, none⟩ := by
  rcases h.2 with ⟨hv, h0⟩ | ⟨g, cap, cur, hv, _⟩
  · simp only [Value.slice.injEq] at hv
    exact .inl ⟨hv.1, h0, hv.2.2⟩
  · simp only [Value.slice.injEq] at hv
    exact .inr ⟨g, hv.1⟩
/-- Two slices of one block. -/
theorem Own.same {w w' : World} {B B' j n c n2 c2 N : Nat} {l l2 L : Str} (h : Own w B (some ⟨j, 0, none⟩) n c l) (h2 : Own w B' (some ⟨j, 0, none⟩) n2 c2 l2) (hn : n2 ≤ n) (hN : Own w' B (some ⟨j, 0, none⟩) N c L) (hle : n ≤ N) (hL : L.take n = l) : Own w' B' (some ⟨j, 0, none⟩) n2 c2 l2 := by
  rcases h.2 with ⟨hv, _⟩ | ⟨g, cap, cur, hv, hB, hg, h3, h4, h5, h6⟩
  · cases hv
  rcases h2.2 with ⟨hv2, _⟩ | ⟨g2, cap2, cur2, hv2, hB2, hg2, k3, k4, k5, k6⟩
  · cases hv2
  rcases hN.2 with ⟨hv3, _⟩ | ⟨g3, cap3, cur3, hv3, hB3, hg3, m3, m4, m5, m6⟩
  · cases hv3
  simp only [Value.slice.injEq, Option.some.injEq, Addr.mk.injEq, and_true, true_and] at hv hv2 hv3
  obtain ⟨e1, e2⟩ := hv
  obtain ⟨e3, e4⟩ := hv2
  obtain ⟨e5, e6⟩ := hv3
  subst e1 e2 e3 e4 e5 e6
  rw [hg] at hg2
  simp only [Option.some.injEq, Obj.cells.injEq, and_true] at hg2
  have hcur : cur = cur2 := hg2
  subst hcur
  have hcap : c2 = c := by simp only [Nat.mul_one] at h5 k5; omega
  refine ⟨h2.1, .inr ⟨j, c2, cur3, rfl, hB2, hg3, k3, k4, by rw [m5, hcap], ?_⟩⟩
  rw [← k6]
  have e7 : l2 = l.take n2 := bvs_inj (by rw [← k6]; unfold bvs; rw [List.map_take]; have : l.map (fun b : UInt8 => Value.int .u8 (b.toNat : Int)) = bvs l := rfl; rw [this, ← h6, List.take_take]; congr 1; omega)
  have e8 : cur3.toList.take (n2 * 1) = bvs (L.take n2) := by
    have : bvs (L.take n2) = (bvs L).take n2 := by unfold bvs; rw [List.map_take]
    rw [this, ← m6, List.take_take]
    congr 1
    omega
  rw [e8, k6, e7, ← hL, List.take_take]
  congr 2
  omega
theorem byte_append2 (w : World) (ty : TypeId) (A : Option Addr) (n c : Nat) (l : Str) (hown : Own w 0 A n c l) (A' : Option Addr) (m c' : Nat) (l' : Str) (hr : Arg w A' m c' l') (hb : n + m ≤ 1000000000) :
    ∃ A2 c2 w', (Builtin.append_ #[22, 22] ty #[.slice A n c, .slice A' m c']).run Tryz.prog w = .ok (.slice A2 (n + m) c2) w' ∧ Own w' 0 A2 (n + m) c2 (l ++ l') ∧
      ((A2 = A ∧ c2 = c ∧ w.grownBy w' (Value.slice A n c).ownBlock) ∨ (A2 = some ⟨w.heap.size, 0, none⟩ ∧ w.grownBy w' none)) := by
  obtain ⟨i, hi, hz, hs, hby⟩ := info_parts byte_info
  have hl' := hr.len
  obtain ⟨A2, c2, w', hrun, ho, hg, h5⟩ := byte_append w ty 0 A n c l hown _ A' m c' l' hr.byt (by omega) (Nat.zero_le _)
  rcases hown.form with ⟨rfl, rfl, rfl⟩ | ⟨j, rfl⟩
  · refine ⟨A2, c2, w', hrun, ho, ?_⟩
    rcases ho.form with ⟨rfl, _, rfl⟩ | ⟨j2, rfl⟩
    · exact .inl ⟨rfl, rfl, hg⟩
    · right
      rcases h5 with h5 | h5
      · cases h5
      · have : j2 = w.heap.size := by simpa [Value.ownBlock] using h5
        subst this
        exact ⟨rfl, hg⟩
  · have hjl := hown.at_.2
    rcases A' with _ | ad
    · obtain ⟨rfl, rfl⟩ := hr.none_eq
      have e := byte_append_nil w ty 0 _ n _ hown c'
      exact ⟨_, _, _, e, by simpa using hown, .inl ⟨rfl, rfl, World.grownBy.refl w _⟩⟩
    · obtain ⟨news, hnl, hnews, hone⟩ : ∃ news : List Value, news.length = m * i.size ∧ (∀ q u, news[q]? = some u → w.cell? (ad.add q) = some u) ∧ (∀ u ∈ news, u.oneCell' = true) := by
        rw [hs]
        rcases Nat.eq_zero_or_pos m with hm | hm
        · subst hm
          exact ⟨[], rfl, fun q u h => by simp at h, fun u h => by cases h⟩
        · obtain ⟨b, o, e, _, hc⟩ := hr.lies hm
          simp only [Option.some.injEq] at e
          subst e
          refine ⟨bvs l', by rw [bvs_length]; omega, fun q u hu => ?_, bvs_one l'⟩
          have hj : q < l'.length := by rw [← bvs_length]; exact (List.getElem?_eq_some_iff.1 hu).1
          rw [add_plain, hc q (by omega), ← bvs_get l' q hj, hu]
      rcases hown.2 with ⟨hv, _⟩ | ⟨g, cap, cur, hv, hB, hgc, h3, h4, h5', h6⟩
      · cases hv
      simp only [Value.slice.injEq, Option.some.injEq, Addr.mk.injEq, and_true, true_and] at hv
      obtain ⟨e1, e2⟩ := hv
      subst e1 e2
      by_cases hroom : n + m ≤ c
      · have e := run_append_room (P := Tryz.prog) w 22 ty 5 i Tryz.underlying22 hi j n c cur hgc ad m c' news hnl hnews hone hroom (by rw [hnl, hs, h5']; omega)
        rw [e] at hrun
        simp only [Result.ok.injEq, Value.slice.injEq] at hrun
        obtain ⟨⟨e1, _, e2⟩, e3⟩ := hrun
        subst e1 e2 e3
        exact ⟨_, _, _, e, ho, .inl ⟨rfl, rfl, hg⟩⟩
      · have e := run_append_grow (P := Tryz.prog) w 22 ty 5 i (.int .u8 0) Tryz.underlying22 hi hz ⟨j, 0, none⟩ n c (bvs l) (by rw [bvs_length, hs]; have := hown.len; omega)
          (World.ownsRow.cells (w := w) hown (g := j) rfl) ad m c' news hnl hnews (by omega) (by omega) (by rw [hby]; have := growslice_fits (need := n + m) (old := c) (bytes := 1) (by omega) (by omega); simpa using this)
        rw [e] at hrun
        simp only [Result.ok.injEq, Value.slice.injEq] at hrun
        obtain ⟨⟨e1, _, e2⟩, e3⟩ := hrun
        subst e1 e2 e3
        exact ⟨_, _, _, e, ho, .inr ⟨rfl, ⟨rfl, rfl, rfl, by simp, fun k hk _ => heap_alloc_old w.drew _ k hk⟩⟩⟩
theorem wpList_byte_append2 {w : World} {ops : Array Oper} {rest : List Oper} {o : Oper} {a : Act} {Q : Exit → Act → World → Prop} (hgd : o.guard = none) (s x : Operand)
    (ho : o.op = .call { callee := .builtin .append, args := #[s, x], argTypes := #[22, 22] })
    (A : Option Addr) (n c : Nat) (l : Str) (hs : a.eval s = .slice A n c) (hown : Own w 0 A n c l) (A' : Option Addr) (m c' : Nat) (l' : Str) (hx : a.eval x = .slice A' m c') (hr : Arg w A' m c' l') (hb : n + m ≤ 1000000000)
    (h : ∀ A2 c2 w', Own w' 0 A2 (n + m) c2 (l ++ l') → ((A2 = A ∧ c2 = c ∧ w.grownBy w' (Value.slice A n c).ownBlock) ∨ (A2 = some ⟨w.heap.size, 0, none⟩ ∧ w.grownBy w' none)) → wpList Tryz.prog ops Q rest (a.put o.dst (.slice A2 (n + m) c2)) w') :
    wpList Tryz.prog ops Q (o :: rest) a w := by
  refine wpList_plain hgd fun K hK => ?_
  obtain ⟨A2, c2, w', hr, h2, h3⟩ := byte_append2 w o.type A n c l hown A' m c' l' hr hb
  unfold Oper.wp execOp
  simp only [ho, resolve, invoke, builtin, Sem.run_bind, Sem.run_pure, Result.andThen_ok, List.map_toArray, List.map_cons, List.map_nil, hs, hx, hr]
  exact hK _ _ (h A2 c2 w' h2 h3)
end Go.Proofs.YtiikjdjpodmpcaaGreat

/- Package tree: Write and Append. -/
namespace Go.Proofs.YtiikjdjpodmpcaaGreat
open Go.RowKit Go.Maps
set_option linter.unusedVariables false

def writeR (s1 : St) (b : Str) (er : Int) : Option Nat → St × Int
  | some f => if (b.length : Int) > s1.left_ (s1.used - ((s1.at_ f).now.length : Int)) then (s1, 10) else (s1.putB f b, 0)
  | none => (s1, er)
theorem write_eq (s : St) (p b : Str) {s1 : St} {r : Option Nat} {er : Int} (h : Found s p [] s1 r er) : s.write p b = writeR s1 b er r := by
  unfold St.write
  rw [h.eq]
  cases r <;> rfl
def appendR (s1 : St) (b : Str) (er : Int) : Option Nat → St × Int
  | some f => if (b.length : Int) > s1.left_ s1.used then (s1, 10) else (s1.putB f ((s1.at_ f).now ++ b), 0)
  | none => (s1, er)
theorem append_eq (s : St) (p b : Str) {s1 : St} {r : Option Nat} {er : Int} (h : Found s p [] s1 r er) : s.append_ p b = appendR s1 b er r := by
  unfold St.append_
  rw [h.eq]
  cases r <;> rfl
theorem take_le {w : World} {g : Gh} {A : Option Addr} {f : Nat} (hA : ∀ j, A = some ⟨j, 0, none⟩ → g.tag j ≠ 0 ∨ w.heap.size ≤ j) : Gh.le w g (g.take A (11 + 2 * f)) := fun j hj => by
  have hj' : (if A = some ⟨j, 0, none⟩ then 11 + 2 * f else g.tag j) ≠ 0 := hj
  split at hj'
  · rename_i e; exact hA j e
  · exact .inl hj'
theorem fits_new {w0 w : World} {tb : Nat} {s : St} {g : Gh} {f : Nat} (h : TreeAt w0 tb s g) (h' : TreeAt w tb s g) (hf : f < s.fil.length) {A : Option Addr} {n c : Nat} {b : Str} (ho : Own w w0.heap.size A n c b) : Fits w g f A n c b := by
  refine ⟨ho.more (Nat.zero_le _), fun j e => ?_, fun A2 n2 c2 hc e => ?_⟩
  · subst e
    exact ⟨ho.at_.2, .inl (new_zero h ho.at_.1)⟩
  · obtain ⟨A1, n1, c1, A3, n3, c3, hb, o1, o2, hal, t1, t2⟩ := (h'.fil f hf).ex
    rw [hb.cell] at hc
    simp only [List.getElem?_toArray, List.getElem?_cons_succ, List.getElem?_cons_zero, Option.some.injEq, Value.slice.injEq] at hc
    obtain ⟨e1, e2, _⟩ := hc
    subst e1 e2
    rcases o2.form with ⟨e3, e4, _⟩ | ⟨j, e3⟩
    · omega
    · have k1 := t2 j e3
      rw [e] at e3
      subst e3
      have := new_zero h ho.at_.1
      omega

set_option maxRecDepth 100000 in
theorem write_any (w : World) (tb : Nat) (s : St) (g : Gh) {k : Nat} (hk : k ≤ 1000) (h : TreeAt w tb s g) (ok : Ok k s) (p : Str) (hp : p.length ≤ 10000)
    (A : Option Addr) (n c : Nat) (b : Str) (hb : Arg w A n c b) (hbl : b.length ≤ 10000) (hnil : A = none → c = 0) (hA : ∀ j o, A = some ⟨j, o, none⟩ → g.tag j = 0) :
    Calls Tryz.prog 105 #[.pointer (some ⟨tb, 0, none⟩), .string (S p), .slice A n c] w fun e w' => e = .returned (.int .i64 (s.write p b).2) ∧ ∃ g', TreeAt w' tb (s.write p b).1 g' ∧ Chd (Mine g) w w' ∧ Gh.le w g g' := by
  obtain ⟨s1, r, er, hf⟩ := found s p []
  rw [write_eq s p b hf]
  have FA := Lib.hid (find_at (tb := tb) (g := g) ok p hp hf w h)
  have hfid := Lib.hid (fun f e => hf.lt ok f e)
  have OK1 := Lib.hid (hf.ok ok)
  have HF := Lib.hid hf
  have H := Lib.hid h
  have HB := Lib.hid hb
  have HBL := Lib.hid hbl
  have hlen := hb.len
  have hn : n ≤ 10000 := by omega
  have HNIL := Lib.hid hnil
  have HA : Hid (∀ j o, A = some ⟨j, o, none⟩ → ¬ j = tb) := fun j o e e2 => by have := hA j o e; rw [e2, h.topT] at this; omega
  have HLEN := Lib.hid hlen
  clear hf h hp ok hb hbl hnil hA hlen
  generalize hR : writeR s1 b er r = R
  have HR := Lib.hid hR
  clear hR
  generalize S p = sp at *
  go_enter Tryz.func105, Tryz.ntmps105
  go_wp2_with fail
  refine FA.out.mono ?_
  rintro e w2 ⟨rfl, ht2, hc2⟩
  cases r with
  | none =>
    have hR : (s1, er) = R := HR.out
    subst hR
    have hne : (er != 0) = true := by have := HF.out.no rfl; simpa using this
    have T2 := Lib.hid ht2
    have CF' := Lib.hid (hc2.mono (M' := Mine g) (fun j _ e => by rw [e]; exact (mine_cv H.out).1))
    clear HR HF ht2 hc2 FA
    unfold optP
    go_wp2
    go_ret
    exact ⟨rfl, g, T2.out, CF'.out, Gh.le_refl _ _⟩
  | some f =>
    obtain rfl : er = 0 := (HF.out.yes f rfl).1
    have hlt := hfid.out f rfl
    have hfa := ht2.fil f hlt
    obtain ⟨A1, n1, c1, A2, n2, c2, hbk, o1, o2, hal, t1, t2⟩ := hfa.ex
    have hn1 : (s1.at_ f).now.length = n1 := o1.len
    have hz1 : n1 ≤ 10000000 := by have := OK1.out.sz f; omega
    have u0 : -10000000000000 ≤ s1.used := by have := OK1.out.u0; omega
    have u1 : s1.used ≤ 10000000000000 := by have := OK1.out.u1; omega
    have hR : (if (b.length : Int) > s1.left_ (s1.used - ((s1.at_ f).now.length : Int)) then (s1, 10) else (s1.putB f b, 0)) = R := HR.out
    rw [hn1, HLEN.out] at hR
    have hwr : Hid (IntKind.i64.wrap (s1.used - (n1 : Int)) = s1.used - (n1 : Int)) := by show IntKind.i64.wrap (s1.used - (n1 : Int)) = s1.used - (n1 : Int); rw [IntKind.wrap_i64]; omega
    have LF : Hid (∀ m, Calls Tryz.prog 54 #[.pointer (some ⟨tb, 0, none⟩), .int .i64 (s1.used - (n1 : Int))] (w2.drewN m) fun e w' => e = .returned (.int .i64 (s1.left_ (s1.used - (n1 : Int)))) ∧ w' = w2.drewN m) := fun m =>
      (left_any (w2.drewN m) tb s1 g ht2.top (s1.used - (n1 : Int)) OK1.out.r0 OK1.out.r1 (by omega) (by omega)).mono fun _ _ h => ⟨h.1, h.2.symm⟩
    have PF := Lib.hid (fun W (hW : TreeAt W tb s1 g) A3 n3 c3 b3 hfit hb3 => put_any W tb s1 g hk hW OK1.out f hlt A3 n3 c3 b3 hfit hb3)
    have d0 : w2.cell? ⟨g.blk f, 0, none⟩ = some (.slice A1 n1 c1) := by rw [hbk.cell]; rfl
    have cc1 := (top_of ht2.top).c1
    have T2 := Lib.hid ht2
    have C2 := Lib.hid hc2
    have HLT := Lib.hid hlt
    have HRR := Lib.hid hR
    clear HR HF ht2 hc2 FA hfa hbk o1 o2 hal t1 t2 hlt hn1 hR
    generalize hlv : s1.left_ (s1.used - (n1 : Int)) = lv at *
    have HLV := Lib.hid hlv
    clear hlv
    unfold optP fptr
    by_cases hbig : (n : Int) > lv
    · have hR : (s1, (10 : Int)) = R := by have := HRR.out; rwa [if_pos hbig] at this
      subst hR
      go_wp2_with fail
      go_quiet ((go_at_call 54; exact Calls.quiet_of_same (LF.out _)))
      clear LF PF
      go_wp2
      go_ret
      exact ⟨rfl, g, T2.out.nx (Nx.drewN (Nx.refl _) _), (C2.out.mono (M' := Mine g) (fun j _ e => by rw [e]; exact (mine_cv H.out).1)).drewN _, Gh.le_refl _ _⟩
    · have hR : (s1.putB f b, (0 : Int)) = R := by have := HRR.out; rwa [if_neg hbig] at this
      subst hR
      have BC : Hid (∀ m, Calls Tryz.prog 57 #[.slice A n c] (w2.drewN m) fun e w' => ∃ A2 c2, e = .returned (.slice A2 n c2) ∧ Own w' (w2.drewN m).heap.size A2 n c2 b ∧ Nx (w2.drewN m) w') := fun m =>
        bclone_any (w2.drewN m) A n c b ((HB.out.chd C2.out HA.out).nx (Nx.drewN (Nx.refl _) _)) (by omega) HNIL.out
      go_wp2_with fail
      go_quiet ((go_at_call 54; exact Calls.quiet_of_same (LF.out _)))
      clear LF cc1 d0
      go_wp2_with fail
      refine (BC.out _).mono ?_
      rintro e w3 ⟨A3, c3, rfl, ho3, hb3⟩
      have hb3' : Nx w2 w3 := Nx.trans (Nx.drewN (Nx.refl _) _) hb3
      have T3 := T2.out.nx hb3'
      have X := PF.out w3 T3 A3 n c3 b (fits_new T2.out T3 HLT.out ho3) (by have := HBL.out; omega)
      have XX := Lib.hid X
      have CF := Lib.hid ((C2.out.mono (M' := Mine g) (fun j _ e => by rw [e]; exact (mine_cv H.out).1)).trans (Nx.chd hb3'))
      have HO := Lib.hid ho3
      have TG := Lib.hid ((T3.fil f HLT.out).tg)
      clear BC PF ho3 hb3 hb3' T3 X
      go_wp2_with fail
      refine XX.out.mono ?_
      rintro e w4 ⟨rfl, ht4, hc4⟩
      have T4 := Lib.hid ht4
      have CG := Lib.hid (CF.out.trans (hc4.mono (M' := Mine g) (fun j _ e => by
        rcases e with e | e
        · rw [e]; exact (mine_cv H.out).1
        · rw [e]; show g.tag _ ≠ 0; rw [TG.out]; omega)))
      clear ht4 hc4 XX CF
      go_wp2
      go_ret
      exact ⟨rfl, _, T4.out, CG.out, take_le fun j e => .inr (by have h1 := HO.out; rw [e] at h1; exact Nat.le_trans C2.out.size h1.at_.1)⟩

theorem fits_app {w w3 : World} {tb : Nat} {s : St} {g : Gh} {f : Nat} (h : TreeAt w tb s g) (hf : f < s.fil.length) {A1 A : Option Addr} {n1 c1 m c : Nat} {b : Str} {A2 : Option Addr} {n2 c2 : Nat}
    (hb : BlkIs w (g.blk f) 101 #[.slice A1 n1 c1, .slice A2 n2 c2, .int .u64 ((s.at_ f).st : Int)]) (o1 : Own w 0 A1 n1 c1 (s.at_ f).now) (o2 : Own w 0 A2 n2 c2 (s.at_ f).sf) (hal : A2 = A1 → n2 ≤ n1) (t1 : Tg g.tag A1 (11 + 2 * f)) (t2 : Tg g.tag A2 (11 + 2 * f))
    (ho : Own w3 0 A (n1 + m) c ((s.at_ f).now ++ b)) (hc : (A = A1 ∧ c = c1 ∧ w.grownBy w3 (Value.slice A1 n1 c1).ownBlock) ∨ (A = some ⟨w.heap.size, 0, none⟩ ∧ w.grownBy w3 none)) :
    TreeAt w3 tb s g ∧ Fits w3 g f A (n1 + m) c ((s.at_ f).now ++ b) ∧ Chd (fun j => j ≠ tb ∧ g.tag j = 11 + 2 * f) w w3 ∧ (∀ j, A = some ⟨j, 0, none⟩ → g.tag j ≠ 0 ∨ w.heap.size ≤ j) := by
  have htb := h.topT
  have hset : s.fil = s.fil.set f (s.at_ f) := by
    unfold St.at_
    simp only [List.getD, List.getElem?_eq_getElem hf, Option.getD_some]
    exact (List.set_getElem_self hf).symm
  have hlen := o1.len
  have cell1 : ∀ {w' : World} {M : Nat → Prop}, Chd M w w' → ¬ M (g.blk f) → ∀ A' n' c', w'.cell? ⟨g.blk f, 1, none⟩ = some (.slice A' n' c') → A' = A2 ∧ n' = n2 := fun hcc hm A' n' c' hx => by
    rw [(hb.chd hcc hm).cell] at hx
    simp only [List.getElem?_toArray, List.getElem?_cons_succ, List.getElem?_cons_zero, Option.some.injEq, Value.slice.injEq] at hx
    exact ⟨hx.1.symm, hx.2.1.symm⟩
  rcases hc with ⟨rfl, rfl, hg⟩ | ⟨rfl, hg⟩
  · rcases o1.form with ⟨rfl, rfl, rfl⟩ | ⟨j, rfl⟩
    · have hC : Chd (fun j => j ≠ tb ∧ g.tag j = 11 + 2 * f) w w3 := Chd.of_grown_none hg
      have T3 := h.chd (M := fun _ => False) (Chd.of_grown_none hg) (fun _ e => e.elim)
      refine ⟨T3, ⟨ho, fun j e => (by cases e), fun A' n' c' hx e => ?_⟩, hC, fun j e => (by cases e)⟩
      obtain ⟨e1, e2⟩ := cell1 (M := fun _ => False) (Chd.of_grown_none hg) (fun e => e) A' n' c' hx
      have := hal (e1.symm.trans e)
      omega
    · have tj : g.tag j = 11 + 2 * f := t1 j rfl
      have C := Chd.of_grown (b := j) hg
      have hjb : ¬ g.blk f = j := fun e => by have := (h.fil f hf).tg; rw [e, tj] at this; omega
      have hC : Chd (fun j => j ≠ tb ∧ g.tag j = 11 + 2 * f) w w3 := C.mono fun i _ e => by subst e; exact ⟨fun e => by rw [e, htb] at tj; omega, tj⟩
      have own1 : Own w3 0 (some ⟨j, 0, none⟩) n1 c (s.at_ f).now := o1.same o1 (Nat.le_refl _) ho (by omega) (by rw [List.take_append_of_le_length (by omega), List.take_of_length_le (by omega)])
      have own2 : Own w3 0 A2 n2 c2 (s.at_ f).sf := by
        by_cases e : A2 = some ⟨j, 0, none⟩
        · subst e
          exact o1.same o2 (hal rfl) ho (by omega) (by rw [List.take_append_of_le_length (by omega), List.take_of_length_le (by omega)])
        · exact own_chd o2 C (fun g' hg' e2 => e (by rw [hg', e2]))
      have T3 : TreeAt w3 tb s g := h.refile (f := f) (x := s.at_ f) C (fun i e => by subst e; exact .inr (.inr (.inr tj))) hf ⟨⟨_, n1, c, A2, n2, c2, hb.chd C hjb, own1, own2, hal, t1, t2⟩, (h.fil f hf).tg⟩
        (h.top.chd C (fun e => by rw [← e, htb] at tj; omega)) rfl rfl rfl hset
      refine ⟨T3, ⟨ho, fun i e => ?_, fun A' n' c' hx e => ?_⟩, hC, fun i e => ?_⟩
      · simp only [Option.some.injEq, Addr.mk.injEq, and_true] at e
        subst e
        exact ⟨ho.at_.2, .inr tj⟩
      · obtain ⟨e1, e2⟩ := cell1 C hjb A' n' c' hx
        have := hal (e1.symm.trans e)
        omega
      · simp only [Option.some.injEq, Addr.mk.injEq, and_true] at e
        subst e
        left; omega
  · have hC : Chd (fun j => j ≠ tb ∧ g.tag j = 11 + 2 * f) w w3 := Chd.of_grown_none hg
    have T3 := h.chd (M := fun _ => False) (Chd.of_grown_none hg) (fun _ e => e.elim)
    refine ⟨T3, ⟨ho, fun i e => ?_, fun A' n' c' hx e => ?_⟩, hC, fun i e => ?_⟩
    · simp only [Option.some.injEq, Addr.mk.injEq, and_true] at e
      subst e
      exact ⟨ho.at_.2, .inl (new_zero h (Nat.le_refl _))⟩
    · obtain ⟨e1, e2⟩ := cell1 (M := fun _ => False) (Chd.of_grown_none hg) (fun e => e) A' n' c' hx
      have h1 := t2 w.heap.size (by rw [← e1, e])
      have h2 := new_zero h (Nat.le_refl w.heap.size)
      omega
    · simp only [Option.some.injEq, Addr.mk.injEq, and_true] at e
      subst e
      exact .inr (Nat.le_refl _)

set_option maxRecDepth 100000 in
theorem append_any (w : World) (tb : Nat) (s : St) (g : Gh) {k : Nat} (hk : k ≤ 1000) (h : TreeAt w tb s g) (ok : Ok k s) (p : Str) (hp : p.length ≤ 10000)
    (A : Option Addr) (n c : Nat) (b : Str) (hb : Arg w A n c b) (hbl : b.length ≤ 10000) (hA : ∀ j o, A = some ⟨j, o, none⟩ → g.tag j = 0) :
    Calls Tryz.prog 50 #[.pointer (some ⟨tb, 0, none⟩), .string (S p), .slice A n c] w fun e w' => e = .returned (.int .i64 (s.append_ p b).2) ∧ ∃ g', TreeAt w' tb (s.append_ p b).1 g' ∧ Chd (Mine g) w w' ∧ Gh.le w g g' := by
  obtain ⟨s1, r, er, hf⟩ := found s p []
  rw [append_eq s p b hf]
  have FA := Lib.hid (find_at (tb := tb) (g := g) ok p hp hf w h)
  have hfid := Lib.hid (fun f e => hf.lt ok f e)
  have OK1 := Lib.hid (hf.ok ok)
  have HF := Lib.hid hf
  have H := Lib.hid h
  have HB := Lib.hid hb
  have HBL := Lib.hid hbl
  have hlen := hb.len
  have hn : n ≤ 10000 := by omega
  have HA : Hid (∀ j o, A = some ⟨j, o, none⟩ → ¬ j = tb) := fun j o e e2 => by have := hA j o e; rw [e2, h.topT] at this; omega
  have HLEN := Lib.hid hlen
  clear hf h hp ok hb hbl hA hlen
  generalize hR : appendR s1 b er r = R
  have HR := Lib.hid hR
  clear hR
  generalize S p = sp at *
  go_enter Tryz.func50, Tryz.ntmps50
  go_wp2_with fail
  refine FA.out.mono ?_
  rintro e w2 ⟨rfl, ht2, hc2⟩
  cases r with
  | none =>
    have hR : (s1, er) = R := HR.out
    subst hR
    have hne : (er != 0) = true := by have := HF.out.no rfl; simpa using this
    have T2 := Lib.hid ht2
    have CF' := Lib.hid (hc2.mono (M' := Mine g) (fun j _ e => by rw [e]; exact (mine_cv H.out).1))
    clear HR HF ht2 hc2 FA
    unfold optP
    go_wp2
    go_ret
    exact ⟨rfl, g, T2.out, CF'.out, Gh.le_refl _ _⟩
  | some f =>
    obtain rfl : er = 0 := (HF.out.yes f rfl).1
    have hlt := hfid.out f rfl
    have hfa := ht2.fil f hlt
    obtain ⟨A1, n1, c1, A2, n2, c2, hbk, o1, o2, hal, t1, t2⟩ := hfa.ex
    have hn1 : (s1.at_ f).now.length = n1 := o1.len
    have hz1 : n1 ≤ 10000000 := by have := OK1.out.sz f; omega
    have u0 : -10000000000000 ≤ s1.used := by have := OK1.out.u0; omega
    have u1 : s1.used ≤ 10000000000000 := by have := OK1.out.u1; omega
    have hR : (if (b.length : Int) > s1.left_ s1.used then (s1, 10) else (s1.putB f ((s1.at_ f).now ++ b), 0)) = R := HR.out
    rw [HLEN.out] at hR
    have LF := Lib.hid (left_any w2 tb s1 g ht2.top s1.used OK1.out.r0 OK1.out.r1 (by omega) (by omega))
    have d0 : w2.cell? ⟨g.blk f, 0, none⟩ = some (.slice A1 n1 c1) := by rw [hbk.cell]; rfl
    have cc1 := (top_of ht2.top).c1
    have HRR := Lib.hid hR
    clear HR hR
    generalize hlv : s1.left_ s1.used = lv at *
    clear hlv
    unfold optP fptr
    by_cases hbig : (n : Int) > lv
    · have hR : (s1, (10 : Int)) = R := by have := HRR.out; rwa [if_pos hbig] at this
      subst hR
      have T2 := Lib.hid ht2
      have C2 := Lib.hid hc2
      clear HF ht2 hc2 FA hfa hbk o1 o2 hal t1 t2 hlt hn1 HRR
      go_wp2_with fail
      refine LF.out.mono ?_
      rintro e w' ⟨rfl, rfl⟩
      go_wp2
      go_ret
      exact ⟨rfl, g, T2.out, C2.out.mono (M' := Mine g) (fun j _ e => by rw [e]; exact (mine_cv H.out).1), Gh.le_refl _ _⟩
    · have hR : (s1.putB f ((s1.at_ f).now ++ b), (0 : Int)) = R := by have := HRR.out; rwa [if_neg hbig] at this
      subst hR
      have O1 := Lib.hid o1
      have AB := Lib.hid (HB.out.chd hc2 HA.out)
      have hnb : n1 + n ≤ 1000000000 := by omega
      have FT : Hid (∀ A3 c3 w3, Own w3 0 A3 (n1 + n) c3 ((s1.at_ f).now ++ b) → ((A3 = A1 ∧ c3 = c1 ∧ w2.grownBy w3 (Value.slice A1 n1 c1).ownBlock) ∨ (A3 = some ⟨w2.heap.size, 0, none⟩ ∧ w2.grownBy w3 none)) →
          TreeAt w3 tb s1 g ∧ Fits w3 g f A3 (n1 + n) c3 ((s1.at_ f).now ++ b) ∧ Chd (fun j => j ≠ tb ∧ g.tag j = 11 + 2 * f) w2 w3 ∧ (∀ j, A3 = some ⟨j, 0, none⟩ → g.tag j ≠ 0 ∨ w2.heap.size ≤ j)) := fun A3 c3 w3 ho hc =>
        fits_app ht2 hlt hbk o1 o2 hal t1 t2 ho hc
      have PF := Lib.hid (fun W (hW : TreeAt W tb s1 g) A3 n3 c3 b3 hfit hb3 => put_any W tb s1 g hk hW OK1.out f hlt A3 n3 c3 b3 hfit hb3)
      have TG := Lib.hid hfa.tg
      have C2 := Lib.hid hc2
      have HN1 := Lib.hid hn1
      clear HF ht2 hc2 FA hfa hbk o1 o2 hal t1 t2 hlt hn1 HRR
      go_wp2_with fail
      refine LF.out.mono ?_
      rintro e w' ⟨rfl, rfl⟩
      go_wp2_with (at_builtin; refine wpList_byte_append2 rfl _ _ rfl A1 n1 c1 (s1.at_ f).now rfl O1.out A n c b rfl AB.out hnb ?_; intro A3 c3 w3 ho3 hc3)
      obtain ⟨T3, F3, C3, hle⟩ := FT.out A3 c3 w3 ho3 hc3
      have X := Lib.hid (PF.out w3 T3 A3 (n1 + n) c3 _ F3 (by rw [List.length_append, HN1.out, HLEN.out]; omega))
      have CF := Lib.hid ((C2.out.mono (M' := Mine g) (fun j _ e => by rw [e]; exact (mine_cv H.out).1)).trans (C3.mono (M' := Mine g) fun j _ e => by show g.tag j ≠ 0; omega))
      have HLE := Lib.hid hle
      clear T3 F3 C3 hle ho3 hc3 FT PF AB O1
      refine X.out.mono ?_
      rintro e w4 ⟨rfl, ht4, hc4⟩
      have T4 := Lib.hid ht4
      have CG := Lib.hid (CF.out.trans (hc4.mono (M' := Mine g) (fun j _ e => by
        rcases e with e | e
        · rw [e]; exact (mine_cv H.out).1
        · rw [e]; show g.tag _ ≠ 0; rw [TG.out]; omega)))
      clear ht4 hc4 X CF
      go_wp2
      go_ret
      exact ⟨rfl, _, T4.out, CG.out, take_le fun j e => (HLE.out j e).imp id fun e => by have := C2.out.size; omega⟩
end Go.Proofs.YtiikjdjpodmpcaaGreat

/- Package tree: the paths of a map, ascending. -/
namespace Go.Proofs.YtiikjdjpodmpcaaGreat
open Go.RowKit Go.Maps
set_option linter.unusedVariables false

theorem before_le : ∀ (a b : Str), bytesBefore a b = true → a ≤ b
  | [], _, _ => List.nil_le _
  | _ :: _, [], h => by simp [bytesBefore] at h
  | x :: r, y :: s, h => by
    simp only [bytesBefore, Bool.or_eq_true, decide_eq_true_eq, Bool.and_eq_true, beq_iff_eq] at h
    rw [List.cons_le_cons_iff]
    rcases h with h | ⟨rfl, h⟩
    · exact .inl h
    · exact .inr ⟨rfl, before_le r s h⟩
def Rising (l : Dir) : Prop := l.Pairwise fun a b => bytesBefore a.1 b.1 = true
theorem MapAt.rising {w : World} {b : Nat} {blk : Nat → Nat} {l : Dir} (h : MapAt w b blk l) : Rising l := by
  obtain ⟨es, e, hp, _⟩ := World.ownsMap.canon h strK
  unfold dat at e
  have e := DataW.map.inj e
  subst e
  rw [List.pairwise_map] at hp
  exact hp
theorem rising_sort {l : Dir} (h : Rising l) : (l.map (·.1)).mergeSort (fun x y => decide (x ≤ y)) = l.map (·.1) := by
  refine List.mergeSort_of_pairwise ?_
  rw [List.pairwise_map]
  exact h.imp fun {a b} hab => by simpa using before_le a.1 b.1 hab
theorem rising_look {l : Dir} (h : Rising l) {e : Str × Nat} (he : e ∈ l) : look l e.1 = some e.2 := by
  unfold look
  induction l with
  | nil => cases he
  | cons x l ih =>
    have hx := List.pairwise_cons.1 h
    rcases List.mem_cons.1 he with rfl | he'
    · simp
    · have hne : (x.1 == e.1) = false := by
        have := hx.1 e he'
        rw [beq_eq_false_iff_ne]
        intro e2
        rw [e2, WideAt.bytes_irrefl] at this
        cases this
      rw [List.find?_cons, hne]
      exact ih hx.2 he'
/-- A new slice that holds these strings. -/
def StrRow (w : World) (B : Nat) (A : Option Addr) (n c : Nat) (ps : List Str) : Prop := w.ownsRow B 9 1 (.slice A n c) n (strV ps)
theorem strV_enc (ps : List Str) : ps.map encStr = strV ps := rfl

set_option maxRecDepth 100000 in
theorem sorted_any (w : World) (b : Nat) (blk : Nat → Nat) (l : Dir) (h : MapAt w b blk l) (hl : l.length ≤ 100000) :
    Calls Tryz.prog 52 #[.map (some b)] w fun e w' => ∃ A c, e = .returned (.slice A l.length c) ∧ StrRow w' w.heap.size A l.length c (l.map (·.1)) ∧ Nx w w' := by
  have hr := rising_sort h.rising
  have hsz : Maps.size (dat blk l) = l.length := by show (l.map (ent blk)).length = _; simp
  have hks : strKeys (dat blk l) = l.map (·.1) := by show (l.map (ent blk)).map _ = _; rw [List.map_map]; rfl
  have K := Lib.hid ((callsIn_wide (n := 5)).1 (Tryz.maps_Keys_96 (some b) w))
  have S := Lib.hid ((callsIn_wide (n := 5)).1 (Tryz.slices_Sorted_keys_95_96 b l.length (dat blk l) ptrE w h (by rw [hsz]; unfold maxLen; omega) (by rw [hsz]; omega)))
  have HR := Lib.hid hr
  have HK := Lib.hid hks
  clear h hr hsz hks
  go_enter Tryz.func52, Tryz.ntmps52
  go_wp2_with fail
  refine K.out.mono ?_
  rintro e w1 ⟨rfl, rfl⟩
  go_wp2_with fail
  refine S.out.mono ?_
  rintro e w2 ⟨v, ss, rfl, hperm, hrow, _, hb⟩
  have hss : ss.mergeSort (fun x y => decide (x ≤ y)) = l.map (·.1) := by
    rw [mergeSort_of_perm (hperm.trans (by rw [HK.out])), HR.out]
  have hlen : ss.length = l.length := by have := hperm.length_eq; rw [HK.out, List.length_map] at this; exact this
  rw [hss, hlen, strV_enc] at hrow
  obtain ⟨A, c, rfl⟩ : ∃ A c, v = .slice A l.length c := by
    rcases hrow.2 with ⟨hv, h0⟩ | ⟨g, cap, cur, hv, _⟩
    · exact ⟨none, 0, by rw [hv, h0]⟩
    · exact ⟨_, _, hv⟩
  have hb2 : Nx w w2 := ((Below.refl _ w).alloc (Nat.le_refl _) _).trans (hb.mono (by simp))
  have hrow2 : StrRow w2 w.heap.size A l.length c (l.map (·.1)) := by
    refine ⟨hrow.1, hrow.2.imp id ?_⟩
    rintro ⟨g, cap, cur, e, hB, r⟩
    exact ⟨g, cap, cur, e, Nat.le_trans (by simp) hB, r⟩
  have HR2 := Lib.hid hrow2
  have HB2 := Lib.hid hb2
  clear hss hlen hperm hrow hb hrow2 hb2 K S
  go_wp2
  go_ret
  exact ⟨A, c, rfl, HR2.out, HB2.out⟩
end Go.Proofs.YtiikjdjpodmpcaaGreat

/- Package tree: what a crash leaves of a file. -/
namespace Go.Proofs.YtiikjdjpodmpcaaGreat
open Go.RowKit Go.Maps
set_option linter.unusedVariables false

def ints (b : Str) : List Int := b.map fun x => (x.toNat : Int)
theorem ints_len (b : Str) : (ints b).length = b.length := by simp [ints]
theorem ints_get (b : Str) (i : Nat) (hi : i < b.length) : (ints b).getD i 0 = nth b i := by
  rw [nth_eq b i hi]
  simp [ints, List.getD, hi]
theorem ints_of (b : Str) : Lib.bytesOf (ints b) = b := by
  unfold Lib.bytesOf ints
  rw [List.map_map]
  conv => rhs; rw [← List.map_id b]
  refine List.map_congr_left fun x _ => ?_
  simp
theorem Arg.bytesIn {w : World} {A : Option Addr} {n c : Nat} {b : Str} (h : Arg w A n c b) : Lib.BytesIn w A n (ints b) := fun hn => by
  obtain ⟨j, o, e, _, hx⟩ := h.lies hn
  exact ⟨j, o, e, fun i hi => by rw [hx i hi, ints_get b i (by rw [h.len]; exact hi)]⟩
theorem hasPrefix_at (w : World) {A A2 : Option Addr} {n c n2 c2 : Nat} {b b2 : Str} (h : Arg w A n c b) (h2 : Arg w A2 n2 c2 b2) :
    Calls Tryz.prog 137 #[.slice A n c, .slice A2 n2 c2] w fun e w' => e = .returned (.bool (b2.isPrefixOf b)) ∧ w' = w := by
  have := Tryz.bytes_HasPrefix_all A A2 n c n2 c2 (ints b) (ints b2) w (by rw [ints_len, h.len]) (by rw [ints_len, h2.len]) h.le h.bytesIn h2.bytesIn
  rw [ints_of, ints_of] at this
  exact this
theorem equal_at (w : World) {A A2 : Option Addr} {n c n2 c2 : Nat} {b b2 : Str} (h : Arg w A n c b) (h2 : Arg w A2 n2 c2 b2) :
    Calls Tryz.prog 112 #[.slice A n c, .slice A2 n2 c2] w fun e w' => e = .returned (.bool (b == b2)) ∧ w' = w := by
  have := Tryz.bytes_Equal_all A A2 n c n2 c2 (ints b) (ints b2) w (by rw [ints_len, h.len]) (by rw [ints_len, h2.len]) h.bytesIn h2.bytesIn
  rw [ints_of, ints_of] at this
  exact this
theorem Own.cut {w : World} {B n c : Nat} {A : Option Addr} {b : Str} (h : Own w B A n c b) (m : Nat) (hm : m ≤ n) : Own w B A m c (b.take m) := by
  have hl := h.len
  rcases h.2 with ⟨hv, h0⟩ | ⟨g, cap, cur, hv, hB, hg, h3, h4, h5, h6⟩
  · simp only [Value.slice.injEq] at hv
    obtain ⟨e1, e2, e3⟩ := hv
    have : m = 0 := by omega
    subst this e1 e3
    exact ⟨by simp [bvs], .inl ⟨rfl, rfl⟩⟩
  · simp only [Value.slice.injEq] at hv
    obtain ⟨e1, _, e2⟩ := hv
    subst e1 e2
    refine ⟨by rw [bvs_length, List.length_take]; omega, .inr ⟨g, c, cur, rfl, hB, hg, by omega, h4, h5, ?_⟩⟩
    have : bvs (b.take m) = (bvs b).take m := by unfold bvs; rw [List.map_take]
    rw [this, ← h6, List.take_take]
    congr 1
    omega

set_option maxRecDepth 100000 in
theorem remaining_any (w : World) (tag : Nat → Nat) (fb i : Nat) (x : Fil) (h : FileAt w tag fb i x) (hz : x.now.length ≤ 100000000) (part : Int) (hp : part ≤ 9223372036854775807) :
    Calls Tryz.prog 111 #[fptr fb, .int .i64 part] w fun e w' => ∃ A n c, e = .returned (.slice A n c) ∧ Own w 0 A n c (x.rem part) ∧ Tg tag A (11 + 2 * i) ∧ ∃ m, w' = w.drewN m := by
  obtain ⟨A, n, c, A2, n2, c2, hb, o1, o2, hal, t1, t2⟩ := h.ex
  have d0 : w.cell? ⟨fb, 0, none⟩ = some (.slice A n c) := by rw [hb.cell]; rfl
  have d1 : w.cell? ⟨fb, 1, none⟩ = some (.slice A2 n2 c2) := by rw [hb.cell]; rfl
  have hn : x.now.length = n := o1.len
  have hn2 : x.sf.length = n2 := o2.len
  have PX : Hid (∀ m, Calls Tryz.prog 137 #[.slice A n c, .slice A2 n2 c2] (w.drewN m) fun e w' => e = .returned (.bool (x.sf.isPrefixOf x.now)) ∧ w' = w.drewN m) := fun m =>
    hasPrefix_at (w.drewN m) (o1.arg.nx (Nx.drewN (Nx.refl _) _)) (o2.arg.nx (Nx.drewN (Nx.refl _) _))
  unfold fptr
  cases hpre : x.sf.isPrefixOf x.now with
  | false =>
    have hrem : x.rem part = x.sf := by unfold Fil.rem; rw [hpre]; rfl
    rw [hpre] at PX
    rw [hrem]
    have R := Lib.hid (And.intro o2 t2)
    clear h hb o1 o2 hal t1 t2 hn hn2 hpre hrem
    go_enter Tryz.func111, Tryz.ntmps111
    go_wp2_with fail
    go_quiet ((go_at_call 137; exact Calls.quiet_of_same (PX.out _)))
    go_wp2
    go_ret
    exact ⟨A2, n2, c2, rfl, R.out.1, R.out.2, nq, rfl⟩
  | true =>
    have hle : n2 ≤ n := by
      have := (List.isPrefixOf_iff_prefix.1 hpre).length_le
      omega
    obtain ⟨u, hu, hur⟩ : ∃ u : Nat, upTo part ((n : Int) - (n2 : Int)) = (u : Int) ∧ u ≤ n - n2 := by
      unfold upTo
      have h1 : 0 ≤ max 0 part % ((n : Int) - (n2 : Int) + 1) := Int.emod_nonneg _ (by omega)
      have h2 : max 0 part % ((n : Int) - (n2 : Int) + 1) < (n : Int) - (n2 : Int) + 1 := Int.emod_lt_of_pos _ (by omega)
      exact ⟨(max 0 part % ((n : Int) - (n2 : Int) + 1)).toNat, by omega, by omega⟩
    have hrem : x.rem part = x.now.take (n2 + u) := by
      unfold Fil.rem
      rw [if_pos hpre, hn, hn2, hu]
      simp
    have UX : Hid (∀ m, Calls Tryz.prog 66 #[.int .i64 part, .int .i64 ((n : Int) - (n2 : Int))] (w.drewN m) fun e w' => e = .returned (.int .i64 (u : Int)) ∧ w' = w.drewN m) := fun m => by
      have := upTo_any (w.drewN m) part ((n : Int) - (n2 : Int)) (by omega) (by omega) hp
      rw [hu] at this
      exact this.mono fun _ _ h => ⟨h.1, h.2.symm⟩
    rw [hpre] at PX
    rw [hrem]
    have hcm := o1.byt.cap
    have i1 : ((n2 : Int) + (u : Int)) ≤ (c : Int) := by have := o1.byt.le; omega
    have i2 : n2 ≤ 100000000 := by omega
    have i3 : u ≤ 100000000 := by omega
    have i4 : n ≤ 100000000 := by omega
    have R := Lib.hid (And.intro (o1.cut (n2 + u) (by omega)) t1)
    have HW : Hid (IntKind.i64.wrap ((n : Int) - (n2 : Int)) = (n : Int) - (n2 : Int)) := by show IntKind.i64.wrap ((n : Int) - (n2 : Int)) = (n : Int) - (n2 : Int); rw [IntKind.wrap_i64]; omega
    have i5 : (c : Int) ≤ 9223372036854775807 := by unfold maxLen at hcm; omega
    clear h hb o1 o2 hal t1 t2 hn hn2 hpre hrem hu hcm hz
    go_enter Tryz.func111, Tryz.ntmps111
    go_wp2_with fail
    go_quiet ((go_at_call 137; exact Calls.quiet_of_same (PX.out _)))
    go_wp2_with fail
    obtain ⟨w1, hw1⟩ : ∃ w1, w.drewN nq = w1 := ⟨_, rfl⟩
    have UX1 : Hid (∀ m, Calls Tryz.prog 66 #[.int .i64 part, .int .i64 ((n : Int) - (n2 : Int))] (w1.drewN m) fun e w' => e = .returned (.int .i64 (u : Int)) ∧ w' = w1.drewN m) := by
      subst hw1
      intro m
      rw [World.drewN_drewN]
      exact UX.out _
    have d0' : w1.cell? ⟨fb, 0, none⟩ = some (.slice A n c) := by rw [← hw1]; exact d0
    have d1' : w1.cell? ⟨fb, 1, none⟩ = some (.slice A2 n2 c2) := by rw [← hw1]; exact d1
    rw [hw1]
    have HW1 := Lib.hid hw1
    clear hw1 UX PX d0 d1
    go_quiet ((go_at_call 66; exact Calls.quiet_of_same (UX1.out _)))
    go_wp2
    go_ret
    refine ⟨A, n2 + u, c, ?_, R.out.1, R.out.2, ?_⟩
    · rfl
    · rename_i nq2
      exact ⟨_, by rw [← HW1.out, World.drewN_drewN]⟩
end Go.Proofs.YtiikjdjpodmpcaaGreat

/- Package tree: one file of a crash. -/
namespace Go.Proofs.YtiikjdjpodmpcaaGreat
open Go.RowKit Go.Maps
set_option linter.unusedVariables false

/-- A slice of numbers that comes as an argument. -/
structure Nums (w : World) (A : Option Addr) (n c : Nat) (ps : List Int) : Prop where
  len : ps.length = n
  le : n ≤ 100000
  ok : ∀ i, ps.getD i 0 ≤ 9223372036854775807
  lies : 0 < n → ∃ j o, A = some ⟨j, o, none⟩ ∧ j < w.heap.size ∧ ∀ i, i < n → w.cell? ⟨j, o + i, none⟩ = some (.int .i64 (ps.getD i 0))
theorem Nums.chd {w w' : World} {M : Nat → Prop} {A : Option Addr} {n c : Nat} {b : List Int} (h : Nums w A n c b) (hc : Chd M w w') (hm : ∀ j o, A = some ⟨j, o, none⟩ → j < w.heap.size → ¬ M j) : Nums w' A n c b := ⟨h.len, h.le, h.ok, fun hn => by
  obtain ⟨j, o, e, hj, hx⟩ := h.lies hn
  exact ⟨j, o, e, Nat.lt_of_lt_of_le hj hc.size, fun i hi => by rw [World.cell?_of_block (hc.block j hj (hm j o e hj))]; exact hx i hi⟩⟩
theorem at_any (w : World) (A : Option Addr) (n c : Nat) (ps : List Int) (h : Nums w A n c ps) (i : Nat) (hi : i ≤ 1000000) :
    Calls Tryz.prog 69 #[.slice A n c, .int .i64 (i : Int)] w fun e w' => e = .returned (.int .i64 (partAt ps i)) ∧ w = w' := by
  have hle := h.le
  by_cases hlt : i < n
  · obtain ⟨j, o, rfl, hj, hx⟩ := h.lies (by omega)
    have hc := hx i hlt
    have e1 : partAt ps i = ps.getD i 0 := rfl
    rw [e1]
    clear h hx e1
    generalize ps.getD i 0 = v at *
    go_enter Tryz.func69, Tryz.ntmps69
    go_wp2
    go_ret
    exact ⟨rfl, rfl⟩
  · have e1 : partAt ps i = 0 := by unfold partAt; simp only [List.getD]; rw [List.getElem?_eq_none (by rw [h.len]; omega)]; rfl
    rw [e1]
    clear h e1
    go_enter Tryz.func69, Tryz.ntmps69
    go_wp2
    go_ret
    exact ⟨rfl, rfl⟩

theorem blk_inj {w : World} {tb : Nat} {s : St} {g : Gh} (h : TreeAt w tb s g) {i j : Nat} (hi : i < s.fil.length) (hj : j < s.fil.length) (e : g.blk i = g.blk j) : i = j := by
  have h1 := (h.fil i hi).tg
  have h2 := (h.fil j hj).tg
  rw [e] at h1
  omega
theorem file_size : (Tryz.prog.info? 101).map (·.size) = some 3 := by kernel_rfl
theorem run_eqIn_ptr_same (w : World) (d : Nat) (a : Addr) : (Op.equalIn (d + 1) 102 (.pointer (some a)) (.pointer (some a))).run Tryz.prog w = .ok true w := by
  obtain ⟨j, hj, hs⟩ := Option.map_eq_some_iff.1 file_size
  simp [Op.equalIn, run_underlying Tryz.underlying102, sizeOf, typeInfo, run_sameAddr_same, hj]
theorem run_eqIn_ptr_other (w : World) (d : Nat) {a b : Nat} {ca cb : Array Value} {ta tb : TypeId} (hne : a ≠ b) (ha : BlkIs w a ta ca) (hb : BlkIs w b tb cb) : (Op.equalIn (d + 1) 102 (.pointer (some ⟨a, 0, none⟩)) (.pointer (some ⟨b, 0, none⟩))).run Tryz.prog w = .ok false w := by
  obtain ⟨j, hj, hs⟩ := Option.map_eq_some_iff.1 file_size
  have hne' : (⟨a, 0, none⟩ : Addr) ≠ ⟨b, 0, none⟩ := fun e => hne (Addr.mk.inj e).1
  simp [Op.equalIn, run_underlying Tryz.underlying102, sizeOf, typeInfo, hj, hs, run_sameAddr_other w hne' ha hb]
theorem run_neq_ptr_same (w : World) (a : Addr) : (binOp .neq 102 (.pointer (some a)) (.pointer (some a))).run Tryz.prog w = .ok (.bool false) w := by
  simp only [binOp]
  simp [show Op.equal 102 (.pointer (some a)) (.pointer (some a)) = Op.equalIn (9999 + 1) 102 (.pointer (some a)) (.pointer (some a)) from rfl, run_eqIn_ptr_same w 9999 a]
theorem run_neq_ptr_other (w : World) {a b : Nat} {ca cb : Array Value} {ta tb : TypeId} (hne : a ≠ b) (ha : BlkIs w a ta ca) (hb : BlkIs w b tb cb) : (binOp .neq 102 (.pointer (some ⟨a, 0, none⟩)) (.pointer (some ⟨b, 0, none⟩))).run Tryz.prog w = .ok (.bool true) w := by
  simp only [binOp]
  simp [show Op.equal 102 (.pointer (some ⟨a, 0, none⟩)) (.pointer (some ⟨b, 0, none⟩)) = Op.equalIn (9999 + 1) 102 (.pointer (some ⟨a, 0, none⟩)) (.pointer (some ⟨b, 0, none⟩)) from rfl, run_eqIn_ptr_other w 9999 hne ha hb]

/-- Whether the file keeps its stamp. -/
def keeps (s : St) (f : Nat) (was : Option Nat) (part : Int) : Bool := decide (was = some f) && ((s.at_ f).rem part == (s.at_ f).now)
theorem restore_yes (s : St) (p : Str) (f : Nat) (was : Option Nat) (part : Int) (h : keeps s f was part = true) :
    s.restore p f was part = { s with used := s.used + (((s.at_ f).rem part).length : Int), fil := s.fil.set f ⟨(s.at_ f).rem part, (s.at_ f).rem part, (s.at_ f).st⟩ } := by
  unfold keeps at h
  simp only [Bool.and_eq_true, decide_eq_true_eq, beq_iff_eq] at h
  unfold St.restore
  exact if_pos h
theorem restore_no (s : St) (p : Str) (f : Nat) (was : Option Nat) (part : Int) (h : keeps s f was part = false) :
    s.restore p f was part = { s with used := s.used + (((s.at_ f).rem part).length : Int), clock := s.clock + 1, fil := s.fil.set f ⟨(s.at_ f).rem part, (s.at_ f).rem part, s.clock + 1⟩ } := by
  unfold keeps at h
  unfold St.restore
  refine if_neg fun h2 => ?_
  rw [decide_eq_true h2.1, beq_iff_eq.2 h2.2] at h
  cases h
theorem restore_end {w w' : World} {tb : Nat} {s : St} {g : Gh} {f : Nat} {A : Option Addr} {n c : Nat} {b : Str} (h : TreeAt w tb s g) (hf : f < s.fil.length) (ho : Own w 0 A n c b) (ht : Tg g.tag A (11 + 2 * f)) {ck st : Nat} {u : Int}
    (hc : Chd (fun j => j = tb ∨ j = g.blk f) w w') (hb : BlkIs w' (g.blk f) 101 #[.slice A n c, .slice A n c, .int .u64 (st : Int)]) (htop : BlkIs w' tb 81 (treeC { s with used := u, clock := ck } g)) :
    TreeAt w' tb { s with used := u, clock := ck, fil := s.fil.set f ⟨b, b, st⟩ } g := by
  have tgb := (h.fil f hf).tg
  have nt : ∀ j, A = some ⟨j, 0, none⟩ → ¬ (j = tb ∨ j = g.blk f) := fun j e hj => by
    have := ht j e
    rcases hj with rfl | rfl
    · rw [h.topT] at this; omega
    · rw [tgb] at this; omega
  have o := own_chd ho hc nt
  exact h.refile (f := f) (x := ⟨b, b, st⟩) hc (fun j e => e.imp id fun e => by rw [e]; exact .inr (.inl tgb)) hf ⟨⟨A, n, c, A, n, c, hb, o, o, fun _ => Nat.le_refl _, ht, ht⟩, tgb⟩ htop rfl rfl rfl rfl
end Go.Proofs.YtiikjdjpodmpcaaGreat

/- Package tree: one file of a crash, walked. -/
namespace Go.Proofs.YtiikjdjpodmpcaaGreat
open Go.RowKit Go.Maps
set_option linter.unusedVariables false

theorem BlkIs.drewN {w : World} {g : Nat} {t : TypeId} {cs : Array Value} (h : BlkIs w g t cs) (n : Nat) : BlkIs (w.drewN n) g t cs := h
theorem rem_len (x : Fil) (part : Int) : (x.rem part).length ≤ x.now.length ∨ (x.rem part).length ≤ x.sf.length := by
  unfold Fil.rem
  split
  · left; rw [List.length_take]; omega
  · exact .inr (Nat.le_refl _)
theorem restore_w1 {W : World} {tb : Nat} {s : St} {g : Gh} {f : Nat} {A : Option Addr} {n c : Nat} {b : Str} (h : TreeAt W tb s g) (hf : f < s.fil.length) (ho : Own W 0 A n c b) (ht : Tg g.tag A (11 + 2 * f)) {A1 A2 : Option Addr} {n1 c1 n2 c2 : Nat}
    (hb : BlkIs W (g.blk f) 101 #[.slice A1 n1 c1, .slice A2 n2 c2, .int .u64 ((s.at_ f).st : Int)]) (u : Int) :
    TreeAt (((W.setCell ⟨g.blk f, 0, none⟩ (.slice A n c)).setCell ⟨g.blk f, 1, none⟩ (.slice A n c)).setCell ⟨tb, 1, none⟩ (.int .i64 u)) tb { s with used := u, fil := s.fil.set f ⟨b, b, (s.at_ f).st⟩ } g ∧
      Chd (fun j => j = tb ∨ j = g.blk f) W (((W.setCell ⟨g.blk f, 0, none⟩ (.slice A n c)).setCell ⟨g.blk f, 1, none⟩ (.slice A n c)).setCell ⟨tb, 1, none⟩ (.int .i64 u)) := by
  have hne := blk_ne h hf
  have C2 : Chd (fun j => j = g.blk f) W ((W.setCell ⟨g.blk f, 0, none⟩ (.slice A n c)).setCell ⟨g.blk f, 1, none⟩ (.slice A n c)) := (Chd.set W _ 0 _).trans (Chd.set _ _ 1 _)
  have C3 := Chd.set ((W.setCell ⟨g.blk f, 0, none⟩ (.slice A n c)).setCell ⟨g.blk f, 1, none⟩ (.slice A n c)) tb 1 (.int .i64 u)
  have C : Chd (fun j => j = tb ∨ j = g.blk f) W _ := (C2.mono fun _ _ e => .inr e).trans (C3.mono fun _ _ e => .inl e)
  have B : BlkIs _ (g.blk f) 101 #[.slice A n c, .slice A n c, .int .u64 ((s.at_ f).st : Int)] := ((hb.set 0 (.slice A n c)).set 1 (.slice A n c)).chd C3 hne
  have T : BlkIs _ tb 81 (treeC { s with used := u, clock := s.clock } g) := (h.top.chd C2 (fun e => hne e.symm)).set 1 (.int .i64 u)
  exact ⟨restore_end h hf ho ht C B T, C⟩
theorem restore_w2 {W : World} {tb : Nat} {s : St} {g : Gh} {f : Nat} {A : Option Addr} {n c : Nat} {b : Str} (h : TreeAt W tb s g) (hf : f < s.fil.length) (ho : Own W 0 A n c b) (ht : Tg g.tag A (11 + 2 * f)) {A1 A2 : Option Addr} {n1 c1 n2 c2 : Nat}
    (hb : BlkIs W (g.blk f) 101 #[.slice A1 n1 c1, .slice A2 n2 c2, .int .u64 ((s.at_ f).st : Int)]) (u : Int) :
    TreeAt (((((W.setCell ⟨tb, 2, none⟩ (.int .u64 ((s.clock : Int) + 1))).setCell ⟨g.blk f, 2, none⟩ (.int .u64 ((s.clock : Int) + 1))).setCell ⟨g.blk f, 0, none⟩ (.slice A n c)).setCell ⟨g.blk f, 1, none⟩ (.slice A n c)).setCell ⟨tb, 1, none⟩ (.int .i64 u)) tb
        { s with used := u, clock := s.clock + 1, fil := s.fil.set f ⟨b, b, s.clock + 1⟩ } g ∧
      Chd (fun j => j = tb ∨ j = g.blk f) W (((((W.setCell ⟨tb, 2, none⟩ (.int .u64 ((s.clock : Int) + 1))).setCell ⟨g.blk f, 2, none⟩ (.int .u64 ((s.clock : Int) + 1))).setCell ⟨g.blk f, 0, none⟩ (.slice A n c)).setCell ⟨g.blk f, 1, none⟩ (.slice A n c)).setCell ⟨tb, 1, none⟩ (.int .i64 u)) := by
  have hne := blk_ne h hf
  obtain ⟨w1, hw1⟩ : ∃ w1, (W.setCell ⟨tb, 2, none⟩ (.int .u64 ((s.clock : Int) + 1))) = w1 := ⟨_, rfl⟩
  rw [hw1]
  have C1 : Chd (fun j => j = tb) W w1 := by rw [← hw1]; exact Chd.set W tb 2 _
  have T1 : BlkIs w1 tb 81 (treeC { s with clock := s.clock + 1 } g) := by rw [← hw1]; exact h.top.set 2 _
  have hb1 := hb.chd C1 hne
  obtain ⟨w2, hw2⟩ : ∃ w2, ((w1.setCell ⟨g.blk f, 2, none⟩ (.int .u64 ((s.clock : Int) + 1))).setCell ⟨g.blk f, 0, none⟩ (.slice A n c)).setCell ⟨g.blk f, 1, none⟩ (.slice A n c) = w2 := ⟨_, rfl⟩
  rw [hw2]
  have C2 : Chd (fun j => j = g.blk f) w1 w2 := by rw [← hw2]; exact ((Chd.set w1 _ 2 _).trans (Chd.set _ _ 0 _)).trans (Chd.set _ _ 1 _)
  have B2 : BlkIs w2 (g.blk f) 101 #[.slice A n c, .slice A n c, .int .u64 ((s.clock + 1 : Nat) : Int)] := by rw [← hw2]; exact ((hb1.set 2 _).set 0 (.slice A n c)).set 1 (.slice A n c)
  have C3 := Chd.set w2 tb 1 (.int .i64 u)
  have C : Chd (fun j => j = tb ∨ j = g.blk f) W (w2.setCell ⟨tb, 1, none⟩ (.int .i64 u)) := ((C1.mono fun _ _ e => .inl e).trans (C2.mono fun _ _ e => .inr e)).trans (C3.mono fun _ _ e => .inl e)
  have T : BlkIs (w2.setCell ⟨tb, 1, none⟩ (.int .i64 u)) tb 81 (treeC { s with used := u, clock := s.clock + 1 } g) := (T1.chd C2 (fun e => hne e.symm)).set 1 (.int .i64 u)
  exact ⟨restore_end h hf ho ht C (B2.chd C3 hne) T, C⟩
set_option maxRecDepth 100000 in
theorem restore_any (w : World) (tb : Nat) (s : St) (g : Gh) {k : Nat} (hk : k ≤ 1000) (h : TreeAt w tb s g) (ok : Ok k s) (p : Str) (hp : p.length ≤ 1000000000000) (f : Nat) (hl : look s.files p = some f) (was : Option Nat) (hwas : ∀ i, was = some i → i < s.fil.length) (part : Int) (hpart : part ≤ 9223372036854775807) :
    Calls Tryz.prog 68 #[.pointer (some ⟨tb, 0, none⟩), .string (S p), optP g was, .int .i64 part] w fun e w' =>
      e = .returned (.tuple #[]) ∧ TreeAt w' tb (s.restore p f was part) g ∧ Chd (fun j => j = tb ∨ j = g.blk f) w w' := by
  have hlt : f < s.fil.length := ok.fs _ (look_mem hl)
  have c3 := (top_of h.top).c3
  have hlk := lookup_in h.mfA p hp g rfl
  rw [hl] at hlk
  have RM := Lib.hid (remaining_any w g.tag (g.blk f) f (s.at_ f) (h.fil f hlt) (by have := ok.sz f; omega) part hpart)
  have hlen : ((s.at_ f).rem part).length ≤ 10000000 := by
    have := ok.sz f
    have := ok.sy f
    rcases rem_len (s.at_ f) part with e | e <;> omega
  obtain ⟨A1, n1, c1, A2, n2, c2, hbk, o1, o2, hal, t1, t2⟩ := (h.fil f hlt).ex
  have hne := blk_ne h hlt
  have u0 : -10000000000000 ≤ s.used := by have := ok.u0; omega
  have u1 : s.used ≤ 10000000000000 := by have := ok.u1; omega
  have k1 : (s.clock : Int) ≤ 10000000 := by have := ok.ck; omega
  have E0 : Hid (∀ A n c m, Own w 0 A n c ((s.at_ f).rem part) → Calls Tryz.prog 112 #[.slice A n c, .slice A1 n1 c1] (w.drewN m) fun e w' => e = .returned (.bool ((s.at_ f).rem part == (s.at_ f).now)) ∧ w' = w.drewN m) := fun A n c m ho =>
    equal_at (w.drewN m) (ho.arg.nx (Nx.drewN (Nx.refl _) _)) (o1.arg.nx (Nx.drewN (Nx.refl _) _))
  have PN : Hid (∀ m, (binOp .neq 102 (fptr (g.blk f)) (optP g was)).run Tryz.prog (w.drewN m) = .ok (.bool (!decide (was = some f))) (w.drewN m)) := fun m => by
    cases was with
    | none =>
      have := run_neq_pointer_nil (P := Tryz.prog) (w.drewN m) 102 (some ⟨g.blk f, 0, none⟩) Tryz.underlying102
      simpa [fptr, optP] using this
    | some i =>
      by_cases e : i = f
      · subst e
        have := run_neq_ptr_same (w.drewN m) ⟨g.blk i, 0, none⟩
        simpa [fptr, optP] using this
      · obtain ⟨_, _, _, _, _, _, hbi, _⟩ := (h.fil i (hwas i rfl)).ex
        have := run_neq_ptr_other (w.drewN m) (a := g.blk f) (b := g.blk i) (fun e2 => e (blk_inj h (hwas i rfl) hlt e2.symm)) (hbk.drewN m) (hbi.drewN m)
        rw [show decide (some i = some f) = false from by simpa using e]
        exact this
  have H := Lib.hid h
  have HB := Lib.hid hbk
  have HL := Lib.hid hlt
  clear h ok hwas hl hlt hbk o1 o2 hal t1 t2 hp
  generalize S p = sp at *
  unfold optP at hlk
  simp only at hlk
  generalize hov : optP g was = ov at *
  have HOV := Lib.hid hov
  clear hov
  go_enter Tryz.func68, Tryz.ntmps68
  go_wp2_with fail
  refine RM.out.mono ?_
  rintro e w1 ⟨A, n, c, rfl, ho, ht, m, rfl⟩
  have HO := Lib.hid ho
  have HT := Lib.hid ht
  have hn : n ≤ 10000000 := by have := ho.len; omega
  have HN : Hid (((s.at_ f).rem part).length = n) := ho.len
  clear ho ht RM c3 hlk
  have hpn := PN.out m
  have TM := Lib.hid (H.out.nx (Nx.drewN (Nx.refl w) m))
  have BM := Lib.hid (HB.out.drewN m)
  have OM := Lib.hid (show Own (w.drewN m) 0 A n c ((s.at_ f).rem part) from HO.out)
  have EM := Lib.hid (E0.out A n c m HO.out)
  obtain ⟨W, hW⟩ : ∃ W, w.drewN m = W := ⟨_, rfl⟩
  have CW : Hid (Nx w W) := by rw [← hW]; exact Nx.drewN (Nx.refl w) m
  rw [hW] at hpn TM BM OM EM ⊢
  have cu := (top_of TM.out.top).c1
  have ck := (top_of TM.out.top).c2
  have fu := TM.out.top.frozen 1
  have fk := TM.out.top.frozen 2
  have b0 : W.cell? ⟨g.blk f, 0, none⟩ = some (.slice A1 n1 c1) := by rw [BM.out.cell]; rfl
  have b1 : W.cell? ⟨g.blk f, 1, none⟩ = some (.slice A2 n2 c2) := by rw [BM.out.cell]; rfl
  have b2 : W.cell? ⟨g.blk f, 2, none⟩ = some (.int .u64 ((s.at_ f).st : Int)) := by rw [BM.out.cell]; rfl
  have g0 := BM.out.frozen 0
  have g1 := BM.out.frozen 1
  have g2 := BM.out.frozen 2
  have R1 := Lib.hid (restore_w1 TM.out HL.out OM.out HT.out BM.out (s.used + (n : Int)))
  have R2 := Lib.hid (restore_w2 TM.out HL.out OM.out HT.out BM.out (s.used + (n : Int)))
  have hne2 : tb ≠ g.blk f := fun e => hne e.symm
  have e1 := restore_yes s p f was part
  have e2 := restore_no s p f was part
  rw [HN.out] at e1 e2
  have KP : keeps s f was part = (decide (was = some f) && ((s.at_ f).rem part == (s.at_ f).now)) := rfl
  unfold fptr at hpn ⊢
  have HKP := Lib.hid KP
  have He1 := Lib.hid e1
  have He2 := Lib.hid e2
  have HWW := Lib.hid hW
  clear KP e1 e2 hW PN E0 H HB HO
  generalize (s.at_ f).st = st0 at b2
  generalize decide (was = some f) = q at *
  generalize hqe : ((s.at_ f).rem part == (s.at_ f).now) = qe at *
  clear hqe
  cases q with
  | true =>
    cases qe with
    | true =>
      have hSr := He1.out HKP.out
      have R1a := R1.out
      rw [← hSr] at R1a
      have R1' := Lib.hid R1a
      clear R1a
      clear hSr He1 He2 HKP R1 R2
      go_wp2_with fail
      refine EM.out.mono ?_
      rintro e w5 ⟨rfl, rfl⟩
      clear EM
      go_wp2
      refine bodyPost_end (results_none rfl _ _ _) rfl ?_
      exact ⟨rfl, R1'.out.1, (Nx.chd CW.out).trans R1'.out.2⟩
    | false =>
      have hSr := He2.out HKP.out
      have R1a := R2.out
      rw [← hSr] at R1a
      have R2' := Lib.hid R1a
      clear R1a
      clear hSr He1 He2 HKP R1 R2
      go_wp2_with fail
      refine EM.out.mono ?_
      rintro e w5 ⟨rfl, rfl⟩
      clear EM
      go_wp2
      refine bodyPost_end (results_none rfl _ _ _) rfl ?_
      exact ⟨rfl, R2'.out.1, (Nx.chd CW.out).trans R2'.out.2⟩
  | false =>
    have hSr := He2.out (by rw [HKP.out]; rfl)
    have R1a := R2.out
    rw [← hSr] at R1a
    have R2' := Lib.hid R1a
    clear R1a
    clear hSr He1 He2 HKP R1 R2 EM
    go_wp2
    refine bodyPost_end (results_none rfl _ _ _) rfl ?_
    exact ⟨rfl, R2'.out.1, (Nx.chd CW.out).trans R2'.out.2⟩
end Go.Proofs.YtiikjdjpodmpcaaGreat

/- Package tree: Crash. -/
namespace Go.Proofs.YtiikjdjpodmpcaaGreat
open Go.RowKit Go.Maps
set_option linter.unusedVariables false

/-- The bounds while a crash goes through the files. -/
structure Mid (k j : Nat) (s : St) : Prop where
  fs : ∀ e ∈ s.files, e.2 < s.fil.length
  ss : ∀ e ∈ s.safe, e.2 < s.fil.length
  cs : s.chs = []
  r0 : 0 ≤ s.room
  r1 : s.room ≤ 67108864
  u0 : 0 ≤ s.used
  u1 : s.used ≤ 10000000 * (j : Int)
  ck : s.clock ≤ 10000 * k + 1 + j
  f0 : -1 ≤ s.fuse
  f1 : s.fuse ≤ 9223372036854775807
  nf : s.fil.length ≤ k
  lf : s.files.length ≤ k
  ls : s.safe.length ≤ k
  sz : ∀ i, (s.at_ i).now.length ≤ 10000 * k
  sy : ∀ i, (s.at_ i).sf.length ≤ 10000 * k
theorem Mid.ok {k j : Nat} {s : St} (h : Mid k j s) (hj : j ≤ k) (hk : k + 1 ≤ 1000) : Ok (k + 1) s :=
  ⟨h.fs, h.ss, fun c hc => (by rw [h.cs] at hc; exact absurd hc (List.not_mem_nil)), h.r0, h.r1, by have := h.u0; omega, by have := h.u1; omega, by have := h.ck; omega, h.f0, h.f1, by have := h.nf; omega, by have := h.lf; omega, (by have := h.ls; rw [h.cs]; simp only [List.length_nil]; omega), fun i => by have := h.sz i; omega, fun i => by have := h.sy i; omega⟩
theorem restore_facts (s : St) (p : Str) (f : Nat) (was : Option Nat) (part : Int) : ∃ st, (s.restore p f was part).fil = s.fil.set f ⟨(s.at_ f).rem part, (s.at_ f).rem part, st⟩ ∧ (s.restore p f was part).used = s.used + (((s.at_ f).rem part).length : Int) ∧
    (s.restore p f was part).clock ≤ s.clock + 1 ∧ (s.restore p f was part).files = s.files ∧ (s.restore p f was part).safe = s.safe ∧ (s.restore p f was part).chs = s.chs ∧ (s.restore p f was part).room = s.room ∧ (s.restore p f was part).fuse = s.fuse := by
  cases h : keeps s f was part with
  | true => rw [restore_yes s p f was part h]; exact ⟨_, rfl, rfl, Nat.le_succ _, rfl, rfl, rfl, rfl, rfl⟩
  | false => rw [restore_no s p f was part h]; exact ⟨_, rfl, rfl, Nat.le_refl _, rfl, rfl, rfl, rfl, rfl⟩
theorem at_set2 (s s' : St) (f : Nat) (x : Fil) (h : s'.fil = s.fil.set f x) (P : Fil → Prop) (hx : P x) (hs : ∀ i, P (s.at_ i)) (i : Nat) : P (s'.at_ i) := by
  unfold St.at_
  rw [h]
  by_cases hf : f < s.fil.length
  · have := at_set s f i x hf
    unfold St.at_ at this
    rw [this]
    split
    · exact hx
    · exact hs i
  · rw [List.set_eq_of_length_le (by omega)]
    exact hs i
theorem Mid.restore {k j : Nat} {s : St} (h : Mid k j s) (hk : k ≤ 1000) (p : Str) (f : Nat) (was : Option Nat) (part : Int) : Mid k (j + 1) (s.restore p f was part) := by
  obtain ⟨st, e1, e2, e3, e4, e5, e6, e7, e8⟩ := restore_facts s p f was part
  have hl : ((s.at_ f).rem part).length ≤ 10000 * k := by
    have := h.sz f
    have := h.sy f
    rcases rem_len (s.at_ f) part with e | e <;> omega
  have hlen : (s.restore p f was part).fil.length = s.fil.length := by rw [e1, List.length_set]
  exact ⟨by rw [e4, hlen]; exact h.fs, by rw [e5, hlen]; exact h.ss, by rw [e6]; exact h.cs, by rw [e7]; exact h.r0, by rw [e7]; exact h.r1, by rw [e2]; have := h.u0; omega, by rw [e2]; have := h.u1; omega, by have := h.ck; omega,
    by rw [e8]; exact h.f0, by rw [e8]; exact h.f1, by rw [hlen]; exact h.nf, by rw [e4]; exact h.lf, by rw [e5]; exact h.ls,
    fun i => at_set2 s _ f _ e1 (fun x => x.now.length ≤ 10000 * k) hl h.sz i, fun i => at_set2 s _ f _ e1 (fun x => x.sf.length ≤ 10000 * k) hl h.sy i⟩
theorem restores_append (before : Dir) (parts : List Int) : ∀ (l : Dir) (i : Nat) (e : Str × Nat) (s : St), St.restores before parts i (l ++ [e]) s = (St.restores before parts i l s).restore e.1 e.2 (look before e.1) (partAt parts (i + l.length))
  | [], i, e, s => by obtain ⟨p, f⟩ := e; rfl
  | (p, f) :: r, i, e, s => by
    show St.restores before parts (i + 1) (r ++ [e]) _ = _
    rw [restores_append before parts r (i + 1) e]
    show _ = (St.restores before parts (i + 1) r _).restore e.1 e.2 (look before e.1) (partAt parts (i + (r.length + 1)))
    rw [show i + 1 + r.length = i + (r.length + 1) from by omega]
theorem restores_succ (before : Dir) (parts : List Int) (l : Dir) (i : Nat) (e : Str × Nat) (s : St) (h : l[i]? = some e) : St.restores before parts 0 (l.take (i + 1)) s = (St.restores before parts 0 (l.take i) s).restore e.1 e.2 (look before e.1) (partAt parts i) := by
  rw [List.take_add_one, h]
  have := restores_append before parts (l.take i) 0 e s
  have hi := (List.getElem?_eq_some_iff.1 h).1
  rw [show 0 + (l.take i).length = i from by rw [List.length_take]; omega] at this
  exact this
theorem Mid.restores {k : Nat} {s : St} (h : Mid k 0 s) (hk : k ≤ 1000) (before : Dir) (parts : List Int) (l : Dir) : ∀ i, i ≤ l.length → Mid k i (St.restores before parts 0 (l.take i) s) ∧ (St.restores before parts 0 (l.take i) s).files = s.files ∧ (St.restores before parts 0 (l.take i) s).fil.length = s.fil.length
  | 0, _ => by rw [List.take_zero]; exact ⟨h, rfl, rfl⟩
  | i + 1, hi => by
    have ih := Mid.restores h hk before parts l i (by omega)
    rw [restores_succ before parts l i _ s (List.getElem?_eq_getElem (show i < l.length by omega))]
    obtain ⟨st, e1, _, _, e4, _⟩ := restore_facts (St.restores before parts 0 (l.take i) s) (l[i]'(by omega)).1 (l[i]'(by omega)).2 (look before (l[i]'(by omega)).1) (partAt parts i)
    exact ⟨ih.1.restore hk _ _ _ _, by rw [e4, ih.2.1], by rw [e1, List.length_set, ih.2.2]⟩
def St.c1 (s : St) : St := { s with clock := s.clock + 1 }
def St.c2 (s : St) (keep : Int) : St := s.c1.settle (upTo keep (s.chs.length : Int)).toNat
def St.c3 (s : St) (keep : Int) : St := { s.c2 keep with files := (s.c2 keep).safe, used := 0 }
theorem crash_eq (s : St) (keep : Int) (parts : List Int) : s.crash keep parts = { St.restores s.files parts 0 (s.c3 keep).files (s.c3 keep) with fuse := -1, off := false } := rfl
theorem mem_apps {cs : List Chg} {n : Nat} (hcs : ∀ c ∈ cs, c.small n) : ∀ (l : Dir), (∀ e ∈ l, e.2 < n) → ∀ e ∈ apps cs l, e.2 < n := by
  induction cs with
  | nil => intro l hl; exact hl
  | cons c cs ih =>
    intro l hl
    refine ih (fun c' hc' => hcs c' (List.mem_cons_of_mem _ hc')) (c.app l) fun e he => ?_
    rcases mem_app he with h | h
    · exact hl e h
    · have hc := hcs c List.mem_cons_self
      cases c with
      | mk p f => simp only [Chg.new, Option.some.injEq] at h; rw [← h]; exact hc.2
      | mv p q f => simp only [Chg.new, Option.some.injEq] at h; rw [← h]; exact hc.2.2
      | rm p => cases h
theorem Ok.mid {k : Nat} {s : St} (h : Ok k s) (keep : Int) : Mid k 0 (s.c3 keep) := by
  have hm : ∀ e ∈ (s.c2 keep).safe, e.2 < s.fil.length := mem_apps (fun c hc => h.cs c (List.mem_of_mem_take hc)) s.safe h.ss
  have hl : (s.c2 keep).safe.length ≤ k := by
    have := apps_length (s.chs.take (upTo keep (s.chs.length : Int)).toNat) s.safe
    have h2 := h.ls
    rw [List.length_take] at this
    have h3 : (s.c2 keep).safe = apps (s.chs.take (upTo keep (s.chs.length : Int)).toNat) s.safe := rfl
    rw [h3]
    omega
  exact ⟨hm, hm, rfl, h.r0, h.r1, Int.le_refl _, by show (0 : Int) ≤ _; omega, by have := h.ck; show s.clock + 1 ≤ _; omega, h.f0, h.f1, h.nf, hl, hl, h.sz, h.sy⟩
theorem Ok.crash {k : Nat} {s : St} (h : Ok k s) (hk : k + 1 ≤ 1000) (keep : Int) (parts : List Int) : Ok (k + 1) (s.crash keep parts) := by
  rw [crash_eq]
  have M := (h.mid keep).restores (by omega) s.files parts (s.c3 keep).files _ (Nat.le_refl _)
  rw [List.take_length] at M
  have hlf : (s.c3 keep).files.length ≤ k := (h.mid keep).lf
  have O := M.1.ok hlf hk
  exact ⟨O.fs, O.ss, O.cs, O.r0, O.r1, O.u0, O.u1, O.ck, by show (-1 : Int) ≤ -1; omega, by show (-1 : Int) ≤ _; omega, O.nf, O.lf, O.ls, O.sz, O.sy⟩
theorem MapAt.nx3 {w w' : World} {b : Nat} {blk : Nat → Nat} {l : Dir} (h : MapAt w b blk l) (k : Below w.heap.size w w') : MapAt w' b blk l := h.chd (M := fun _ => False) (Chd.of_below k) (fun e => e)
def Gh.moved (g : Gh) (mb : Nat) : Gh := { g with mf := mb, tag := fun j => if j = mb then 2 else g.tag j }
theorem moved_end {w w' : World} {tb : Nat} {s : St} {g : Gh} {mb : Nat} (h : TreeAt w tb s g) (hn : Below w.heap.size w w') (h0 : g.tag mb = 0) (hm : MapAt w' mb g.blk s.safe) :
    TreeAt ((w'.setCell ⟨tb, 3, none⟩ (.map (some mb))).setCell ⟨tb, 1, none⟩ (.int .i64 0)) tb { s with files := s.safe, used := 0 } (g.moved mb) ∧ Chd (fun j => j = tb) w ((w'.setCell ⟨tb, 3, none⟩ (.map (some mb))).setCell ⟨tb, 1, none⟩ (.int .i64 0)) := by
  obtain ⟨w2, hw2⟩ : ∃ w2, ((w'.setCell ⟨tb, 3, none⟩ (.map (some mb))).setCell ⟨tb, 1, none⟩ (.int .i64 0)) = w2 := ⟨_, rfl⟩
  have H := h.nx hn
  have C : Chd (fun j => j = tb) w' w2 := by rw [← hw2]; exact (Chd.set w' tb 3 _).trans (Chd.set _ tb 1 _)
  have T : BlkIs w2 tb 81 (treeC { s with files := s.safe, used := 0 } (g.moved mb)) := by rw [← hw2]; exact (H.top.set 3 (.map (some mb))).set 1 (.int .i64 0)
  rw [hw2]
  have ht : ∀ j, g.tag j ≠ 0 → (g.moved mb).tag j = g.tag j := fun j hj => if_neg (fun e => hj (by rw [e]; exact h0))
  have hmt : mb ≠ tb := fun e => by rw [e, h.topT] at h0; omega
  have hms : mb ≠ g.ms := fun e => by rw [e, h.msT] at h0; omega
  refine ⟨?_, (Chd.of_below hn).trans C⟩
  have tg : ∀ j, j = tb → g.tag j = 1 := fun j e => by rw [e]; exact h.topT
  exact { top := T
          topT := by rw [ht tb (by rw [H.topT]; omega), H.topT]
          mfT := if_pos rfl
          msT := by show (g.moved mb).tag g.ms = 3; rw [ht _ (by rw [H.msT]; omega), H.msT]
          mfA := hm.chd C hmt
          msA := H.msA.chd C (fun e => by have := tg _ e; rw [H.msT] at this; omega)
          row := row_chd H.row C (fun b hb e => by have := tg _ e; rw [H.rowT b hb] at this; omega)
          rowT := fun b hb => by rw [ht _ (by rw [H.rowT b hb]; omega), H.rowT b hb]
          chs := fun i c hi => by
            obtain ⟨v, hv, ha⟩ := H.chs i c hi
            exact ⟨v, hv, (ha.chd C (fun j e => by have := tg _ e; omega)).retag ht⟩
          fil := fun i hi => ((H.fil i hi).chd C (fun j e => by have := tg _ e; omega)).retag ht
          dom := fun j hj => by
            have hj' : (if j = mb then 2 else g.tag j) ≠ 0 := hj
            split at hj'
            · rename_i e; rw [e]; exact Nat.lt_of_lt_of_le hm.lt C.size
            · exact Nat.lt_of_lt_of_le (H.dom j hj') C.size
          apart := hms }
/-- The blocks that a crash turns while it goes through the files. -/
def Turned (tb : Nat) (g : Gh) (n : Nat) (j : Nat) : Prop := j = tb ∨ ∃ f, f < n ∧ j = g.blk f
theorem row_cell {w : World} {B : Nat} {A : Option Addr} {n c : Nat} {ps : List Str} (h : StrRow w B A n c ps) {i : Nat} {p : Str} (hi : i < n) (hp : ps[i]? = some p) : ∃ b, A = some ⟨b, 0, none⟩ ∧ B ≤ b ∧ b < w.heap.size ∧ w.cell? ⟨b, i, none⟩ = some (.string (S p)) := by
  rcases h.2 with ⟨_, e⟩ | ⟨b, cap, cur, hv, hB, hb, _⟩
  · omega
  · simp only [Value.slice.injEq] at hv
    refine ⟨b, hv.1, hB, (Array.getElem?_eq_some_iff.1 hb).1, ?_⟩
    have := World.ownsRow.cells (w := w) h (g := b) (by rw [hv.1]; rfl) i (.string (S p)) (by simp [strV, hp])
    rwa [add_plain, Nat.zero_add] at this

set_option maxRecDepth 100000 in
theorem crash_any (w : World) (tb : Nat) (s : St) (g : Gh) {k : Nat} (hk : k + 1 ≤ 1000) (h : TreeAt w tb s g) (ok : Ok k s) (hps : ∀ e ∈ s.safe, e.1.length ≤ 10000) (keep : Int) (hkeep : keep ≤ 9223372036854775807)
    (A : Option Addr) (n c : Nat) (parts : List Int) (hn : Nums w A n c parts) (hA : ∀ j o, A = some ⟨j, o, none⟩ → g.tag j = 0) :
    Calls Tryz.prog 36 #[.pointer (some ⟨tb, 0, none⟩), .int .i64 keep, .slice A n c] w fun e w' => e = .returned (.int .i64 0) ∧ ∃ g', TreeAt w' tb (s.crash keep parts) g' ∧ Chd (Mine g) w w' ∧ Gh.le w g g' := by
  have V := Lib.hid (valid_any w tb g.mf (top_of h.top).c3)
  have k1 : (s.clock : Int) ≤ 10000000 := by have := ok.ck; omega
  have hL : s.chs.length ≤ 1000 := by have := ok.ls; omega
  obtain ⟨u, hu, hur⟩ : ∃ u : Nat, upTo keep (s.chs.length : Int) = (u : Int) ∧ u ≤ s.chs.length := by
    unfold upTo
    have h1 : 0 ≤ max 0 keep % ((s.chs.length : Int) + 1) := Int.emod_nonneg _ (by omega)
    have h2 : max 0 keep % ((s.chs.length : Int) + 1) < (s.chs.length : Int) + 1 := Int.emod_lt_of_pos _ (by omega)
    exact ⟨(max 0 keep % ((s.chs.length : Int) + 1)).toNat, by omega, by omega⟩
  have T1 : TreeAt (w.setCell ⟨tb, 2, none⟩ (.int .u64 ((s.clock : Int) + 1))) tb s.c1 g := h.retop (Chd.set w tb 2 _) (fun j e => .inl e) (h.top.set 2 (.int .u64 ((s.clock : Int) + 1))) rfl rfl rfl rfl
  have ok1 : Ok (k + 1) s.c1 := ⟨ok.fs, ok.ss, ok.cs, ok.r0, ok.r1, by have := ok.u0; show _ ≤ s.used; omega, by have := ok.u1; show s.used ≤ _; omega, by have := ok.ck; show s.clock + 1 ≤ _; omega, ok.f0, ok.f1, by have := ok.nf; show s.fil.length ≤ _; omega, by have := ok.lf; show s.files.length ≤ _; omega, by have := ok.ls; show s.safe.length + s.chs.length ≤ _; omega, fun i => by have := ok.sz i; show (s.at_ i).now.length ≤ _; omega, fun i => by have := ok.sy i; show (s.at_ i).sf.length ≤ _; omega⟩
  have UX := Lib.hid (upTo_any (w.setCell ⟨tb, 2, none⟩ (.int .u64 ((s.clock : Int) + 1))) keep (s.chs.length : Int) (by omega) (by omega) hkeep)
  rw [hu] at UX
  have SX := Lib.hid (settle_any _ tb s.c1 g hk T1 ok1 u hur)
  have hc2 : s.c1.settle u = s.c2 keep := by unfold St.c2; rw [hu]; rfl
  rw [hc2] at SX
  obtain ⟨A0, L0, hcv⟩ : ∃ A0 L0, g.cv = .slice A0 s.chs.length L0 := by
    rcases h.row.2 with ⟨hv, h0⟩ | ⟨gb, cap, cur, hv, _⟩
    · exact ⟨none, 0, by rw [hv, h0]⟩
    · exact ⟨_, _, hv⟩
  have c2 := (top_of h.top).c2
  have f2 := h.top.frozen 2
  have c5 := (top_of T1.top).c5
  rw [hcv] at c5
  have MD := Lib.hid (ok.mid keep)
  have H := Lib.hid h
  have OK := Lib.hid ok
  have NM := Lib.hid hn
  have HA := Lib.hid hA
  have HPS : Hid (∀ e ∈ (s.c3 keep).files, e.1.length ≤ 10000) := by
    have : ∀ (cs : List Chg) (l : Dir), (∀ c ∈ cs, c.small s.fil.length) → (∀ e ∈ l, e.1.length ≤ 10000) → ∀ e ∈ apps cs l, e.1.length ≤ 10000 := by
      intro cs
      induction cs with
      | nil => intro l _ hl; exact hl
      | cons c cs ih =>
        intro l hcs hl
        refine ih (c.app l) (fun c' hc' => hcs c' (List.mem_cons_of_mem _ hc')) fun e he => ?_
        rcases mem_app he with h | h
        · exact hl e h
        · have hc := hcs c List.mem_cons_self
          cases c with
          | mk p f => simp only [Chg.new, Option.some.injEq] at h; rw [← h]; exact hc.1
          | mv p q f => simp only [Chg.new, Option.some.injEq] at h; rw [← h]; exact hc.2.1
          | rm p => cases h
    exact this _ s.safe (fun c hc => ok.cs c (List.mem_of_mem_take hc)) hps
  have CE := Lib.hid (crash_eq s keep parts)
  have HMF := Lib.hid (h.mfA.chd (Chd.set w tb 2 (.int .u64 ((s.clock : Int) + 1))) (fun e => by have := h.mfT; rw [e, h.topT] at this; omega))
  have hct : Hid (Chd (fun j => j = tb) w (w.setCell ⟨tb, 2, none⟩ (.int .u64 ((s.clock : Int) + 1)))) := Chd.set w tb 2 _
  clear h ok hn hA T1 ok1 hc2 hcv hps
  rw [CE.out]
  have hkk := hkeep
  go_enter Tryz.func36, Tryz.ntmps36
  go_wp2_with fail
  refine V.out.mono ?_
  rintro e w' ⟨rfl, rfl⟩
  go_wp2_with fail
  refine UX.out.mono ?_
  rintro e w' ⟨rfl, rfl⟩
  go_wp2_with fail
  refine SX.out.mono ?_
  rintro e w2 ⟨rfl, ht2, hc2⟩
  have om2a := HMF.out.chd hc2 (fun e => by
    rcases e with e | e
    · have := H.out.mfT; rw [e, H.out.topT] at this; omega
    · exact H.out.apart e)
  have C2 := Lib.hid ((hct.out.mono (M' := fun j => j = tb ∨ j = g.ms) fun _ _ e => .inl e).trans hc2)
  have CLX := Lib.hid (Tryz.maps_Clone_owns 9 ptrE g.ms (s.c2 keep).safe.length (dat g.blk (s.c2 keep).safe) w2 ht2.msA)
  have c3 : w2.cell? ⟨tb, 3, none⟩ = some (.map (some g.mf)) := (top_of ht2.top).c3
  have c4 : w2.cell? ⟨tb, 4, none⟩ = some (.map (some g.ms)) := (top_of ht2.top).c4
  have T2 := Lib.hid ht2
  have OM2 := Lib.hid om2a
  clear ht2 hc2 om2a UX V SX HMF hct c2 f2 c5
  go_wp2_with fail
  refine CLX.out.mono ?_
  rintro e w3 ⟨rfl, hm3, _, hb3⟩
  have hz3 : g.clean.tag w2.heap.size = 0 := new_zero T2.out (Nat.le_refl _)
  have ME := moved_end T2.out hb3 hz3 hm3
  have T3' := T2.out.nx hb3
  have c3' : w3.cell? ⟨tb, 3, none⟩ = some (.map (some g.mf)) := (top_of T3'.top).c3
  have c1' := (top_of T3'.top).c1
  have f3' := T3'.top.frozen 3
  have f1' := T3'.top.frozen 1
  have OM3 := Lib.hid (OM2.out.nx3 hb3)
  have ME' := Lib.hid ME
  clear ME T3' hm3 hb3 CLX c3 c4 OM2
  go_wp2_with fail
  obtain ⟨w4, hw4⟩ : ∃ w4, ((w3.setCell ⟨tb, 3, none⟩ (.map (some w2.heap.size))).setCell ⟨tb, 1, none⟩ (.int .i64 0)) = w4 := ⟨_, rfl⟩
  have hmt : g.mf ≠ tb := fun e => by have := H.out.mfT; rw [e, H.out.topT] at this; omega
  have hmb : g.mf ≠ w2.heap.size := fun e => by have h1 := H.out.mfT; have h2 : g.tag w2.heap.size = 0 := hz3; rw [← e, h1] at h2; omega
  have om4 : MapAt w4 g.mf g.blk s.files := by rw [← hw4]; exact (OM3.out.chd (Chd.set w3 tb 3 _) hmt).chd (Chd.set _ tb 1 _) hmt
  have T4 := ME'.out.1
  have C4 := ME'.out.2
  rw [hw4] at T4 C4 ⊢
  have hsl : w.heap.size ≤ w2.heap.size := C2.out.size
  obtain ⟨mb, hmbe⟩ : ∃ mb, w2.heap.size = mb := ⟨_, rfl⟩
  obtain ⟨g3, hg3⟩ : ∃ g3, g.clean.moved mb = g3 := ⟨_, rfl⟩
  rw [hmbe] at T4 hmb hsl ⊢
  have T4 : TreeAt w4 tb (s.c3 keep) (g.clean.moved mb) := T4
  rw [hg3] at T4
  have hblk : g3.blk = g.blk := by rw [← hg3]; rfl
  have hmf3 : g3.mf = mb := by rw [← hg3]; rfl
  have htag : ∀ j, j ≠ mb → g3.tag j = g.tag j := fun j hj => by rw [← hg3]; exact if_neg hj
  have hlf : (s.c3 keep).files.length ≤ k := MD.out.lf
  have SR := Lib.hid (sorted_any w4 mb g3.blk (s.c3 keep).files (by have := T4.mfA; rwa [hmf3] at this) (by omega))
  have CW4 : Chd (Mine g) w w4 := by
    have a1 : Chd (Mine g) w w2 := C2.out.mono fun j _ e => by
      rcases e with e | e
      · rw [e]; exact (mine_cv H.out).1
      · rw [e]; exact (mine_cv H.out).2.2.1
    exact a1.trans (C4.mono fun j _ e => by rw [e]; exact (mine_cv H.out).1)
  have T4' := Lib.hid T4
  have OM4 := Lib.hid om4
  have CW4' := Lib.hid CW4
  have HBLK := Lib.hid hblk
  have HTAG := Lib.hid htag
  have HSL := Lib.hid hsl
  have HMT := Lib.hid hmt
  have HMB := Lib.hid hmb
  have HG3 := Lib.hid hg3
  clear T4 om4 CW4 hw4 hmbe hg3 hblk hmf3 htag hsl hmt hmb C4 ME' OM3 C2 T2 c3' c1' f3' f1' hz3
  refine SR.out.mono ?_
  rintro e w5 ⟨A5, c5, rfl, hrow, hb5⟩
  have T5 := Lib.hid (T4'.out.nx hb5)
  have OM5 := Lib.hid (OM4.out.nx3 hb5)
  have CW5 := Lib.hid (CW4'.out.trans (Nx.chd hb5))
  have RW := Lib.hid hrow
  have LN := Lib.hid (show (s.c3 keep).files.length ≤ k from hlf)
  clear hrow hb5 SR OM4 CW4'
  go_wp2
  go_loopw [50] (fun x wr => ∃ i : Nat, x = .int .i64 i ∧ i ≤ (s.c3 keep).files.length ∧ Hid (TreeAt wr tb (St.restores s.files parts 0 ((s.c3 keep).files.take i) (s.c3 keep)) g3 ∧ Chd (Turned tb g3 s.fil.length) w5 wr)) (fun x _ => (s.c3 keep).files.length - (intOf x).toNat)
  case atStart => exact ⟨0, rfl, Nat.zero_le _, T5.out, Chd.refl _⟩
  case round =>
    obtain ⟨i, rfl, hi, hrel⟩ := hrel
    have tgT : ∀ j, Turned tb g3 s.fil.length j → g3.tag j = 1 ∨ ∃ f, g3.tag j = 10 + 2 * f := fun j hj => by
      rcases hj with e | ⟨f, hf, e⟩
      · rw [e]; exact .inl T5.out.topT
      · rw [e]; exact .inr ⟨f, (T5.out.fil f hf).tg⟩
    have htT : g3.tag g.mf = 2 := by rw [HTAG.out g.mf HMB.out, H.out.mfT]
    have notT : ¬ Turned tb g3 s.fil.length g.mf := fun e => by
      rcases tgT _ e with e | ⟨f, e⟩ <;> omega
    have om2 : MapAt wr g.mf g.blk s.files := OM5.out.chd hrel.out.2 notT
    have TGT := Lib.hid tgT
    by_cases hlt : i < (s.c3 keep).files.length
    · obtain ⟨p, f, hpf⟩ : ∃ p f, (s.c3 keep).files[i]? = some (p, f) := ⟨_, _, List.getElem?_eq_getElem hlt⟩
      have hmem := List.mem_of_getElem? hpf
      have hplen : p.length ≤ 10000 := HPS.out _ hmem
      obtain ⟨b5, rfl, hbB, hbl, hcell⟩ := row_cell RW.out (i := i) (p := p) hlt (by rw [List.getElem?_map, hpf]; rfl)
      have hbz : g3.tag b5 = 0 := new_zero T4'.out hbB
      have hcell' : wr.cell? ⟨b5, i, none⟩ = some (.string (S p)) := by
        rw [World.cell?_of_block (hrel.out.2.block b5 hbl (fun e => by rcases tgT _ e with e | ⟨f, e⟩ <;> omega))]
        exact hcell
      have MI := MD.out.restores (by omega) s.files parts (s.c3 keep).files i hi
      have oki := MI.1.ok (by have := LN.out; omega) hk
      have hlk2 : look (St.restores s.files parts 0 ((s.c3 keep).files.take i) (s.c3 keep)).files p = some f := by
        rw [MI.2.1]
        exact rising_look (by have := T4'.out.mfA.rising; exact this) hmem
      have hfl : f < s.fil.length := MD.out.fs _ hmem
      have hwas : ∀ q, look s.files p = some q → q < (St.restores s.files parts 0 ((s.c3 keep).files.take i) (s.c3 keep)).fil.length := fun q hq => by
        rw [MI.2.2]
        exact OK.out.fs _ (look_mem hq)
      have hlkAll : Hid (∀ W, MapAt W g.mf g.blk s.files → (Instr.lookup 77 (.map (some g.mf)) (.string (S p)) false).run Tryz.prog W = .ok (optP g (look s.files p)) W) := fun W hW => lookup_in hW p (by omega) g rfl
      have hnums : Nums wr A n c parts := NM.out.chd ((CW5.out.mono (M' := fun j => Mine g j ∨ Turned tb g3 s.fil.length j) fun _ _ e => .inl e).trans (hrel.out.2.mono fun _ _ e => .inr e)) (fun j o e hj e2 => by
        have h0 := HA.out j o e
        have hjw : ¬ j = mb := fun e3 => by have := HSL.out; omega
        have := HTAG.out j hjw
        rcases e2 with e2 | e2
        · exact e2 h0
        · rcases tgT _ e2 with e3 | ⟨f, e3⟩ <;> omega)
      have ATX : Hid (Calls Tryz.prog 69 #[.slice A n c, .int .i64 (i : Int)] wr.drew fun e w' => e = .returned (.int .i64 (partAt parts i)) ∧ wr.drew = w') := at_any wr.drew A n c parts (hnums.chd (Chd.drew (Chd.refl (M := fun _ => False) wr)) (fun _ _ _ _ e => e)) i (by have := LN.out; omega)
      have RSX : Hid (Calls Tryz.prog 68 #[.pointer (some ⟨tb, 0, none⟩), .string (S p), optP g (look s.files p), .int .i64 (partAt parts i)] wr.drew fun e w' => e = .returned (.tuple #[]) ∧
          TreeAt w' tb ((St.restores s.files parts 0 ((s.c3 keep).files.take i) (s.c3 keep)).restore p f (look s.files p) (partAt parts i)) g3 ∧ Chd (fun j => j = tb ∨ j = g3.blk f) wr.drew w') := by
        have := restore_any wr.drew tb _ g3 hk (hrel.out.1.nx (Nx.drew (Nx.refl _))) oki p (by omega) f hlk2 (look s.files p) hwas (partAt parts i) (NM.out.ok i)
        rw [show optP g3 (look s.files p) = optP g (look s.files p) from by unfold optP; rw [HBLK.out]] at this
        exact this
      have STEP : Hid (∀ w7, TreeAt w7 tb ((St.restores s.files parts 0 ((s.c3 keep).files.take i) (s.c3 keep)).restore p f (look s.files p) (partAt parts i)) g3 → Chd (fun j => j = tb ∨ j = g3.blk f) wr.drew w7 →
          TreeAt w7 tb (St.restores s.files parts 0 ((s.c3 keep).files.take (i + 1)) (s.c3 keep)) g3 ∧ ¬ (g.mf = tb ∨ g.mf = g3.blk f) ∧ Chd (fun j => j = tb ∨ j = g3.blk f) wr.drew w7) := fun w7 h1 h2 => by
        refine ⟨by rw [restores_succ s.files parts _ i (p, f) _ hpf]; exact h1, fun e => notT ?_, h2⟩
        exact e.imp id fun e => ⟨f, hfl, e⟩
      have REL := hrel
      have HFL := Lib.hid hfl
      clear hrel MI oki hlk2 hwas hnums hmem hplen hcell hbz hbB hbl tgT htT notT hpf hfl
      generalize S p = sp at *
      generalize hov : optP g (look s.files p) = ov at *
      clear hov
      generalize partAt parts i = pt at *
      go_upto_region 10 with fail
      refine wp_region_held_drew (S := (fun W => MapAt W g.mf g.blk s.files)) (by kernel_rfl) om2 (fun hHeld => ?_)
      change wpAnyH _ _ _ _ _ 9 (Array.replicate 9 false) _ _
      refine wpAnyH_take (i := 0) (oi := { dst := some 55, op := Op.move (Operand.tmp 0), type := 40, pos := "crash.go:36", after := #[], guard := none }) (v := ?va0) rfl (by kernel_rfl) (by kernel_rfl) (by kernel_rfl) (fun _ _ _ h => h) (Or.inl ⟨by rfl, ?hya0⟩) hHeld ?resta0
      case hya0 =>
        intro W hSw
        go_simp
        try with_reducible rfl
      try simp only [Act.put, List.setIfInBounds_toArray, List.set_cons_zero, List.set_cons_succ]
      refine wpAnyH_take (i := 1) (oi := { dst := some 56, op := Op.move (Operand.tmp 9), type := 9, pos := "crash.go:36", after := #[], guard := none }) (v := ?va1) rfl (by kernel_rfl) (by kernel_rfl) (by kernel_rfl) (fun _ _ _ h => h) (Or.inl ⟨by rfl, ?hya1⟩) hHeld ?resta1
      case hya1 =>
        intro W hSw
        go_simp
        try with_reducible rfl
      try simp only [Act.put, List.setIfInBounds_toArray, List.set_cons_zero, List.set_cons_succ]
      refine wpAnyH_take (i := 2) (oi := { dst := some 57, op := Op.move (Operand.tmp 7), type := 77, pos := "crash.go:36", after := #[], guard := none }) (v := ?va2) rfl (by kernel_rfl) (by kernel_rfl) (by kernel_rfl) (fun _ _ _ h => h) (Or.inl ⟨by rfl, ?hya2⟩) hHeld ?resta2
      case hya2 =>
        intro W hSw
        go_simp
        try with_reducible rfl
      try simp only [Act.put, List.setIfInBounds_toArray, List.set_cons_zero, List.set_cons_succ]
      refine wpAnyH_take (i := 3) (oi := { dst := some 58, op := Op.move (Operand.tmp 9), type := 9, pos := "crash.go:36", after := #[], guard := none }) (v := ?va3) rfl (by kernel_rfl) (by kernel_rfl) (by kernel_rfl) (fun _ _ _ h => h) (Or.inl ⟨by rfl, ?hya3⟩) hHeld ?resta3
      case hya3 =>
        intro W hSw
        go_simp
        try with_reducible rfl
      try simp only [Act.put, List.setIfInBounds_toArray, List.set_cons_zero, List.set_cons_succ]
      refine wpAnyH_take (i := 4) (oi := { dst := some 59, op := Op.lookup 77 (Operand.tmp 57) (Operand.tmp 58) false, type := 102, pos := "crash.go:36", after := #[{ on := 2, ground := Ground.data }, { on := 3, ground := Ground.data }], guard := none }) (v := ?va4) rfl (by kernel_rfl) (by kernel_rfl) (by kernel_rfl) (fun _ _ _ h => h) (Or.inl ⟨by rfl, ?hya4⟩) hHeld ?resta4
      case hya4 =>
        intro W hSw
        have s1 := hlkAll.out W hSw
        go_simp
        try with_reducible rfl
      try simp only [Act.put, List.setIfInBounds_toArray, List.set_cons_zero, List.set_cons_succ]
      refine wpAnyH_take (i := 5) (oi := { dst := some 60, op := Op.move (Operand.tmp 2), type := 37, pos := "crash.go:36", after := #[], guard := none }) (v := ?va5) rfl (by kernel_rfl) (by kernel_rfl) (by kernel_rfl) (fun _ _ _ h => h) (Or.inl ⟨by rfl, ?hya5⟩) hHeld ?resta5
      case hya5 =>
        intro W hSw
        go_simp
        try with_reducible rfl
      try simp only [Act.put, List.setIfInBounds_toArray, List.set_cons_zero, List.set_cons_succ]
      refine wpAnyH_take (i := 6) (oi := { dst := some 61, op := Op.move (Operand.tmp 8), type := 3, pos := "crash.go:36", after := #[], guard := none }) (v := ?va6) rfl (by kernel_rfl) (by kernel_rfl) (by kernel_rfl) (fun _ _ _ h => h) (Or.inl ⟨by rfl, ?hya6⟩) hHeld ?resta6
      case hya6 =>
        intro W hSw
        go_simp
        try with_reducible rfl
      try simp only [Act.put, List.setIfInBounds_toArray, List.set_cons_zero, List.set_cons_succ]
      refine wpAnyH_ready (rs := [7]) (by kernel_rfl) (by simp) ?_
      refine AllReadyH.cons (o := { dst := some 62, op := Op.call { callee := Callee.value (Operand.func 69), args := #[Operand.tmp 60, Operand.tmp 61], argTypes := #[37, 3] }, type := 3, pos := "crash.go:36", after := #[{ on := 5, ground := Ground.data }, { on := 6, ground := Ground.data }], guard := none }) rfl (fun K' hK => ?_) AllReadyH.nil
      go_simp
      refine ATX.out.mono ?_
      rintro e w6 ⟨rfl, rfl⟩
      show K' _ wr.drew
      refine hK.out _ _ om2 (fun hHeld => ?_)
      clear hK K'
      try simp only [Act.put, List.setIfInBounds_toArray, List.set_cons_zero, List.set_cons_succ]
      refine wpAnyH_ready (rs := [8]) (by kernel_rfl) (by simp) ?_
      refine AllReadyH.cons (o := { dst := some 63, op := Op.call { callee := Callee.value (Operand.func 68), args := #[Operand.tmp 55, Operand.tmp 56, Operand.tmp 59, Operand.tmp 62], argTypes := #[40, 9, 102, 3] }, type := 0, pos := "crash.go:36", after := #[{ on := 0, ground := Ground.data }, { on := 1, ground := Ground.data }, { on := 4, ground := Ground.data }, { on := 7, ground := Ground.data }, { on := 7, ground := Ground.chain }], guard := none }) rfl (fun K' hK => ?_) AllReadyH.nil
      go_simp
      refine RSX.out.mono ?_
      rintro e w7 ⟨rfl, ht7, hc7⟩
      have TC7 := Lib.hid (STEP.out w7 ht7 hc7)
      clear ht7 hc7
      show K' _ w7
      refine hK.out _ _ ((om2.chd (M := fun _ => False) (Chd.drew (Chd.refl wr)) (fun e => e)).chd TC7.out.2.2 TC7.out.2.1) (fun hHeld => ?_)
      clear hK K'
      try simp only [Act.put]
      refine wpAnyH_done (by kernel_rfl) ?_ _
      go_wp2
      go_roundw
      case rel => exact ⟨i + 1, by go_num, by omega, TC7.out.1, REL.out.2.trans ((Chd.drew (Chd.refl wr)).trans (TC7.out.2.2.mono fun j _ e => e.imp id fun e => ⟨f, HFL.out, e⟩))⟩
      case measure => simp [intOf]; omega
    · obtain rfl : i = (s.c3 keep).files.length := by omega
      have c6 := (top_of hrel.out.1.top).c6
      have c7 := (top_of hrel.out.1.top).c7
      have f6 := hrel.out.1.top.frozen 6
      have f7 := hrel.out.1.top.frozen 7
      have hT := hrel.out.1
      rw [List.take_length] at hT
      have CE : Chd (fun j => j = tb) wr ((wr.setCell ⟨tb, 6, none⟩ (.int .i64 (-1))).setCell ⟨tb, 7, none⟩ (.bool false)) := (Chd.set wr tb 6 _).trans (Chd.set _ tb 7 _)
      have TE : TreeAt ((wr.setCell ⟨tb, 6, none⟩ (.int .i64 (-1))).setCell ⟨tb, 7, none⟩ (.bool false)) tb { St.restores s.files parts 0 (s.c3 keep).files (s.c3 keep) with fuse := -1, off := false } g3 :=
        hT.retop CE (fun j e => .inl e) ((hT.top.set 6 (.int .i64 (-1))).set 7 (.bool false)) rfl rfl rfl rfl
      have mineT : ∀ j, j < w5.heap.size → Turned tb g3 s.fil.length j → j < w.heap.size → Mine g j := fun j _ e hj => by
        have hjm : j ≠ mb := fun e2 => by have := HSL.out; omega
        show g.tag j ≠ 0
        rw [← HTAG.out j hjm]
        rcases tgT _ e with e | ⟨f, e⟩ <;> omega
      have CF : Chd (Mine g) w ((wr.setCell ⟨tb, 6, none⟩ (.int .i64 (-1))).setCell ⟨tb, 7, none⟩ (.bool false)) :=
        (CW5.out.then_ hrel.out.2 (fun j hj e => mineT j (Nat.lt_of_lt_of_le hj CW5.out.size) e hj)).trans (CE.mono fun j _ e => by rw [e]; exact (mine_cv H.out).1)
      have hle : Gh.le w g g3 := fun j hj => by
        by_cases e : j = mb
        · right; have := HSL.out; omega
        · left; rw [← HTAG.out j e]; exact hj
      have TE' := Lib.hid TE
      have CF' := Lib.hid CF
      have HLE := Lib.hid hle
      clear TE CF hle mineT CE hT hrel tgT htT notT om2
      go_wp2
      go_ret
      exact ⟨rfl, g3, TE'.out, CF'.out, HLE.out⟩
end Go.Proofs.YtiikjdjpodmpcaaGreat

/- Package tree: New, Fuse, Left, Clock, On, Stat. -/
namespace Go.Proofs.YtiikjdjpodmpcaaGreat
open Go.RowKit Go.Maps
set_option linter.unusedVariables false

def Gh.new (B : Nat) : Gh := ⟨B, B + 1, .slice none 0 0, [], fun _ => 0, fun j => if j = B then 2 else if j = B + 1 then 3 else if j = B + 2 then 1 else 0⟩
theorem new_at (w : World) (room : Int) : TreeAt (((w.alloc (.map #[] 0)).alloc (.map #[] 0)).alloc (.cells #[.int .i64 room, .int .i64 0, .int .u64 0, .map (some w.heap.size), .map (some (w.heap.size + 1)), .slice none 0 0, .int .i64 (-1), .bool false] 81)) (w.heap.size + 2) (St.new room) (Gh.new w.heap.size) := by
  have m1 := ((MapAt.made w (fun _ => 0)).chd (M := fun _ => False) (Chd.of_below ((Below.refl _ _).alloc (Nat.le_refl _) (.map #[] 0))) (fun e => e)).chd (M := fun _ => False) (Chd.of_below ((Below.refl _ _).alloc (Nat.le_refl _) (.cells #[.int .i64 room, .int .i64 0, .int .u64 0, .map (some w.heap.size), .map (some (w.heap.size + 1)), .slice none 0 0, .int .i64 (-1), .bool false] 81))) (fun e => e)
  have m2 := (MapAt.made (w.alloc (.map #[] 0)) (fun _ => 0)).chd (M := fun _ => False) (Chd.of_below ((Below.refl _ _).alloc (Nat.le_refl _) (.cells #[.int .i64 room, .int .i64 0, .int .u64 0, .map (some w.heap.size), .map (some (w.heap.size + 1)), .slice none 0 0, .int .i64 (-1), .bool false] 81))) (fun e => e)
  have t := BlkIs.new ((w.alloc (.map #[] 0)).alloc (.map #[] 0)) 81 #[.int .i64 room, .int .i64 0, .int .u64 0, .map (some w.heap.size), .map (some (w.heap.size + 1)), .slice none 0 0, .int .i64 (-1), .bool false]
  rw [World.size_alloc] at m2
  rw [World.size_alloc, World.size_alloc] at t
  exact { top := t
          topT := by show (if w.heap.size + 2 = w.heap.size then 2 else if w.heap.size + 2 = w.heap.size + 1 then 3 else if w.heap.size + 2 = w.heap.size + 2 then 1 else 0) = 1; rw [if_neg (by omega), if_neg (by omega), if_pos rfl]
          mfT := if_pos rfl
          msT := by show (if w.heap.size + 1 = w.heap.size then 2 else if w.heap.size + 1 = w.heap.size + 1 then 3 else _) = 3; rw [if_neg (by omega), if_pos rfl]
          mfA := m1, msA := m2
          row := ⟨rfl, .inl ⟨rfl, rfl⟩⟩
          rowT := fun b hb => by cases hb
          chs := fun i c hi => by simp [St.new] at hi
          fil := fun i hi => by simp [St.new] at hi
          dom := fun j hj => by
            have hj' : (if j = w.heap.size then 2 else if j = w.heap.size + 1 then 3 else if j = w.heap.size + 2 then 1 else 0) ≠ 0 := hj
            rw [World.size_alloc, World.size_alloc, World.size_alloc]
            repeat' split at hj'
            all_goals omega
          apart := by show w.heap.size ≠ w.heap.size + 1; omega }
theorem new_le (B j : Nat) (h : (Gh.new B).tag j ≠ 0) : B ≤ j ∧ j ≤ B + 2 := by
  have hj' : (if j = B then 2 else if j = B + 1 then 3 else if j = B + 2 then 1 else 0) ≠ 0 := h
  repeat' split at hj'
  all_goals omega

theorem new_any (w : World) (room : Int) (h0 : 0 ≤ room) (h1 : room ≤ 67108864) :
    Calls Tryz.prog 17 #[.int .i64 room] w fun e w' => e = .returned (.tuple #[.pointer (some ⟨w.heap.size + 2, 0, none⟩), .int .i64 0]) ∧ TreeAt w' (w.heap.size + 2) (St.new room) (Gh.new w.heap.size) ∧ Nx w w' := by
  have T := Lib.hid (new_at w room)
  have B : Hid (Nx w (((w.alloc (.map #[] 0)).alloc (.map #[] 0)).alloc (.cells #[.int .i64 room, .int .i64 0, .int .u64 0, .map (some w.heap.size), .map (some (w.heap.size + 1)), .slice none 0 0, .int .i64 (-1), .bool false] 81))) := (((Below.refl _ w).alloc (Nat.le_refl _) _).alloc (by simp) _).alloc (by simp; omega) _
  have hmm := @run_makeMap Tryz.prog
  go_enter Tryz.func17, Tryz.ntmps17
  go_wp2
  go_ret2
  exact ⟨rfl, T.out, B.out⟩
theorem new_bad (w : World) (room : Int) (h : room < 0 ∨ 67108864 < room) :
    Calls Tryz.prog 17 #[.int .i64 room] w fun e w' => e = .returned (.tuple #[.pointer none, .int .i64 2]) ∧ w = w' := by
  by_cases h0 : room < 0
  · clear h
    go_enter Tryz.func17, Tryz.ntmps17
    go_wp2
    go_ret2
    exact ⟨rfl, rfl⟩
  · have h1 : 67108864 < room := h.resolve_left h0
    clear h
    go_enter Tryz.func17, Tryz.ntmps17
    go_wp2
    go_ret2
    exact ⟨rfl, rfl⟩

theorem fuse_any (w : World) (tb : Nat) (s : St) (g : Gh) (h : TreeAt w tb s g) (n : Int) :
    Calls Tryz.prog 35 #[.pointer (some ⟨tb, 0, none⟩), .int .i64 n] w fun e w' => e = .returned (.int .i64 0) ∧ TreeAt w' tb (s.fuse_ n) g ∧ Chd (fun j => j = tb) w w' := by
  have V := Lib.hid (valid_any w tb g.mf (top_of h.top).c3)
  have c6 := (top_of h.top).c6
  have f6 := h.top.frozen 6
  have C := Lib.hid (Chd.set w tb 6 (.int .i64 (max n (-1))))
  have T : Hid (TreeAt (w.setCell ⟨tb, 6, none⟩ (.int .i64 (max n (-1)))) tb (s.fuse_ n) g) := h.retop C.out (fun j e => .inl e) (h.top.set 6 (.int .i64 (max n (-1)))) rfl rfl rfl rfl
  clear h
  go_enter Tryz.func35, Tryz.ntmps35
  go_wp2_with fail
  refine V.out.mono ?_
  rintro e w' ⟨rfl, rfl⟩
  go_wp2
  go_ret
  exact ⟨rfl, T.out, C.out⟩
theorem leftM_any (w : World) (tb : Nat) (s : St) (g : Gh) {k : Nat} (hk : k ≤ 1000) (h : TreeAt w tb s g) (ok : Ok k s) :
    Calls Tryz.prog 25 #[.pointer (some ⟨tb, 0, none⟩)] w fun e w' => e = .returned (.int .i64 (s.left_ s.used)) ∧ w = w' := by
  have V := Lib.hid (valid_any w tb g.mf (top_of h.top).c3)
  have c1 := (top_of h.top).c1
  have L := Lib.hid (left_any w tb s g h.top s.used ok.r0 ok.r1 (by have := ok.u0; omega) (by have := ok.u1; omega))
  clear h ok
  generalize s.left_ s.used = lv at *
  go_enter Tryz.func25, Tryz.ntmps25
  go_wp2_with fail
  refine V.out.mono ?_
  rintro e w' ⟨rfl, rfl⟩
  go_wp2_with fail
  refine L.out.mono ?_
  rintro e w' ⟨rfl, rfl⟩
  go_wp2
  go_ret
  exact ⟨rfl, rfl⟩
theorem on_any (w : World) (tb : Nat) (s : St) (g : Gh) (h : TreeAt w tb s g) :
    Calls Tryz.prog 23 #[.pointer (some ⟨tb, 0, none⟩)] w fun e w' => e = .returned (.bool (!s.off)) ∧ w = w' := by
  have V := Lib.hid (valid_any w tb g.mf (top_of h.top).c3)
  have c7 := (top_of h.top).c7
  clear h
  go_enter Tryz.func23, Tryz.ntmps23
  go_wp2_with fail
  refine V.out.mono ?_
  rintro e w' ⟨rfl, rfl⟩
  go_wp2
  go_ret
  exact ⟨rfl, rfl⟩
theorem stat_any (w : World) (tb : Nat) (s : St) (g : Gh) {k : Nat} (h : TreeAt w tb s g) (ok : Ok k s) (p : Str) (hp : p.length ≤ 1000000000000) :
    Calls Tryz.prog 116 #[.pointer (some ⟨tb, 0, none⟩), .string (S p)] w fun e w' => e = .returned (.tuple #[.int .i64 (s.stat p).1, .int .u64 ((s.stat p).2.1 : Int), .bool (s.stat p).2.2]) ∧ ∃ m, w' = w.drewN m := by
  have V := Lib.hid (valid_any w tb g.mf (top_of h.top).c3)
  have c3 := (top_of h.top).c3
  have hlk := lookup_in h.mfA p hp g rfl
  cases hl : look s.files p with
  | none =>
    have e1 : s.stat p = (0, 0, false) := by unfold St.stat; rw [hl]
    rw [hl] at hlk
    unfold optP at hlk
    simp only at hlk
    rw [e1]
    clear h e1 hl hp
    generalize S p = sp at *
    go_enter Tryz.func116, Tryz.ntmps116
    go_wp2_with fail
    refine V.out.mono ?_
    rintro e w' ⟨rfl, rfl⟩
    go_wp2
    go_ret3
    exact ⟨rfl, 0, rfl⟩
  | some f =>
    obtain ⟨A, n, c, A2, n2, c2, hb, ho, _⟩ := (h.file hl ok.fs).ex
    have e1 : s.stat p = ((n : Int), (s.at_ f).st, true) := by unfold St.stat; rw [hl]; simp only; rw [ho.len]
    rw [hl] at hlk
    unfold optP fptr at hlk
    simp only at hlk
    rw [e1]
    have d0 : w.cell? ⟨g.blk f, 0, none⟩ = some (.slice A n c) := by rw [hb.cell]; rfl
    have d2 : w.cell? ⟨g.blk f, 2, none⟩ = some (.int .u64 ((s.at_ f).st : Int)) := by rw [hb.cell]; rfl
    clear h e1 hl hp hb ho
    generalize S p = sp at *
    generalize g.blk f = fb at *
    generalize (s.at_ f).st = st at *
    go_enter Tryz.func116, Tryz.ntmps116
    go_wp2_with fail
    refine V.out.mono ?_
    rintro e w' ⟨rfl, rfl⟩
    go_wp2_with fail
    go_quiet (fail)
    go_wp2
    go_ret3
    exact ⟨rfl, _, rfl⟩
end Go.Proofs.YtiikjdjpodmpcaaGreat

/- Package tree: what k calls keep. -/
namespace Go.Proofs.YtiikjdjpodmpcaaGreat
open Go.RowKit Go.Maps
set_option linter.unusedVariables false

def Sp (s : St) : Prop := (∀ e ∈ s.safe, e.1.length ≤ 10000) ∧ ∀ e ∈ s.files, e.1.length ≤ 10000
structure Good (k : Nat) (s : St) : Prop where
  ok : Ok k s
  sp : Sp s
theorem Good.up {k m : Nat} {s : St} (h : Good k s) (hm : k ≤ m) : Good m s := by
  obtain ⟨d, rfl⟩ : ∃ d, m = k + d := ⟨m - k, by omega⟩
  induction d with
  | zero => exact h
  | succ d ih => exact ⟨(ih (by omega)).ok.more, h.sp⟩
theorem Good.new (room : Int) (h0 : 0 ≤ room) (h1 : room ≤ 67108864) : Good 0 (St.new room) := by
  have ha : ∀ i, ((St.new room).at_ i) = default := fun i => by unfold St.new St.at_; rfl
  exact ⟨⟨fun e he => by simp [St.new] at he, fun e he => by simp [St.new] at he, fun e he => by simp [St.new] at he, h0, h1, by show _ ≤ (0 : Int); omega, by show (0 : Int) ≤ _; omega, Nat.zero_le _, by show (-1 : Int) ≤ -1; omega, by show (-1 : Int) ≤ _; omega, Nat.le_refl _, Nat.le_refl _, Nat.le_refl _, fun i => by rw [ha]; exact Nat.zero_le _, fun i => by rw [ha]; exact Nat.zero_le _⟩, fun e he => by simp [St.new] at he, fun e he => by simp [St.new] at he⟩
theorem Good.begin {k : Nat} {s : St} (h : Good k s) (ps : List Str) : Good k (s.begin_ ps).1 := ⟨h.ok.begin ps, by unfold Sp; rw [(begin_same s ps).2.1, (begin_same s ps).1]; exact h.sp⟩
theorem Good.after {k : Nat} {s s1 : St} {p : Str} {o : List Str} {r : Option Nat} {er : Int} (hf : Found s p o s1 r er) (h : Good k s) : Good k s1 := by
  refine ⟨hf.ok h.ok, ?_⟩
  have := hf.eq
  rw [find_eq] at this
  simp only [Prod.mk.injEq] at this
  unfold Sp
  rw [← this.1, (begin_same s _).2.1, (begin_same s _).1]
  exact h.sp
theorem Ok.record {k : Nat} {s : St} (h : Ok k s) (c : Chg) (hc : c.small s.fil.length) : Ok (k + 1) (s.record c) := by
  have hl := app_length c s.files
  exact { fs := fun e he => by
            rcases mem_app (c := c) (l := s.files) he with h1 | h1
            · exact h.fs e h1
            · cases c with
              | mk p f => simp only [Chg.new, Option.some.injEq] at h1; rw [← h1]; exact hc.2
              | mv p q f => simp only [Chg.new, Option.some.injEq] at h1; rw [← h1]; exact hc.2.2
              | rm p => cases h1
          ss := h.ss
          cs := fun c' hc' => by
            rcases List.mem_append.1 hc' with h1 | h1
            · exact h.cs c' h1
            · rw [List.mem_singleton.1 h1]; exact hc
          r0 := h.r0, r1 := h.r1
          u0 := by have := h.u0; show _ ≤ s.used; omega
          u1 := by have := h.u1; show s.used ≤ _; omega
          ck := by have := h.ck; show s.clock + 1 ≤ _; omega
          f0 := h.f0, f1 := h.f1
          nf := by have := h.nf; show s.fil.length ≤ _; omega
          lf := by have := h.lf; show (c.app s.files).length ≤ _; omega
          ls := by have := h.ls; show s.safe.length + (s.chs ++ [c]).length ≤ _; rw [List.length_append, List.length_singleton]; omega
          sz := fun i => by have := h.sz i; show (s.at_ i).now.length ≤ _; omega
          sy := fun i => by have := h.sy i; show (s.at_ i).sf.length ≤ _; omega }
theorem fp_app {c : Chg} {n : Nat} (hc : c.small n) {l : Dir} (hl : ∀ e ∈ l, e.1.length ≤ 10000) : ∀ e ∈ c.app l, e.1.length ≤ 10000 := fun e he => by
  rcases mem_app he with h | h
  · exact hl e h
  · cases c with
    | mk p f => simp only [Chg.new, Option.some.injEq] at h; rw [← h]; exact hc.1
    | mv p q f => simp only [Chg.new, Option.some.injEq] at h; rw [← h]; exact hc.2.1
    | rm p => cases h
theorem Good.record {k : Nat} {s : St} (h : Good k s) (c : Chg) (hc : c.small s.fil.length) : Good (k + 1) (s.record c) := ⟨h.ok.record c hc, h.sp.1, fp_app hc h.sp.2⟩
theorem Ok.setF {k : Nat} {s s' : St} (h : Ok k s) (f : Nat) (x : Fil) (e1 : s'.fil = s.fil.set f x) (e2 : s'.files = s.files) (e3 : s'.safe = s.safe) (e4 : s'.chs = s.chs) (e5 : s'.room = s.room) (e6 : s'.fuse = s.fuse)
    (hu : -(10000000000 * ((k : Int) + 1)) ≤ s'.used) (hu2 : s'.used ≤ 10000000000 * ((k : Int) + 1)) (hc : s'.clock ≤ s.clock + 1) (h1 : x.now.length ≤ 10000 * (k + 1)) (h2 : x.sf.length ≤ 10000 * (k + 1)) : Ok (k + 1) s' := by
  have hl : s'.fil.length = s.fil.length := by rw [e1, List.length_set]
  exact ⟨by rw [e2, hl]; exact h.fs, by rw [e3, hl]; exact h.ss, by rw [e4, hl]; exact h.cs, by rw [e5]; exact h.r0, by rw [e5]; exact h.r1, by push_cast; exact hu, by push_cast; exact hu2, by have := h.ck; omega, by rw [e6]; exact h.f0, by rw [e6]; exact h.f1,
    by rw [hl]; have := h.nf; omega, by rw [e2]; have := h.lf; omega, by rw [e3, e4]; have := h.ls; omega,
    fun i => at_set2 s s' f x e1 (fun x => x.now.length ≤ 10000 * (k + 1)) h1 (fun i => by have := h.sz i; omega) i, fun i => at_set2 s s' f x e1 (fun x => x.sf.length ≤ 10000 * (k + 1)) h2 (fun i => by have := h.sy i; omega) i⟩
theorem Ok.putB {k : Nat} {s : St} (h : Ok k s) (hk : k ≤ 1000) (f : Nat) (b : Str) (hb : b.length ≤ 10000 * (k + 1)) : Ok (k + 1) (s.putB f b) := by
  have hz := h.sz f
  have hy := h.sy f
  have u0 := h.u0
  have u1 := h.u1
  refine h.setF f { s.at_ f with now := b, st := s.clock + 1 } rfl rfl rfl rfl rfl rfl ?_ ?_ (Nat.le_refl _) hb (by show (s.at_ f).sf.length ≤ _; omega)
  · show _ ≤ s.used + ((b.length : Int) - ((s.at_ f).now.length : Int)); omega
  · show s.used + ((b.length : Int) - ((s.at_ f).now.length : Int)) ≤ _; omega

theorem Good.make {k : Nat} {s : St} (h : Good k s) (p : Str) (hp : p.length ≤ 10000) : Good (k + 2) (s.make p).1 := by
  have hb := h.begin [p]
  obtain ⟨e1, e2, e3, e4, _⟩ := begin_same s [p]
  rw [make_eq]
  split
  · cases look s.files p with
    | some f => exact hb.up (by omega)
    | none =>
      refine Good.record ⟨hb.ok.addF (s.clock + 1), hb.sp⟩ _ ⟨hp, ?_⟩
      show s.fil.length < ((s.begin_ [p]).1.fil ++ [_]).length
      rw [e4]; simp
  · exact hb.up (by omega)
theorem Good.write {k : Nat} {s : St} (h : Good k s) (hk : k ≤ 1000) (p b : Str) (hb : b.length ≤ 10000) : Good (k + 2) (s.write p b).1 := by
  obtain ⟨s1, r, er, hf⟩ := found s p []
  have g := h.after hf
  rw [write_eq s p b hf]
  unfold writeR
  cases r with
  | none => exact g.up (by omega)
  | some f =>
    simp only
    split
    · exact g.up (by omega)
    · exact (⟨g.ok.putB hk f b (by omega), g.sp⟩ : Good (k + 1) _).up (by omega)
theorem Good.append {k : Nat} {s : St} (h : Good k s) (hk : k ≤ 1000) (p b : Str) (hb : b.length ≤ 10000) : Good (k + 2) (s.append_ p b).1 := by
  obtain ⟨s1, r, er, hf⟩ := found s p []
  have g := h.after hf
  rw [append_eq s p b hf]
  unfold appendR
  cases r with
  | none => exact g.up (by omega)
  | some f =>
    simp only
    split
    · exact g.up (by omega)
    · exact (⟨g.ok.putB hk f _ (by rw [List.length_append]; have := g.ok.sz f; omega), g.sp⟩ : Good (k + 1) _).up (by omega)
theorem Good.sync {k : Nat} {s : St} (h : Good k s) (p : Str) : Good (k + 2) (s.sync p).1 := by
  obtain ⟨s1, r, er, hf⟩ := found s p []
  have g := h.after hf
  rw [sync_eq s p hf]
  unfold syncFR
  cases r with
  | none => exact g.up (by omega)
  | some f =>
    have hz := g.ok.sz f
    have u0 := g.ok.u0
    have u1 := g.ok.u1
    have O : Ok (k + 1) (s1.set_ f { s1.at_ f with sf := (s1.at_ f).now }) :=
      g.ok.setF (s' := s1.set_ f { s1.at_ f with sf := (s1.at_ f).now }) f { s1.at_ f with sf := (s1.at_ f).now } rfl rfl rfl rfl rfl rfl (by show _ ≤ s1.used; omega) (by show s1.used ≤ _; omega) (Nat.le_succ _) (by show (s1.at_ f).now.length ≤ _; omega) (by show (s1.at_ f).now.length ≤ _; omega)
    exact (⟨O, g.sp⟩ : Good (k + 1) _).up (by omega)
theorem sp_apps {n : Nat} : ∀ (cs : List Chg) (l : Dir), (∀ c ∈ cs, c.small n) → (∀ e ∈ l, e.1.length ≤ 10000) → ∀ e ∈ apps cs l, e.1.length ≤ 10000 := by
  intro cs
  induction cs with
  | nil => intro l _ hl; exact hl
  | cons c cs ih =>
    intro l hcs hl
    refine ih (c.app l) (fun c' hc' => hcs c' (List.mem_cons_of_mem _ hc')) fun e he => ?_
    rcases mem_app he with h | h
    · exact hl e h
    · have hc := hcs c List.mem_cons_self
      cases c with
      | mk p f => simp only [Chg.new, Option.some.injEq] at h; rw [← h]; exact hc.1
      | mv p q f => simp only [Chg.new, Option.some.injEq] at h; rw [← h]; exact hc.2.1
      | rm p => cases h
theorem Good.settle {k : Nat} {s : St} (h : Good k s) (n : Nat) : Good k (s.settle n) := by
  have hl := apps_length (s.chs.take n) s.safe
  rw [List.length_take] at hl
  have hls := h.ok.ls
  have hm := mem_apps (cs := s.chs.take n) (fun c hc => h.ok.cs c (List.mem_of_mem_take hc)) s.safe h.ok.ss
  exact ⟨⟨h.ok.fs, hm, fun c hc => (by cases hc), h.ok.r0, h.ok.r1, h.ok.u0, h.ok.u1, h.ok.ck, h.ok.f0, h.ok.f1, h.ok.nf, h.ok.lf, (by show (apps (s.chs.take n) s.safe).length + 0 ≤ _; omega), h.ok.sz, h.ok.sy⟩, sp_apps _ s.safe (fun c hc => h.ok.cs c (List.mem_of_mem_take hc)) h.sp.1, h.sp.2⟩
theorem Good.syncPaths {k : Nat} {s : St} (h : Good k s) : Good (k + 2) s.syncPaths.1 := by
  rw [syncPaths_eq]
  unfold syncR
  split
  · exact ((h.begin []).settle _).up (by omega)
  · exact (h.begin []).up (by omega)
theorem Good.free {k : Nat} {s : St} (h : Good k s) (hk : k ≤ 1000) (p : Str) : Good (k + 1) (s.free p) := ⟨h.ok.free hk p, by unfold Sp; rw [(free_same s p).2.2.2.2, (free_same s p).1]; exact h.sp⟩
theorem Good.rename {k : Nat} {s : St} (h : Good k s) (hk : k ≤ 1000) (p q : Str) (hp : p.length ≤ 10000) (hq : q.length ≤ 10000) : Good (k + 2) (s.rename p q).1 := by
  obtain ⟨s1, r, er, hf⟩ := found s p [q]
  have g := h.after hf
  rw [rename_eq s p q hf]
  unfold renameR
  cases r with
  | none => exact g.up (by omega)
  | some f =>
    simp only
    split
    · exact g.up (by omega)
    · refine (g.free hk q).record _ ⟨hp, hq, ?_⟩
      rw [(free_same s1 q).2.1]
      exact hf.lt h.ok f rfl
theorem Good.remove {k : Nat} {s : St} (h : Good k s) (hk : k ≤ 1000) (p : Str) (hp : p.length ≤ 10000) : Good (k + 2) (s.remove p).1 := by
  obtain ⟨s1, r, er, hf⟩ := found s p []
  have g := h.after hf
  rw [remove_eq s p hf]
  unfold removeR
  cases r with
  | none => exact g.up (by omega)
  | some f => exact (g.free hk p).record (.rm p) hp
theorem Good.read {k : Nat} {s : St} (h : Good k s) (p : Str) : Good k (s.read p).1 := by
  obtain ⟨s1, r, er, hf⟩ := found s p []
  have g := h.after hf
  rw [read_eq s p hf]
  unfold readR
  cases r <;> exact g
theorem Good.fuse {k : Nat} {s : St} (h : Good k s) (n : Int) (hn : n ≤ 9223372036854775807) : Good k (s.fuse_ n) :=
  ⟨⟨h.ok.fs, h.ok.ss, h.ok.cs, h.ok.r0, h.ok.r1, h.ok.u0, h.ok.u1, h.ok.ck, by show (-1 : Int) ≤ max n (-1); omega, by show max n (-1) ≤ _; omega, h.ok.nf, h.ok.lf, h.ok.ls, h.ok.sz, h.ok.sy⟩, h.sp⟩
theorem restores_safe (before : Dir) (parts : List Int) : ∀ (l : Dir) (i : Nat) (s : St), (St.restores before parts i l s).safe = s.safe
  | [], _, _ => rfl
  | (p, f) :: r, i, s => by
    show (St.restores before parts (i + 1) r _).safe = _
    rw [restores_safe before parts r (i + 1)]
    obtain ⟨st, _, _, _, _, e5, _⟩ := restore_facts s p f (look before p) (partAt parts i)
    exact e5
theorem Good.crash {k : Nat} {s : St} (h : Good k s) (hk : k + 1 ≤ 1000) (keep : Int) (parts : List Int) : Good (k + 2) (s.crash keep parts) := by
  refine (⟨h.ok.crash hk keep parts, ?_⟩ : Good (k + 1) _).up (by omega)
  rw [crash_eq]
  have hsp := sp_apps (s.chs.take (upTo keep (s.chs.length : Int)).toNat) s.safe (fun c hc => h.ok.cs c (List.mem_of_mem_take hc)) h.sp.1
  have hfl := ((h.ok.mid keep).restores (by omega) s.files parts (s.c3 keep).files _ (Nat.le_refl _)).2.1
  rw [List.take_length] at hfl
  refine ⟨?_, ?_⟩
  · show ∀ e ∈ (St.restores s.files parts 0 (s.c3 keep).files (s.c3 keep)).safe, e.1.length ≤ 10000
    rw [restores_safe]
    exact hsp
  · show ∀ e ∈ (St.restores s.files parts 0 (s.c3 keep).files (s.c3 keep)).files, e.1.length ≤ 10000
    rw [hfl]
    exact hsp
end Go.Proofs.YtiikjdjpodmpcaaGreat

/- Package tree: Paths; and what the laws use beside it: Own, Pick, Texts. -/
namespace Go.Proofs.YtiikjdjpodmpcaaGreat
open Go.RowKit Go.Maps
set_option linter.unusedVariables false

set_option maxRecDepth 100000 in
theorem own_any2 (w : World) (A : Option Addr) (n c : Nat) (b : Str) (h : Arg w A n c b) (hn : n ≤ 100000000) :
    Calls Tryz.prog 14 #[.slice A n c] w fun e w' => ∃ j c2, e = .returned (.slice (some ⟨j, 0, none⟩) n c2) ∧ Own w' w.heap.size (some ⟨j, 0, none⟩) n c2 b ∧ Nx w w' := by
  have b1 : Below w.heap.size w (w.alloc (.cells #[] 5)) := (Below.refl _ w).alloc (Nat.le_refl _) _
  have ho : Own (w.alloc (.cells #[] 5)) w.heap.size (some ⟨w.heap.size, 0, none⟩) 0 0 [] := Own.lit w #[] [] rfl (by simp [maxLen])
  have ha := (h.nx b1).byt
  have HO := Lib.hid ho
  have HA := Lib.hid ha
  have HB := Lib.hid b1
  clear h ho ha b1
  go_enter Tryz.func14, Tryz.ntmps14
  go_wp2_with (at_builtin; refine wpList_byte_append rfl _ _ rfl w.heap.size (some ⟨w.heap.size, 0, none⟩) 0 0 [] rfl HO.out _ A n c b rfl HA.out (by omega) (by simp) ?_; intro A2 c2 w2 ho2 hg2 hat)
  go_ret
  have hj : ∃ j, A2 = some ⟨j, 0, none⟩ := by
    rcases ho2.form with ⟨rfl, _, _⟩ | h
    · rcases hat with h | h <;> cases h
    · exact h
  obtain ⟨j, rfl⟩ := hj
  refine ⟨j, c2, ?_, ?_, ?_⟩
  · simp
  · simpa using ho2
  · have c1 : Chd (fun j => j = w.heap.size) w w2 := (Chd.of_below HB.out).trans (Chd.of_grown hg2)
    exact c1.below (Nat.le_refl _) (fun j hj e => by omega)

theorem neg_lt_tmod (n m : Int) (h : 0 < m) : -m < n.tmod m := by
  have := Int.tmod_lt_of_pos (-n) h
  rw [Int.neg_tmod] at this
  omega
/-- What Pick returns. -/
def pickOf (n m : Int) : Int := if n.tmod m < 0 then n.tmod m + m else n.tmod m
theorem pick_any (n m : Int) (w : World) (h1 : 1 ≤ m) (h2 : m ≤ 4611686018427387904) (h3 : -9223372036854775808 ≤ n) (h4 : n ≤ 9223372036854775807) :
    Calls Tryz.prog 43 #[.int .i64 n, .int .i64 m] w fun e w' => e = .returned (.int .i64 (pickOf n m)) ∧ w = w' := by
  have hm0 : ¬ m = 0 := by omega
  have t1 := Int.tmod_lt_of_pos n (show 0 < m by omega)
  have t2 := neg_lt_tmod n m (by omega)
  unfold pickOf
  by_cases hneg : n.tmod m < 0
  · rw [if_pos hneg]
    go_enter Tryz.func43, Tryz.ntmps43
    go_wp2
    go_ret
    exact ⟨rfl, rfl⟩
  · rw [if_neg hneg]
    go_enter Tryz.func43, Tryz.ntmps43
    go_wp2
    go_ret
    exact ⟨rfl, rfl⟩
theorem pickOf_lo (n m : Int) (h : 1 ≤ m) : 0 ≤ pickOf n m := by
  unfold pickOf
  have := neg_lt_tmod n m (by omega)
  split <;> omega
theorem pickOf_hi (n m : Int) (h : 1 ≤ m) : pickOf n m < m := by
  unfold pickOf
  have := Int.tmod_lt_of_pos n (show 0 < m by omega)
  split <;> omega



theorem filter_take_succ (ps : List Str) (q : Str → Bool) (i : Nat) (p : Str) (h : ps[i]? = some p) : (ps.take (i + 1)).filter q = (ps.take i).filter q ++ (if q p then [p] else []) := by
  rw [List.take_add_one, h, List.filter_append]
  cases e : q p <;> simp [e]
set_option maxRecDepth 100000 in
theorem paths_any (w : World) (tb : Nat) (s : St) (g : Gh) {k : Nat} (hk : k ≤ 1000) (h : TreeAt w tb s g) (ok : Ok k s) (hps : ∀ e ∈ s.files, e.1.length ≤ 10000) (q : Str) :
    Calls Tryz.prog 21 #[.pointer (some ⟨tb, 0, none⟩), .string (S q)] w fun e w' => ∃ A n c, e = .returned (.slice A n c) ∧ StrRow w' w.heap.size A n c (s.paths q) ∧ Nx w w' := by
  obtain ⟨i0, hi, hz0, hz1, hz2⟩ := info_parts string_info
  have V := Lib.hid (valid_any w tb g.mf (top_of h.top).c3)
  have c3 := (top_of h.top).c3
  have SR := Lib.hid (sorted_any w g.mf g.blk s.files h.mfA (by have := ok.lf; omega))
  have HL : Hid (s.files.length ≤ 1000) := by have := ok.lf; show s.files.length ≤ 1000; omega
  have HPS : Hid (∀ p ∈ s.files.map (·.1), p.length ≤ 10000) := fun p hp => by
    obtain ⟨e, he, rfl⟩ := List.mem_map.1 hp
    exact hps e he
  have HP := Lib.hid (fun (s1 p : ByteArray) (W : World) => Tryz.strings_HasPrefix s1 p W)
  have HDEF : Hid (s.paths q = (s.files.map (·.1)).filter fun p => q.isPrefixOf p) := rfl
  clear h ok hps
  generalize hqs : S q = qs at *
  have HQS := Lib.hid hqs
  clear hqs
  generalize hout : s.paths q = out at *
  clear hout
  go_enter Tryz.func21, Tryz.ntmps21
  go_wp2_with fail
  refine V.out.mono ?_
  rintro e w' ⟨rfl, rfl⟩
  go_wp2_with fail
  refine SR.out.mono ?_
  rintro e w1 ⟨A1, c1, rfl, hrow, hb⟩
  have hlen : (s.files.map (·.1)).length = s.files.length := by simp
  obtain ⟨ps, hpse⟩ : ∃ ps, s.files.map (·.1) = ps := ⟨_, rfl⟩
  obtain ⟨N, hN⟩ : ∃ N, s.files.length = N := ⟨_, rfl⟩
  rw [hpse] at hrow HPS HDEF hlen
  rw [hN] at hrow HL hlen ⊢
  have HR := Lib.hid hrow
  have HB := Lib.hid hb
  have HLEN := Lib.hid hlen
  clear hrow hb hlen hpse hN SR V c3
  go_wp2
  go_loopw [5, 17] (fun y x wr => ∃ (i n c : Nat) (A : Option Addr), x = .int .i64 i ∧ y = .slice A n c ∧ i ≤ N ∧ n ≤ i ∧ Hid (StrRow wr w.heap.size A n c ((ps.take i).filter fun p => q.isPrefixOf p) ∧ Nx w wr ∧ StrRow wr w.heap.size A1 N c1 ps ∧ ∀ j, A = some ⟨j, 0, none⟩ → A1 ≠ some ⟨j, 0, none⟩)) (fun _ x _ => N - (intOf x).toNat)
  case atStart => exact ⟨0, 0, 0, none, rfl, rfl, Nat.zero_le _, Nat.zero_le _, ⟨rfl, .inl ⟨rfl, rfl⟩⟩, HB.out, HR.out, fun j e => by cases e⟩
  case round =>
    obtain ⟨i, n, c, A, rfl, rfl, hiN, hni, hrel⟩ := hrel
    have hN := HL.out
    by_cases hlt : i < N
    · obtain ⟨p, hp⟩ : ∃ p, ps[i]? = some p := ⟨_, List.getElem?_eq_getElem (by rw [HLEN.out]; exact hlt)⟩
      obtain ⟨b1, rfl, hbB, hbl, hcell⟩ := row_cell hrel.out.2.2.1 (i := i) (p := p) hlt hp
      have hpl : p.length ≤ 10000 := HPS.out p (List.mem_of_getElem? hp)
      have hstep := filter_take_succ ps (fun p => q.isPrefixOf p) i p hp
      have X : Hid (∀ W, Calls Tryz.prog 53 #[.string (S p), .string qs] W fun e w' => e = .returned (.bool (q.isPrefixOf p)) ∧ w' = W) := fun W => by
        have := HP.out (S p) qs W
        rw [← HQS.out] at this ⊢
        exact this
      have CLN := Lib.hid (fun W => clone_any W (S p) (by rw [S_size]; omega))
      have HST := Lib.hid hstep
      have REL := hrel
      clear hrel hstep hpl hp
      cases hpre : q.isPrefixOf p with
      | false =>
        rw [hpre] at X
        have hst : (ps.take (i + 1)).filter (fun p => q.isPrefixOf p) = (ps.take i).filter fun p => q.isPrefixOf p := by have := HST.out; simp only [hpre] at this; simpa using this
        have HS2 := Lib.hid hst
        clear hst HST hpre
        generalize S p = sp at *
        go_wp2_with fail
        refine (X.out wr).mono ?_
        rintro e w' ⟨rfl, rfl⟩
        clear X CLN
        go_wp2
        go_roundw
        case rel => exact ⟨i + 1, n, c, A, by go_num, rfl, by omega, by omega, by rw [HS2.out]; exact REL.out.1, REL.out.2⟩
        case measure => simp [intOf]; omega
      | true =>
        rw [hpre] at X
        have hst : (ps.take (i + 1)).filter (fun p => q.isPrefixOf p) = ((ps.take i).filter fun p => q.isPrefixOf p) ++ [p] := by have := HST.out; simp only [hpre] at this; simpa using this
        have HS2 := Lib.hid hst
        clear hst HST hpre
        generalize hsp : S p = sp at *
        have HSP := Lib.hid hsp
        clear hsp
        go_wp2_with fail
        refine (X.out wr).mono ?_
        rintro e w' ⟨rfl, rfl⟩
        go_wp2_with fail
        refine (CLN.out w').mono ?_
        rintro e w3 ⟨rfl, hb3⟩
        have hrow3 : (w3.alloc (.cells #[.string sp] 9)).ownsRow w.heap.size 9 1 (.slice A n c) n (strV ((ps.take i).filter fun p => q.isPrefixOf p)) :=
          row_chd (M := fun _ => False) REL.out.1 (Chd.of_below (Nx.trans hb3 ((Below.refl _ w3).alloc (Nat.le_refl _) _))) (fun _ _ e => e)
        have HR3 := Lib.hid hrow3
        have B3 := Lib.hid hb3
        have hBl : w.heap.size ≤ w3.heap.size := Nat.le_trans REL.out.2.1.size hb3.size
        clear hrow3 hb3 X CLN hcell
        go_wp2_with (at_builtin; refine wpList_append_lies _ rfl _ _ 24 rfl w.heap.size 9 i0 (.string ⟨#[]⟩) 1 16 Tryz.underlying24 hi hz0 hz1 hz2 rfl (by decide) (.slice A n c) n _ rfl HR3.out ⟨w3.heap.size, 0, none⟩ 1 1 [.string sp] rfl rfl (cell_one_new _ _ _) (by simp [Value.oneCell']) (by decide) (by unfold maxLen; omega) (by omega) (by simp; omega) _ rfl ?_; intro gb cap w5 hown5 hgrow hat hlt5)
        have C35 : Chd (fun j => (Value.slice A n c).ownBlock = some j) w' w5 := (Chd.of_below (Nx.trans B3.out ((Below.refl _ w3).alloc (Nat.le_refl _) _))).trans (Chd.of_grownBy hgrow)
        have hne : ∀ j, (Value.slice A n c).ownBlock = some j → w.heap.size ≤ j ∧ j < w'.heap.size ∧ j ≠ b1 := fun j e => by
          rcases REL.out.1.2 with ⟨hv, _⟩ | ⟨gq, cq, cur, hv, hB, hg, _⟩
          · rw [hv] at e; cases e
          · rw [hv] at e
            have e2 : gq = j := by simpa [Value.ownBlock] using e
            subst e2
            simp only [Value.slice.injEq] at hv
            refine ⟨hB, (Array.getElem?_eq_some_iff.1 hg).1, fun e3 => ?_⟩
            exact REL.out.2.2.2 gq hv.1 (by rw [e3])
        have hnx : Nx w w5 := by
          have a : Chd (fun _ => False) w w5 := (Chd.of_below REL.out.2.1).then_ C35 (fun j hj e => by have := (hne j e).1; omega)
          exact a.below (Nat.le_refl _) (fun _ _ e => e)
        have hrow1 : StrRow w5 w.heap.size (some ⟨b1, 0, none⟩) N c1 ps := row_chd REL.out.2.2.1 C35 (fun j hj e => by
          have e2 : b1 = j := by simpa [Value.ownBlock] using hj
          exact (hne j e).2.2 e2.symm)
        have hgb : gb ≠ b1 := fun e => by
          rcases hat with h | h
          · exact (hne gb h).2.2 e
          · have h2 : gb = w3.heap.size + 1 := by simpa using h
            have := B3.out.size
            omega
        have hown6 : StrRow w5 w.heap.size (some ⟨gb, 0, none⟩) (n + 1) cap ((ps.take (i + 1)).filter fun p => q.isPrefixOf p) := by
          rw [HS2.out]
          unfold StrRow strV
          rw [List.map_append, List.map_cons, List.map_nil, HSP.out]
          exact hown5
        have ALL : Hid (StrRow w5 w.heap.size (some ⟨gb, 0, none⟩) (n + 1) cap ((ps.take (i + 1)).filter fun p => q.isPrefixOf p) ∧ Nx w w5 ∧ StrRow w5 w.heap.size (some ⟨b1, 0, none⟩) N c1 ps ∧ ∀ j, (some ⟨gb, 0, none⟩ : Option Addr) = some ⟨j, 0, none⟩ → (some ⟨b1, 0, none⟩ : Option Addr) ≠ some ⟨j, 0, none⟩) := ⟨hown6, hnx, hrow1, fun j e e2 => by
          simp only [Option.some.injEq, Addr.mk.injEq, and_true] at e e2
          omega⟩
        clear hown6 hnx hrow1 hgb C35 hne hown5 hgrow hat HR3 B3
        go_roundw
        case rel => exact ⟨i + 1, n + 1, cap, some ⟨gb, 0, none⟩, by go_num, rfl, by omega, by omega, ALL.out⟩
        case measure => simp [intOf]; omega
    · obtain rfl : i = N := by omega
      have hfin : ps.take i = ps := List.take_of_length_le (by rw [HLEN.out]; exact Nat.le_refl _)
      have RR := hrel.out
      rw [hfin] at RR
      have R2 := Lib.hid RR
      clear RR hfin hrel
      go_wp2
      go_ret
      exact ⟨A, n, c, rfl, by rw [HDEF.out]; exact R2.out.1, R2.out.2.1⟩

theorem StrRow.strs {w : World} {B : Nat} {A : Option Addr} {n c : Nat} {ps : List Str} (h : StrRow w B A n c ps) (hn : n ≤ 1000000) : Strs w A n ps := strs_of_row (by
  refine ⟨h.1, h.2.imp id ?_⟩
  rintro ⟨g, cap, cur, e, _, r⟩
  exact ⟨g, cap, cur, e, Nat.zero_le _, r⟩) hn
theorem Strs.drewN {w : World} {A : Option Addr} {n : Nat} {ps : List Str} (h : Strs w A n ps) (m : Nat) : Strs (w.drewN m) A n ps := ⟨h.len, h.le, h.at_⟩
set_option maxRecDepth 100000 in
theorem texts_any (w : World) (A1 A2 : Option Addr) (n1 c1 n2 c2 : Nat) (ps qs : List Str) (h1 : Strs w A1 n1 ps) (h2 : Strs w A2 n2 qs) :
    Calls Tryz.prog 13 #[.slice A1 n1 c1, .slice A2 n2 c2] w fun e w' => e = .returned (.bool (decide (ps = qs))) ∧ ∃ m, w' = w.drewN m := by
  have l1 := h1.len
  have l2 := h2.len
  have e1 := h1.le
  have e2 := h2.le
  have H1 := Lib.hid h1
  have H2 := Lib.hid h2
  by_cases hne : n1 = n2
  · subst hne
    generalize hR : decide (ps = qs) = R
    have HR := Lib.hid hR
    have L1 := Lib.hid l1
    have L2 := Lib.hid l2
    clear h1 h2 hR l1 l2
    go_enter Tryz.func13, Tryz.ntmps13
    go_wp2
    go_loopw [5] (fun x wr => ∃ i : Nat, x = .int .i64 i ∧ i ≤ n1 ∧ Hid (ps.take i = qs.take i ∧ ∃ m, wr = w.drewN m)) (fun x _ => n1 - (intOf x).toNat)
    case atStart => exact ⟨0, rfl, Nat.zero_le _, rfl, 0, rfl⟩
    case round =>
      obtain ⟨i, rfl, hi, hrel⟩ := hrel
      obtain ⟨htk, m, hm⟩ := hrel.out
      by_cases hlt : i < n1
      · obtain ⟨b1, rfl, hb1, hc1⟩ := H1.out.at_ (by omega)
        obtain ⟨b2, rfl, hb2, hc2⟩ := H2.out.at_ (by omega)
        have d1 : wr.cell? ⟨b1, i, none⟩ = some (.string (S (ps.getD i []))) := by rw [hm]; exact hc1 i hlt
        have d2 : wr.cell? ⟨b2, i, none⟩ = some (.string (S (qs.getD i []))) := by rw [hm]; exact hc2 i hlt
        have hpi : ps[i]? = some (ps.getD i []) := by simp [List.getD, List.getElem?_eq_getElem (show i < ps.length by rw [L1.out]; exact hlt)]
        have hqi : qs[i]? = some (qs.getD i []) := by simp [List.getD, List.getElem?_eq_getElem (show i < qs.length by rw [L2.out]; exact hlt)]
        have s1 := S_toList (ps.getD i [])
        have s2 := S_toList (qs.getD i [])
        generalize ps.getD i [] = p at *
        generalize qs.getD i [] = q at *
        by_cases hpq : p = q
        · have hx : ((S p).toList == (S q).toList) = true := by rw [hpq]; simp
          have hnext : ps.take (i + 1) = qs.take (i + 1) := by rw [List.take_add_one, List.take_add_one, htk, hpi, hqi, hpq]
          have HNX := Lib.hid hnext
          have HM := Lib.hid hm
          clear hnext hm htk hpi hqi hc1 hc2 hrel s1 s2 hpq
          generalize S p = sp at *
          generalize S q = sq at *
          go_wp2_with fail
          go_quiet (fail)
          go_wp2
          go_roundw
          case rel => exact ⟨i + 1, by go_num, by omega, HNX.out, _, by rw [HM.out, World.drewN_drewN]⟩
          case measure => simp [intOf]; omega
        · have hx : ((S p).toList == (S q).toList) = false := by rw [s1, s2]; simpa using hpq
          obtain rfl : R = false := by
            rw [← HR.out]
            simp only [decide_eq_false_iff_not]
            intro e
            rw [e, hqi] at hpi
            exact hpq (Option.some.inj hpi).symm
          have HM := Lib.hid hm
          clear hm htk hpi hqi hc1 hc2 hrel s1 s2 hpq
          generalize S p = sp at *
          generalize S q = sq at *
          go_wp2_with fail
          go_quiet (fail)
          go_wp2
          go_ret
          exact ⟨rfl, _, by rw [HM.out, World.drewN_drewN]⟩
      · obtain rfl : i = n1 := by omega
        rw [List.take_of_length_le (by rw [L1.out]; exact Nat.le_refl _), List.take_of_length_le (by rw [L2.out]; exact Nat.le_refl _)] at htk
        obtain rfl : R = true := by rw [← HR.out]; simpa using htk
        have HM := Lib.hid hm
        clear hm htk hrel
        go_wp2
        go_ret
        exact ⟨rfl, m, HM.out⟩
  · have hd : decide (ps = qs) = false := by
      simp only [decide_eq_false_iff_not]
      intro e
      subst e
      omega
    have hx : ((n1 : Int) != (n2 : Int)) = true := by simp; omega
    rw [hd]
    clear h1 h2 H1 H2 l1 l2 hd hne
    go_enter Tryz.func13, Tryz.ntmps13
    go_wp2
    go_ret
    exact ⟨rfl, 0, rfl⟩
end Go.Proofs.YtiikjdjpodmpcaaGreat

/- Package tree: one tree that the call has made: what each of its calls does, with the tree's blocks out of sight. -/
namespace Go.Proofs.YtiikjdjpodmpcaaGreat
open Go.RowKit Go.Maps
set_option linter.unusedVariables false

/-- In W lies a tree in the state s, in blocks made since w; what was there in w is as it was. -/
structure Liv (w : World) (tb : Nat) (s : St) (k : Nat) (W : World) : Prop where
  ex : ∃ g, TreeAt W tb s g ∧ ∀ j, g.tag j ≠ 0 → w.heap.size ≤ j
  nx : Nx w W
  good : Good k s
section
variable {w W0 W : World} {tb k : Nat} {s : St}
theorem Liv.next (h : Liv w tb s k W0) (hn : Nx W0 W) : Liv w tb s k W := by
  obtain ⟨g, hT, h0⟩ := h.ex
  exact ⟨⟨g, hT.nx hn, h0⟩, h.nx.trans hn, h.good⟩
theorem Liv.drewN (h : Liv w tb s k W0) (m : Nat) : Liv w tb s k (W0.drewN m) := h.next (Nx.drewN (Nx.refl _) _)
theorem liv_of {f : FuncId} {args : Array Value} {v : Value} {s' : St} {k' : Nat} (h : Liv w tb s k W0) (hn : Nx W0 W) (hg : Good k' s')
    (hc : ∀ g, TreeAt W tb s g → (∀ j, W0.heap.size ≤ j → g.tag j = 0) → Calls Tryz.prog f args W fun e w' => e = .returned v ∧ ∃ g', TreeAt w' tb s' g' ∧ Chd (Mine g) W w' ∧ Gh.le W g g') :
    Calls Tryz.prog f args W fun e w' => e = .returned v ∧ Liv w tb s' k' w' := by
  obtain ⟨g, hT, h0⟩ := h.ex
  refine (hc g (hT.nx hn) (fun j hj => new_zero hT hj)).mono ?_
  rintro e w' ⟨he, g', hT', hC, hle⟩
  have hs := (h.nx.trans hn).size
  refine ⟨he, ⟨g', hT', fun j hj => ?_⟩, ?_, hg⟩
  · rcases hle j hj with h1 | h1
    · exact h0 j h1
    · omega
  · have c : Chd (fun _ => False) w w' := (Chd.of_below (h.nx.trans hn)).then_ hC (fun j hj e => by have := h0 j e; omega)
    exact c.below (Nat.le_refl _) (fun _ _ e => e)
theorem liv_tb {f : FuncId} {args : Array Value} {R : Ending → World → Prop} {s' : St} {k' : Nat} (h : Liv w tb s k W0) (hn : Nx W0 W) (hg : Good k' s')
    (hc : ∀ g, TreeAt W tb s g → Calls Tryz.prog f args W fun e w' => R e w' ∧ TreeAt w' tb s' g ∧ Chd (fun j => j = tb) W w') :
    Calls Tryz.prog f args W fun e w' => R e w' ∧ Liv w tb s' k' w' := by
  obtain ⟨g, hT, h0⟩ := h.ex
  refine (hc g (hT.nx hn)).mono ?_
  rintro e w' ⟨he, hT', hC⟩
  refine ⟨he, ⟨g, hT', h0⟩, ?_, hg⟩
  have c : Chd (fun _ => False) w w' := (Chd.of_below (h.nx.trans hn)).then_ hC (fun j hj e => by
    have := h0 tb (by rw [hT.topT]; omega)
    omega)
  exact c.below (Nat.le_refl _) (fun _ _ e => e)

theorem liv_make (h : Liv w tb s k W) (hk : k + 1 ≤ 1000) (p : Str) (hp : p.length ≤ 10000) :
    Calls Tryz.prog 103 #[.pointer (some ⟨tb, 0, none⟩), .string (S p)] W fun e w' => e = .returned (.int .i64 (s.make p).2) ∧ Liv w tb (s.make p).1 (k + 2) w' :=
  liv_of h (Nx.refl _) (h.good.make p hp) fun g hT _ => make_any W tb s g hk hT h.good.ok p hp
theorem liv_write (h : Liv w tb s k W0) (hn : Nx W0 W) (hk : k + 1 ≤ 1000) (p : Str) (hp : p.length ≤ 10000) (A : Option Addr) (n c : Nat) (b : Str) (hb : Arg W A n c b) (hbl : b.length ≤ 10000) (hnil : A = none → c = 0) (hA : ∀ j o, A = some ⟨j, o, none⟩ → W0.heap.size ≤ j) :
    Calls Tryz.prog 105 #[.pointer (some ⟨tb, 0, none⟩), .string (S p), .slice A n c] W fun e w' => e = .returned (.int .i64 (s.write p b).2) ∧ Liv w tb (s.write p b).1 (k + 2) w' :=
  liv_of h hn (h.good.write (by omega) p b hbl) fun g hT h0 => write_any W tb s g (by omega) hT h.good.ok p hp A n c b hb hbl hnil fun j o e => h0 j (hA j o e)
theorem liv_append (h : Liv w tb s k W0) (hn : Nx W0 W) (hk : k + 1 ≤ 1000) (p : Str) (hp : p.length ≤ 10000) (A : Option Addr) (n c : Nat) (b : Str) (hb : Arg W A n c b) (hbl : b.length ≤ 10000) (hA : ∀ j o, A = some ⟨j, o, none⟩ → W0.heap.size ≤ j) :
    Calls Tryz.prog 50 #[.pointer (some ⟨tb, 0, none⟩), .string (S p), .slice A n c] W fun e w' => e = .returned (.int .i64 (s.append_ p b).2) ∧ Liv w tb (s.append_ p b).1 (k + 2) w' :=
  liv_of h hn (h.good.append (by omega) p b hbl) fun g hT h0 => append_any W tb s g (by omega) hT h.good.ok p hp A n c b hb hbl fun j o e => h0 j (hA j o e)
theorem liv_sync (h : Liv w tb s k W) (hk : k + 1 ≤ 1000) (p : Str) (hp : p.length ≤ 10000) :
    Calls Tryz.prog 62 #[.pointer (some ⟨tb, 0, none⟩), .string (S p)] W fun e w' => e = .returned (.int .i64 (s.sync p).2) ∧ Liv w tb (s.sync p).1 (k + 2) w' :=
  liv_of h (Nx.refl _) (h.good.sync p) fun g hT _ => sync_any W tb s g (by omega) hT h.good.ok p hp
theorem liv_syncPaths (h : Liv w tb s k W) (hk : k + 1 ≤ 1000) :
    Calls Tryz.prog 109 #[.pointer (some ⟨tb, 0, none⟩)] W fun e w' => e = .returned (.int .i64 s.syncPaths.2) ∧ Liv w tb s.syncPaths.1 (k + 2) w' :=
  liv_of h (Nx.refl _) h.good.syncPaths fun g hT _ => syncPaths_any W tb s g (by omega) hT h.good.ok
theorem liv_rename (h : Liv w tb s k W) (hk : k + 1 ≤ 1000) (p q : Str) (hp : p.length ≤ 10000) (hq : q.length ≤ 10000) :
    Calls Tryz.prog 108 #[.pointer (some ⟨tb, 0, none⟩), .string (S p), .string (S q)] W fun e w' => e = .returned (.int .i64 (s.rename p q).2) ∧ Liv w tb (s.rename p q).1 (k + 2) w' :=
  liv_of h (Nx.refl _) (h.good.rename (by omega) p q hp hq) fun g hT _ => rename_any W tb s g hk hT h.good.ok p q hp hq
theorem liv_remove (h : Liv w tb s k W) (hk : k + 1 ≤ 1000) (p : Str) (hp : p.length ≤ 10000) :
    Calls Tryz.prog 132 #[.pointer (some ⟨tb, 0, none⟩), .string (S p)] W fun e w' => e = .returned (.int .i64 (s.remove p).2) ∧ Liv w tb (s.remove p).1 (k + 2) w' :=
  liv_of h (Nx.refl _) (h.good.remove (by omega) p hp) fun g hT _ => remove_any W tb s g hk hT h.good.ok p hp
theorem liv_crash (h : Liv w tb s k W0) (hn : Nx W0 W) (hk : k + 1 ≤ 1000) (keep : Int) (hkeep : keep ≤ 9223372036854775807) (A : Option Addr) (n c : Nat) (parts : List Int) (hN : Nums W A n c parts) (hA : ∀ j o, A = some ⟨j, o, none⟩ → W0.heap.size ≤ j) :
    Calls Tryz.prog 36 #[.pointer (some ⟨tb, 0, none⟩), .int .i64 keep, .slice A n c] W fun e w' => e = .returned (.int .i64 0) ∧ Liv w tb (s.crash keep parts) (k + 2) w' :=
  liv_of h hn (h.good.crash hk keep parts) fun g hT h0 => crash_any W tb s g hk hT h.good.ok h.good.sp.1 keep hkeep A n c parts hN fun j o e => h0 j (hA j o e)
theorem liv_fuse (h : Liv w tb s k W) (n : Int) (hn : n ≤ 9223372036854775807) :
    Calls Tryz.prog 35 #[.pointer (some ⟨tb, 0, none⟩), .int .i64 n] W fun e w' => e = .returned (.int .i64 0) ∧ Liv w tb (s.fuse_ n) k w' :=
  liv_tb h (Nx.refl _) (h.good.fuse n hn) fun g hT => (fuse_any W tb s g hT n)
theorem liv_read (h : Liv w tb s k W) (hk : k + 1 ≤ 1000) (p : Str) (hp : p.length ≤ 10000) :
    Calls Tryz.prog 72 #[.pointer (some ⟨tb, 0, none⟩), .string (S p)] W fun e w' => (∃ A n c, e = .returned (.tuple #[.slice A n c, .int .i64 (s.read p).2.2]) ∧ Own w' W.heap.size A n c (s.read p).2.1) ∧ Liv w tb (s.read p).1 k w' :=
  liv_tb h (Nx.refl _) (h.good.read p) fun g hT => (read_any W tb s g (by omega) hT h.good.ok p hp).mono fun e w' ⟨A, n, c, e1, e2, e3, e4⟩ => ⟨⟨A, n, c, e1, e2⟩, e3, e4⟩
theorem liv_stat (h : Liv w tb s k W) (p : Str) (hp : p.length ≤ 10000) :
    Calls Tryz.prog 116 #[.pointer (some ⟨tb, 0, none⟩), .string (S p)] W fun e w' => e = .returned (.tuple #[.int .i64 (s.stat p).1, .int .u64 ((s.stat p).2.1 : Int), .bool (s.stat p).2.2]) ∧ Liv w tb s k w' := by
  obtain ⟨g, hT, h0⟩ := h.ex
  exact (stat_any W tb s g hT h.good.ok p (by omega)).mono fun e w' ⟨he, m, hm⟩ => ⟨he, by rw [hm]; exact h.drewN m⟩
theorem liv_left (h : Liv w tb s k W) (hk : k + 1 ≤ 1000) :
    Calls Tryz.prog 25 #[.pointer (some ⟨tb, 0, none⟩)] W fun e w' => e = .returned (.int .i64 (s.left_ s.used)) ∧ W = w' := by
  obtain ⟨g, hT, h0⟩ := h.ex
  exact leftM_any W tb s g (by omega) hT h.good.ok
theorem liv_on (h : Liv w tb s k W) :
    Calls Tryz.prog 23 #[.pointer (some ⟨tb, 0, none⟩)] W fun e w' => e = .returned (.bool (!s.off)) ∧ W = w' := by
  obtain ⟨g, hT, h0⟩ := h.ex
  exact on_any W tb s g hT
theorem liv_paths (h : Liv w tb s k W) (hk : k + 1 ≤ 1000) (q : Str) :
    Calls Tryz.prog 21 #[.pointer (some ⟨tb, 0, none⟩), .string (S q)] W fun e w' => (∃ A n c, e = .returned (.slice A n c) ∧ Strs w' A n (s.paths q)) ∧ Nx W w' := by
  obtain ⟨g, hT, h0⟩ := h.ex
  refine (paths_any W tb s g (by omega) hT h.good.ok h.good.sp.2 q).mono fun e w' ⟨A, n, c, e1, e2, e3⟩ => ⟨⟨A, n, c, e1, e2.strs ?_⟩, e3⟩
  have h1 := e2.1
  have h2 : (s.paths q).length ≤ s.files.length := by unfold St.paths; have := List.length_filter_le (fun p => q.isPrefixOf p) (s.files.map (·.1)); rw [List.length_map] at this; exact this
  have h3 := h.good.ok.lf
  simp only [strV, List.length_map] at h1
  omega
theorem liv_new (room : Int) (h0 : 0 ≤ room) (h1 : room ≤ 67108864) (hn : Nx w W) :
    Calls Tryz.prog 17 #[.int .i64 room] W fun e w' => e = .returned (.tuple #[.pointer (some ⟨W.heap.size + 2, 0, none⟩), .int .i64 0]) ∧ Liv w (W.heap.size + 2) (St.new room) 0 w' :=
  (new_any W room h0 h1).mono fun e w' ⟨a, b, c⟩ => ⟨a, ⟨⟨_, b, fun j hj => by have := (new_le _ _ hj).1; have := hn.size; omega⟩, hn.trans c, Good.new room h0 h1⟩⟩
end
end Go.Proofs.YtiikjdjpodmpcaaGreat

/- Literals of bytes, numbers and strings, as the trees' calls take them. -/
namespace Go.Proofs.YtiikjdjpodmpcaaGreat
open Go.RowKit Go.Maps
set_option linter.unusedVariables false

theorem arg_const (W : World) (C : Array Value) (b : Str) (n : Nat) (h : C.toList = bvs b) (hn : b.length = n) (hm : n ≤ 1000000) : Arg (W.alloc (.cells C 5 (n, n + 1))) (some ⟨W.heap.size, 0, none⟩) n n b :=
  ⟨hn, Nat.le_refl _, by unfold maxLen; omega, fun _ => ⟨W.heap.size, 0, rfl, by simp, fun i hi => by
    rw [cell_of_row _ W.heap.size (0 + i) C 5 (n, n + 1) (heap_alloc_new W _), Nat.zero_add, ← Array.getElem?_toList, h]
    exact bvs_get b i (by omega)⟩⟩
theorem nums_nil (W : World) : Nums W none 0 0 [] := ⟨rfl, Nat.zero_le _, fun i => by simp, fun e => by omega⟩
theorem nums_lit1 (W : World) (x : Int) (hx : x ≤ 9223372036854775807) : Nums (W.alloc (.cells #[.int .i64 x] 3)) (some ⟨W.heap.size, 0, none⟩) 1 1 [x] :=
  ⟨rfl, by decide, fun i => by
    rcases i with _ | i
    · exact hx
    · simp [List.getD], fun _ => ⟨W.heap.size, 0, rfl, by simp, fun i hi => by
    obtain rfl : i = 0 := by omega
    rw [(BlkIs.new W 3 #[.int .i64 x]).cell]; rfl⟩⟩
theorem strs_two (W : World) (a b : Str) : Strs (W.alloc (.cells #[.string (S a), .string (S b)] 9)) (some ⟨W.heap.size, 0, none⟩) 2 [a, b] :=
  ⟨rfl, by decide, fun _ => ⟨W.heap.size, rfl, by simp, fun j hj => by
    rw [(BlkIs.new W 9 #[.string (S a), .string (S b)]).cell]
    obtain rfl | rfl : j = 0 ∨ j = 1 := by omega
    · rfl
    · rfl⟩⟩
end Go.Proofs.YtiikjdjpodmpcaaGreat

/- Plain mathematics of the wire layer: groups of seven bits, Adler's sum, words of four bytes. Nothing of the program is named here. -/
namespace Go.Proofs.YtiikjdjpodmpcaaGreat

/-! ### Numbers in groups of seven bits -/
/-- The groups but the last one, the lowest first (at most f of them). -/
def grp : Nat → Nat → List UInt8
  | 0, _ => []
  | f + 1, x => if x = 0 then [] else UInt8.ofNat (128 + x % 128) :: grp f (x / 128)
/-- A number's bytes, the highest group first. -/
def enc (x : Nat) : List UInt8 := (UInt8.ofNat (x % 128) :: grp 9 (x / 128)).reverse

theorem grp_zero (f : Nat) : grp f 0 = [] := by cases f <;> simp [grp]
theorem grp_succ (f x : Nat) (h : 0 < x) : grp (f + 1) x = UInt8.ofNat (128 + x % 128) :: grp f (x / 128) := by
  rw [grp, if_neg (by omega)]
theorem grp_length (f x : Nat) : (grp f x).length ≤ f := by
  induction f generalizing x with
  | zero => simp [grp]
  | succ f ih => rw [grp]; split
                 · simp
                 · have := ih (x / 128); simp; omega
theorem enc_length (x : Nat) : (enc x).length ≤ 10 := by
  have := grp_length 9 (x / 128)
  simp [enc]
  omega
theorem ofNat_toNat (n : Nat) (h : n < 256) : (UInt8.ofNat n).toNat = n := by simp; omega

/-! ### Adler's sum -/
/-- The sum of the bytes. -/
def sumN : List UInt8 → Nat
  | [] => 0
  | b :: r => b.toNat + sumN r
/-- The sum of the sums of all prefixes that have a byte. -/
def sumS : List UInt8 → Nat
  | [] => 0
  | b :: r => (r.length + 1) * b.toNat + sumS r
theorem sumN_append (l m : List UInt8) : sumN (l ++ m) = sumN l + sumN m := by
  induction l with
  | nil => simp [sumN]
  | cons b r ih => simp [sumN, ih]; omega
theorem sumS_append (l m : List UInt8) : sumS (l ++ m) = sumS l + m.length * sumN l + sumS m := by
  induction l with
  | nil => simp [sumS, sumN]
  | cons b r ih =>
    simp only [List.cons_append, sumS, sumN, ih, List.length_append]
    rw [Nat.mul_add m.length, show r.length + m.length + 1 = (r.length + 1) + m.length by omega, Nat.add_mul]
    omega
theorem sumN_le (l : List UInt8) : sumN l ≤ 255 * l.length := by
  induction l with
  | nil => simp [sumN]
  | cons b r ih => have := b.toNat_lt; simp [sumN]; omega
theorem sumS_le (l : List UInt8) : sumS l ≤ 255 * l.length * l.length := by
  induction l with
  | nil => simp [sumS]
  | cons b r ih =>
    have hb := b.toNat_lt
    simp only [sumS, List.length_cons]
    have h1 : (r.length + 1) * b.toNat ≤ (r.length + 1) * 255 := Nat.mul_le_mul_left _ (by omega)
    have h2 : 255 * (r.length + 1) * (r.length + 1) = 255 * r.length * r.length + 255 * r.length + 255 * (r.length + 1) := by
      rw [Nat.mul_add 255, Nat.mul_add, Nat.add_mul]
      omega
    omega
/-- The two halves, not yet reduced, and the checksum. -/
def lowN (l : List UInt8) : Nat := 1 + sumN l
def highN (l : List UInt8) : Nat := l.length + sumS l
def adl (l : List UInt8) : Nat := highN l % 65521 * 65536 + lowN l % 65521
theorem lowN_snoc (l : List UInt8) (b : UInt8) : lowN (l ++ [b]) = lowN l + b.toNat := by simp [lowN, sumN_append, sumN]; omega
theorem highN_snoc (l : List UInt8) (b : UInt8) : highN (l ++ [b]) = highN l + lowN (l ++ [b]) := by
  simp [highN, lowN, sumN_append, sumS_append, sumN, sumS]; omega
theorem chk_lt (l : List UInt8) : adl l < 4294967296 := by unfold adl; omega

/-! ### Words of four bytes, the highest first -/
def w4 (x : Nat) : List UInt8 := [UInt8.ofNat (x / 16777216), UInt8.ofNat (x / 65536 % 256), UInt8.ofNat (x / 256 % 256), UInt8.ofNat (x % 256)]
/-- The number of bytes that come, behind x (modulo 2^32). -/
def be : Nat → List UInt8 → Nat
  | x, [] => x
  | x, b :: r => be (x * 256 % 4294967296 + b.toNat) r
theorem be_snoc (x : Nat) (l : List UInt8) (b : UInt8) : be x (l ++ [b]) = be x l * 256 % 4294967296 + b.toNat := by
  induction l generalizing x with
  | nil => simp [be]
  | cons a r ih => simp [be, ih]
theorem be_lt (x : Nat) (h : x < 4294967296) (l : List UInt8) : be x l < 4294967296 := by
  induction l generalizing x with
  | nil => exact h
  | cons a r ih => exact ih _ (by have := a.toNat_lt; omega)
theorem be_w4 (x : Nat) (h : x < 4294967296) : be 0 (w4 x) = x := by
  simp [be, w4]
  omega
theorem w4_length (x : Nat) : (w4 x).length = 4 := rfl
theorem take_snoc' (l : List UInt8) (k : Nat) (h : k < l.length) : l.take (k + 1) = l.take k ++ [l[k]] := by
  rw [List.take_succ_eq_append_getElem h]

/-! ### Reading a number: its value, how many bytes it has, the error (4: bad, 5: more) -/
def numGo (x i : Nat) : List UInt8 → Nat × Nat × Nat
  | [] => (0, 0, 5)
  | c :: r =>
    if i = 0 ∧ c.toNat = 128 then (0, 0, 4)
    else if c.toNat < 128 then (x * 128 + c.toNat, i + 1, 0)
    else if 144115188075855871 < x * 128 + c.toNat % 128 then (0, 0, 4)
    else numGo (x * 128 + c.toNat % 128) (i + 1) r
def num (l : List UInt8) : Nat × Nat × Nat := numGo 0 0 l
theorem numGo_le (l : List UInt8) (x i : Nat) (h : (numGo x i l).2.2 = 0) : i < (numGo x i l).2.1 ∧ (numGo x i l).2.1 ≤ i + l.length := by
  induction l generalizing x i with
  | nil => simp [numGo] at h
  | cons c r ih =>
    unfold numGo at h ⊢
    split
    · next h1 => rw [if_pos h1] at h; simp at h
    · next h1 =>
      rw [if_neg h1] at h
      split
      · simp
      · next h2 =>
        rw [if_neg h2] at h
        split
        · next h3 => rw [if_pos h3] at h; simp at h
        · next h3 =>
          rw [if_neg h3] at h
          have := ih _ _ h
          simp only [List.length_cons]
          omega
theorem numGo_lt (l : List UInt8) (x i : Nat) (hx : x ≤ 144115188075855871) : (numGo x i l).1 < 18446744073709551616 := by
  induction l generalizing x i with
  | nil => simp [numGo]
  | cons c r ih =>
    unfold numGo
    split
    · simp
    · split
      · simp only; omega
      · split
        · simp
        · exact ih _ _ (by omega)
theorem num_le (l : List UInt8) (h : (num l).2.2 = 0) : 0 < (num l).2.1 ∧ (num l).2.1 ≤ l.length := by
  have := numGo_le l 0 0 h
  unfold num
  omega
theorem num_lt (l : List UInt8) : (num l).1 < 18446744073709551616 := numGo_lt l 0 0 (by omega)
theorem numGo_err (l : List UInt8) (x i : Nat) (h : (numGo x i l).2.2 ≠ 0) : (numGo x i l).1 = 0 ∧ (numGo x i l).2.1 = 0 ∧ ((numGo x i l).2.2 = 4 ∨ (numGo x i l).2.2 = 5) := by
  induction l generalizing x i with
  | nil => simp [numGo]
  | cons c r ih =>
    unfold numGo at h ⊢
    split
    · simp
    · next h1 =>
      rw [if_neg h1] at h
      split
      · next h2 => rw [if_pos h2] at h; simp at h
      · next h2 =>
        rw [if_neg h2] at h
        split
        · simp
        · next h3 =>
          rw [if_neg h3] at h
          exact ih _ _ h
theorem num_err (l : List UInt8) (h : (num l).2.2 ≠ 0) : (num l).1 = 0 ∧ (num l).2.1 = 0 ∧ ((num l).2.2 = 4 ∨ (num l).2.2 = 5) := numGo_err l 0 0 h

/-! ### Reading a piece: its bytes, how many bytes were read, the error -/
def pcs (l : List UInt8) : List UInt8 × Nat × Nat :=
  if (num l).2.2 ≠ 0 then ([], 0, (num l).2.2)
  else if 1048576 < (num l).1 then ([], 0, 3)
  else if l.length - (num l).2.1 < (num l).1 then ([], 0, 5)
  else ((l.drop (num l).2.1).take (num l).1, (num l).2.1 + (num l).1, 0)
/-- Reading a number that is at most m: its value, how many bytes were read, the error. -/
def cnt (m : Nat) (l : List UInt8) : Nat × Nat × Nat :=
  if (num l).2.2 ≠ 0 then (0, 0, (num l).2.2)
  else if m < (num l).1 then (0, 0, 3)
  else ((num l).1, (num l).2.1, 0)
theorem pcs_le (l : List UInt8) : (pcs l).2.1 ≤ l.length := by
  unfold pcs
  split
  · simp
  · next h =>
    have := num_le l (by simpa using h)
    split
    · simp
    · split
      · simp
      · simp only; omega
theorem cnt_le (m : Nat) (l : List UInt8) : (cnt m l).2.1 ≤ l.length := by
  unfold cnt
  split
  · simp
  · next h =>
    have := num_le l (by simpa using h)
    split
    · simp
    · simp only; omega
end Go.Proofs.YtiikjdjpodmpcaaGreat

/- Walks of package wire's functions that call no others: the halves of checksums, words of four bytes, groups of seven bits, Reverse. -/
namespace Go.Proofs.YtiikjdjpodmpcaaGreat
open Go.RowKit

theorem ret_num {k : IntKind} {a b : Int} (h : a = b) : Ending.returned (.int k a) = .returned (.int k b) := by rw [h]

theorem or_add (a b : Nat) (k : Nat) (h : b < 2 ^ k) : (a * 2 ^ k) ||| b = a * 2 ^ k + b := by
  rw [Nat.mul_comm]
  exact (Nat.two_pow_add_eq_or_of_lt h a).symm
theorem or_shift (hi lo : Int) (h1 : 0 ≤ lo) (h2 : lo < 65536) (h3 : 0 ≤ hi) (h4 : hi < 281474976710656) : bits .or .u64 (hi * 65536) lo = hi * 65536 + lo := by
  obtain ⟨lo, rfl⟩ := Int.eq_ofNat_of_zero_le h1
  obtain ⟨hi, rfl⟩ := Int.eq_ofNat_of_zero_le h3
  have e : ((hi : Int) * 65536) = ((hi * 2 ^ 16 : Nat) : Int) := by omega
  rw [e, u64_or_nat _ _ (by omega) (by omega), or_add _ _ _ (by omega)]
  omega
theorem or_byte (x b : Nat) (h2 : b < 256) : bits .or .u32 ((x : Int) * 256 % 4294967296) (b : Int) = ((x * 256 % 4294967296 + b : Nat) : Int) := by
  have e : ((x : Int) * 256 % 4294967296) = ((x % 16777216 * 2 ^ 8 : Nat) : Int) := by omega
  rw [e, u32_or_nat _ _ (by omega) (by omega), or_add _ _ _ (by omega)]
  omega
theorem and_low (x : Nat) (h : x < 4294967296) : bits .and .u32 (x : Int) 65535 = ((x % 65536 : Nat) : Int) := by
  have := u32_and_nat x 65535 h (by decide)
  rw [show ((65535 : Nat) : Int) = 65535 from rfl] at this
  rw [this, show (65535 : Nat) = 2 ^ 16 - 1 by decide, Nat.and_two_pow_sub_one_eq_mod]

theorem checksum_any (lo hi : Int) (w : World) (h1 : 0 ≤ lo) (h2 : lo < 65521) (h3 : 0 ≤ hi) (h4 : hi < 65521) :
    Calls Tryz.prog 114 #[.int .u64 lo, .int .u64 hi] w fun e w' => e = .returned (.int .u32 (hi * 65536 + lo)) ∧ w = w' := by
  have hb := or_shift hi lo h1 (by omega) h3 (by omega)
  go_enter Tryz.func114, Tryz.ntmps114
  go_wp2
  go_ret
  exact ⟨ret_num (by omega), rfl⟩

theorem bigEndian_any (x : Nat) (w : World) (h2 : x < 4294967296) :
    Calls Tryz.prog 99 #[.int .u32 x] w fun e w' => e = .returned (.slice (some ⟨w.heap.size, 0, none⟩) 4 4) ∧ Own w' w.heap.size (some ⟨w.heap.size, 0, none⟩) 4 4 (w4 x) ∧ Below w.heap.size w w' ∧ w'.heap.size = w.heap.size + 1 := by
  go_enter Tryz.func99, Tryz.ntmps99
  go_wp2
  go_ret
  refine ⟨rfl, Own.lit w _ (w4 x) ?_ (by rw [w4_length]; decide), (Below.refl _ _).alloc (Nat.le_refl _) _, by simp⟩
  simp [bvs, w4]
  omega

theorem fromBigEndian_any (w : World) (B : Nat) (A : Option Addr) (n c : Nat) (l : List UInt8) (h : Byt w B A n c l) :
    Calls Tryz.prog 70 #[.slice A n c] w fun e w' => e = .returned (.int .u32 (be 0 l : Nat)) ∧ w = w' := by
  have hcap := h.cap
  have hle := h.le
  have hlen := h.len
  unfold maxLen at hcap
  go_enter Tryz.func70, Tryz.ntmps70
  go_wp2
  go_loop [3, 8] (fun x i => ∃ k : Nat, k ≤ n ∧ i = .int .i64 k ∧ x = .int .u32 (be 0 (l.take k) : Nat)) (fun _ i => n - (intOf i).toNat)
  case atStart => exact ⟨0, Nat.zero_le _, rfl, rfl⟩
  case round =>
    obtain ⟨k, hk, rfl, rfl⟩ := hrel
    by_cases hlt : k < n
    · obtain ⟨b, o, rfl, _, hc⟩ := h.lies (by omega)
      have hck := hc k hlt
      have hb0 := nth_lo l k
      have hb1 := nth_hi l k
      have hx := be_lt 0 (by decide) (l.take k)
      have hkl : k < l.length := by omega
      have hor := or_byte (be 0 (l.take k)) l[k].toNat (UInt8.toNat_lt _)
      rw [← nth_eq l k hkl] at hor
      have HS : Hid (((be 0 (l.take k) * 256 % 4294967296 + l[k].toNat : Nat) : Int) = ((be 0 (l.take (k + 1)) : Nat) : Int)) := by
        unfold Hid
        rw [take_snoc' l k hkl, be_snoc]
      clear hc hlen h
      go_wp2
      go_round
      case rel => exact ⟨k + 1, by omega, by go_num, by rw [← HS.out]; go_num⟩
      case measure => simp [intOf]; omega
    · go_wp2
      go_ret
      exact ⟨by rw [List.take_of_length_le (by omega)]; rfl, rfl⟩

/-! ### Groups of seven bits -/
theorem Own.alloc {w : World} {B n c : Nat} {A : Option Addr} {l : List UInt8} (h : Own w B A n c l) (o : Obj) : Own (w.alloc o) B A n c l := World.ownsRow.alloc h o
/-- A row laid by a literal reads as its bytes. -/
theorem Byt.lit (w : World) (cs : Array Value) (l : List UInt8) (h : cs.toList = bvs l) (hm : l.length ≤ maxLen) : Byt (w.alloc (.cells cs 5)) (w.heap.size + 1) (some ⟨w.heap.size, 0, none⟩) l.length l.length l := by
  have := (Own.lit w cs l h hm).byt
  simpa using this
theorem own_lo {w w' : World} {B n c n' c' : Nat} {A A' : Option Addr} {l : List UInt8} (h : Own w B A n c l)
    (hat : (Value.slice A' n' c').ownBlock = (Value.slice A n c).ownBlock ∨ (Value.slice A' n' c').ownBlock = some w'.heap.size) (hB : B ≤ w'.heap.size) :
    ∀ k, (Value.slice A' n' c').ownBlock = some k → B ≤ k := by
  intro k hk
  rcases hat with e | e
  · rw [e] at hk
    exact (World.ownsRow.lt h k hk).1
  · rw [e] at hk
    injection hk with hk
    omega

/-- What a round of 'groups' finds: l has the groups so far, and f more may come. -/
def GRel (w wr : World) (x0 x1 : Nat) (A : Option Addr) (n c : Nat) : Prop :=
  ∃ (f : Nat) (l : List UInt8), Own wr w.heap.size A n c l ∧ Below w.heap.size w wr ∧ l ++ grp f x1 = UInt8.ofNat (x0 % 128) :: grp 9 (x0 / 128) ∧ x1 < 128 ^ f ∧ n + f ≤ 10
theorem GRel.start (w : World) (x0 : Nat) (h : x0 < 18446744073709551616) :
    GRel w (w.alloc (.cells #[.int .u8 ((x0 : Int) % 128)] 5)) x0 (x0 / 128) (some ⟨w.heap.size, 0, none⟩) 1 1 := by
  refine ⟨9, [UInt8.ofNat (x0 % 128)], Own.lit w _ [UInt8.ofNat (x0 % 128)] ?_ (by simp [maxLen]), (Below.refl _ _).alloc (Nat.le_refl _) _, rfl, by omega, by omega⟩
  simp [bvs]
  omega
theorem GRel.size {w wr : World} {x0 x1 : Nat} {A : Option Addr} {n c : Nat} (h : GRel w wr x0 x1 A n c) : w.heap.size ≤ wr.heap.size := by
  obtain ⟨f, l, _, hb, _⟩ := h
  exact hb.size
theorem GRel.step {w wr : World} {x0 x1 : Nat} {A : Option Addr} {n c : Nat} (h : GRel w wr x0 x1 A n c) (hx : 0 < x1) :
    ∃ l, Own (wr.alloc (.cells #[.int .u8 (128 + (x1 : Int) % 128)] 5)) w.heap.size A n c l ∧ n ≤ 10 ∧
      Byt (wr.alloc (.cells #[.int .u8 (128 + (x1 : Int) % 128)] 5)) (wr.heap.size + 1) (some ⟨wr.heap.size, 0, none⟩) 1 1 [UInt8.ofNat (128 + x1 % 128)] ∧
      ∀ (A' : Option Addr) (c' : Nat) (w' : World), Own w' w.heap.size A' (n + 1) c' (l ++ [UInt8.ofNat (128 + x1 % 128)]) →
        (wr.alloc (.cells #[.int .u8 (128 + (x1 : Int) % 128)] 5)).grownBy w' (Value.slice A n c).ownBlock → GRel w w' x0 (x1 / 128) A' (n + 1) c' := by
  obtain ⟨f, l, ho, hb, he, hp, hf⟩ := h
  obtain ⟨f, rfl⟩ : ∃ g, f = g + 1 := by
    cases f with
    | zero => simp at hp; omega
    | succ g => exact ⟨g, rfl⟩
  refine ⟨l, ho.alloc _, by omega, Byt.lit wr _ [UInt8.ofNat (128 + x1 % 128)] ?_ (by simp [maxLen]), fun A' c' w' h1 h2 => ⟨f, _, h1, ?_, ?_, ?_, by omega⟩⟩
  · simp [bvs]
    omega
  · exact (hb.alloc hb.size _).grown h2 (by simp; have := hb.size; omega) fun k hk => (World.ownsRow.lt ho k hk).1
  · rw [grp_succ f x1 hx] at he
    rw [List.append_assoc]
    exact he
  · rw [Nat.pow_succ] at hp
    exact Nat.div_lt_of_lt_mul (by omega)

/-! ### slices.Reverse at []byte, over a row of the call's own -/
def RRel (w wr : World) (B : Nat) (A : Option Addr) (n c : Nat) (l : List UInt8) (i : Nat) : Prop :=
  ∃ lk : List UInt8, Own wr B A n c lk ∧ w.grownBy wr (Value.slice A n c).ownBlock ∧ ∀ p, p < n → nth lk p = if p < i ∨ n ≤ p + i then nth l (n - 1 - p) else nth l p
theorem RRel.start {w : World} {B n c : Nat} {A : Option Addr} {l : List UInt8} (h : Own w B A n c l) : RRel w w B A n c l 0 :=
  ⟨l, h, World.grownBy.refl w _, fun p hp => by rw [if_neg (by omega)]⟩
theorem nth_reverse (l : List UInt8) (p : Nat) (h : p < l.length) : nth l.reverse p = nth l (l.length - 1 - p) := by
  simp [nth, List.getD, List.getElem?_reverse h]
theorem ext_nth {l m : List UInt8} (hl : l.length = m.length) (h : ∀ p, p < l.length → nth l p = nth m p) : l = m := by
  refine List.ext_getElem hl fun p h1 h2 => ?_
  have := h p h1
  rw [nth_eq l p h1, nth_eq m p h2] at this
  exact UInt8.toNat_inj.1 (by omega)
theorem RRel.stop {w wr : World} {B n c i : Nat} {A : Option Addr} {l : List UInt8} (hl : l.length = n) (h : RRel w wr B A n c l i) (hi : n ≤ 2 * i + 1) : Own wr B A n c l.reverse ∧ w.grownBy wr (Value.slice A n c).ownBlock := by
  obtain ⟨lk, ho, hg, hp⟩ := h
  have hk := ho.len
  obtain rfl : lk = l.reverse := ext_nth (by simp; omega) fun p h1 => by
    rw [nth_reverse l p (by omega), hp p (by omega), hl]
    split
    · rfl
    · congr 1
      omega
  exact ⟨ho, hg⟩
theorem bvs_set (l : List UInt8) (j : Nat) (b : UInt8) : (bvs l).set j (.int .u8 (b.toNat : Int)) = bvs (l.set j b) := by simp [bvs, List.map_set]
theorem RRel.cells {w wr : World} {B n c i : Nat} {A : Option Addr} {l : List UInt8} (h : RRel w wr B A n c l i) (hi : 2 * i + 1 < n) :
    ∃ (g : Nat) (x y : UInt8), A = some ⟨g, 0, none⟩ ∧ wr.cell? ⟨g, i, none⟩ = some (.int .u8 (x.toNat : Int)) ∧ wr.cell? ⟨g, n - 1 - i, none⟩ = some (.int .u8 (y.toNat : Int)) ∧ wr.frozen? ⟨g, i, none⟩ = false ∧ wr.frozen? ⟨g, n - 1 - i, none⟩ = false ∧
      ∀ w' : World, w'.heap = ((wr.setCell ⟨g, i, none⟩ (.int .u8 (y.toNat : Int))).setCell ⟨g, n - 1 - i, none⟩ (.int .u8 (x.toNat : Int))).heap → w'.os = wr.os → w'.tape = wr.tape → w'.output = wr.output → RRel w w' B A n c l (i + 1) := by
  obtain ⟨lk, ho, hg, hp⟩ := h
  have hk := ho.len
  obtain ⟨g, rfl, hB, hlt⟩ := ho.block (by omega)
  have ho' : wr.ownsRow B 5 1 (.slice (some ⟨g, 0, none⟩) n c) n (bvs lk) := ho
  have c1 := ho'.cellAt i (by omega)
  have c2 := ho'.cellAt (n - 1 - i) (by omega)
  refine ⟨g, lk[i]'(by omega), lk[n - 1 - i]'(by omega), rfl, ?_, ?_, ho'.frozenAt i, ho'.frozenAt _, fun w' hh h1 h2 h3 => ?_⟩
  · rw [c1]; simp [bvs, show i < lk.length by omega]
  · rw [c2]; simp [bvs, show n - 1 - i < lk.length by omega]
  · have s1 := ho'.stored i (.int .u8 ((lk[n - 1 - i]'(by omega)).toNat : Int))
    have s2 := s1.1.stored (n - 1 - i) (.int .u8 ((lk[i]'(by omega)).toNat : Int))
    rw [bvs_set, bvs_set] at s2
    have g2 := (hg.trans s1.2).trans s2.2
    refine ⟨_, ⟨s2.1.1, ?_⟩, ⟨h1.trans hg.os, h2.trans hg.tape, h3.trans hg.output, by rw [hh]; exact g2.size, fun k hk hne => by rw [hh]; exact g2.block k hk hne⟩, fun p hpn => ?_⟩
    · rw [hh]
      exact s2.1.2
    · have e1 := hp i (by omega)
      have e2 := hp (n - 1 - i) (by omega)
      have e3 := hp p hpn
      rw [if_neg (by omega)] at e1 e2
      rw [nth_eq _ _ (by simp; omega), List.getElem_set]
      split
      · next h => subst h; rw [if_pos (by omega), ← nth_eq, e1]; congr 1; omega
      · rw [List.getElem_set]
        split
        · next h => subst h; rw [if_pos (by omega), ← nth_eq, e2]
        · rw [← nth_eq, e3]
          by_cases hc : p < i ∨ n ≤ p + i
          · rw [if_pos hc, if_pos (by omega)]
          · rw [if_neg hc, if_neg (by omega)]

end Go.Proofs.YtiikjdjpodmpcaaGreat
