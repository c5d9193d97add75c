/- Package tree: Remove. -/
import Derived.Test.YtodnckflobefpaaTrJ
namespace Go.Proofs.Ytodnckflobefpaa
open Go.RowKit Go.Maps
set_option linter.unusedVariables false

/-- What an operation with a file finds. -/
structure Found (s : St) (p : Str) (o : List Str) (s1 : St) (r : Option Nat) (e : Int) : Prop where
  eq : s.find p o = (s1, r, e)
  yes : ∀ f, r = some f → e = 0 ∧ look s1.files p = some f
  no : r = none → e ≠ 0
theorem found (s : St) (p : Str) (o : List Str) : ∃ s1 r e, Found s p o s1 r e := by
  refine ⟨_, _, _, find_eq s p o, fun f hf => ?_, fun hn => ?_⟩
  · split at hf
    · rename_i h0
      rw [if_pos h0, (begin_same s _).1, hf]
      exact ⟨rfl, rfl⟩
    · cases hf
  · split at hn
    · rename_i h0
      rw [if_pos h0, hn]
      decide
    · rename_i h0
      rw [if_neg h0]
      exact h0
theorem find_at {tb : Nat} {s : St} {g : Gh} {k : Nat} (ok : Ok k s) (p : Str) (hp : p.length ≤ 10000) {s1 : St} {r : Option Nat} {er : Int} (hf : Found s p [] s1 r er) (W : World) (h : TreeAt W tb s g) :
    Calls Try.prog 35 #[.pointer (some ⟨tb, 0, none⟩), .string (S p), .slice none 0 0] W fun e w' => e = .returned (.tuple #[optP g r, .int .i64 er]) ∧ TreeAt w' tb s1 g ∧ Chd (fun j => j = tb) W w' := by
  have X := find_any W tb s g h ok.f0 ok.f1 p (by omega) none 0 0 [] (by decide) ⟨rfl, .inl ⟨rfl, rfl⟩⟩ (fun b hb => by cases hb)
  rw [hf.eq] at X
  exact X.mono fun e w' ⟨a, b, c⟩ => ⟨a, b, c.mono fun j _ hj => hj.elim id (fun e => by cases e)⟩
def Gh.boxes (g : Gh) (l : List Nat) : Gh := { g with tag := fun j => if j ∈ l then 5 else g.tag j }
theorem TreeAt.boxes {w : World} {tb : Nat} {s : St} {g : Gh} (h : TreeAt w tb s g) (l : List Nat) (hl : ∀ j ∈ l, g.tag j = 0 ∧ j < w.heap.size) : TreeAt w tb s (g.boxes l) :=
  h.retag (fun j hj => by
    show (if j ∈ l then 5 else g.tag j) = g.tag j
    rw [if_neg (fun e => hj (hl j e).1)]) (fun j hj => by
    have hj' : (if j ∈ l then 5 else g.tag j) ≠ 0 := hj
    split at hj'
    · rename_i e; exact (hl j e).2
    · exact h.dom j hj')
theorem BlkIs.alloc {w : World} {g : Nat} {t : TypeId} {cs : Array Value} (h : BlkIs w g t cs) (o : Obj) : BlkIs (w.alloc o) g t cs := h.chd (M := fun _ => False) (Chd.of_below ((Below.refl _ _).alloc (Nat.le_refl _) _)) (fun e => e)
def removeR (s1 : St) (p : Str) (er : Int) : Option Nat → St × Int
  | some _ => ((s1.free p).record (.rm p), 0)
  | none => (s1, er)
theorem remove_eq (s : St) (p : Str) {s1 : St} {r : Option Nat} {er : Int} (h : Found s p [] s1 r er) : s.remove p = removeR s1 p er r := by
  unfold St.remove
  rw [h.eq]
  cases r <;> rfl
theorem mine_cv {w : World} {tb : Nat} {s : St} {g : Gh} (H : TreeAt w tb s g) : g.tag tb ≠ 0 ∧ g.tag g.mf ≠ 0 ∧ g.tag g.ms ≠ 0 ∧ ∀ j, g.cv.ownBlock = some j → g.tag j ≠ 0 :=
  ⟨by rw [H.topT]; omega, by rw [H.mfT]; omega, by rw [H.msT]; omega, fun j e => by rw [H.rowT j e]; omega⟩
theorem new_zero {w : World} {tb : Nat} {s : St} {g : Gh} (H : TreeAt w tb s g) {j : Nat} (hj : w.heap.size ≤ j) : g.tag j = 0 := by
  rcases Nat.eq_zero_or_pos (g.tag j) with e | e
  · exact e
  · have := H.dom j (by omega); omega

set_option maxRecDepth 100000 in
theorem remove_any (w : World) (tb : Nat) (s : St) (g : Gh) {k : Nat} (hk : k + 1 ≤ 1000) (h : TreeAt w tb s g) (ok : Ok k s) (p : Str) (hp : p.length ≤ 10000) :
    Calls Try.prog 48 #[.pointer (some ⟨tb, 0, none⟩), .string (S p)] w fun e w' => e = .returned (.int .i64 (s.remove p).2) ∧ ∃ g', TreeAt w' tb (s.remove p).1 g' ∧ Chd (Mine g) w w' ∧ Gh.le w g g' := by
  obtain ⟨s1, r, er, hf⟩ := found s p []
  rw [remove_eq s p hf]
  have FA := Lib.hid (fun W hW => find_at (tb := tb) (g := g) ok p hp hf W hW)
  have ok1 : Ok k s1 := by have := ok.find p []; rwa [hf.eq] at this
  have FR := Lib.hid (fun W hW => free_any W tb s1 g (by omega) hW ok1 p (by omega))
  have okf := Lib.hid (ok1.free (by omega) p)
  have HF := Lib.hid hf
  have H := Lib.hid h
  have HP := Lib.hid hp
  have hsz : (S p).size ≤ 1000000000000 := by rw [S_size]; omega
  have CL := Lib.hid (fun W => clone_any W (S p) hsz)
  have T1 := Lib.hid (h.nx ((Below.refl _ w).alloc (Nat.le_refl _) (.cells #[.string (S p)] 9)))
  have X1 := Lib.hid (BlkIs.new w 9 #[.string (S p)])
  clear hf h hp hsz ok ok1
  generalize hsp : S p = sp at *
  have HSP := Lib.hid hsp
  clear hsp
  generalize hR : removeR s1 p er r = R
  have HR := Lib.hid hR
  clear hR
  go_enter Try.func48, Try.ntmps48
  go_wp2_with fail
  refine (FA.out _ T1.out).mono ?_
  rintro e w2 ⟨rfl, ht2, hc2⟩
  have hb0 : w.heap.size ≠ tb := by have := H.out.top.lt; omega
  have T2 := Lib.hid ht2
  have C2 := Lib.hid ((Chd.of_below ((Below.refl _ w).alloc (Nat.le_refl _) (.cells #[.string sp] 9)) : Chd (fun j => j = tb) w _).trans hc2)
  have X2 := Lib.hid (X1.out.chd hc2 hb0)
  clear ht2 hc2 T1 X1 FA
  cases r with
  | none =>
    have hR : (s1, er) = R := HR.out
    subst hR
    have hne : (er != 0) = true := by have := HF.out.no rfl; simpa using this
    clear HR HF
    unfold optP
    go_wp2
    go_ret
    exact ⟨rfl, g, T2.out, C2.out.mono (fun j _ e => by rw [e]; exact (mine_cv H.out).1), Gh.le_refl _ _⟩
  | some f =>
    have hR : ((s1.free p).record (.rm p), (0 : Int)) = R := HR.out
    subst hR
    obtain rfl : er = 0 := (HF.out.yes f rfl).1
    have d0 := X2.out.cell 0
    simp only [List.getElem?_toArray, List.getElem?_cons_zero] at d0
    unfold optP fptr
    clear HR HF
    go_wp2_with fail
    refine (FR.out w2 T2.out).mono ?_
    rintro e w3 ⟨rfl, ht3, hc3⟩
    have T3 := Lib.hid ht3
    have C3 := Lib.hid (C2.out.trans hc3)
    have x3 := X2.out.chd hc3 hb0
    have d0 := x3.cell 0
    simp only [List.getElem?_toArray, List.getElem?_cons_zero] at d0
    have X3 := Lib.hid x3
    clear ht3 hc3 x3 FR T2 C2 X2
    go_wp2_with fail
    refine (CL.out w3).mono ?_
    rintro e w4 ⟨rfl, hb4⟩
    have T4 := Lib.hid (T3.out.nx hb4)
    have C4 := Lib.hid (C3.out.trans (Nx.chd hb4))
    have x4 := X3.out.nx hb4
    have d4 := x4.cell 0
    simp only [List.getElem?_toArray, List.getElem?_cons_zero] at d4
    have f4 := x4.frozen 0
    have X4 := Lib.hid x4
    clear hb4 x4 d0 T3 C3 X3 CL
    go_wp2_with fail
    have C5 := Chd.set w4 w.heap.size 0 (.string sp)
    have X5 : BlkIs (w4.setCell ⟨w.heap.size, 0, none⟩ (.string sp)) w.heap.size 9 #[.string sp] := X4.out.set 0 _
    have T5 := (T4.out.chd C5 (fun j e => by rw [e]; exact new_zero H.out (Nat.le_refl _))).boxes [w.heap.size] (fun j e => by
      rw [List.mem_singleton.1 e]; exact ⟨new_zero H.out (Nat.le_refl _), X5.lt⟩)
    have hv : ChAt (w4.setCell ⟨w.heap.size, 0, none⟩ (.string sp)) (g.boxes [w.heap.size]).tag (g.boxes [w.heap.size]).blk (.func (.func 59) #[] #[.pointer (some ⟨w.heap.size, 0, none⟩)]) (.rm p) :=
      ⟨w.heap.size, rfl, by rw [show (⟨p.toArray⟩ : ByteArray) = sp from HSP.out]; exact X5, by show (if w.heap.size ∈ [w.heap.size] then 5 else _) = 5; simp⟩
    have RC := record_any _ tb _ _ hk T5 okf.out _ (.rm p) HP.out hv
    refine RC.mono ?_
    rintro e w6 ⟨rfl, ⟨cv, T6, hcv⟩, C6⟩
    have CF : Chd (Mine g) w w6 := by
      have a1 : Chd (Mine g) w w4 := C4.out.mono fun j _ e => by rw [e]; exact (mine_cv H.out).1
      have a2 := a1.then_ C5 (fun j hj e => by omega)
      exact a2.then_ C6 (fun j hj e => by
        rcases e with e | e | e
        · rw [e]; exact (mine_cv H.out).1
        · rw [e]; exact (mine_cv H.out).2.1
        · exact (mine_cv H.out).2.2.2 j e)
    have hle : Gh.le w g ((g.boxes [w.heap.size]).more cv (.func (.func 59) #[] #[.pointer (some ⟨w.heap.size, 0, none⟩)])) := fun j hj => by
      have hj' : (if cv.ownBlock = some j then 4 else if j ∈ [w.heap.size] then 5 else g.tag j) ≠ 0 := hj
      split at hj'
      · rename_i e
        rcases hcv with e2 | ⟨i, e2, hi⟩
        · exact .inl ((mine_cv H.out).2.2.2 j (by rw [e2.symm] at e; exact e))
        · rw [e2, Option.some.injEq] at e
          have := C4.out.size
          simp only [World.setCell] at hi
          right
          have h2 : w4.heap.size ≤ i := by simpa using hi
          omega
      · split at hj'
        · rename_i e
          rw [List.mem_singleton.1 e]
          exact .inr (Nat.le_refl _)
        · exact .inl hj'
    have T6' := Lib.hid T6
    have CF' := Lib.hid CF
    have HLE := Lib.hid hle
    clear T6 CF hle C6 hcv RC hv T5 X5 C5
    go_wp2
    go_ret
    exact ⟨rfl, _, T6'.out, CF'.out, HLE.out⟩
end Go.Proofs.Ytodnckflobefpaa
