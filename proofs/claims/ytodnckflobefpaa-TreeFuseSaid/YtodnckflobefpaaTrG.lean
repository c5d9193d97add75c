/- Package tree: changes of paths, done to the files of a map. -/
import Derived.Test.YtodnckflobefpaaTrF
namespace Go.Proofs.Ytodnckflobefpaa
open Go.RowKit Go.Maps
set_option linter.unusedVariables false

/-- What a change is to the program: a function with what it has captured. -/
def chArgs : Value → Array Value
  | .func _ _ caps => caps
  | _ => #[]
theorem make1_any (w : World) (tag : Nat → Nat) (blk : Nat → Nat) (b b1 b2 : Nat) (l : Dir) (hm : MapAt w b blk l) (hl : l.length ≤ 100000) (p : Str) (f : Nat) (hp : p.length ≤ 10000) (h1 : PtrBox w tag b1 (blk f)) (h2 : StrBox w tag b2 p) :
    Calls Try.prog 34 #[.map (some b), boxP b1, boxP b2] w fun e w' => e = .returned (.tuple #[]) ∧ MapAt w' b blk (put l p f) ∧ Chd (fun j => j = b) w w' := by
  obtain ⟨w', hrun, hm', hg⟩ := hm.store p f (by unfold maxLen; omega) (by unfold maxLen; omega)
  have d1 : w.cell? ⟨b1, 0, none⟩ = some (fptr (blk f)) := by rw [h1.1.cell]; rfl
  have d2 : w.cell? ⟨b2, 0, none⟩ = some (.string ⟨p.toArray⟩) := by rw [h2.1.cell]; rfl
  have HM := Lib.hid hm'
  have HG := Lib.hid hg
  clear hm' hg hm h1 h2
  unfold fptr at *
  unfold boxP
  generalize (⟨p.toArray⟩ : ByteArray) = sp at *
  go_enter Try.func34, Try.ntmps34
  go_wp2
  refine bodyPost_end (results_none rfl _ _ _) rfl ?_
  exact ⟨rfl, HM.out, Chd.of_grown HG.out⟩
theorem remove1_any (w : World) (tag : Nat → Nat) (blk : Nat → Nat) (b b1 : Nat) (l : Dir) (hm : MapAt w b blk l) (p : Str) (hp : p.length ≤ 10000) (h2 : StrBox w tag b1 p) :
    Calls Try.prog 59 #[.map (some b), boxP b1] w fun e w' => e = .returned (.tuple #[]) ∧ MapAt w' b blk (era l p) ∧ Chd (fun j => j = b) w w' := by
  have hdrop := fun ty => hm.drop p (by unfold maxLen; omega) ty
  have d2 : w.cell? ⟨b1, 0, none⟩ = some (.string ⟨p.toArray⟩) := by rw [h2.1.cell]; rfl
  obtain ⟨w', hrun, hm', hg⟩ := hdrop 0
  have HM := Lib.hid hm'
  have HG := Lib.hid hg
  clear hm' hg hm h2
  unfold boxP
  generalize (⟨p.toArray⟩ : ByteArray) = sp at *
  go_enter Try.func59, Try.ntmps59
  go_wp2
  refine bodyPost_end (results_none rfl _ _ _) rfl ?_
  exact ⟨rfl, HM.out, Chd.of_grown HG.out⟩
theorem rename1_any (w : World) (tag : Nat → Nat) (blk : Nat → Nat) (b b1 b2 b3 : Nat) (l : Dir) (hm : MapAt w b blk l) (hl : l.length ≤ 100000) (p q : Str) (f : Nat) (hp : p.length ≤ 10000) (hq : q.length ≤ 10000)
    (h1 : StrBox w tag b1 p) (h2 : PtrBox w tag b2 (blk f)) (h3 : StrBox w tag b3 q) (n2 : b ≠ b2) (n3 : b ≠ b3) :
    Calls Try.prog 40 #[.map (some b), boxP b1, boxP b2, boxP b3] w fun e w' => e = .returned (.tuple #[]) ∧ MapAt w' b blk (put (era l p) q f) ∧ Chd (fun j => j = b) w w' := by
  obtain ⟨w', hrun, hm', hg⟩ := hm.drop p (by unfold maxLen; omega) 0
  have hl2 := era_length l p
  obtain ⟨w'', hrun2, hm'', hg'⟩ := hm'.store q f (by unfold maxLen; omega) (by unfold maxLen; omega)
  have k2 := h2.1.chd (Chd.of_grown hg) (fun e => n2 e.symm)
  have k3 := h3.1.chd (Chd.of_grown hg) (fun e => n3 e.symm)
  have d1 : w.cell? ⟨b1, 0, none⟩ = some (.string ⟨p.toArray⟩) := by rw [h1.1.cell]; rfl
  have d2 : w'.cell? ⟨b2, 0, none⟩ = some (fptr (blk f)) := by rw [k2.cell]; rfl
  have d3 : w'.cell? ⟨b3, 0, none⟩ = some (.string ⟨q.toArray⟩) := by rw [k3.cell]; rfl
  have HM := Lib.hid hm''
  have HG := Lib.hid ((Chd.of_grown hg).trans (Chd.of_grown hg'))
  clear hm' hg hm h1 h2 h3 k2 k3 hm'' hg'
  unfold fptr at *
  unfold boxP
  generalize (⟨p.toArray⟩ : ByteArray) = sp at *
  generalize (⟨q.toArray⟩ : ByteArray) = sq at *
  go_enter Try.func40, Try.ntmps40
  go_wp2
  refine bodyPost_end (results_none rfl _ _ _) rfl ?_
  exact ⟨rfl, HM.out, HG.out⟩
end Go.Proofs.Ytodnckflobefpaa
