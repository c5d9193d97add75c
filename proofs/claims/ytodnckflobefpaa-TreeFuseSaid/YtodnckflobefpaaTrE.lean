/- Package tree: the room that a file gives back, the bytes that it is given. -/
import Derived.Test.YtodnckflobefpaaTrD
import Derived.BigRegion
import Derived.Test.YtodnckflobefpaaTrOk
namespace Go.Proofs.Ytodnckflobefpaa
open Go.RowKit Go.Maps
set_option linter.unusedVariables false

theorem TreeAt.file {w : World} {tb : Nat} {s : St} {g : Gh} (h : TreeAt w tb s g) {p : Str} {f : Nat} (hl : look s.files p = some f) (hf : ∀ e ∈ s.files, e.2 < s.fil.length) : FileAt w g.tag (g.blk f) f (s.at_ f) := h.fil f (hf _ (look_mem hl))
theorem lookup_in {w : World} {b : Nat} {blk : Nat → Nat} {l : Dir} (h : MapAt w b blk l) (p : Str) (hp : p.length ≤ 1000000000000) (g : Gh) (hg : g.blk = blk) :
    (Instr.lookup 61 (.map (some b)) (.string (S p)) false).run Try.prog w = .ok (optP g (look l p)) w := by
  subst hg
  have := h.found p (by unfold maxLen; omega)
  rw [show (⟨List.toArray p⟩ : ByteArray) = S p from rfl] at this
  rw [this]
  cases look l p <;> rfl

set_option maxRecDepth 100000 in
theorem free_any (w : World) (tb : Nat) (s : St) (g : Gh) {k : Nat} (hk : k ≤ 1000) (h : TreeAt w tb s g) (ok : Ok k s)
    (p : Str) (hp : p.length ≤ 1000000000000) :
    Calls Try.prog 39 #[.pointer (some ⟨tb, 0, none⟩), .string (S p)] w fun e w' => e = .returned (.tuple #[]) ∧ TreeAt w' tb (s.free p) g ∧ Chd (fun j => j = tb) w w' := by
  have c3 := (top_of h.top).c3
  have hlk := lookup_in h.mfA p hp g rfl
  have H := Lib.hid h
  have h1 : -10000000000000 ≤ s.used := by have := ok.u0; omega
  have h2 : s.used ≤ 10000000000000 := by have := ok.u1; omega
  have hf := ok.fs
  have hsz := ok.sz
  clear ok
  cases hl : look s.files p with
  | none =>
    have e1 : s.free p = s := by unfold St.free; rw [hl]
    rw [hl] at hlk
    rw [e1]
    unfold optP at hlk
    simp only at hlk
    generalize S p = sp at *
    clear h hl hf hsz h1 h2 e1 hp
    go_enter Try.func39, Try.ntmps39
    go_wp2
    refine bodyPost_end (results_none rfl _ _ _) rfl ?_
    exact ⟨rfl, H.out, Chd.refl _⟩
  | some f =>
    have e1 : s.free p = { s with used := s.used - ((s.at_ f).now.length : Int) } := by unfold St.free; rw [hl]
    obtain ⟨A, n, c, A2, n2, c2, hb, ho, _⟩ := (h.file hl hf).ex
    have hlen : (s.at_ f).now.length = n := ho.len
    have hn : n ≤ 10000000 := by have := hsz f; omega
    rw [hl] at hlk
    rw [e1, hlen]
    unfold optP fptr at hlk
    simp only at hlk
    have d0 : w.cell? ⟨g.blk f, 0, none⟩ = some (.slice A n c) := by rw [hb.cell]; rfl
    have c1 := (top_of h.top).c1
    have f1 := h.top.frozen 1
    have E : BlkIs (w.setCell ⟨tb, 1, none⟩ (.int .i64 (s.used - (n : Int)))) tb 64 (treeC { s with used := s.used - (n : Int) } g) := h.top.set 1 _
    have E' := Lib.hid E
    clear h hl hf hsz e1 hp hb ho hlen E
    generalize S p = sp at *
    generalize g.blk f = fb at *
    generalize hu : s.used = u at *
    have Hu := Lib.hid hu
    clear hu
    go_enter Try.func39, Try.ntmps39
    go_wp2
    go_region
    go_wp2
    refine bodyPost_end (results_none rfl _ _ _) rfl ?_
    exact ⟨rfl, H.out.retop (Chd.set w tb 1 _).drew (fun j hj => .inl hj) E'.out rfl rfl rfl rfl, (Chd.set w tb 1 _).drew⟩
end Go.Proofs.Ytodnckflobefpaa
