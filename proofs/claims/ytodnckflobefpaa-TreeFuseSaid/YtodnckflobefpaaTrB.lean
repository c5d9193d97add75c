/- Package tree: the fuse, the beginning of an operation, the room, and numbers taken modulo. -/
import Derived.Test.YtodnckflobefpaaTrA
namespace Go.Proofs.Ytodnckflobefpaa
open Go.RowKit Go.Maps
set_option linter.unusedVariables false

/-- The cells of a tree's block, as the walk asks for them. -/
structure Top (w : World) (tb : Nat) (s : St) (g : Gh) : Prop where
  c0 : w.cell? ⟨tb, 0, none⟩ = some (.int .i64 s.room)
  c1 : w.cell? ⟨tb, 1, none⟩ = some (.int .i64 s.used)
  c2 : w.cell? ⟨tb, 2, none⟩ = some (.int .u64 (s.clock : Int))
  c3 : w.cell? ⟨tb, 3, none⟩ = some (.map (some g.mf))
  c4 : w.cell? ⟨tb, 4, none⟩ = some (.map (some g.ms))
  c5 : w.cell? ⟨tb, 5, none⟩ = some g.cv
  c6 : w.cell? ⟨tb, 6, none⟩ = some (.int .i64 s.fuse)
  c7 : w.cell? ⟨tb, 7, none⟩ = some (.bool s.off)
theorem top_of {w : World} {tb : Nat} {s : St} {g : Gh} (h : BlkIs w tb 64 (treeC s g)) : Top w tb s g :=
  ⟨by rw [h.cell]; rfl, by rw [h.cell]; rfl, by rw [h.cell]; rfl, by rw [h.cell]; rfl, by rw [h.cell]; rfl, by rw [h.cell]; rfl, by rw [h.cell]; rfl, by rw [h.cell]; rfl⟩

theorem run_neq_map (w : World) (p : Nat) : (binOp .neq 61 (.map (some p)) (.map none)).run Try.prog w = .ok (.bool true) w := by
  simp only [binOp]
  simp [Op.equal, Op.maxDepth, run_equalIn_map_nil_sl w 9999 61 _ _ (some p) Try.underlying61]
set_option maxRecDepth 100000 in
theorem valid_any (w : World) (tb mf : Nat) (h : w.cell? ⟨tb, 3, none⟩ = some (.map (some mf))) :
    Calls Try.prog 41 #[.pointer (some ⟨tb, 0, none⟩)] w fun e w' => e = .returned (.bool true) ∧ w = w' := by
  have hneq := run_neq_map w mf
  go_enter Try.func41, Try.ntmps41
  go_wp2
  go_ret
  exact ⟨rfl, rfl⟩
theorem valid_nil (w : World) :
    Calls Try.prog 41 #[.pointer none] w fun e w' => e = .returned (.bool false) ∧ w = w' := by
  go_enter Try.func41, Try.ntmps41
  go_wp2
  go_ret
  exact ⟨rfl, rfl⟩

theorem burn_any (w : World) (tb : Nat) (s : St) (g : Gh) (h : BlkIs w tb 64 (treeC s g)) (h1 : -1 ≤ s.fuse) (h2 : s.fuse ≤ 9223372036854775807) :
    Calls Try.prog 52 #[.pointer (some ⟨tb, 0, none⟩)] w fun e w' => e = .returned (.tuple #[]) ∧ BlkIs w' tb 64 (treeC s.burn g) ∧ Chd (fun j => j = tb) w w' := by
  have c6 := (top_of h).c6
  have c7 := (top_of h).c7
  have f6 := h.frozen 6
  have f7 := h.frozen 7
  have H := Lib.hid h
  have HG : Hid (∀ b : Bool, BlkIs (w.setCell ⟨tb, 7, none⟩ (.bool b)) tb 64 (treeC { s with off := b } g)) := fun b => h.set 7 (.bool b)
  by_cases hz : s.fuse = 0
  · have e1 : s.burn = { s with off := true, fuse := -1 } := by simp [St.burn, hz]
    rw [e1]
    have E : BlkIs ((w.setCell ⟨tb, 7, none⟩ (.bool true)).setCell ⟨tb, 6, none⟩ (.int .i64 (-1))) tb 64 (treeC { s with off := true, fuse := -1 } g) := (h.set 7 (.bool true)).set 6 (.int .i64 (-1))
    have C : Chd (fun j => j = tb) w ((w.setCell ⟨tb, 7, none⟩ (.bool true)).setCell ⟨tb, 6, none⟩ (.int .i64 (-1))) := (Chd.set w tb 7 _).trans (Chd.set _ tb 6 _)
    have E' := Lib.hid E
    have C' := Lib.hid C
    clear E C
    rw [hz] at c6
    clear h h1 h2 hz e1 H HG
    go_enter Try.func52, Try.ntmps52
    go_wp2
    refine bodyPost_end (results_none rfl _ _ _) rfl ?_
    exact ⟨rfl, E'.out, C'.out⟩
  · have e1 : s.burn = { s with fuse := max (s.fuse - 1) (-1) } := by simp [St.burn, hz]
    rw [e1]
    have E : BlkIs (w.setCell ⟨tb, 6, none⟩ (.int .i64 (max (s.fuse - 1) (-1)))) tb 64 (treeC { s with fuse := max (s.fuse - 1) (-1) } g) := h.set 6 (.int .i64 _)
    have C : Chd (fun j => j = tb) w (w.setCell ⟨tb, 6, none⟩ (.int .i64 (max (s.fuse - 1) (-1)))) := Chd.set w tb 6 _
    have E' := Lib.hid E
    have C' := Lib.hid C
    clear E C
    have hz' : (s.fuse == 0) = false := by simpa using hz
    generalize s.fuse = fu at *
    clear h hz e1 H HG
    go_enter Try.func52, Try.ntmps52
    go_wp2
    refine bodyPost_end (results_none rfl _ _ _) rfl ?_
    exact ⟨rfl, E'.out, C'.out⟩

theorem left_any (w : World) (tb : Nat) (s : St) (g : Gh) (h : BlkIs w tb 64 (treeC s g)) (u : Int) (h0 : 0 ≤ s.room) (h1 : s.room ≤ 67108864) (h2 : -1000000000000000000 ≤ u) (h3 : u ≤ 1000000000000000000) :
    Calls Try.prog 36 #[.pointer (some ⟨tb, 0, none⟩), .int .i64 u] w fun e w' => e = .returned (.int .i64 (s.left_ u)) ∧ w = w' := by
  have c0 := (top_of h).c0
  clear h
  unfold St.left_
  generalize s.room = r at *
  go_enter Try.func36, Try.ntmps36
  go_wp2
  go_ret
  exact ⟨rfl, rfl⟩
theorem upTo_any (w : World) (n m : Int) (h0 : 0 ≤ m) (h1 : m ≤ 1000000000000000000) (hn : n ≤ 9223372036854775807) :
    Calls Try.prog 43 #[.int .i64 n, .int .i64 m] w fun e w' => e = .returned (.int .i64 (upTo n m)) ∧ w = w' := by
  unfold upTo
  go_enter Try.func43, Try.ntmps43
  go_wp2
  go_ret
  exact ⟨rfl, rfl⟩
end Go.Proofs.Ytodnckflobefpaa
