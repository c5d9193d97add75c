/- Package tree: New, Fuse, Left, Clock, On, Stat. -/
import Derived.Test.YtodnckflobefpaaTrW
namespace Go.Proofs.Ytodnckflobefpaa
open Go.RowKit Go.Maps
set_option linter.unusedVariables false

def Gh.new (B : Nat) : Gh := ⟨B, B + 1, .slice none 0 0, [], fun _ => 0, fun j => if j = B then 2 else if j = B + 1 then 3 else if j = B + 2 then 1 else 0⟩
theorem new_at (w : World) (room : Int) : TreeAt (((w.alloc (.map #[] 0)).alloc (.map #[] 0)).alloc (.cells #[.int .i64 room, .int .i64 0, .int .u64 0, .map (some w.heap.size), .map (some (w.heap.size + 1)), .slice none 0 0, .int .i64 (-1), .bool false] 64)) (w.heap.size + 2) (St.new room) (Gh.new w.heap.size) := by
  have m1 := ((MapAt.made w (fun _ => 0)).chd (M := fun _ => False) (Chd.of_below ((Below.refl _ _).alloc (Nat.le_refl _) (.map #[] 0))) (fun e => e)).chd (M := fun _ => False) (Chd.of_below ((Below.refl _ _).alloc (Nat.le_refl _) (.cells #[.int .i64 room, .int .i64 0, .int .u64 0, .map (some w.heap.size), .map (some (w.heap.size + 1)), .slice none 0 0, .int .i64 (-1), .bool false] 64))) (fun e => e)
  have m2 := (MapAt.made (w.alloc (.map #[] 0)) (fun _ => 0)).chd (M := fun _ => False) (Chd.of_below ((Below.refl _ _).alloc (Nat.le_refl _) (.cells #[.int .i64 room, .int .i64 0, .int .u64 0, .map (some w.heap.size), .map (some (w.heap.size + 1)), .slice none 0 0, .int .i64 (-1), .bool false] 64))) (fun e => e)
  have t := BlkIs.new ((w.alloc (.map #[] 0)).alloc (.map #[] 0)) 64 #[.int .i64 room, .int .i64 0, .int .u64 0, .map (some w.heap.size), .map (some (w.heap.size + 1)), .slice none 0 0, .int .i64 (-1), .bool false]
  rw [World.size_alloc] at m2
  rw [World.size_alloc, World.size_alloc] at t
  exact { top := t
          topT := by show (if w.heap.size + 2 = w.heap.size then 2 else if w.heap.size + 2 = w.heap.size + 1 then 3 else if w.heap.size + 2 = w.heap.size + 2 then 1 else 0) = 1; rw [if_neg (by omega), if_neg (by omega), if_pos rfl]
          mfT := if_pos rfl
          msT := by show (if w.heap.size + 1 = w.heap.size then 2 else if w.heap.size + 1 = w.heap.size + 1 then 3 else _) = 3; rw [if_neg (by omega), if_pos rfl]
          mfA := m1, msA := m2
          row := ⟨rfl, .inl ⟨rfl, rfl⟩⟩
          rowT := fun b hb => by cases hb
          chs := fun i c hi => by simp [St.new] at hi
          fil := fun i hi => by simp [St.new] at hi
          dom := fun j hj => by
            have hj' : (if j = w.heap.size then 2 else if j = w.heap.size + 1 then 3 else if j = w.heap.size + 2 then 1 else 0) ≠ 0 := hj
            rw [World.size_alloc, World.size_alloc, World.size_alloc]
            repeat' split at hj'
            all_goals omega
          apart := by show w.heap.size ≠ w.heap.size + 1; omega }
theorem new_le (B j : Nat) (h : (Gh.new B).tag j ≠ 0) : B ≤ j ∧ j ≤ B + 2 := by
  have hj' : (if j = B then 2 else if j = B + 1 then 3 else if j = B + 2 then 1 else 0) ≠ 0 := h
  repeat' split at hj'
  all_goals omega

theorem new_any (w : World) (room : Int) (h0 : 0 ≤ room) (h1 : room ≤ 67108864) :
    Calls Try.prog 8 #[.int .i64 room] w fun e w' => e = .returned (.tuple #[.pointer (some ⟨w.heap.size + 2, 0, none⟩), .int .i64 0]) ∧ TreeAt w' (w.heap.size + 2) (St.new room) (Gh.new w.heap.size) ∧ Nx w w' := by
  have T := Lib.hid (new_at w room)
  have B : Hid (Nx w (((w.alloc (.map #[] 0)).alloc (.map #[] 0)).alloc (.cells #[.int .i64 room, .int .i64 0, .int .u64 0, .map (some w.heap.size), .map (some (w.heap.size + 1)), .slice none 0 0, .int .i64 (-1), .bool false] 64))) := (((Below.refl _ w).alloc (Nat.le_refl _) _).alloc (by simp) _).alloc (by simp; omega) _
  have hmm := @run_makeMap Try.prog
  go_enter Try.func8, Try.ntmps8
  go_wp2
  go_ret2
  exact ⟨rfl, T.out, B.out⟩
theorem new_bad (w : World) (room : Int) (h : room < 0 ∨ 67108864 < room) :
    Calls Try.prog 8 #[.int .i64 room] w fun e w' => e = .returned (.tuple #[.pointer none, .int .i64 2]) ∧ w = w' := by
  by_cases h0 : room < 0
  · clear h
    go_enter Try.func8, Try.ntmps8
    go_wp2
    go_ret2
    exact ⟨rfl, rfl⟩
  · have h1 : 67108864 < room := h.resolve_left h0
    clear h
    go_enter Try.func8, Try.ntmps8
    go_wp2
    go_ret2
    exact ⟨rfl, rfl⟩

theorem fuse_any (w : World) (tb : Nat) (s : St) (g : Gh) (h : TreeAt w tb s g) (n : Int) :
    Calls Try.prog 17 #[.pointer (some ⟨tb, 0, none⟩), .int .i64 n] w fun e w' => e = .returned (.int .i64 0) ∧ TreeAt w' tb (s.fuse_ n) g ∧ Chd (fun j => j = tb) w w' := by
  have V := Lib.hid (valid_any w tb g.mf (top_of h.top).c3)
  have c6 := (top_of h.top).c6
  have f6 := h.top.frozen 6
  have C := Lib.hid (Chd.set w tb 6 (.int .i64 (max n (-1))))
  have T : Hid (TreeAt (w.setCell ⟨tb, 6, none⟩ (.int .i64 (max n (-1)))) tb (s.fuse_ n) g) := h.retop C.out (fun j e => .inl e) (h.top.set 6 (.int .i64 (max n (-1)))) rfl rfl rfl rfl
  clear h
  go_enter Try.func17, Try.ntmps17
  go_wp2_with fail
  refine V.out.mono ?_
  rintro e w' ⟨rfl, rfl⟩
  go_wp2
  go_ret
  exact ⟨rfl, T.out, C.out⟩
theorem leftM_any (w : World) (tb : Nat) (s : St) (g : Gh) {k : Nat} (hk : k ≤ 1000) (h : TreeAt w tb s g) (ok : Ok k s) :
    Calls Try.prog 16 #[.pointer (some ⟨tb, 0, none⟩)] w fun e w' => e = .returned (.int .i64 (s.left_ s.used)) ∧ w = w' := by
  have V := Lib.hid (valid_any w tb g.mf (top_of h.top).c3)
  have c1 := (top_of h.top).c1
  have L := Lib.hid (left_any w tb s g h.top s.used ok.r0 ok.r1 (by have := ok.u0; omega) (by have := ok.u1; omega))
  clear h ok
  generalize s.left_ s.used = lv at *
  go_enter Try.func16, Try.ntmps16
  go_wp2_with fail
  refine V.out.mono ?_
  rintro e w' ⟨rfl, rfl⟩
  go_wp2_with fail
  refine L.out.mono ?_
  rintro e w' ⟨rfl, rfl⟩
  go_wp2
  go_ret
  exact ⟨rfl, rfl⟩
theorem clock_any (w : World) (tb : Nat) (s : St) (g : Gh) (h : TreeAt w tb s g) :
    Calls Try.prog 24 #[.pointer (some ⟨tb, 0, none⟩)] w fun e w' => e = .returned (.int .u64 (s.clock : Int)) ∧ w = w' := by
  have V := Lib.hid (valid_any w tb g.mf (top_of h.top).c3)
  have c2 := (top_of h.top).c2
  clear h
  go_enter Try.func24, Try.ntmps24
  go_wp2_with fail
  refine V.out.mono ?_
  rintro e w' ⟨rfl, rfl⟩
  go_wp2
  go_ret
  exact ⟨rfl, rfl⟩
theorem on_any (w : World) (tb : Nat) (s : St) (g : Gh) (h : TreeAt w tb s g) :
    Calls Try.prog 19 #[.pointer (some ⟨tb, 0, none⟩)] w fun e w' => e = .returned (.bool (!s.off)) ∧ w = w' := by
  have V := Lib.hid (valid_any w tb g.mf (top_of h.top).c3)
  have c7 := (top_of h.top).c7
  clear h
  go_enter Try.func19, Try.ntmps19
  go_wp2_with fail
  refine V.out.mono ?_
  rintro e w' ⟨rfl, rfl⟩
  go_wp2
  go_ret
  exact ⟨rfl, rfl⟩
theorem stat_any (w : World) (tb : Nat) (s : St) (g : Gh) {k : Nat} (h : TreeAt w tb s g) (ok : Ok k s) (p : Str) (hp : p.length ≤ 1000000000000) :
    Calls Try.prog 21 #[.pointer (some ⟨tb, 0, none⟩), .string (S p)] w fun e w' => e = .returned (.tuple #[.int .i64 (s.stat p).1, .int .u64 ((s.stat p).2.1 : Int), .bool (s.stat p).2.2]) ∧ ∃ m, w' = w.drewN m := by
  have V := Lib.hid (valid_any w tb g.mf (top_of h.top).c3)
  have c3 := (top_of h.top).c3
  have hlk := lookup_in h.mfA p hp g rfl
  cases hl : look s.files p with
  | none =>
    have e1 : s.stat p = (0, 0, false) := by unfold St.stat; rw [hl]
    rw [hl] at hlk
    unfold optP at hlk
    simp only at hlk
    rw [e1]
    clear h e1 hl hp
    generalize S p = sp at *
    go_enter Try.func21, Try.ntmps21
    go_wp2_with fail
    refine V.out.mono ?_
    rintro e w' ⟨rfl, rfl⟩
    go_wp2
    go_ret3
    exact ⟨rfl, 0, rfl⟩
  | some f =>
    obtain ⟨A, n, c, A2, n2, c2, hb, ho, _⟩ := (h.file hl ok.fs).ex
    have e1 : s.stat p = ((n : Int), (s.at_ f).st, true) := by unfold St.stat; rw [hl]; simp only; rw [ho.len]
    rw [hl] at hlk
    unfold optP fptr at hlk
    simp only at hlk
    rw [e1]
    have d0 : w.cell? ⟨g.blk f, 0, none⟩ = some (.slice A n c) := by rw [hb.cell]; rfl
    have d2 : w.cell? ⟨g.blk f, 2, none⟩ = some (.int .u64 ((s.at_ f).st : Int)) := by rw [hb.cell]; rfl
    clear h e1 hl hp hb ho
    generalize S p = sp at *
    generalize g.blk f = fb at *
    generalize (s.at_ f).st = st at *
    go_enter Try.func21, Try.ntmps21
    go_wp2_with fail
    refine V.out.mono ?_
    rintro e w' ⟨rfl, rfl⟩
    go_wp2_with fail
    go_quiet (fail)
    go_wp2
    go_ret3
    exact ⟨rfl, _, rfl⟩
end Go.Proofs.Ytodnckflobefpaa
