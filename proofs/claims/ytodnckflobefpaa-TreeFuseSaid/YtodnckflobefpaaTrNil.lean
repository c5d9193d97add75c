/- Package tree: a nil tree. -/
import Derived.Test.YtodnckflobefpaaTrInts
namespace Go.Proofs.Ytodnckflobefpaa
open Go.RowKit Go.Maps
set_option linter.unusedVariables false

theorem begin_nil (w : World) (A : Option Addr) (n c : Nat) :
    Calls Try.prog 31 #[.pointer none, .slice A n c] w fun e w' => e = .returned (.int .i64 1) ∧ w = w' := by
  have V := Lib.hid (valid_nil w)
  go_enter Try.func31, Try.ntmps31
  go_wp2_with fail
  refine V.out.mono ?_
  rintro e w' ⟨rfl, rfl⟩
  go_wp2
  go_ret
  exact ⟨rfl, rfl⟩
set_option maxRecDepth 100000 in
theorem find_nil (w : World) (p : Str) (A : Option Addr) (n c : Nat) (others : List Str) (hn : n ≤ 1000) (hown : w.ownsRow 0 9 1 (.slice A n c) n (strV others)) :
    Calls Try.prog 35 #[.pointer none, .string (S p), .slice A n c] w fun e w' =>
      e = .returned (.tuple #[.pointer none, .int .i64 1]) ∧ Chd (fun j => (Value.slice A n c).ownBlock = some j) w w' := by
  obtain ⟨i0, hi, hz0, hz1, hz2⟩ := info_parts string_info
  have HO := Lib.hid hown
  have BN := Lib.hid (fun W A n c => begin_nil W A n c)
  have halloc : (w.alloc (.cells #[.string (S p)] 9)).ownsRow 0 9 1 (.slice A n c) n (strV others) := row_chd (M := fun _ => False) HO.out ((Chd.refl w).then_ (Chd.of_below ((Below.refl _ w).alloc (Nat.le_refl _) _)) (fun _ _ e => e)) (fun _ _ e => e)
  have Hal := Lib.hid halloc
  clear halloc hown
  generalize hsp : S p = sp at *
  clear hsp
  go_enter Try.func35, Try.ntmps35
  go_wp2_with (at_builtin; refine wpList_append_lies _ rfl _ _ 48 rfl 0 9 i0 (.string ⟨#[]⟩) 1 16 Try.underlying48 hi hz0 hz1 hz2 rfl (by decide) (.slice A n c) n (strV others) rfl Hal.out ⟨w.heap.size, 0, none⟩ 1 1 [.string sp] rfl rfl (cell_one_new _ _ _) (by simp [Value.oneCell']) (by decide) (by unfold maxLen; omega) (by omega) (Nat.zero_le _) _ rfl ?_; intro gb cap w2 hown2 hgrow hat hlt)
  have C2 : Chd (fun j => (Value.slice A n c).ownBlock = some j) w w2 := (Chd.of_below ((Below.refl _ w).alloc (Nat.le_refl _) _)).trans (Chd.of_grownBy hgrow)
  have HC2 := Lib.hid C2
  clear C2 hown2 hgrow hat hlt HO Hal
  go_wp2_with fail
  refine (BN.out w2 _ _ _).mono ?_
  rintro e w3 ⟨rfl, rfl⟩
  clear BN
  go_wp2
  go_ret2
  exact ⟨rfl, HC2.out⟩
theorem find_nil0 (w : World) (p : Str) :
    Calls Try.prog 35 #[.pointer none, .string (S p), .slice none 0 0] w fun e w' => e = .returned (.tuple #[.pointer none, .int .i64 1]) ∧ Nx w w' :=
  (find_nil w p none 0 0 [] (by decide) ⟨rfl, .inl ⟨rfl, rfl⟩⟩).mono fun e w' ⟨e1, e2⟩ => ⟨e1, e2.below (Nat.le_refl _) (fun j hj e => by cases e)⟩
theorem make_nil (w : World) (p : Str) :
    Calls Try.prog 10 #[.pointer none, .string (S p)] w fun e w' => e = .returned (.int .i64 1) ∧ Nx w w' := by
  have BN := Lib.hid (fun W A n c => begin_nil W A n c)
  generalize S p = sp at *
  go_enter Try.func10, Try.ntmps10
  go_wp2_with fail
  refine (BN.out _ _ _ _).mono ?_
  rintro e w' ⟨rfl, rfl⟩
  clear BN
  go_wp2
  go_ret
  first
  | exact ⟨rfl, (Below.refl _ w).alloc (Nat.le_refl _) _⟩
  | exact ⟨rfl, Nx.trans (show Nx w (w.alloc (.cells #[.string (S p)] 9)) from (Below.refl _ w).alloc (Nat.le_refl _) _) HX.out⟩
  | exact ⟨rfl, (((Below.refl _ w).alloc (Nat.le_refl _) _).alloc (by simp) _ : Nx w _)⟩
theorem write_nil (w : World) (p : Str) (A : Option Addr) (n c : Nat) :
    Calls Try.prog 11 #[.pointer none, .string (S p), .slice A n c] w fun e w' => e = .returned (.int .i64 1) ∧ Nx w w' := by
  have FN := Lib.hid (fun W p => find_nil0 W p)
  go_enter Try.func11, Try.ntmps11
  go_wp2_with fail
  refine (FN.out _ p).mono ?_
  rintro e w' ⟨rfl, hx⟩
  have HX := Lib.hid hx
  clear hx
  clear FN
  go_wp2
  go_ret
  first
  | exact ⟨rfl, HX.out⟩
  | exact ⟨rfl, Nx.trans (show Nx w (w.alloc (.cells #[.string (S p)] 9)) from (Below.refl _ w).alloc (Nat.le_refl _) _) HX.out⟩
  | exact ⟨rfl, (((Below.refl _ w).alloc (Nat.le_refl _) _).alloc (by simp) _ : Nx w _)⟩
theorem append_nil (w : World) (p : Str) (A : Option Addr) (n c : Nat) :
    Calls Try.prog 28 #[.pointer none, .string (S p), .slice A n c] w fun e w' => e = .returned (.int .i64 1) ∧ Nx w w' := by
  have FN := Lib.hid (fun W p => find_nil0 W p)
  go_enter Try.func28, Try.ntmps28
  go_wp2_with fail
  refine (FN.out _ p).mono ?_
  rintro e w' ⟨rfl, hx⟩
  have HX := Lib.hid hx
  clear hx
  clear FN
  go_wp2
  go_ret
  first
  | exact ⟨rfl, HX.out⟩
  | exact ⟨rfl, Nx.trans (show Nx w (w.alloc (.cells #[.string (S p)] 9)) from (Below.refl _ w).alloc (Nat.le_refl _) _) HX.out⟩
  | exact ⟨rfl, (((Below.refl _ w).alloc (Nat.le_refl _) _).alloc (by simp) _ : Nx w _)⟩
theorem sync_nil (w : World) (p : Str) :
    Calls Try.prog 12 #[.pointer none, .string (S p)] w fun e w' => e = .returned (.int .i64 1) ∧ Nx w w' := by
  have FN := Lib.hid (fun W p => find_nil0 W p)
  go_enter Try.func12, Try.ntmps12
  go_wp2_with fail
  refine (FN.out _ p).mono ?_
  rintro e w' ⟨rfl, hx⟩
  have HX := Lib.hid hx
  clear hx
  clear FN
  go_wp2
  go_ret
  first
  | exact ⟨rfl, HX.out⟩
  | exact ⟨rfl, Nx.trans (show Nx w (w.alloc (.cells #[.string (S p)] 9)) from (Below.refl _ w).alloc (Nat.le_refl _) _) HX.out⟩
  | exact ⟨rfl, (((Below.refl _ w).alloc (Nat.le_refl _) _).alloc (by simp) _ : Nx w _)⟩
theorem syncPaths_nil (w : World) :
    Calls Try.prog 27 #[.pointer none] w fun e w' => e = .returned (.int .i64 1) ∧ Nx w w' := by
  have BN := Lib.hid (fun W A n c => begin_nil W A n c)
  go_enter Try.func27, Try.ntmps27
  go_wp2_with fail
  refine (BN.out _ _ _ _).mono ?_
  rintro e w' ⟨rfl, rfl⟩
  clear BN
  go_wp2
  go_ret
  first
  | exact ⟨rfl, Nx.refl _⟩
  | exact ⟨rfl, Nx.trans (show Nx w (w.alloc (.cells #[.string (S p)] 9)) from (Below.refl _ w).alloc (Nat.le_refl _) _) HX.out⟩
  | exact ⟨rfl, (((Below.refl _ w).alloc (Nat.le_refl _) _).alloc (by simp) _ : Nx w _)⟩
theorem remove_nil (w : World) (p : Str) :
    Calls Try.prog 48 #[.pointer none, .string (S p)] w fun e w' => e = .returned (.int .i64 1) ∧ Nx w w' := by
  have FN := Lib.hid (fun W p => find_nil0 W p)
  go_enter Try.func48, Try.ntmps48
  go_wp2_with fail
  refine (FN.out _ p).mono ?_
  rintro e w' ⟨rfl, hx⟩
  have HX := Lib.hid hx
  clear hx
  clear FN
  go_wp2
  go_ret
  first
  | exact ⟨rfl, HX.out⟩
  | exact ⟨rfl, Nx.trans (show Nx w (w.alloc (.cells #[.string (S p)] 9)) from (Below.refl _ w).alloc (Nat.le_refl _) _) HX.out⟩
  | exact ⟨rfl, (((Below.refl _ w).alloc (Nat.le_refl _) _).alloc (by simp) _ : Nx w _)⟩
theorem read_nil (w : World) (p : Str) :
    Calls Try.prog 18 #[.pointer none, .string (S p)] w fun e w' => e = .returned (.tuple #[.slice none 0 0, .int .i64 1]) ∧ Nx w w' := by
  have FN := Lib.hid (fun W p => find_nil0 W p)
  go_enter Try.func18, Try.ntmps18
  go_wp2_with fail
  refine (FN.out _ p).mono ?_
  rintro e w' ⟨rfl, hx⟩
  have HX := Lib.hid hx
  clear hx
  clear FN
  go_wp2
  go_ret2
  first
  | exact ⟨rfl, HX.out⟩
  | exact ⟨rfl, Nx.trans (show Nx w (w.alloc (.cells #[.string (S p)] 9)) from (Below.refl _ w).alloc (Nat.le_refl _) _) HX.out⟩
  | exact ⟨rfl, (((Below.refl _ w).alloc (Nat.le_refl _) _).alloc (by simp) _ : Nx w _)⟩
theorem fuse_nil (w : World) (n : Int) :
    Calls Try.prog 17 #[.pointer none, .int .i64 n] w fun e w' => e = .returned (.int .i64 1) ∧ Nx w w' := by
  have VN := Lib.hid (fun W => valid_nil W)
  go_enter Try.func17, Try.ntmps17
  go_wp2_with fail
  refine (VN.out _).mono ?_
  rintro e w' ⟨rfl, rfl⟩
  clear VN
  go_wp2
  go_ret
  first
  | exact ⟨rfl, Nx.refl _⟩
  | exact ⟨rfl, Nx.trans (show Nx w (w.alloc (.cells #[.string (S p)] 9)) from (Below.refl _ w).alloc (Nat.le_refl _) _) HX.out⟩
  | exact ⟨rfl, (((Below.refl _ w).alloc (Nat.le_refl _) _).alloc (by simp) _ : Nx w _)⟩
theorem crash_nil (w : World) (n : Int) (A : Option Addr) (m c : Nat) :
    Calls Try.prog 14 #[.pointer none, .int .i64 n, .slice A m c] w fun e w' => e = .returned (.int .i64 1) ∧ Nx w w' := by
  have VN := Lib.hid (fun W => valid_nil W)
  go_enter Try.func14, Try.ntmps14
  go_wp2_with fail
  refine (VN.out _).mono ?_
  rintro e w' ⟨rfl, rfl⟩
  clear VN
  go_wp2
  go_ret
  first
  | exact ⟨rfl, Nx.refl _⟩
  | exact ⟨rfl, Nx.trans (show Nx w (w.alloc (.cells #[.string (S p)] 9)) from (Below.refl _ w).alloc (Nat.le_refl _) _) HX.out⟩
  | exact ⟨rfl, (((Below.refl _ w).alloc (Nat.le_refl _) _).alloc (by simp) _ : Nx w _)⟩
theorem stat_nil (w : World) (p : Str) :
    Calls Try.prog 21 #[.pointer none, .string (S p)] w fun e w' => e = .returned (.tuple #[.int .i64 0, .int .u64 0, .bool false]) ∧ Nx w w' := by
  have VN := Lib.hid (fun W => valid_nil W)
  generalize S p = sp at *
  go_enter Try.func21, Try.ntmps21
  go_wp2_with fail
  refine (VN.out _).mono ?_
  rintro e w' ⟨rfl, rfl⟩
  clear VN
  go_wp2
  go_ret3
  first
  | exact ⟨rfl, Nx.refl _⟩
  | exact ⟨rfl, Nx.trans (show Nx w (w.alloc (.cells #[.string (S p)] 9)) from (Below.refl _ w).alloc (Nat.le_refl _) _) HX.out⟩
  | exact ⟨rfl, (((Below.refl _ w).alloc (Nat.le_refl _) _).alloc (by simp) _ : Nx w _)⟩
theorem paths_nil (w : World) (p : Str) :
    Calls Try.prog 23 #[.pointer none, .string (S p)] w fun e w' => e = .returned (.slice none 0 0) ∧ Nx w w' := by
  have VN := Lib.hid (fun W => valid_nil W)
  generalize S p = sp at *
  go_enter Try.func23, Try.ntmps23
  go_wp2_with fail
  refine (VN.out _).mono ?_
  rintro e w' ⟨rfl, rfl⟩
  clear VN
  go_wp2
  go_ret
  first
  | exact ⟨rfl, Nx.refl _⟩
  | exact ⟨rfl, Nx.trans (show Nx w (w.alloc (.cells #[.string (S p)] 9)) from (Below.refl _ w).alloc (Nat.le_refl _) _) HX.out⟩
  | exact ⟨rfl, (((Below.refl _ w).alloc (Nat.le_refl _) _).alloc (by simp) _ : Nx w _)⟩
theorem left_nil (w : World) :
    Calls Try.prog 16 #[.pointer none] w fun e w' => e = .returned (.int .i64 0) ∧ Nx w w' := by
  have VN := Lib.hid (fun W => valid_nil W)
  go_enter Try.func16, Try.ntmps16
  go_wp2_with fail
  refine (VN.out _).mono ?_
  rintro e w' ⟨rfl, rfl⟩
  clear VN
  go_wp2
  go_ret
  first
  | exact ⟨rfl, Nx.refl _⟩
  | exact ⟨rfl, Nx.trans (show Nx w (w.alloc (.cells #[.string (S p)] 9)) from (Below.refl _ w).alloc (Nat.le_refl _) _) HX.out⟩
  | exact ⟨rfl, (((Below.refl _ w).alloc (Nat.le_refl _) _).alloc (by simp) _ : Nx w _)⟩
theorem clock_nil (w : World) :
    Calls Try.prog 24 #[.pointer none] w fun e w' => e = .returned (.int .u64 0) ∧ Nx w w' := by
  have VN := Lib.hid (fun W => valid_nil W)
  go_enter Try.func24, Try.ntmps24
  go_wp2_with fail
  refine (VN.out _).mono ?_
  rintro e w' ⟨rfl, rfl⟩
  clear VN
  go_wp2
  go_ret
  first
  | exact ⟨rfl, Nx.refl _⟩
  | exact ⟨rfl, Nx.trans (show Nx w (w.alloc (.cells #[.string (S p)] 9)) from (Below.refl _ w).alloc (Nat.le_refl _) _) HX.out⟩
  | exact ⟨rfl, (((Below.refl _ w).alloc (Nat.le_refl _) _).alloc (by simp) _ : Nx w _)⟩
theorem on_nil (w : World) :
    Calls Try.prog 19 #[.pointer none] w fun e w' => e = .returned (.bool false) ∧ Nx w w' := by
  have VN := Lib.hid (fun W => valid_nil W)
  go_enter Try.func19, Try.ntmps19
  go_wp2_with fail
  refine (VN.out _).mono ?_
  rintro e w' ⟨rfl, rfl⟩
  clear VN
  go_wp2
  go_ret
  first
  | exact ⟨rfl, Nx.refl _⟩
  | exact ⟨rfl, Nx.trans (show Nx w (w.alloc (.cells #[.string (S p)] 9)) from (Below.refl _ w).alloc (Nat.le_refl _) _) HX.out⟩
  | exact ⟨rfl, (((Below.refl _ w).alloc (Nat.le_refl _) _).alloc (by simp) _ : Nx w _)⟩
theorem safe_nil (w : World) :
    Calls Try.prog 25 #[.pointer none] w fun e w' => e = .returned (.slice none 0 0) ∧ Nx w w' := by
  have VN := Lib.hid (fun W => valid_nil W)
  go_enter Try.func25, Try.ntmps25
  go_wp2_with fail
  refine (VN.out _).mono ?_
  rintro e w' ⟨rfl, rfl⟩
  clear VN
  go_wp2
  go_ret
  first
  | exact ⟨rfl, Nx.refl _⟩
  | exact ⟨rfl, Nx.trans (show Nx w (w.alloc (.cells #[.string (S p)] 9)) from (Below.refl _ w).alloc (Nat.le_refl _) _) HX.out⟩
  | exact ⟨rfl, (((Below.refl _ w).alloc (Nat.le_refl _) _).alloc (by simp) _ : Nx w _)⟩
set_option maxRecDepth 100000 in
theorem rename_nil (w : World) (p q : Str) :
    Calls Try.prog 13 #[.pointer none, .string (S p), .string (S q)] w fun e w' => e = .returned (.int .i64 1) ∧ Nx w w' := by
  have Z1 : Hid (BlkIs (((w.alloc (.cells #[.string (S p)] 9)).alloc (.cells #[.string (S q)] 9)).alloc (.cells #[.string (S q)] 9)) (w.heap.size + 2) 9 #[.string (S q)]) := by
    have := (BlkIs.new ((w.alloc (.cells #[.string (S p)] 9)).alloc (.cells #[.string (S q)] 9)) 9 #[.string (S q)])
    rw [World.size_alloc, World.size_alloc] at this
    exact this
  have FN : Hid (∀ W b, BlkIs W b 9 #[.string (S q)] → _) := fun W b hb => find_nil W p (some ⟨b, 0, none⟩) 1 1 [q] (by decide) ⟨rfl, .inr ⟨b, 1, _, rfl, Nat.zero_le _, hb, Nat.le_refl _, by decide, rfl, rfl⟩⟩
  have bl : Below w.heap.size w (((w.alloc (.cells #[.string (S p)] 9)).alloc (.cells #[.string (S q)] 9)).alloc (.cells #[.string (S q)] 9)) := (((Below.refl _ w).alloc (Nat.le_refl _) _).alloc (by simp) _).alloc (by simp; omega) _
  have B1 := Lib.hid bl
  clear bl
  generalize S p = sp at *
  generalize S q = sq at *
  go_enter Try.func13, Try.ntmps13
  go_wp2_with fail
  refine (FN.out _ (w.heap.size + 2) Z1.out).mono ?_
  rintro e w2 ⟨rfl, hc⟩
  have N2 : Hid (Nx w w2) := ((Chd.of_below B1.out).trans hc).below (Nat.le_refl _) (fun j hj e => by
    have : some (w.heap.size + 2) = some j := e
    rw [Option.some.injEq] at this
    omega)
  have hx : ∀ o, (w2.alloc o).heap.size = w2.heap.size + 1 := fun o => by simp
  clear hc FN Z1 B1
  go_wp2
  go_ret
  exact ⟨rfl, N2.out.alloc _⟩
end Go.Proofs.Ytodnckflobefpaa
