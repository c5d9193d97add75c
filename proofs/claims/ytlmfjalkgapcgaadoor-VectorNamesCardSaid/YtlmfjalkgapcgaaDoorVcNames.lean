/- The law VectorNames. -/
import Derived.Test.YtlmfjalkgapcgaaDoorVcText
namespace Go.Proofs.YtlmfjalkgapcgaaDoor
open Go.RowKit Go.Sort
set_option linter.unusedVariables false

attribute [local go_sem] Oper.semAt_some

theorem ex_cp4 : cp [⟨1, 2⟩] [⟨3, 1⟩] = 4 := by simp [cp, ag, lessP, moreP, cpOf]
theorem ex_od1 : od [⟨1, 2⟩] [⟨3, 2⟩] = 1 := by simp [od, sm, cmpN, ag, dfl]
theorem ex_text : textV [⟨1, 2⟩, ⟨16, 10⟩] = [49, 58, 50, 32, 49, 54, 58, 49, 48] := by
  simp [textV, wordOf, Lib.itoa, Lib.decDigits, Lib.join, List.intercalate]
set_option maxRecDepth 100000 in
set_option maxHeartbeats 2000000 in
theorem names_any (w : World) (T : Tab w) : Calls Tryd.prog 3 #[] w fun e w' => e = .returned (.bool true) ∧ Nx w w' := by
  have AT := Lib.hid (fun (W : World) (d : Int) (n : Nat) => at_any W d n)
  have B1 : Hid (∀ W : World, Calls Tryd.prog 6 #[.slice (some ⟨W.heap.size, 0, none⟩) 1 1, .int .i64 1] (W.alloc (.cells #[.int .i64 1, .int .u64 18446744073709551615] 29)) (Ret2 fun r n w' => r = .slice none 0 0 ∧ n = 3 ∧ Nx W w')) := fun W =>
    (bump_any _ _ [⟨1, 18446744073709551615⟩] 1 (rd1 W 1 18446744073709551615) (ok_of (by simp)) (by simp)).mono fun e w' ⟨r, n, e1, h1, h2⟩ => by
      unfold BumpR at h1
      rw [if_pos (by decide), if_pos (by decide)] at h1
      exact ⟨r, n, e1, h1.1, h1.2, ((Nx.refl W).alloc _).trans h2⟩
  have B2 : Hid (∀ W : World, Calls Tryd.prog 6 #[.slice none 0 0, .int .i64 17] W (Ret2 fun r n w' => r = .slice none 0 0 ∧ n = 2 ∧ Nx W w')) := fun W =>
    (bump_any _ _ [] 17 (RdG.zero W) (ok_of (by simp)) (by simp)).mono fun e w' ⟨r, n, e1, h1, h2⟩ => by
      unfold BumpR at h1
      rw [if_neg (by decide)] at h1
      exact ⟨r, n, e1, h1.1, h1.2, h2⟩
  have LI := Lib.hid (fun W => lives_any W)
  have CO : Hid (∀ W x y, RdG ctE W x [⟨1, 2⟩] → RdG ctE W y [⟨3, 1⟩] → Calls Tryd.prog 8 #[x, y] W fun e w' => e = .returned (.int .i64 4) ∧ Nx W w') := fun W x y h1 h2 => by
    have := compare_any W x y _ _ h1 h2 (by simp)
    rw [ex_cp4, if_pos (by decide)] at this
    exact this
  have OR : Hid (∀ W x y, RdG ctE W x [⟨1, 2⟩] → RdG ctE W y [⟨3, 2⟩] → Calls Tryd.prog 9 #[x, y] W fun e w' => e = .returned (.int .i64 1) ∧ Nx W w') := fun W x y h1 h2 => by
    have := order_any W x y _ _ h1 h2 (ok_of (by simp)) (ok_of (by simp)) (by simp)
    rw [ex_od1, if_pos (by decide)] at this
    exact this
  have TX : Hid (∀ W x, Nx w W → RdG ctE W x [⟨1, 2⟩, ⟨16, 10⟩] → Calls Tryd.prog 10 #[x] W fun e w' => e = .returned (.string ⟨#[49, 58, 50, 32, 49, 54, 58, 49, 48]⟩) ∧ Nx W w') := fun W x hn h1 => by
    have := text_any W x _ h1 (ok_of (by simp)) (by simp) (T.next hn)
    rw [if_pos (by decide), ex_text] at this
    exact this
  have CK : Hid (∀ W x, RdG ctE W x [⟨1, 0⟩] → Calls Tryd.prog 11 #[x] W fun e w' => e = .returned (.int .i64 2) ∧ Nx W w') := fun W x h1 => by
    have := check_any W x _ h1 (by simp)
    rw [if_neg (by decide)] at this
    exact this
  clear T
  go_enter Tryd.func3, Tryd.ntmps3
  go_wp2_with fail
  refine (AT.out _ _ 18446744073709551615).mono ?_
  rintro e w1 ⟨rfl, hn1⟩
  have N1 := Lib.hid hn1
  clear hn1
  go_wp2_with fail
  refine (B1.out _).mono ?_
  rintro e w2 ⟨r2, n2, rfl, rfl, rfl, hn2⟩
  have N2 := Lib.hid (N1.out.trans hn2)
  clear hn2
  go_wp2_with fail
  refine (B2.out _).mono ?_
  rintro e w3 ⟨r3, n3, rfl, rfl, rfl, hn3⟩
  have N3 := Lib.hid (N2.out.trans hn3)
  clear hn3
  go_wp2_with fail
  refine (LI.out _).mono ?_
  rintro e w4 ⟨rfl, hn4⟩
  have N4 := Lib.hid (N3.out.trans hn4)
  clear hn4
  go_wp2_with fail
  refine (AT.out _ _ 2).mono ?_
  rintro e w5 ⟨rfl, hn5⟩
  go_wp2_with fail
  refine (AT.out _ _ 1).mono ?_
  rintro e w6 ⟨rfl, hn6⟩
  obtain ⟨V, hV⟩ : ∃ V, w6.alloc (.cells #[.int .i64 3, .int .u64 1] 29) = V := ⟨_, rfl⟩
  have nV : Nx w6 V := by rw [← hV]; exact (Nx.refl _).alloc _
  have X5 := ((rd1 w5 1 2).nx hn6).nx nV
  have X6 : RdG ctE V (.slice (some ⟨w6.heap.size, 0, none⟩) 1 1) [⟨3, 1⟩] := by rw [← hV]; exact rd1 w6 3 1
  have NV := Lib.hid ((((N4.out.trans hn5).alloc (.cells #[.int .i64 1, .int .u64 2] 29)).trans hn6).trans nV)
  have MV := Lib.hid (CO.out V _ _ X5 X6)
  clear hn5 hn6 nV X5 X6
  go_wp2_with fail
  refine MV.out.mono ?_
  rintro e w7 ⟨rfl, hn7⟩
  have N7 := Lib.hid (NV.out.trans hn7)
  clear hn7 hV MV
  go_wp2_with fail
  refine (AT.out _ _ 2).mono ?_
  rintro e w8 ⟨rfl, hn5⟩
  go_wp2_with fail
  refine (AT.out _ _ 2).mono ?_
  rintro e w9 ⟨rfl, hn6⟩
  obtain ⟨V, hV⟩ : ∃ V, w9.alloc (.cells #[.int .i64 3, .int .u64 2] 29) = V := ⟨_, rfl⟩
  have nV : Nx w9 V := by rw [← hV]; exact (Nx.refl _).alloc _
  have X5 := ((rd1 w8 1 2).nx hn6).nx nV
  have X6 : RdG ctE V (.slice (some ⟨w9.heap.size, 0, none⟩) 1 1) [⟨3, 2⟩] := by rw [← hV]; exact rd1 w9 3 2
  have NV := Lib.hid ((((N7.out.trans hn5).alloc (.cells #[.int .i64 1, .int .u64 2] 29)).trans hn6).trans nV)
  have MV := Lib.hid (OR.out V _ _ X5 X6)
  clear hn5 hn6 nV X5 X6
  go_wp2_with fail
  refine MV.out.mono ?_
  rintro e w10 ⟨rfl, hn7⟩
  have N10 := Lib.hid (NV.out.trans hn7)
  clear hn7 hV MV
  go_wp2_with fail
  refine (AT.out _ _ 2).mono ?_
  rintro e w11 ⟨rfl, hn5⟩
  go_wp2_with fail
  refine (AT.out _ _ 10).mono ?_
  rintro e w12 ⟨rfl, hn6⟩
  obtain ⟨V, hV⟩ : ∃ V, w12.alloc (.cells #[.int .i64 1, .int .u64 2, .int .i64 16, .int .u64 10] 29) = V := ⟨_, rfl⟩
  have nV : Nx w12 V := by rw [← hV]; exact (Nx.refl _).alloc _
  have X6 : RdG ctE V (.slice (some ⟨w12.heap.size, 0, none⟩) 2 2) [⟨1, 2⟩, ⟨16, 10⟩] := by rw [← hV]; exact rd2 w12 1 16 2 10
  have nn := ((N10.out.trans hn5).trans hn6).trans nV
  have NV := Lib.hid nn
  have MV := Lib.hid (TX.out V _ nn X6)
  clear hn5 hn6 nV X6 nn
  go_wp2_with fail
  refine MV.out.mono ?_
  rintro e w13 ⟨rfl, hn7⟩
  have N13 := Lib.hid (NV.out.trans hn7)
  clear hn7 hV MV
  go_wp2_with fail
  refine (AT.out _ _ 0).mono ?_
  rintro e w14 ⟨rfl, hn5⟩
  obtain ⟨V, hV⟩ : ∃ V, w14.alloc (.cells #[.int .i64 1, .int .u64 0] 29) = V := ⟨_, rfl⟩
  have nV : Nx w14 V := by rw [← hV]; exact (Nx.refl _).alloc _
  have X6 : RdG ctE V (.slice (some ⟨w14.heap.size, 0, none⟩) 1 1) [⟨1, 0⟩] := by rw [← hV]; exact rd1 w14 1 0
  have NV := Lib.hid ((N13.out.trans hn5).trans nV)
  have MV := Lib.hid (CK.out V _ X6)
  clear hn5 nV X6
  go_wp2_with fail
  refine MV.out.mono ?_
  rintro e w15 ⟨rfl, hn7⟩
  have N15 := Lib.hid (NV.out.trans hn7)
  clear hn7 hV MV
  go_wp2
  go_ret
  exact ⟨rfl, N15.out⟩
end Go.Proofs.YtlmfjalkgapcgaaDoor
