/- The walk of the law TreeNames. -/
import Derived.Test.YtodnckflobefpaaTrLives
namespace Go.Proofs.Ytodnckflobefpaa
open Go.RowKit Go.Maps
set_option linter.unusedVariables false

def zs101 : Str := List.replicate 101 0
theorem infoByte : (Try.prog.info? 5).map (fun i => (i.zero, i.size, i.bytes)) = some (some (.int .u8 0), 1, 1) := by kernel_rfl
theorem run_make_bytes (w : World) (L C : Nat) (h : L ≤ C) (hC : C ≤ 1099511627776) :
    (Instr.makeSlice 29 (.int .i64 (L : Int)) (.int .i64 (C : Int))).run Try.prog w = .ok (.slice (some ⟨w.heap.size, 0, none⟩) L C) (w.alloc (.cells (madeCells #[.int .u8 0] C) 5)) ∧
    Own (w.alloc (.cells (madeCells #[.int .u8 0] C) 5)) w.heap.size (some ⟨w.heap.size, 0, none⟩) L C (List.replicate L 0) := by
  obtain ⟨i, hi, hz⟩ := Option.map_eq_some_iff.1 infoByte
  simp only [Prod.mk.injEq] at hz
  obtain ⟨hz, hs, hb⟩ := hz
  have hr := run_make (P := Try.prog) w 29 5 i (.int .u8 0) Try.underlying29 hi hz .i64 .i64 L C (by omega) (by omega) (by rw [hb]; omega) (by omega)
  simp only [Int.toNat_natCast, hs, Nat.mul_one] at hr
  refine ⟨hr, ?_, .inr ⟨w.heap.size, C, madeCells #[.int .u8 0] C, rfl, Nat.le_refl _, heap_alloc_new w _, h, by unfold maxLen; omega, by rw [size_madeCells, Nat.mul_one], ?_⟩⟩
  · simp [bvs_length]
  · rw [toList_madeCells_one, Nat.mul_one, List.take_replicate, Nat.min_eq_left h]
    simp [bvs]
def Nm0 : St := St.new 100
theorem Nme1 : (Nm0.make [46, 97]).2 = 2 := by decide +kernel
def Nm1 : St := (Nm0.make [46, 97]).1
theorem Nme2 : (Nm1.make [46, 116, 109, 112, 47, 97]).2 = 0 := by decide +kernel
def Nm2 : St := (Nm1.make [46, 116, 109, 112, 47, 97]).1
theorem Nme3 : (Nm2.write [46, 116, 109, 112, 47, 97] zs101).2 = 10 := by decide +kernel
def Nm3 : St := (Nm2.write [46, 116, 109, 112, 47, 97] zs101).1
theorem Nme4 : (Nm3.write [98] []).2 = 6 := by decide +kernel
def Nm4 : St := (Nm3.write [98] []).1
theorem Nme5 : (Nm4.write [46, 116, 109, 112, 47, 97] [113]).2 = 0 := by decide +kernel
def Nm5 : St := (Nm4.write [46, 116, 109, 112, 47, 97] [113]).1
theorem Nme6 : (Nm5.sync [46, 116, 109, 112, 47, 97]).2 = 0 := by decide +kernel
def Nm6 : St := (Nm5.sync [46, 116, 109, 112, 47, 97]).1
theorem Nme7 : (Nm6.rename [46, 116, 109, 112, 47, 97] [97]).2 = 0 := by decide +kernel
def Nm7 : St := (Nm6.rename [46, 116, 109, 112, 47, 97] [97]).1
def Nm8 : St := Nm7.crash 2 []
theorem Nme9 : (Nm8.read [97]).2.1 = [113] := by decide +kernel
def Nm9 : St := (Nm8.read [97]).1
def Nm10 : St := Nm9.fuse_ 0
theorem Nme11 : (Nm10.read [97]).2.2 = 11 := by decide +kernel
def Nm11 : St := (Nm10.read [97]).1
theorem NmO : Nm11.off = true := by decide +kernel
theorem NmL : Nm9.left_ Nm9.used = 99 := by decide +kernel

set_option maxRecDepth 100000 in
set_option maxHeartbeats 4000000 in
theorem names_any (w : World) : Calls Try.prog 3 #[] w fun e w' => e = .returned (.bool true) ∧ Below w.heap.size w w' := by
  have Y0 := Lib.hid (liv_new (w := w) (W := w) 100 (by decide) (by decide) (Nx.refl w))
  have YB := Lib.hid (fun W => new_bad W (-1) (.inl (by decide)))
  have YL := Lib.hid (fun W => lives_any W)
  obtain ⟨tb, htb⟩ : ∃ tb, w.heap.size + 2 = tb := ⟨_, rfl⟩
  rw [htb] at Y0
  clear htb
  have X1 : Hid (∀ W, Liv w tb Nm0 0 W → Calls Try.prog 10 #[.pointer (some ⟨tb, 0, none⟩), .string ⟨#[46, 97]⟩] W fun e w' => e = .returned (.int .i64 2) ∧ Liv w tb Nm1 2 w') := fun W h => by have := liv_make h (by decide) [46, 97] (by decide); rw [Nme1] at this; exact this
  have X2 : Hid (∀ W, Liv w tb Nm1 2 W → Calls Try.prog 10 #[.pointer (some ⟨tb, 0, none⟩), .string ⟨#[46, 116, 109, 112, 47, 97]⟩] W fun e w' => e = .returned (.int .i64 0) ∧ Liv w tb Nm2 4 w') := fun W h => by have := liv_make h (by decide) [46, 116, 109, 112, 47, 97] (by decide); rw [Nme2] at this; exact this
  have X3 : Hid (∀ W C, C.toList = bvs zs101 → Liv w tb Nm2 4 W → Calls Try.prog 11 #[.pointer (some ⟨tb, 0, none⟩), .string ⟨#[46, 116, 109, 112, 47, 97]⟩, .slice (some ⟨W.heap.size, 0, none⟩) 101 101] (W.alloc (.cells C 5)) fun e w' => e = .returned (.int .i64 10) ∧ Liv w tb Nm3 6 w') := fun W C hC h => by have := liv_write h ((Below.refl _ W).alloc (Nat.le_refl _) _) (by decide) [46, 116, 109, 112, 47, 97] (by decide) (some ⟨W.heap.size, 0, none⟩) 101 101 zs101 (Own.lit W C zs101 hC (by simp [maxLen, zs101])).arg (by decide +kernel) (fun e => by cases e) (fun j o e => by simp only [Option.some.injEq, Addr.mk.injEq] at e; omega); rw [Nme3] at this; exact this
  have X4 : Hid (∀ W, Liv w tb Nm3 6 W → Calls Try.prog 11 #[.pointer (some ⟨tb, 0, none⟩), .string ⟨#[98]⟩, .slice none 0 0] W fun e w' => e = .returned (.int .i64 6) ∧ Liv w tb Nm4 8 w') := fun W h => by have := liv_write h (Nx.refl W) (by decide) [98] (by decide) none 0 0 [] ⟨rfl, Nat.le_refl _, Nat.zero_le _, fun e => by omega⟩ (by decide) (fun e => rfl) (fun j o e => by cases e); rw [Nme4] at this; exact this
  have X5 : Hid (∀ W, Liv w tb Nm4 8 W → Calls Try.prog 11 #[.pointer (some ⟨tb, 0, none⟩), .string ⟨#[46, 116, 109, 112, 47, 97]⟩, .slice (some ⟨W.heap.size, 0, none⟩) 1 1] (W.alloc (.cells #[.int .u8 113] 5 (1, 2))) fun e w' => e = .returned (.int .i64 0) ∧ Liv w tb Nm5 10 w') := fun W h => by have := liv_write h ((Below.refl _ W).alloc (Nat.le_refl _) _) (by decide) [46, 116, 109, 112, 47, 97] (by decide) (some ⟨W.heap.size, 0, none⟩) 1 1 [113] (arg_const W #[.int .u8 113] [113] 1 rfl rfl (by decide)) (by decide) (fun e => by cases e) (fun j o e => by simp only [Option.some.injEq, Addr.mk.injEq] at e; omega); rw [Nme5] at this; exact this
  have X6 : Hid (∀ W, Liv w tb Nm5 10 W → Calls Try.prog 12 #[.pointer (some ⟨tb, 0, none⟩), .string ⟨#[46, 116, 109, 112, 47, 97]⟩] W fun e w' => e = .returned (.int .i64 0) ∧ Liv w tb Nm6 12 w') := fun W h => by have := liv_sync h (by decide) [46, 116, 109, 112, 47, 97] (by decide); rw [Nme6] at this; exact this
  have X7 : Hid (∀ W, Liv w tb Nm6 12 W → Calls Try.prog 13 #[.pointer (some ⟨tb, 0, none⟩), .string ⟨#[46, 116, 109, 112, 47, 97]⟩, .string ⟨#[97]⟩] W fun e w' => e = .returned (.int .i64 0) ∧ Liv w tb Nm7 14 w') := fun W h => by have := liv_rename h (by decide) [46, 116, 109, 112, 47, 97] [97] (by decide) (by decide); rw [Nme7] at this; exact this
  have X8 : Hid (∀ W, Liv w tb Nm7 14 W → Calls Try.prog 14 #[.pointer (some ⟨tb, 0, none⟩), .int .i64 2, .slice none 0 0] W fun e w' => e = .returned (.int .i64 0) ∧ Liv w tb Nm8 16 w') := fun W h => by have := liv_crash h (Nx.refl W) (by decide) 2 (by decide) none 0 0 [] (nums_nil W) (fun j o e => by cases e); exact this
  have X9 : Hid (∀ W, Liv w tb Nm8 16 W → Calls Try.prog 15 #[.pointer (some ⟨tb, 0, none⟩), .string ⟨#[97]⟩] W fun e w' => e = .returned (.string ⟨#[113]⟩) ∧ Liv w tb Nm9 16 w') := fun W h => by have := liv_got h (by decide) [97] (by decide); rw [Nme9] at this; exact this
  have X10 : Hid (∀ W, Liv w tb Nm9 16 W → Calls Try.prog 17 #[.pointer (some ⟨tb, 0, none⟩), .int .i64 0] W fun e w' => e = .returned (.int .i64 0) ∧ Liv w tb Nm10 16 w') := fun W h => liv_fuse h 0 (by decide)
  have X11 : Hid (∀ W, Liv w tb Nm10 16 W → Calls Try.prog 18 #[.pointer (some ⟨tb, 0, none⟩), .string ⟨#[97]⟩] W fun e w' => (∃ A n c, e = .returned (.tuple #[.slice A n c, .int .i64 11])) ∧ Liv w tb Nm11 16 w') := fun W h => by have := liv_read h (by decide) [97] (by decide); rw [Nme11] at this; exact this.mono fun e w' ⟨⟨A, n, c, e1, _⟩, e2⟩ => ⟨⟨A, n, c, e1⟩, e2⟩
  have XL : Hid (∀ W, Liv w tb Nm9 16 W → Calls Try.prog 16 #[.pointer (some ⟨tb, 0, none⟩)] W fun e w' => e = .returned (.int .i64 99) ∧ W = w') := fun W h => by have := liv_left h (by decide); rw [NmL] at this; exact this
  have XO : Hid (∀ W, Liv w tb Nm11 16 W → Calls Try.prog 19 #[.pointer (some ⟨tb, 0, none⟩)] W fun e w' => e = .returned (.bool false) ∧ W = w') := fun W h => by have := liv_on h; rw [NmO] at this; exact this
  have MK := Lib.hid (fun W => run_make_bytes W 101 101 (by omega) (by omega))
  have mk1 : ∀ W : World, (Instr.makeSlice 29 (.int .i64 101) (.int .i64 101)).run Try.prog W = .ok (.slice (some ⟨W.heap.size, 0, none⟩) 101 101) (W.alloc (.cells (madeCells #[.int .u8 0] 101) 5)) := fun W => (MK.out W).1
  generalize hmc : madeCells #[Value.int .u8 0] 101 = MC at *
  have hMC : Hid (MC.toList = bvs zs101) := by rw [← hmc]; show _ = _; rw [toList_madeCells_one]; simp [zs101, bvs]
  clear hmc MK
  have kc := fun (w : World) (C : Array Value) (n c : Nat) => Lib.run_convert_bytes_const (P := Try.prog) w 29 5 C n c Try.underlying29 Try.underlying5
  go_enter Try.func3, Try.ntmps3
  go_wp2_with fail
  refine Y0.out.mono ?_
  rintro e wa ⟨rfl, hL⟩
  have Ha : Hid (Liv w tb Nm0 0 wa) := hL
  clear hL Y0
  go_wp2_with fail
  refine (YB.out wa).mono ?_
  rintro e wb ⟨rfl, rfl⟩
  clear YB
  go_wp2_with fail
  refine (YL.out wa).mono ?_
  rintro e w0 ⟨rfl, hb⟩
  have H0 := Lib.hid (Ha.out.next hb)
  clear hb YL Ha
  go_wp2_with fail
  refine (X1.out w0 H0.out).mono ?_
  rintro e w1 ⟨rfl, hL⟩
  have H1 := Lib.hid hL
  clear hL X1 H0
  go_wp2_with fail
  refine (X2.out w1 H1.out).mono ?_
  rintro e w2 ⟨rfl, hL⟩
  have H2 := Lib.hid hL
  clear hL X2 H1
  go_wp2_with fail
  refine (X3.out w2 _ ?hc H2.out).mono ?_
  case hc => exact hMC.out
  rintro e w3 ⟨rfl, hL⟩
  have H3 := Lib.hid hL
  clear hL X3 H2
  go_wp2_with fail
  refine (X4.out w3 H3.out).mono ?_
  rintro e w4 ⟨rfl, hL⟩
  have H4 := Lib.hid hL
  clear hL X4 H3
  go_wp2_with fail
  refine (X5.out w4 H4.out).mono ?_
  rintro e w5 ⟨rfl, hL⟩
  have H5 := Lib.hid hL
  clear hL X5 H4
  go_wp2_with fail
  refine (X6.out w5 H5.out).mono ?_
  rintro e w6 ⟨rfl, hL⟩
  have H6 := Lib.hid hL
  clear hL X6 H5
  go_wp2_with fail
  refine (X7.out w6 H6.out).mono ?_
  rintro e w7 ⟨rfl, hL⟩
  have H7 := Lib.hid hL
  clear hL X7 H6
  go_wp2_with fail
  refine (X8.out w7 H7.out).mono ?_
  rintro e w8 ⟨rfl, hL⟩
  have H8 := Lib.hid hL
  clear hL X8 H7
  go_wp2_with fail
  refine (X9.out w8 H8.out).mono ?_
  rintro e w9 ⟨rfl, hL⟩
  have H9 := Lib.hid hL
  clear hL X9 H8
  go_wp2_with fail
  refine (XL.out w9 H9.out).mono ?_
  rintro e wl ⟨rfl, rfl⟩
  clear XL
  go_wp2_with fail
  refine (X10.out w9 H9.out).mono ?_
  rintro e w10 ⟨rfl, hL⟩
  have H10 := Lib.hid hL
  clear hL X10 H9
  go_wp2_with fail
  refine (X11.out w10 H10.out).mono ?_
  rintro e w11 ⟨⟨A9, n9, c9, rfl⟩, hL⟩
  have H11 := Lib.hid hL
  clear hL X11 H10
  go_wp2_with fail
  refine (XO.out w11 H11.out).mono ?_
  rintro e wo ⟨rfl, rfl⟩
  go_wp2
  go_ret
  exact ⟨rfl, H11.out.nx⟩
end Go.Proofs.Ytodnckflobefpaa
