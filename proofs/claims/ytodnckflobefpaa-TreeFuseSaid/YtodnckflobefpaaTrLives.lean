/- The examples of the law's lives, call by call. -/
import Derived.Test.YtodnckflobefpaaTrZ
import Derived.Lib.SlBytesConst
namespace Go.Proofs.Ytodnckflobefpaa
open Go.RowKit Go.Maps
set_option linter.unusedVariables false

theorem arg_const (W : World) (C : Array Value) (b : Str) (n : Nat) (h : C.toList = bvs b) (hn : b.length = n) (hm : n ≤ 1000000) : Arg (W.alloc (.cells C 5 (n, n + 1))) (some ⟨W.heap.size, 0, none⟩) n n b :=
  ⟨hn, Nat.le_refl _, by unfold maxLen; omega, fun _ => ⟨W.heap.size, 0, rfl, by simp, fun i hi => by
    rw [cell_of_row _ W.heap.size (0 + i) C 5 (n, n + 1) (heap_alloc_new W _), Nat.zero_add, ← Array.getElem?_toList, h]
    exact bvs_get b i (by omega)⟩⟩
theorem nums_nil (W : World) : Nums W none 0 0 [] := ⟨rfl, Nat.zero_le _, fun i => by simp, fun e => by omega⟩
theorem nums_lit1 (W : World) (x : Int) (hx : x ≤ 9223372036854775807) : Nums (W.alloc (.cells #[.int .i64 x] 3)) (some ⟨W.heap.size, 0, none⟩) 1 1 [x] :=
  ⟨rfl, by decide, fun i => by
    rcases i with _ | i
    · exact hx
    · simp [List.getD], fun _ => ⟨W.heap.size, 0, rfl, by simp, fun i hi => by
    obtain rfl : i = 0 := by omega
    rw [(BlkIs.new W 3 #[.int .i64 x]).cell]; rfl⟩⟩
theorem strs_two (W : World) (a b : Str) : Strs (W.alloc (.cells #[.string (S a), .string (S b)] 9)) (some ⟨W.heap.size, 0, none⟩) 2 [a, b] :=
  ⟨rfl, by decide, fun _ => ⟨W.heap.size, rfl, by simp, fun j hj => by
    rw [(BlkIs.new W 9 #[.string (S a), .string (S b)]).cell]
    obtain rfl | rfl : j = 0 ∨ j = 1 := by omega
    · rfl
    · rfl⟩⟩
def Lv0 : St := St.new 100
theorem Lve1 : (Lv0.make [97]).2 = 0 := by decide +kernel
def Lv1 : St := (Lv0.make [97]).1
theorem Lve2 : (Lv1.write [97] [120, 121]).2 = 0 := by decide +kernel
def Lv2 : St := (Lv1.write [97] [120, 121]).1
theorem Lve3 : (Lv2.sync [97]).2 = 0 := by decide +kernel
def Lv3 : St := (Lv2.sync [97]).1
theorem Lve4 : (Lv3.syncPaths).2 = 0 := by decide +kernel
def Lv4 : St := (Lv3.syncPaths).1
theorem Lve5 : (Lv4.append_ [97] [122]).2 = 0 := by decide +kernel
def Lv5 : St := (Lv4.append_ [97] [122]).1
def Lv6 : St := Lv5.crash 0 [1]
theorem Lve7 : (Lv6.read [97]).2.1 = [120, 121, 122] := by decide +kernel
def Lv7 : St := (Lv6.read [97]).1
theorem Lve8 : (Lv7.make [98]).2 = 0 := by decide +kernel
def Lv8 : St := (Lv7.make [98]).1
theorem Lve9 : (Lv8.write [98] [113]).2 = 0 := by decide +kernel
def Lv9 : St := (Lv8.write [98] [113]).1
theorem Lve10 : (Lv9.sync [98]).2 = 0 := by decide +kernel
def Lv10 : St := (Lv9.sync [98]).1
theorem Lve11 : (Lv10.rename [98] [97]).2 = 0 := by decide +kernel
def Lv11 : St := (Lv10.rename [98] [97]).1
def Lv12 : St := Lv11.crash 1 []
theorem Lve14 : (Lv12.read [97]).2.1 = [120, 121, 122] := by decide +kernel
def Lv13 : St := (Lv12.read [97]).1
theorem Lve15 : (Lv13.read [98]).2.1 = [113] := by decide +kernel
def Lv14 : St := (Lv13.read [98]).1
theorem LvP : Lv12.paths [] = [[97], [98]] := by decide +kernel

set_option maxRecDepth 100000 in
set_option maxHeartbeats 4000000 in
theorem lives_any (w : World) : Calls Try.prog 9 #[] w fun e w' => e = .returned (.bool true) ∧ Nx w w' := by
  have X0 := Lib.hid (liv_new (w := w) (W := w) 100 (by decide) (by decide) (Nx.refl w))
  obtain ⟨tb, htb⟩ : ∃ tb, w.heap.size + 2 = tb := ⟨_, rfl⟩
  rw [htb] at X0
  clear htb
  have X1 : Hid (∀ W, Liv w tb Lv0 0 W → Calls Try.prog 10 #[.pointer (some ⟨tb, 0, none⟩), .string ⟨#[97]⟩] W fun e w' => e = .returned (.int .i64 0) ∧ Liv w tb Lv1 2 w') := fun W h => by have := liv_make h (by decide) [97] (by decide); rw [Lve1] at this; exact this
  have X2 : Hid (∀ W, Liv w tb Lv1 2 W → Calls Try.prog 11 #[.pointer (some ⟨tb, 0, none⟩), .string ⟨#[97]⟩, .slice (some ⟨W.heap.size, 0, none⟩) 2 2] (W.alloc (.cells #[.int .u8 120, .int .u8 121] 5 (2, 3))) fun e w' => e = .returned (.int .i64 0) ∧ Liv w tb Lv2 4 w') := fun W h => by have := liv_write h ((Below.refl _ W).alloc (Nat.le_refl _) _) (by decide) [97] (by decide) (some ⟨W.heap.size, 0, none⟩) 2 2 [120, 121] (arg_const W #[.int .u8 120, .int .u8 121] [120, 121] 2 rfl rfl (by decide)) (by decide) (fun e => by cases e) (fun j o e => by simp only [Option.some.injEq, Addr.mk.injEq] at e; omega); rw [Lve2] at this; exact this
  have X3 : Hid (∀ W, Liv w tb Lv2 4 W → Calls Try.prog 12 #[.pointer (some ⟨tb, 0, none⟩), .string ⟨#[97]⟩] W fun e w' => e = .returned (.int .i64 0) ∧ Liv w tb Lv3 6 w') := fun W h => by have := liv_sync h (by decide) [97] (by decide); rw [Lve3] at this; exact this
  have X4 : Hid (∀ W, Liv w tb Lv3 6 W → Calls Try.prog 27 #[.pointer (some ⟨tb, 0, none⟩)] W fun e w' => e = .returned (.int .i64 0) ∧ Liv w tb Lv4 8 w') := fun W h => by have := liv_syncPaths h (by decide); rw [Lve4] at this; exact this
  have X5 : Hid (∀ W, Liv w tb Lv4 8 W → Calls Try.prog 28 #[.pointer (some ⟨tb, 0, none⟩), .string ⟨#[97]⟩, .slice (some ⟨W.heap.size, 0, none⟩) 1 1] (W.alloc (.cells #[.int .u8 122] 5 (1, 2))) fun e w' => e = .returned (.int .i64 0) ∧ Liv w tb Lv5 10 w') := fun W h => by have := liv_append h ((Below.refl _ W).alloc (Nat.le_refl _) _) (by decide) [97] (by decide) (some ⟨W.heap.size, 0, none⟩) 1 1 [122] (arg_const W #[.int .u8 122] [122] 1 rfl rfl (by decide)) (by decide) (fun j o e => by simp only [Option.some.injEq, Addr.mk.injEq] at e; omega); rw [Lve5] at this; exact this
  have X6 : Hid (∀ W, Liv w tb Lv5 10 W → Calls Try.prog 14 #[.pointer (some ⟨tb, 0, none⟩), .int .i64 0, .slice (some ⟨W.heap.size, 0, none⟩) 1 1] (W.alloc (.cells #[.int .i64 1] 3)) fun e w' => e = .returned (.int .i64 0) ∧ Liv w tb Lv6 12 w') := fun W h => by have := liv_crash h ((Below.refl _ W).alloc (Nat.le_refl _) _) (by decide) 0 (by decide) (some ⟨W.heap.size, 0, none⟩) 1 1 [1] (nums_lit1 W 1 (by decide)) (fun j o e => by simp only [Option.some.injEq, Addr.mk.injEq] at e; omega); exact this
  have X7 : Hid (∀ W, Liv w tb Lv6 12 W → Calls Try.prog 15 #[.pointer (some ⟨tb, 0, none⟩), .string ⟨#[97]⟩] W fun e w' => e = .returned (.string ⟨#[120, 121, 122]⟩) ∧ Liv w tb Lv7 12 w') := fun W h => by have := liv_got h (by decide) [97] (by decide); rw [Lve7] at this; exact this
  have X8 : Hid (∀ W, Liv w tb Lv7 12 W → Calls Try.prog 10 #[.pointer (some ⟨tb, 0, none⟩), .string ⟨#[98]⟩] W fun e w' => e = .returned (.int .i64 0) ∧ Liv w tb Lv8 14 w') := fun W h => by have := liv_make h (by decide) [98] (by decide); rw [Lve8] at this; exact this
  have X9 : Hid (∀ W, Liv w tb Lv8 14 W → Calls Try.prog 11 #[.pointer (some ⟨tb, 0, none⟩), .string ⟨#[98]⟩, .slice (some ⟨W.heap.size, 0, none⟩) 1 1] (W.alloc (.cells #[.int .u8 113] 5 (1, 2))) fun e w' => e = .returned (.int .i64 0) ∧ Liv w tb Lv9 16 w') := fun W h => by have := liv_write h ((Below.refl _ W).alloc (Nat.le_refl _) _) (by decide) [98] (by decide) (some ⟨W.heap.size, 0, none⟩) 1 1 [113] (arg_const W #[.int .u8 113] [113] 1 rfl rfl (by decide)) (by decide) (fun e => by cases e) (fun j o e => by simp only [Option.some.injEq, Addr.mk.injEq] at e; omega); rw [Lve9] at this; exact this
  have X10 : Hid (∀ W, Liv w tb Lv9 16 W → Calls Try.prog 12 #[.pointer (some ⟨tb, 0, none⟩), .string ⟨#[98]⟩] W fun e w' => e = .returned (.int .i64 0) ∧ Liv w tb Lv10 18 w') := fun W h => by have := liv_sync h (by decide) [98] (by decide); rw [Lve10] at this; exact this
  have X11 : Hid (∀ W, Liv w tb Lv10 18 W → Calls Try.prog 13 #[.pointer (some ⟨tb, 0, none⟩), .string ⟨#[98]⟩, .string ⟨#[97]⟩] W fun e w' => e = .returned (.int .i64 0) ∧ Liv w tb Lv11 20 w') := fun W h => by have := liv_rename h (by decide) [98] [97] (by decide) (by decide); rw [Lve11] at this; exact this
  have X12 : Hid (∀ W, Liv w tb Lv11 20 W → Calls Try.prog 14 #[.pointer (some ⟨tb, 0, none⟩), .int .i64 1, .slice none 0 0] W fun e w' => e = .returned (.int .i64 0) ∧ Liv w tb Lv12 22 w') := fun W h => by have := liv_crash h (Nx.refl W) (by decide) 1 (by decide) none 0 0 [] (nums_nil W) (fun j o e => by cases e); exact this
  have X14 : Hid (∀ W, Liv w tb Lv12 22 W → Calls Try.prog 15 #[.pointer (some ⟨tb, 0, none⟩), .string ⟨#[97]⟩] W fun e w' => e = .returned (.string ⟨#[120, 121, 122]⟩) ∧ Liv w tb Lv13 22 w') := fun W h => by have := liv_got h (by decide) [97] (by decide); rw [Lve14] at this; exact this
  have X15 : Hid (∀ W, Liv w tb Lv13 22 W → Calls Try.prog 15 #[.pointer (some ⟨tb, 0, none⟩), .string ⟨#[98]⟩] W fun e w' => e = .returned (.string ⟨#[113]⟩) ∧ Liv w tb Lv14 22 w') := fun W h => by have := liv_got h (by decide) [98] (by decide); rw [Lve15] at this; exact this
  have P1 : Hid (∀ W, Liv w tb Lv12 22 W → Calls Try.prog 23 #[.pointer (some ⟨tb, 0, none⟩), .string ⟨#[]⟩] W fun e w' => (∃ A n c, e = .returned (.slice A n c) ∧ Strs w' A n [[97], [98]]) ∧ Nx W w') := fun W h => by have := liv_paths h (by decide) []; rw [LvP] at this; exact this
  have P2 : Hid (∀ W A n c, Strs W A n [[97], [98]] → Calls Try.prog 30 #[.slice A n c, .slice (some ⟨W.heap.size, 0, none⟩) 2 2] (W.alloc (.cells #[.string ⟨#[97]⟩, .string ⟨#[98]⟩] 9)) fun e w' => e = .returned (.bool true) ∧ ∃ m, w' = (W.alloc (.cells #[.string ⟨#[97]⟩, .string ⟨#[98]⟩] 9)).drewN m) := fun W A n c h => by have := texts_any (W.alloc (.cells #[.string (S [97]), .string (S [98])] 9)) A (some ⟨W.heap.size, 0, none⟩) n c 2 2 [[97], [98]] [[97], [98]] (h.nx ((Below.refl _ W).alloc (Nat.le_refl _) _)) (strs_two W [97] [98]); rw [decide_eq_true rfl] at this; exact this
  have kc := fun (w : World) (C : Array Value) (n c : Nat) => Lib.run_convert_bytes_const (P := Try.prog) w 29 5 C n c Try.underlying29 Try.underlying5
  go_enter Try.func9, Try.ntmps9
  go_wp2_with fail
  refine X0.out.mono ?_
  rintro e w0 ⟨rfl, hL⟩
  have H0 : Hid (Liv w tb Lv0 0 w0) := hL
  clear hL X0
  go_wp2_with fail
  refine (X1.out w0 H0.out).mono ?_
  rintro e w1 ⟨rfl, hL⟩
  have H1 := Lib.hid hL
  clear hL X1 H0
  go_wp2_with fail
  refine (X2.out w1 H1.out).mono ?_
  rintro e w2 ⟨rfl, hL⟩
  have H2 := Lib.hid hL
  clear hL X2 H1
  go_wp2_with fail
  refine (X3.out w2 H2.out).mono ?_
  rintro e w3 ⟨rfl, hL⟩
  have H3 := Lib.hid hL
  clear hL X3 H2
  go_wp2_with fail
  refine (X4.out w3 H3.out).mono ?_
  rintro e w4 ⟨rfl, hL⟩
  have H4 := Lib.hid hL
  clear hL X4 H3
  go_wp2_with fail
  refine (X5.out w4 H4.out).mono ?_
  rintro e w5 ⟨rfl, hL⟩
  have H5 := Lib.hid hL
  clear hL X5 H4
  go_wp2_with fail
  refine (X6.out w5 H5.out).mono ?_
  rintro e w6 ⟨rfl, hL⟩
  have H6 := Lib.hid hL
  clear hL X6 H5
  go_wp2_with fail
  refine (X7.out w6 H6.out).mono ?_
  rintro e w7 ⟨rfl, hL⟩
  have H7 := Lib.hid hL
  clear hL X7 H6
  go_wp2_with fail
  refine (X8.out w7 H7.out).mono ?_
  rintro e w8 ⟨rfl, hL⟩
  have H8 := Lib.hid hL
  clear hL X8 H7
  go_wp2_with fail
  refine (X9.out w8 H8.out).mono ?_
  rintro e w9 ⟨rfl, hL⟩
  have H9 := Lib.hid hL
  clear hL X9 H8
  go_wp2_with fail
  refine (X10.out w9 H9.out).mono ?_
  rintro e w10 ⟨rfl, hL⟩
  have H10 := Lib.hid hL
  clear hL X10 H9
  go_wp2_with fail
  refine (X11.out w10 H10.out).mono ?_
  rintro e w11 ⟨rfl, hL⟩
  have H11 := Lib.hid hL
  clear hL X11 H10
  go_wp2_with fail
  refine (X12.out w11 H11.out).mono ?_
  rintro e w12 ⟨rfl, hL⟩
  have H12 := Lib.hid hL
  clear hL X12 H11
  go_wp2_with fail
  refine (P1.out w12 H12.out).mono ?_
  rintro e wp ⟨⟨A, np, cp, rfl, hs⟩, hb⟩
  have SP := Lib.hid hs
  have HQ := Lib.hid (H12.out.next hb)
  clear hs hb P1 H12
  go_wp2_with fail
  refine (P2.out wp A np cp SP.out).mono ?_
  rintro e w13 ⟨rfl, m, hm⟩
  have H13 : Hid (Liv w tb Lv12 22 w13) := by rw [hm]; exact (HQ.out.next ((Below.refl _ wp).alloc (Nat.le_refl _) _)).drewN m
  clear hm HQ SP P2
  go_wp2_with fail
  refine (X14.out w13 H13.out).mono ?_
  rintro e w14 ⟨rfl, hL⟩
  have H14 := Lib.hid hL
  clear hL X14 H13
  go_wp2_with fail
  refine (X15.out w14 H14.out).mono ?_
  rintro e w15 ⟨rfl, hL⟩
  have H15 := Lib.hid hL
  clear hL X15 H14
  go_wp2
  go_ret
  exact ⟨rfl, H15.out.nx⟩
end Go.Proofs.Ytodnckflobefpaa
