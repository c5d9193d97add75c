/- The examples of the law's lives, call by call. -/
import Derived.Test.YtiikjdjpodmpcaaGreatWlI
namespace Go.Proofs.YtiikjdjpodmpcaaGreat
open Go.RowKit Go.Maps
set_option linter.unusedVariables false

theorem strs_1 (W : World) (a : Str) : Strs (W.alloc (.cells #[.string (S a)] 9)) (some ⟨W.heap.size, 0, none⟩) 1 [a] :=
  ⟨rfl, by decide, fun _ => ⟨W.heap.size, rfl, by simp, fun j hj => by
    rw [(BlkIs.new W 9 #[.string (S a)]).cell]
    obtain rfl : j = 0 := by omega
    rfl⟩⟩
theorem strs_2 (W : World) (a b : Str) : Strs (W.alloc (.cells #[.string (S a), .string (S b)] 9)) (some ⟨W.heap.size, 0, none⟩) 2 [a, b] := strs_two W a b
def Vvs0 : St := St.new 1000
theorem Vvf1 : ((Vvs0).read [100, 98, 47, 108, 111, 103]).2.1.length ≤ 10000 := by decide +kernel
theorem Vvf2 : (openL [100, 98, 47, 108, 111, 103] Vvs0).2.2.2 = 0 := by decide +kernel
theorem Vvf3 : (openL [100, 98, 47, 108, 111, 103] Vvs0).2.2.1 = [] := by decide +kernel
def Vvs1 : St := (openL [100, 98, 47, 108, 111, 103] Vvs0).2.1
def Vvl1 : Lg := (openL [100, 98, 47, 108, 111, 103] Vvs0).1
theorem Vvf4 : (Vvl1.append Vvs1 [97] ).1.e = 0 := by decide +kernel
def Vvs2 : St := (Vvl1.append Vvs1 [97]).2
def Vvl2 : Lg := (Vvl1.append Vvs1 [97]).1
theorem Vvf5 : (Vvl2.append Vvs2 [98] ).1.e = 0 := by decide +kernel
def Vvs3 : St := (Vvl2.append Vvs2 [98]).2
def Vvl3 : Lg := (Vvl2.append Vvs2 [98]).1
theorem Vvf6 : (Vvl3.sync Vvs3 ).1.e = 0 := by decide +kernel
def Vvs4 : St := (Vvl3.sync Vvs3).2
def Vvl4 : Lg := (Vvl3.sync Vvs3).1
theorem Vvf7 : (Vvl4.append Vvs4 [99] ).1.e = 0 := by decide +kernel
def Vvs5 : St := (Vvl4.append Vvs4 [99]).2
def Vvl5 : Lg := (Vvl4.append Vvs4 [99]).1
def Vvs6 : St := Vvs5.crash 0 []
def Vvl6 : Lg := Vvl5
theorem Vvf8 : ((Vvs6).read [100, 98, 47, 108, 111, 103]).2.1.length ≤ 10000 := by decide +kernel
theorem Vvf9 : (openL [100, 98, 47, 108, 111, 103] Vvs6).2.2.2 = 0 := by decide +kernel
theorem Vvf10 : (openL [100, 98, 47, 108, 111, 103] Vvs6).2.2.1 = [[97], [98]] := by decide +kernel
def Vvs7 : St := (openL [100, 98, 47, 108, 111, 103] Vvs6).2.1
def Vvl7 : Lg := (openL [100, 98, 47, 108, 111, 103] Vvs6).1
theorem Vvf12 : (Vvl7.aside Vvs7 [[120]] ).1.e = 0 := by decide +kernel
def Vvs8 : St := (Vvl7.aside Vvs7 [[120]]).2
def Vvl8 : Lg := (Vvl7.aside Vvs7 [[120]]).1
theorem Vvf13 : (Vvl8.append Vvs8 [121] ).1.e = 0 := by decide +kernel
def Vvs9 : St := (Vvl8.append Vvs8 [121]).2
def Vvl9 : Lg := (Vvl8.append Vvs8 [121]).1
theorem Vvf14 : (Vvl9.sync Vvs9 ).1.e = 0 := by decide +kernel
def Vvs10 : St := (Vvl9.sync Vvs9).2
def Vvl10 : Lg := (Vvl9.sync Vvs9).1
theorem Vvf15 : ((Vvs10).read [100, 98, 47, 108, 111, 103]).2.1.length ≤ 10000 := by decide +kernel
theorem Vvf16 : (openL [100, 98, 47, 108, 111, 103] Vvs10).2.2.2 = 0 := by decide +kernel
theorem Vvf17 : (openL [100, 98, 47, 108, 111, 103] Vvs10).2.2.1 = [[120], [121]] := by decide +kernel
def Vvs11 : St := (openL [100, 98, 47, 108, 111, 103] Vvs10).2.1
def Vvl11 : Lg := (openL [100, 98, 47, 108, 111, 103] Vvs10).1

set_option maxRecDepth 100000 in
set_option maxHeartbeats 4000000 in
theorem lives_any (w : World) : Calls Tryz.prog 12 #[] w fun e w' => e = .returned (.bool true) ∧ Nx w w' := by
  have X0 := Lib.hid (liv_new (w := w) (W := w) 1000 (by decide) (by decide) (Nx.refl w))
  obtain ⟨tb, htb⟩ : ∃ tb, w.heap.size + 2 = tb := ⟨_, rfl⟩
  rw [htb] at X0
  clear htb
  have X1 : Hid (∀ W Z, LivZ w tb Vvs0 0 Z W → Calls Tryz.prog 11 #[.pointer (some ⟨tb, 0, none⟩), .string ⟨#[100, 98, 47, 108, 111, 103]⟩] W fun e w' => ∃ lb A m c Z1, e = .returned (.tuple #[.pointer (some ⟨lb, 0, none⟩), .slice A m c, .int .i64 0]) ∧ Z.Sublist Z1 ∧ LivZ w tb Vvs1 12 ((lb, logO tb Vvl1) :: Z1) w' ∧ StrZ Z1 A m c []) := fun W Z h => by have := lopen_ok h (by decide) [100, 98, 47, 108, 111, 103] (by decide +kernel) Vvf1 Vvf2; rw [Vvf3] at this; exact this
  have X2 : Hid (∀ W lb Z, LivZ w tb Vvs1 12 ((lb, logO tb Vvl1) :: Z) W → Calls Tryz.prog 32 #[.pointer (some ⟨lb, 0, none⟩), .string ⟨#[97]⟩] W fun e w' => e = .returned (.int .i64 0) ∧ LivZ w tb Vvs2 14 ((lb, logO tb Vvl2) :: Z) w') := fun W lb Z h => by have := lappend_any h (by decide) (by decide +kernel) [97] (by decide) (by decide +kernel) (by decide +kernel) (by decide +kernel) (by decide +kernel); rw [Vvf4] at this; exact this
  have X3 : Hid (∀ W lb Z, LivZ w tb Vvs2 14 ((lb, logO tb Vvl2) :: Z) W → Calls Tryz.prog 32 #[.pointer (some ⟨lb, 0, none⟩), .string ⟨#[98]⟩] W fun e w' => e = .returned (.int .i64 0) ∧ LivZ w tb Vvs3 16 ((lb, logO tb Vvl3) :: Z) w') := fun W lb Z h => by have := lappend_any h (by decide) (by decide +kernel) [98] (by decide) (by decide +kernel) (by decide +kernel) (by decide +kernel) (by decide +kernel); rw [Vvf5] at this; exact this
  have X4 : Hid (∀ W lb Z, LivZ w tb Vvs3 16 ((lb, logO tb Vvl3) :: Z) W → Calls Tryz.prog 33 #[.pointer (some ⟨lb, 0, none⟩)] W fun e w' => e = .returned (.int .i64 0) ∧ LivZ w tb Vvs4 18 ((lb, logO tb Vvl4) :: Z) w') := fun W lb Z h => by have := lsync_any h (by decide) (by decide +kernel); rw [Vvf6] at this; exact this
  have X5 : Hid (∀ W lb Z, LivZ w tb Vvs4 18 ((lb, logO tb Vvl4) :: Z) W → Calls Tryz.prog 32 #[.pointer (some ⟨lb, 0, none⟩), .string ⟨#[99]⟩] W fun e w' => e = .returned (.int .i64 0) ∧ LivZ w tb Vvs5 20 ((lb, logO tb Vvl5) :: Z) w') := fun W lb Z h => by have := lappend_any h (by decide) (by decide +kernel) [99] (by decide) (by decide +kernel) (by decide +kernel) (by decide +kernel) (by decide +kernel); rw [Vvf7] at this; exact this
  have X6 : Hid (∀ W Z, LivZ w tb Vvs5 20 Z W → Calls Tryz.prog 36 #[.pointer (some ⟨tb, 0, none⟩), .int .i64 0, .slice none 0 0] W fun e w' => e = .returned (.int .i64 0) ∧ LivZ w tb Vvs6 22 Z w') := fun W Z h => livz_crash h (Nx.refl W) (by decide) 0 (by decide) none 0 0 [] (nums_nil W) (fun j o e => by cases e)
  have X7 : Hid (∀ W Z, LivZ w tb Vvs6 22 Z W → Calls Tryz.prog 11 #[.pointer (some ⟨tb, 0, none⟩), .string ⟨#[100, 98, 47, 108, 111, 103]⟩] W fun e w' => ∃ lb A m c Z1, e = .returned (.tuple #[.pointer (some ⟨lb, 0, none⟩), .slice A m c, .int .i64 0]) ∧ Z.Sublist Z1 ∧ LivZ w tb Vvs7 34 ((lb, logO tb Vvl7) :: Z1) w' ∧ StrZ Z1 A m c [[97], [98]]) := fun W Z h => by have := lopen_ok h (by decide) [100, 98, 47, 108, 111, 103] (by decide +kernel) Vvf8 Vvf9; rw [Vvf10] at this; exact this
  have T11 : Hid (∀ W A c x Z, LivZ w tb Vvs7 34 (x :: Z) W → StrZ Z A 2 c [[97], [98]] → Calls Tryz.prog 13 #[.slice A 2 c, .slice (some ⟨W.heap.size, 0, none⟩) 2 2] (W.alloc (.cells #[.string ⟨#[97]⟩, .string ⟨#[98]⟩] 9)) fun e w' => e = .returned (.bool true) ∧ LivZ w tb Vvs7 34 (x :: Z) w') := fun W A c x Z h hz => by
    have h2 := h.next ((Below.refl _ W).alloc (Nat.le_refl _) (.cells #[.string ⟨#[97]⟩, .string ⟨#[98]⟩] 9))
    have := texts_any (W.alloc (.cells #[.string ⟨#[97]⟩, .string ⟨#[98]⟩] 9)) A (some ⟨W.heap.size, 0, none⟩) 2 c 2 2 [[97], [98]] [[97], [98]] (hz.strs fun z hz => h2.at_ z (List.mem_cons_of_mem _ hz)) (strs_2 W [97] [98])
    rw [decide_eq_true rfl] at this
    exact this.mono fun e w' ⟨e1, m, e2⟩ => ⟨e1, by rw [e2]; exact h2.drewN m⟩
  have X8 : Hid (∀ W lb Z, LivZ w tb Vvs7 34 ((lb, logO tb Vvl7) :: Z) W → Calls Tryz.prog 34 #[.pointer (some ⟨lb, 0, none⟩), .slice (some ⟨W.heap.size, 0, none⟩) 1 1] (W.alloc (.cells #[.string ⟨#[120]⟩] 9)) fun e w' => e = .returned (.int .i64 0) ∧ ∃ Z1, Z.Sublist Z1 ∧ LivZ w tb Vvs8 46 ((lb, logO tb Vvl8) :: Z1) w') := fun W lb Z h => by have := laside_any (h.next ((Below.refl _ W).alloc (Nat.le_refl _) (.cells #[.string ⟨#[120]⟩] 9))) (by decide) (by decide +kernel) (some ⟨W.heap.size, 0, none⟩) 1 1 [[120]] (strs_1 W [120]) (by decide +kernel); rw [Vvf12] at this; exact this
  have X9 : Hid (∀ W lb Z, LivZ w tb Vvs8 46 ((lb, logO tb Vvl8) :: Z) W → Calls Tryz.prog 32 #[.pointer (some ⟨lb, 0, none⟩), .string ⟨#[121]⟩] W fun e w' => e = .returned (.int .i64 0) ∧ LivZ w tb Vvs9 48 ((lb, logO tb Vvl9) :: Z) w') := fun W lb Z h => by have := lappend_any h (by decide) (by decide +kernel) [121] (by decide) (by decide +kernel) (by decide +kernel) (by decide +kernel) (by decide +kernel); rw [Vvf13] at this; exact this
  have X10 : Hid (∀ W lb Z, LivZ w tb Vvs9 48 ((lb, logO tb Vvl9) :: Z) W → Calls Tryz.prog 33 #[.pointer (some ⟨lb, 0, none⟩)] W fun e w' => e = .returned (.int .i64 0) ∧ LivZ w tb Vvs10 50 ((lb, logO tb Vvl10) :: Z) w') := fun W lb Z h => by have := lsync_any h (by decide) (by decide +kernel); rw [Vvf14] at this; exact this
  have X11 : Hid (∀ W Z, LivZ w tb Vvs10 50 Z W → Calls Tryz.prog 11 #[.pointer (some ⟨tb, 0, none⟩), .string ⟨#[100, 98, 47, 108, 111, 103]⟩] W fun e w' => ∃ lb A m c Z1, e = .returned (.tuple #[.pointer (some ⟨lb, 0, none⟩), .slice A m c, .int .i64 0]) ∧ Z.Sublist Z1 ∧ LivZ w tb Vvs11 62 ((lb, logO tb Vvl11) :: Z1) w' ∧ StrZ Z1 A m c [[120], [121]]) := fun W Z h => by have := lopen_ok h (by decide) [100, 98, 47, 108, 111, 103] (by decide +kernel) Vvf15 Vvf16; rw [Vvf17] at this; exact this
  have T18 : Hid (∀ W A c x Z, LivZ w tb Vvs11 62 (x :: Z) W → StrZ Z A 2 c [[120], [121]] → Calls Tryz.prog 13 #[.slice A 2 c, .slice (some ⟨W.heap.size, 0, none⟩) 2 2] (W.alloc (.cells #[.string ⟨#[120]⟩, .string ⟨#[121]⟩] 9)) fun e w' => e = .returned (.bool true) ∧ LivZ w tb Vvs11 62 (x :: Z) w') := fun W A c x Z h hz => by
    have h2 := h.next ((Below.refl _ W).alloc (Nat.le_refl _) (.cells #[.string ⟨#[120]⟩, .string ⟨#[121]⟩] 9))
    have := texts_any (W.alloc (.cells #[.string ⟨#[120]⟩, .string ⟨#[121]⟩] 9)) A (some ⟨W.heap.size, 0, none⟩) 2 c 2 2 [[120], [121]] [[120], [121]] (hz.strs fun z hz => h2.at_ z (List.mem_cons_of_mem _ hz)) (strs_2 W [120] [121])
    rw [decide_eq_true rfl] at this
    exact this.mono fun e w' ⟨e1, m, e2⟩ => ⟨e1, by rw [e2]; exact h2.drewN m⟩
  go_enter Tryz.func12, Tryz.ntmps12
  go_wp2_with fail
  refine X0.out.mono ?_
  rintro e w0 ⟨rfl, hL⟩
  have H0 : Hid (LivZ w tb Vvs0 0 [] w0) := LivZ.of hL
  clear hL X0
  go_wp2_with fail
  refine (X1.out w0 _ H0.out).mono ?_
  rintro e w1 ⟨lb1, A1, m1, c1, Z1, rfl, hsub, hL, hz⟩
  have H1 := Lib.hid hL
  have hz1 := Lib.hid hz
  have hm1 : m1 = 0 := (hz.len (fun z hz => hL.at_ z (List.mem_cons_of_mem _ hz))).symm
  subst hm1
  clear hL hz hsub X1 H0
  go_wp2_with fail
  refine (X2.out w1 _ _ H1.out).mono ?_
  rintro e w2 ⟨rfl, hL⟩
  have H2 := Lib.hid hL
  clear hL X2 H1
  go_wp2_with fail
  refine (X3.out w2 _ _ H2.out).mono ?_
  rintro e w3 ⟨rfl, hL⟩
  have H3 := Lib.hid hL
  clear hL X3 H2
  go_wp2_with fail
  refine (X4.out w3 _ _ H3.out).mono ?_
  rintro e w4 ⟨rfl, hL⟩
  have H4 := Lib.hid hL
  clear hL X4 H3
  go_wp2_with fail
  refine (X5.out w4 _ _ H4.out).mono ?_
  rintro e w5 ⟨rfl, hL⟩
  have H5 := Lib.hid hL
  clear hL X5 H4
  go_wp2_with fail
  refine (X6.out w5 _ H5.out).mono ?_
  rintro e w6 ⟨rfl, hL⟩
  have H6 := Lib.hid hL
  clear hL X6 H5
  go_wp2_with fail
  refine (X7.out w6 _ H6.out).mono ?_
  rintro e w7 ⟨lb7, A7, m7, c7, Z7, rfl, hsub, hL, hz⟩
  have H7 := Lib.hid hL
  have hz7 := Lib.hid hz
  have hm7 : m7 = 2 := (hz.len (fun z hz => hL.at_ z (List.mem_cons_of_mem _ hz))).symm
  subst hm7
  clear hL hz hsub X7 H6
  go_wp2_with fail
  refine (T11.out w7 _ _ _ _ H7.out hz7.out).mono ?_
  rintro e w8 ⟨rfl, hL⟩
  have H8 := Lib.hid hL
  clear hL T11 H7 hz7
  go_wp2_with fail
  refine (X8.out w8 _ _ H8.out).mono ?_
  rintro e w9 ⟨rfl, Zx, hsub, hL⟩
  have H9 := Lib.hid hL
  clear hL X8 H8 hsub
  go_wp2_with fail
  refine (X9.out w9 _ _ H9.out).mono ?_
  rintro e w10 ⟨rfl, hL⟩
  have H10 := Lib.hid hL
  clear hL X9 H9
  go_wp2_with fail
  refine (X10.out w10 _ _ H10.out).mono ?_
  rintro e w11 ⟨rfl, hL⟩
  have H11 := Lib.hid hL
  clear hL X10 H10
  go_wp2_with fail
  refine (X11.out w11 _ H11.out).mono ?_
  rintro e w12 ⟨lb11, A11, m11, c11, Z11, rfl, hsub, hL, hz⟩
  have H12 := Lib.hid hL
  have hz11 := Lib.hid hz
  have hm11 : m11 = 2 := (hz.len (fun z hz => hL.at_ z (List.mem_cons_of_mem _ hz))).symm
  subst hm11
  clear hL hz hsub X11 H11
  go_wp2_with fail
  refine (T18.out w12 _ _ _ _ H12.out hz11.out).mono ?_
  rintro e w13 ⟨rfl, hL⟩
  have H13 := Lib.hid hL
  clear hL T18 H12 hz11
  go_wp2
  go_ret
  exact ⟨rfl, H13.out.nx⟩
end Go.Proofs.YtiikjdjpodmpcaaGreat
