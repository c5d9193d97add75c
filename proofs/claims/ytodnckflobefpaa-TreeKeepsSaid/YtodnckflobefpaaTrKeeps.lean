/- The walk of the law TreeKeeps. -/
import Derived.Test.YtodnckflobefpaaTrInts
namespace Go.Proofs.Ytodnckflobefpaa
open Go.RowKit Go.Maps
set_option linter.unusedVariables false

theorem own_ge {w : World} {B j n c : Nat} {b : Str} (h : Own w B (some ⟨j, 0, none⟩) n c b) : ∀ j2 o, some (⟨j, 0, none⟩ : Addr) = some ⟨j2, o, none⟩ → B ≤ j2 := fun j2 o e => by
  simp only [Option.some.injEq, Addr.mk.injEq] at e
  obtain ⟨rfl, -, -⟩ := e
  rcases h.2 with ⟨hv, _⟩ | ⟨g, cap, cur, hv, hb, _⟩
  · cases hv
  · simp only [Value.slice.injEq, Option.some.injEq, Addr.mk.injEq] at hv
    omega
theorem K0_def : St.new 10000 = K0 := rfl

set_option maxRecDepth 100000 in
set_option maxHeartbeats 4000000 in
theorem keeps_big (w : World) (a0 : Option Addr) (len0 cap0 : Nat) (a1 : Option Addr) (len1 cap1 : Nat) (a2 : Option Addr) (len2 cap2 : Nat) (a3 : Int) (a4 : Option Addr) (len4 cap4 : Nat)
    (c0 : len0 ≤ cap0) (c1 : len1 ≤ cap1) (c2 : len2 ≤ cap2) (c4 : len4 ≤ cap4) (hc : ¬ (len0 ≤ 300 ∧ len1 ≤ 300 ∧ len2 ≤ 300 ∧ len4 ≤ 300)) :
    Calls Try.prog 5 #[.slice a0 len0 cap0, .slice a1 len1 cap1, .slice a2 len2 cap2, .int .i64 a3, .slice a4 len4 cap4] w fun e w' => e = .returned (.bool true) ∧ Below w.heap.size w w' := by
  have YL := Lib.hid (fun W => lives_any W)
  by_cases h0 : len0 ≤ 300
  · by_cases h1 : len1 ≤ 300
    · by_cases h2 : len2 ≤ 300
      · have h4 : ¬ len4 ≤ 300 := fun h => hc ⟨h0, h1, h2, h⟩
        clear hc
        go_enter Try.func5, Try.ntmps5
        go_wp2_with fail
        refine (YL.out w).mono ?_
        rintro e w1 ⟨rfl, hb⟩
        have H1 := Lib.hid hb
        clear hb YL
        go_wp2
        go_ret
        exact ⟨rfl, H1.out⟩
      · clear hc
        go_enter Try.func5, Try.ntmps5
        go_wp2_with fail
        refine (YL.out w).mono ?_
        rintro e w1 ⟨rfl, hb⟩
        have H1 := Lib.hid hb
        clear hb YL
        go_wp2
        go_ret
        exact ⟨rfl, H1.out⟩
    · clear hc
      go_enter Try.func5, Try.ntmps5
      go_wp2_with fail
      refine (YL.out w).mono ?_
      rintro e w1 ⟨rfl, hb⟩
      have H1 := Lib.hid hb
      clear hb YL
      go_wp2
      go_ret
      exact ⟨rfl, H1.out⟩
  · clear hc
    go_enter Try.func5, Try.ntmps5
    go_wp2_with fail
    refine (YL.out w).mono ?_
    rintro e w1 ⟨rfl, hb⟩
    have H1 := Lib.hid hb
    clear hb YL
    go_wp2
    go_ret
    exact ⟨rfl, H1.out⟩

set_option maxRecDepth 100000 in
set_option maxHeartbeats 4000000 in
theorem keeps_any (w : World) (a0 : Option Addr) (len0 cap0 : Nat) (la : Str) (a1 : Option Addr) (len1 cap1 : Nat) (lb : Str) (a2 : Option Addr) (len2 cap2 : Nat) (lc : Str) (a3 : Int) (a4 : Option Addr) (len4 cap4 : Nat) (parts : List Int)
    (b0 : Byt w w.heap.size a0 len0 cap0 la) (b1 : Byt w w.heap.size a1 len1 cap1 lb) (b2 : Byt w w.heap.size a2 len2 cap2 lc) (hp : Nums w a4 len4 cap4 parts)
    (h0 : len0 ≤ 300) (h1 : len1 ≤ 300) (h2 : len2 ≤ 300) (h4 : len4 ≤ 300) (hk : a3 ≤ 9223372036854775807) (hk0 : -9223372036854775808 ≤ a3) :
    Calls Try.prog 5 #[.slice a0 len0 cap0, .slice a1 len1 cap1, .slice a2 len2 cap2, .int .i64 a3, .slice a4 len4 cap4] w fun e w' => e = .returned (.bool true) ∧ Below w.heap.size w w' := by
  have ha : la.length ≤ 300 := by rw [b0.len]; exact h0
  have hb : lb.length ≤ 300 := by rw [b1.len]; exact h1
  have hc : lc.length ≤ 300 := by rw [b2.len]; exact h2
  have HA := Lib.hid (Arg.of_byt b0 (Nat.le_refl _))
  have HB := Lib.hid (Arg.of_byt b1 (Nat.le_refl _))
  have HC := Lib.hid (Arg.of_byt b2 (Nat.le_refl _))
  have HP := Lib.hid hp
  have OA : Hid (∀ W, Nx w W → _) := fun W hn => own_any2 W a0 len0 cap0 la (HA.out.nx hn) (by omega)
  have OB : Hid (∀ W, Nx w W → _) := fun W hn => own_any2 W a1 len1 cap1 lb (HB.out.nx hn) (by omega)
  have OC : Hid (∀ W, Nx w W → _) := fun W hn => own_any2 W a2 len2 cap2 lc (HC.out.nx hn) (by omega)
  have CA : Hid (∀ W, Nx w W → _) := fun W hn => run_string_of_bytes (HA.out.nx hn).byt
  have CB : Hid (∀ W, Nx w W → _) := fun W hn => run_string_of_bytes (HB.out.nx hn).byt
  have CC : Hid (∀ W, Nx w W → _) := fun W hn => run_string_of_bytes (HC.out.nx hn).byt
  have Y0 : Hid (∀ W, Nx w W → Calls Try.prog 8 #[.int .i64 10000] W fun e w' => ∃ tb, e = .returned (.tuple #[.pointer (some ⟨tb, 0, none⟩), .int .i64 0]) ∧ Liv w tb K0 0 w') := fun W hn => (liv_new (w := w) (W := W) 10000 (by decide) (by decide) hn).mono fun e w' ⟨e1, e2⟩ => ⟨_, e1, e2⟩
  have YL := Lib.hid (fun W => lives_any W)
  have HL1 := Lib.hid (left1 la lb ha hb a3 parts)
  clear b0 b1 b2 hp
  obtain ⟨s9, hs9⟩ : ∃ s9, (K8 la lb).crash a3 parts = s9 := ⟨_, rfl⟩
  rw [hs9] at HL1
  have X_ : True := trivial
  have X1 : Hid (∀ tb W, Liv w tb K0 0 W → Calls Try.prog 10 #[.pointer (some ⟨tb, 0, none⟩), .string ⟨#[102]⟩] W fun e w' => e = .returned (.int .i64 0) ∧ Liv w tb K1 2 w') := fun tb W h => by have := liv_make h (by decide) fP (by decide); rw [K1e] at this; exact this
  have X2 : Hid (∀ tb W W2 j c2, Liv w tb K1 2 W → Own W2 W.heap.size (some ⟨j, 0, none⟩) len0 c2 la → Nx W W2 → Calls Try.prog 11 #[.pointer (some ⟨tb, 0, none⟩), .string ⟨#[102]⟩, .slice (some ⟨j, 0, none⟩) len0 c2] W2 fun e w' => e = .returned (.int .i64 0) ∧ Liv w tb (K2 la) 4 w') := fun tb W W2 j c2 h ho hn => by have := liv_write h hn (by decide) fP (by decide) _ _ _ _ ho.arg (by omega) (fun e => by cases e) (own_ge ho); rw [K2e la ha] at this; exact this
  have X3 : Hid (∀ tb W, Liv w tb (K2 la) 4 W → Calls Try.prog 12 #[.pointer (some ⟨tb, 0, none⟩), .string ⟨#[102]⟩] W fun e w' => e = .returned (.int .i64 0) ∧ Liv w tb (K3 la) 6 w') := fun tb W h => by have := liv_sync h (by decide) fP (by decide); rw [K3e] at this; exact this
  have X4 : Hid (∀ tb W, Liv w tb (K3 la) 6 W → Calls Try.prog 27 #[.pointer (some ⟨tb, 0, none⟩)] W fun e w' => e = .returned (.int .i64 0) ∧ Liv w tb (K4 la) 8 w') := fun tb W h => by have := liv_syncPaths h (by decide); rw [K4e] at this; exact this
  have X5 : Hid (∀ tb W, Liv w tb (K4 la) 8 W → Calls Try.prog 10 #[.pointer (some ⟨tb, 0, none⟩), .string ⟨#[46, 116, 109, 112, 47, 102]⟩] W fun e w' => e = .returned (.int .i64 0) ∧ Liv w tb (K5 la) 10 w') := fun tb W h => by have := liv_make h (by decide) tP (by decide); rw [K5e] at this; exact this
  have X6 : Hid (∀ tb W W2 j c2, Liv w tb (K5 la) 10 W → Own W2 W.heap.size (some ⟨j, 0, none⟩) len1 c2 lb → Nx W W2 → Calls Try.prog 11 #[.pointer (some ⟨tb, 0, none⟩), .string ⟨#[46, 116, 109, 112, 47, 102]⟩, .slice (some ⟨j, 0, none⟩) len1 c2] W2 fun e w' => e = .returned (.int .i64 0) ∧ Liv w tb (K6 la lb) 12 w') := fun tb W W2 j c2 h ho hn => by have := liv_write h hn (by decide) tP (by decide) _ _ _ _ ho.arg (by omega) (fun e => by cases e) (own_ge ho); rw [K6e la lb ha hb] at this; exact this
  have X7 : Hid (∀ tb W, Liv w tb (K6 la lb) 12 W → Calls Try.prog 12 #[.pointer (some ⟨tb, 0, none⟩), .string ⟨#[46, 116, 109, 112, 47, 102]⟩] W fun e w' => e = .returned (.int .i64 0) ∧ Liv w tb (K7 la lb) 14 w') := fun tb W h => by have := liv_sync h (by decide) tP (by decide); rw [K7e] at this; exact this
  have X8 : Hid (∀ tb W, Liv w tb (K7 la lb) 14 W → Calls Try.prog 13 #[.pointer (some ⟨tb, 0, none⟩), .string ⟨#[46, 116, 109, 112, 47, 102]⟩, .string ⟨#[102]⟩] W fun e w' => e = .returned (.int .i64 0) ∧ Liv w tb (K8 la lb) 16 w') := fun tb W h => by have := liv_rename h (by decide) tP fP (by decide) (by decide); rw [K8e] at this; exact this
  have X9 : Hid (∀ tb W W2 A c, Liv w tb (K8 la lb) 16 W → Nums W2 A len4 c parts → (∀ j o, A = some ⟨j, o, none⟩ → W.heap.size ≤ j) → Nx W W2 → Calls Try.prog 14 #[.pointer (some ⟨tb, 0, none⟩), .int .i64 a3, .slice A len4 c] W2 fun e w' => e = .returned (.int .i64 0) ∧ Liv w tb s9 18 w') := fun tb W W2 A c h hN hA hn => by have := liv_crash h hn (by decide) a3 hk A _ c parts hN hA; rw [hs9] at this; exact this
  clear hs9
  go_enter Try.func5, Try.ntmps5
  go_wp2_with fail
  refine (YL.out w).mono ?_
  rintro e w1 ⟨rfl, hb⟩
  have Ha := Lib.hid hb
  clear hb YL
  go_wp2_with fail
  refine (Y0.out w1 Ha.out).mono ?_
  rintro e w0 ⟨tb, rfl, hL⟩
  have H0 := Lib.hid hL
  clear hL Y0 Ha
  go_wp2_with fail
  refine (X1.out tb w0 H0.out).mono ?_
  rintro e w1 ⟨rfl, hL⟩
  have H1 := Lib.hid hL
  clear hL X1 H0
  go_wp2_with fail
  refine (OA.out w1 H1.out.nx).mono ?_
  rintro e wo ⟨j2, c2, rfl, ho, hn⟩
  have HO := Lib.hid ho
  have HN := Lib.hid hn
  clear ho hn OA
  go_wp2_with fail
  refine (X2.out tb w1 wo _ _ H1.out HO.out HN.out).mono ?_
  rintro e w2 ⟨rfl, hL⟩
  have H2 := Lib.hid hL
  clear hL X2 H1 HO HN
  go_wp2_with fail
  refine (X3.out tb w2 H2.out).mono ?_
  rintro e w3 ⟨rfl, hL⟩
  have H3 := Lib.hid hL
  clear hL X3 H2
  go_wp2_with fail
  refine (X4.out tb w3 H3.out).mono ?_
  rintro e w4 ⟨rfl, hL⟩
  have H4 := Lib.hid hL
  clear hL X4 H3
  go_wp2_with fail
  refine (X5.out tb w4 H4.out).mono ?_
  rintro e w5 ⟨rfl, hL⟩
  have H5 := Lib.hid hL
  clear hL X5 H4
  go_wp2_with fail
  refine (OB.out w5 H5.out.nx).mono ?_
  rintro e wo ⟨j6, c6, rfl, ho, hn⟩
  have HO := Lib.hid ho
  have HN := Lib.hid hn
  clear ho hn OB
  go_wp2_with fail
  refine (X6.out tb w5 wo _ _ H5.out HO.out HN.out).mono ?_
  rintro e w6 ⟨rfl, hL⟩
  have H6 := Lib.hid hL
  clear hL X6 H5 HO HN
  go_wp2_with fail
  refine (X7.out tb w6 H6.out).mono ?_
  rintro e w7 ⟨rfl, hL⟩
  have H7 := Lib.hid hL
  clear hL X7 H6
  go_wp2_with fail
  refine (X8.out tb w7 H7.out).mono ?_
  rintro e w8 ⟨rfl, hL⟩
  have H8 := Lib.hid hL
  clear hL X8 H7
  go_wp2_with (at_builtin; refine wpList_ints_copy rfl (.tmp 96) (.tmp 97) rfl rfl a4 len4 cap4 parts rfl (HP.out.nx H8.out.nx) ?_; intro A9 c9 wp hN hA hn; have HN := Lib.hid hN; have HA := Lib.hid hA; have HX := Lib.hid hn; clear hN hA hn)
  refine (X9.out tb w8 wp _ _ H8.out HN.out HA.out HX.out).mono ?_
  rintro e w9 ⟨rfl, hL⟩
  have H9 := Lib.hid hL
  clear hL X9 H8 HN HA HX
  rcases HL1.out with ⟨hkk, hL1⟩ | ⟨hkk, hL1⟩ | ⟨hkk, hL1⟩
  · obtain ⟨s1, s2, s3, st, hR⟩ := rest_of hL1 lc hc
    have X10 : Hid (∀ W, Liv w tb s9 18 W → Calls Try.prog 21 #[.pointer (some ⟨tb, 0, none⟩), .string ⟨#[46, 116, 109, 112, 47, 102]⟩] W fun e w' => (∃ x y, e = .returned (.tuple #[.int .i64 x, .int .u64 y, .bool false])) ∧ Liv w tb s9 18 w') := fun W h => by have := liv_stat h tP (by decide); rw [hL1.tl] at this; exact this.mono fun e w' ⟨e1, e2⟩ => ⟨⟨_, _, e1⟩, e2⟩
    have X11 : Hid (∀ W, Liv w tb s9 18 W → Calls Try.prog 15 #[.pointer (some ⟨tb, 0, none⟩), .string ⟨#[102]⟩] W fun e w' => e = .returned (.string (Go.Proofs.Ytodnckflobefpaa.S la)) ∧ Liv w tb s9 18 w') := fun W h => by have := liv_got h (by decide) fP (by decide); rw [hR.read] at this; exact this
    have X12 : Hid (∀ W W2 j c2, Liv w tb s9 18 W → Own W2 W.heap.size (some ⟨j, 0, none⟩) len2 c2 lc → Nx W W2 → Calls Try.prog 28 #[.pointer (some ⟨tb, 0, none⟩), .string ⟨#[102]⟩, .slice (some ⟨j, 0, none⟩) len2 c2] W2 fun e w' => e = .returned (.int .i64 0) ∧ Liv w tb s1 20 w') := fun W W2 j c2 h ho hn => by have := liv_append h hn (by decide) fP (by decide) _ _ _ _ ho.arg (by omega) (own_ge ho); rw [hR.app] at this; exact this
    have X13 : Hid (∀ W, Liv w tb s1 20 W → Calls Try.prog 12 #[.pointer (some ⟨tb, 0, none⟩), .string ⟨#[102]⟩] W fun e w' => e = .returned (.int .i64 0) ∧ Liv w tb s2 22 w') := fun W h => by have := liv_sync h (by decide) fP (by decide); rw [hR.syn] at this; exact this
    have X14 : Hid (∀ W, Liv w tb s2 22 W → Calls Try.prog 27 #[.pointer (some ⟨tb, 0, none⟩)] W fun e w' => e = .returned (.int .i64 0) ∧ Liv w tb s3 24 w') := fun W h => by have := liv_syncPaths h (by decide); rw [hR.syp] at this; exact this
    have X15 : Hid (∀ W, Liv w tb s3 24 W → Calls Try.prog 21 #[.pointer (some ⟨tb, 0, none⟩), .string ⟨#[102]⟩] W fun e w' => e = .returned (.tuple #[.int .i64 (((la ++ lc).length : Nat) : Int), .int .u64 (st : Int), .bool true]) ∧ Liv w tb s3 24 w') := fun W h => by have := liv_stat h fP (by decide); rw [hR.stat] at this; exact this
    have X16 : Hid (∀ W W2 A c, Liv w tb s3 24 W → Nums W2 A len4 c parts → (∀ j o, A = some ⟨j, o, none⟩ → W.heap.size ≤ j) → Nx W W2 → Calls Try.prog 14 #[.pointer (some ⟨tb, 0, none⟩), .int .i64 a3, .slice A len4 c] W2 fun e w' => e = .returned (.int .i64 0) ∧ Liv w tb (s3.crash a3 parts) 26 w') := fun W W2 A c h hN hA hn => liv_crash h hn (by decide) a3 hk A _ c parts hN hA
    have X17 : Hid (∀ W, Liv w tb (s3.crash a3 parts) 26 W → Calls Try.prog 21 #[.pointer (some ⟨tb, 0, none⟩), .string ⟨#[102]⟩] W fun e w' => e = .returned (.tuple #[.int .i64 (((la ++ lc).length : Nat) : Int), .int .u64 (st : Int), .bool true]) ∧ Liv w tb (s3.crash a3 parts) 26 w') := fun W h => by have := liv_stat h fP (by decide); rw [(hR.aft a3 parts).1] at this; exact this
    have X18 : Hid (∀ W, Liv w tb (s3.crash a3 parts) 26 W → Calls Try.prog 15 #[.pointer (some ⟨tb, 0, none⟩), .string ⟨#[102]⟩] W fun e w' => e = .returned (.string (Go.Proofs.Ytodnckflobefpaa.S (la ++ lc))) ∧ Liv w tb (s3.crash a3 parts) 26 w') := fun W h => by have := liv_got h (by decide) fP (by decide); rw [(hR.aft a3 parts).2] at this; exact this
    clear hL1 hR HL1
    obtain ⟨sv, hsv⟩ : ∃ sv, Go.Proofs.Ytodnckflobefpaa.S la = sv := ⟨_, rfl⟩
    obtain ⟨sc, hsc⟩ : ∃ sc, Go.Proofs.Ytodnckflobefpaa.S lc = sc := ⟨_, rfl⟩
    have hsz : sv.size ≤ 300 := by rw [← hsv, S_size]; omega
    have hcz : sc.size ≤ 300 := by rw [← hsc, S_size]; omega
    have hln : Hid (((la ++ lc).length : Int) = (sv.size : Int) + (len2 : Int)) := by
      show _ = _
      rw [← hsv, S_size, List.length_append, HC.out.len]
      push_cast
      rfl
    have hap : Hid (Go.Proofs.Ytodnckflobefpaa.S (la ++ lc) = sv ++ sc) := by show _ = _; rw [← hsv, ← hsc, S_append]
    rw [hln.out] at X15 X17
    rw [hap.out] at X18
    rw [hsv] at X11
    have cA : Sem.run Try.prog (convert 29 9 (.slice a0 len0 cap0)) w9 = .ok (.string sv) w9 := by rw [← hsv]; exact CA.out w9 H9.out.nx
    
    have CD : Hid (∀ W, Nx w W → (convert 29 9 (.slice a2 len2 cap2)).run Try.prog W = .ok (.string sc) W) := fun W hn => by rw [← hsc]; exact CC.out W hn
    clear hln hap hsv hsc CC
    go_wp2_with fail
    refine (X10.out w9 H9.out).mono ?_
    rintro e w10 ⟨⟨x10, y10, rfl⟩, hL⟩
    have H10 := Lib.hid hL
    clear hL X10 H9
    go_wp2_with fail
    refine (X11.out w10 H10.out).mono ?_
    rintro e w11 ⟨rfl, hL⟩
    have H11 := Lib.hid hL
    clear hL X11 H10
    go_wp2_with fail
    refine (OC.out w11 H11.out.nx).mono ?_
    rintro e wo ⟨j12, c12, rfl, ho, hn⟩
    have HO := Lib.hid ho
    have HN := Lib.hid hn
    clear ho hn OC
    go_wp2_with fail
    refine (X12.out w11 wo _ _ H11.out HO.out HN.out).mono ?_
    rintro e w12 ⟨rfl, hL⟩
    have H12 := Lib.hid hL
    clear hL X12 H11 HO HN
    go_wp2_with fail
    refine (X13.out w12 H12.out).mono ?_
    rintro e w13 ⟨rfl, hL⟩
    have H13 := Lib.hid hL
    clear hL X13 H12
    go_wp2_with fail
    refine (X14.out w13 H13.out).mono ?_
    rintro e w14 ⟨rfl, hL⟩
    have H14 := Lib.hid hL
    clear hL X14 H13
    go_wp2_with fail
    refine (X15.out w14 H14.out).mono ?_
    rintro e w15 ⟨rfl, hL⟩
    have H15 := Lib.hid hL
    clear hL X15 H14
    go_wp2_with (at_builtin; refine wpList_ints_copy rfl (.tmp 149) (.tmp 150) rfl rfl a4 len4 cap4 parts rfl (HP.out.nx H15.out.nx) ?_; intro A16 c16 wp hN hA hn; have HN := Lib.hid hN; have HA := Lib.hid hA; have HX := Lib.hid hn; clear hN hA hn)
    refine (X16.out w15 wp _ _ H15.out HN.out HA.out HX.out).mono ?_
    rintro e w16 ⟨rfl, hL⟩
    have H16 := Lib.hid hL
    clear hL X16 H15 HN HA HX
    go_wp2_with fail
    refine (X17.out w16 H16.out).mono ?_
    rintro e w17 ⟨rfl, hL⟩
    have H17 := Lib.hid hL
    clear hL X17 H16
    clear X_
    have hw : IntKind.i64.wrap ((sv.size : Int) + (len2 : Int)) = (sv.size : Int) + (len2 : Int) := by rw [IntWalk.i64_in _ (by omega)]
    have hcc : ¬ (9223372036854775807 < sv.size + sc.size) := by omega
    go_upto_region 23 with fail
    refine wp_region_held_drew (S := (fun W => (convert 29 9 (.slice a2 len2 cap2)).run Try.prog W = .ok (.string sc) W)) (by kernel_rfl) (CD.out _ (Nx.drew H17.out.nx)) (fun hHeld => ?_)
    change wpAnyH _ _ _ _ _ 27 (Array.replicate 27 false) _ _
    refine wpAnyH_take (i := 0) (oi := { dst := some 160, op := Op.move (Operand.tmp 11), type := 22, pos := "law.go:204", after := #[], guard := none }) (v := ?va0) rfl (by kernel_rfl) (by kernel_rfl) (by kernel_rfl) (fun _ _ _ h => h) (Or.inl ⟨by rfl, ?hya0⟩) hHeld ?resta0
    case hya0 =>
      intro W hSw
      go_simp
      try with_reducible rfl
    try simp only [Act.put, List.setIfInBounds_toArray, List.set_cons_zero, List.set_cons_succ]
    refine wpAnyH_take (i := 2) (oi := { dst := some 162, op := Op.move (Operand.tmp 14), type := 9, pos := "law.go:204", after := #[], guard := none }) (v := ?va2) rfl (by kernel_rfl) (by kernel_rfl) (by kernel_rfl) (fun _ _ _ h => h) (Or.inl ⟨by rfl, ?hya2⟩) hHeld ?resta2
    case hya2 =>
      intro W hSw
      go_simp
      try with_reducible rfl
    try simp only [Act.put, List.setIfInBounds_toArray, List.set_cons_zero, List.set_cons_succ]
    refine wpAnyH_take (i := 3) (oi := { dst := some 163, op := Op.move (Operand.tmp 2), type := 29, pos := "law.go:204", after := #[], guard := none }) (v := ?va3) rfl (by kernel_rfl) (by kernel_rfl) (by kernel_rfl) (fun _ _ _ h => h) (Or.inl ⟨by rfl, ?hya3⟩) hHeld ?resta3
    case hya3 =>
      intro W hSw
      go_simp
      try with_reducible rfl
    try simp only [Act.put, List.setIfInBounds_toArray, List.set_cons_zero, List.set_cons_succ]
    refine wpAnyH_take (i := 4) (oi := { dst := some 164, op := Op.convert 29 9 (Operand.tmp 163), type := 9, pos := "law.go:204", after := #[{ on := 3, ground := Ground.data }], guard := none }) (v := ?va4) rfl (by kernel_rfl) (by kernel_rfl) (by kernel_rfl) (fun _ _ _ h => h) (Or.inl ⟨by rfl, ?hya4⟩) hHeld ?resta4
    case hya4 =>
      intro W hSw
      have s1 := hSw
      go_simp
      try with_reducible rfl
    try simp only [Act.put, List.setIfInBounds_toArray, List.set_cons_zero, List.set_cons_succ]
    refine wpAnyH_take (i := 5) (oi := { dst := some 165, op := Op.binOp BinOp.add 9 (Operand.tmp 162) (Operand.tmp 164) 9, type := 9, pos := "law.go:204", after := #[{ on := 2, ground := Ground.data }, { on := 4, ground := Ground.data }], guard := none }) (v := ?va5) rfl (by kernel_rfl) (by kernel_rfl) (by kernel_rfl) (fun _ _ _ h => h) (Or.inl ⟨by rfl, ?hya5⟩) hHeld ?resta5
    case hya5 =>
      intro W hSw
      go_simp
      try with_reducible rfl
    try simp only [Act.put, List.setIfInBounds_toArray, List.set_cons_zero, List.set_cons_succ]
    refine wpAnyH_ready (rs := [1]) (by kernel_rfl) (by simp) ?_
    refine AllReadyH.cons (o := { dst := some 161, op := Op.call { callee := Callee.value (Operand.func 15), args := #[Operand.tmp 160, Operand.const (Value.string { data := #[102] })], argTypes := #[22, 9] }, type := 9, pos := "law.go:204", after := #[{ on := 0, ground := Ground.data }], guard := none }) rfl (fun K' hK => ?_) AllReadyH.nil
    go_simp
    refine (X18.out w17.drew (Liv.drewN H17.out 1)).mono ?_
    rintro e w18 ⟨rfl, hL⟩
    have H18 := Lib.hid hL
    clear hL
    show K' _ w18
    refine hK.out _ _ (CD.out _ H18.out.nx) (fun hHeld => ?_)
    clear hK K'
    try simp only [Act.put, List.setIfInBounds_toArray, List.set_cons_zero, List.set_cons_succ]
    refine wpAnyH_take (i := 6) (oi := { dst := some 166, op := Op.binOp BinOp.eql 9 (Operand.tmp 161) (Operand.tmp 165) 9, type := 4, pos := "law.go:204", after := #[{ on := 1, ground := Ground.data }, { on := 5, ground := Ground.data }], guard := none }) (v := ?va6) rfl (by kernel_rfl) (by kernel_rfl) (by kernel_rfl) (fun _ _ _ h => h) (Or.inl ⟨by rfl, ?hya6⟩) hHeld ?resta6
    case hya6 =>
      intro W hSw
      go_simp
      try with_reducible rfl
    try simp only [Act.put, List.setIfInBounds_toArray, List.set_cons_zero, List.set_cons_succ]
    refine wpAnyH_take (i := 7) (oi := { dst := some 167, op := Op.move (Operand.tmp 166), type := 4, pos := "law.go:204", after := #[{ on := 6, ground := Ground.data }, { on := 1, ground := Ground.chain }], guard := none }) (v := ?va7) rfl (by kernel_rfl) (by kernel_rfl) (by kernel_rfl) (fun _ _ _ h => h) (Or.inl ⟨by rfl, ?hya7⟩) hHeld ?resta7
    case hya7 =>
      intro W hSw
      go_simp
      try with_reducible rfl
    try simp only [Act.put, List.setIfInBounds_toArray, List.set_cons_zero, List.set_cons_succ]
    refine wpAnyH_take (i := 8) (oi := { dst := some 168, op := Op.move (Operand.tmp 18), type := 3, pos := "law.go:204", after := #[{ on := 7, ground := Ground.guard }], guard := some (7, true) }) (v := ?va8) rfl (by kernel_rfl) (by kernel_rfl) (by kernel_rfl) (fun _ _ _ h => h) (Or.inl ⟨by rfl, ?hya8⟩) hHeld ?resta8
    case hya8 =>
      intro W hSw
      go_simp
      try with_reducible rfl
    try simp only [Act.put, List.setIfInBounds_toArray, List.set_cons_zero, List.set_cons_succ]
    refine wpAnyH_take (i := 9) (oi := { dst := some 169, op := Op.move (Operand.tmp 21), type := 3, pos := "law.go:204", after := #[{ on := 7, ground := Ground.guard }], guard := some (7, true) }) (v := ?va9) rfl (by kernel_rfl) (by kernel_rfl) (by kernel_rfl) (fun _ _ _ h => h) (Or.inl ⟨by rfl, ?hya9⟩) hHeld ?resta9
    case hya9 =>
      intro W hSw
      go_simp
      try with_reducible rfl
    try simp only [Act.put, List.setIfInBounds_toArray, List.set_cons_zero, List.set_cons_succ]
    refine wpAnyH_take (i := 10) (oi := { dst := some 170, op := Op.binOp BinOp.eql 3 (Operand.tmp 168) (Operand.tmp 169) 3, type := 4, pos := "law.go:204", after := #[{ on := 8, ground := Ground.data }, { on := 9, ground := Ground.data }, { on := 7, ground := Ground.guard }], guard := some (7, true) }) (v := ?va10) rfl (by kernel_rfl) (by kernel_rfl) (by kernel_rfl) (fun _ _ _ h => h) (Or.inl ⟨by rfl, ?hya10⟩) hHeld ?resta10
    case hya10 =>
      intro W hSw
      go_simp
      try with_reducible rfl
    try simp only [Act.put, List.setIfInBounds_toArray, List.set_cons_zero, List.set_cons_succ]
    refine wpAnyH_take (i := 11) (oi := { dst := some 171, op := Op.pick (Operand.tmp 167) (Operand.tmp 170) (Operand.const (Value.bool false)), type := 4, pos := "law.go:204", after := #[{ on := 7, ground := Ground.data }, { on := 10, ground := Ground.data }], guard := none }) (v := ?va11) rfl (by kernel_rfl) (by kernel_rfl) (by kernel_rfl) (fun _ _ _ h => h) (Or.inl ⟨by rfl, ?hya11⟩) hHeld ?resta11
    case hya11 =>
      intro W hSw
      go_simp
      try with_reducible rfl
    try simp only [Act.put, List.setIfInBounds_toArray, List.set_cons_zero, List.set_cons_succ]
    refine wpAnyH_take (i := 12) (oi := { dst := some 172, op := Op.move (Operand.tmp 171), type := 4, pos := "law.go:204", after := #[{ on := 11, ground := Ground.data }, { on := 7, ground := Ground.chain }], guard := none }) (v := ?va12) rfl (by kernel_rfl) (by kernel_rfl) (by kernel_rfl) (fun _ _ _ h => h) (Or.inl ⟨by rfl, ?hya12⟩) hHeld ?resta12
    case hya12 =>
      intro W hSw
      go_simp
      try with_reducible rfl
    try simp only [Act.put, List.setIfInBounds_toArray, List.set_cons_zero, List.set_cons_succ]
    refine wpAnyH_take (i := 13) (oi := { dst := some 173, op := Op.move (Operand.tmp 19), type := 42, pos := "law.go:204", after := #[{ on := 12, ground := Ground.guard }], guard := some (12, true) }) (v := ?va13) rfl (by kernel_rfl) (by kernel_rfl) (by kernel_rfl) (fun _ _ _ h => h) (Or.inl ⟨by rfl, ?hya13⟩) hHeld ?resta13
    case hya13 =>
      intro W hSw
      go_simp
      try with_reducible rfl
    try simp only [Act.put, List.setIfInBounds_toArray, List.set_cons_zero, List.set_cons_succ]
    refine wpAnyH_take (i := 14) (oi := { dst := some 174, op := Op.move (Operand.tmp 22), type := 42, pos := "law.go:204", after := #[{ on := 12, ground := Ground.guard }], guard := some (12, true) }) (v := ?va14) rfl (by kernel_rfl) (by kernel_rfl) (by kernel_rfl) (fun _ _ _ h => h) (Or.inl ⟨by rfl, ?hya14⟩) hHeld ?resta14
    case hya14 =>
      intro W hSw
      go_simp
      try with_reducible rfl
    try simp only [Act.put, List.setIfInBounds_toArray, List.set_cons_zero, List.set_cons_succ]
    refine wpAnyH_take (i := 15) (oi := { dst := some 175, op := Op.binOp BinOp.eql 42 (Operand.tmp 173) (Operand.tmp 174) 42, type := 4, pos := "law.go:204", after := #[{ on := 13, ground := Ground.data }, { on := 14, ground := Ground.data }, { on := 12, ground := Ground.guard }], guard := some (12, true) }) (v := ?va15) rfl (by kernel_rfl) (by kernel_rfl) (by kernel_rfl) (fun _ _ _ h => h) (Or.inl ⟨by rfl, ?hya15⟩) hHeld ?resta15
    case hya15 =>
      intro W hSw
      go_simp
      try with_reducible rfl
    try simp only [Act.put, List.setIfInBounds_toArray, List.set_cons_zero, List.set_cons_succ]
    refine wpAnyH_take (i := 16) (oi := { dst := some 176, op := Op.pick (Operand.tmp 172) (Operand.tmp 175) (Operand.const (Value.bool false)), type := 4, pos := "law.go:204", after := #[{ on := 12, ground := Ground.data }, { on := 15, ground := Ground.data }], guard := none }) (v := ?va16) rfl (by kernel_rfl) (by kernel_rfl) (by kernel_rfl) (fun _ _ _ h => h) (Or.inl ⟨by rfl, ?hya16⟩) hHeld ?resta16
    case hya16 =>
      intro W hSw
      go_simp
      try with_reducible rfl
    try simp only [Act.put, List.setIfInBounds_toArray, List.set_cons_zero, List.set_cons_succ]
    refine wpAnyH_take (i := 17) (oi := { dst := some 177, op := Op.move (Operand.tmp 176), type := 4, pos := "law.go:204", after := #[{ on := 16, ground := Ground.data }, { on := 12, ground := Ground.chain }], guard := none }) (v := ?va17) rfl (by kernel_rfl) (by kernel_rfl) (by kernel_rfl) (fun _ _ _ h => h) (Or.inl ⟨by rfl, ?hya17⟩) hHeld ?resta17
    case hya17 =>
      intro W hSw
      go_simp
      try with_reducible rfl
    try simp only [Act.put, List.setIfInBounds_toArray, List.set_cons_zero, List.set_cons_succ]
    refine wpAnyH_take (i := 18) (oi := { dst := some 178, op := Op.move (Operand.tmp 18), type := 3, pos := "law.go:204", after := #[{ on := 17, ground := Ground.guard }], guard := some (17, true) }) (v := ?va18) rfl (by kernel_rfl) (by kernel_rfl) (by kernel_rfl) (fun _ _ _ h => h) (Or.inl ⟨by rfl, ?hya18⟩) hHeld ?resta18
    case hya18 =>
      intro W hSw
      go_simp
      try with_reducible rfl
    try simp only [Act.put, List.setIfInBounds_toArray, List.set_cons_zero, List.set_cons_succ]
    refine wpAnyH_take (i := 19) (oi := { dst := some 179, op := Op.move (Operand.tmp 14), type := 9, pos := "law.go:204", after := #[{ on := 17, ground := Ground.guard }], guard := some (17, true) }) (v := ?va19) rfl (by kernel_rfl) (by kernel_rfl) (by kernel_rfl) (fun _ _ _ h => h) (Or.inl ⟨by rfl, ?hya19⟩) hHeld ?resta19
    case hya19 =>
      intro W hSw
      go_simp
      try with_reducible rfl
    try simp only [Act.put, List.setIfInBounds_toArray, List.set_cons_zero, List.set_cons_succ]
    refine wpAnyH_take (i := 20) (oi := { dst := some 180, op := Op.call { callee := Callee.builtin Builtin.len, args := #[Operand.tmp 179], argTypes := #[9] }, type := 3, pos := "law.go:204", after := #[{ on := 19, ground := Ground.data }, { on := 17, ground := Ground.guard }], guard := some (17, true) }) (v := ?va20) rfl (by kernel_rfl) (by kernel_rfl) (by kernel_rfl) (fun _ _ _ h => h) (Or.inl ⟨by rfl, ?hya20⟩) hHeld ?resta20
    case hya20 =>
      intro W hSw
      go_simp
      try with_reducible rfl
    try simp only [Act.put, List.setIfInBounds_toArray, List.set_cons_zero, List.set_cons_succ]
    refine wpAnyH_take (i := 21) (oi := { dst := some 181, op := Op.move (Operand.tmp 2), type := 29, pos := "law.go:204", after := #[{ on := 17, ground := Ground.guard }], guard := some (17, true) }) (v := ?va21) rfl (by kernel_rfl) (by kernel_rfl) (by kernel_rfl) (fun _ _ _ h => h) (Or.inl ⟨by rfl, ?hya21⟩) hHeld ?resta21
    case hya21 =>
      intro W hSw
      go_simp
      try with_reducible rfl
    try simp only [Act.put, List.setIfInBounds_toArray, List.set_cons_zero, List.set_cons_succ]
    refine wpAnyH_take (i := 22) (oi := { dst := some 182, op := Op.call { callee := Callee.builtin Builtin.len, args := #[Operand.tmp 181], argTypes := #[29] }, type := 3, pos := "law.go:204", after := #[{ on := 21, ground := Ground.data }, { on := 17, ground := Ground.guard }], guard := some (17, true) }) (v := ?va22) rfl (by kernel_rfl) (by kernel_rfl) (by kernel_rfl) (fun _ _ _ h => h) (Or.inl ⟨by rfl, ?hya22⟩) hHeld ?resta22
    case hya22 =>
      intro W hSw
      go_simp
      try with_reducible rfl
    try simp only [Act.put, List.setIfInBounds_toArray, List.set_cons_zero, List.set_cons_succ]
    refine wpAnyH_take (i := 23) (oi := { dst := some 183, op := Op.binOp BinOp.add 3 (Operand.tmp 180) (Operand.tmp 182) 3, type := 3, pos := "law.go:204", after := #[{ on := 20, ground := Ground.data }, { on := 22, ground := Ground.data }, { on := 17, ground := Ground.guard }], guard := some (17, true) }) (v := ?va23) rfl (by kernel_rfl) (by kernel_rfl) (by kernel_rfl) (fun _ _ _ h => h) (Or.inl ⟨by rfl, ?hya23⟩) hHeld ?resta23
    case hya23 =>
      intro W hSw
      go_simp
      try with_reducible rfl
    try simp only [Act.put, List.setIfInBounds_toArray, List.set_cons_zero, List.set_cons_succ]
    refine wpAnyH_take (i := 24) (oi := { dst := some 184, op := Op.binOp BinOp.eql 3 (Operand.tmp 178) (Operand.tmp 183) 3, type := 4, pos := "law.go:204", after := #[{ on := 18, ground := Ground.data }, { on := 23, ground := Ground.data }, { on := 17, ground := Ground.guard }], guard := some (17, true) }) (v := ?va24) rfl (by kernel_rfl) (by kernel_rfl) (by kernel_rfl) (fun _ _ _ h => h) (Or.inl ⟨by rfl, ?hya24⟩) hHeld ?resta24
    case hya24 =>
      intro W hSw
      go_simp
      try with_reducible rfl
    try simp only [Act.put, List.setIfInBounds_toArray, List.set_cons_zero, List.set_cons_succ]
    refine wpAnyH_take (i := 25) (oi := { dst := some 185, op := Op.pick (Operand.tmp 177) (Operand.tmp 184) (Operand.const (Value.bool false)), type := 4, pos := "law.go:204", after := #[{ on := 17, ground := Ground.data }, { on := 24, ground := Ground.data }], guard := none }) (v := ?va25) rfl (by kernel_rfl) (by kernel_rfl) (by kernel_rfl) (fun _ _ _ h => h) (Or.inl ⟨by rfl, ?hya25⟩) hHeld ?resta25
    case hya25 =>
      intro W hSw
      go_simp
      try with_reducible rfl
    try simp only [Act.put, List.setIfInBounds_toArray, List.set_cons_zero, List.set_cons_succ]
    refine wpAnyH_take (i := 26) (oi := { dst := some 10, op := Op.assign (Operand.tmp 185), type := 4, pos := "law.go:204", after := #[{ on := 25, ground := Ground.data }, { on := 17, ground := Ground.chain }, { on := 0, ground := Ground.phase }, { on := 1, ground := Ground.phase }, { on := 2, ground := Ground.phase }, { on := 3, ground := Ground.phase }, { on := 4, ground := Ground.phase }, { on := 5, ground := Ground.phase }, { on := 6, ground := Ground.phase }, { on := 7, ground := Ground.phase }, { on := 8, ground := Ground.phase }, { on := 9, ground := Ground.phase }, { on := 10, ground := Ground.phase }, { on := 11, ground := Ground.phase }, { on := 12, ground := Ground.phase }, { on := 13, ground := Ground.phase }, { on := 14, ground := Ground.phase }, { on := 15, ground := Ground.phase }, { on := 16, ground := Ground.phase }, { on := 17, ground := Ground.phase }, { on := 18, ground := Ground.phase }, { on := 19, ground := Ground.phase }, { on := 20, ground := Ground.phase }, { on := 21, ground := Ground.phase }, { on := 22, ground := Ground.phase }, { on := 23, ground := Ground.phase }, { on := 24, ground := Ground.phase }, { on := 25, ground := Ground.phase }], guard := none }) (v := ?va26) rfl (by kernel_rfl) (by kernel_rfl) (by kernel_rfl) (fun _ _ _ h => h) (Or.inl ⟨by rfl, ?hya26⟩) hHeld ?resta26
    case hya26 =>
      intro W hSw
      go_simp
      try with_reducible rfl
    try simp only [Act.put, List.setIfInBounds_toArray, List.set_cons_zero, List.set_cons_succ]
    refine wpAnyH_done (by kernel_rfl) ?_ _
    go_wp2
    go_ret
    exact ⟨rfl, H18.out.nx⟩
  · obtain ⟨s1, s2, s3, st, hR⟩ := rest_of hL1 lc hc
    have X10 : Hid (∀ W, Liv w tb s9 18 W → Calls Try.prog 21 #[.pointer (some ⟨tb, 0, none⟩), .string ⟨#[46, 116, 109, 112, 47, 102]⟩] W fun e w' => (∃ x y, e = .returned (.tuple #[.int .i64 x, .int .u64 y, .bool true])) ∧ Liv w tb s9 18 w') := fun W h => by have := liv_stat h tP (by decide); rw [hL1.tl] at this; exact this.mono fun e w' ⟨e1, e2⟩ => ⟨⟨_, _, e1⟩, e2⟩
    have X11 : Hid (∀ W, Liv w tb s9 18 W → Calls Try.prog 15 #[.pointer (some ⟨tb, 0, none⟩), .string ⟨#[102]⟩] W fun e w' => e = .returned (.string (Go.Proofs.Ytodnckflobefpaa.S la)) ∧ Liv w tb s9 18 w') := fun W h => by have := liv_got h (by decide) fP (by decide); rw [hR.read] at this; exact this
    have X12 : Hid (∀ W W2 j c2, Liv w tb s9 18 W → Own W2 W.heap.size (some ⟨j, 0, none⟩) len2 c2 lc → Nx W W2 → Calls Try.prog 28 #[.pointer (some ⟨tb, 0, none⟩), .string ⟨#[102]⟩, .slice (some ⟨j, 0, none⟩) len2 c2] W2 fun e w' => e = .returned (.int .i64 0) ∧ Liv w tb s1 20 w') := fun W W2 j c2 h ho hn => by have := liv_append h hn (by decide) fP (by decide) _ _ _ _ ho.arg (by omega) (own_ge ho); rw [hR.app] at this; exact this
    have X13 : Hid (∀ W, Liv w tb s1 20 W → Calls Try.prog 12 #[.pointer (some ⟨tb, 0, none⟩), .string ⟨#[102]⟩] W fun e w' => e = .returned (.int .i64 0) ∧ Liv w tb s2 22 w') := fun W h => by have := liv_sync h (by decide) fP (by decide); rw [hR.syn] at this; exact this
    have X14 : Hid (∀ W, Liv w tb s2 22 W → Calls Try.prog 27 #[.pointer (some ⟨tb, 0, none⟩)] W fun e w' => e = .returned (.int .i64 0) ∧ Liv w tb s3 24 w') := fun W h => by have := liv_syncPaths h (by decide); rw [hR.syp] at this; exact this
    have X15 : Hid (∀ W, Liv w tb s3 24 W → Calls Try.prog 21 #[.pointer (some ⟨tb, 0, none⟩), .string ⟨#[102]⟩] W fun e w' => e = .returned (.tuple #[.int .i64 (((la ++ lc).length : Nat) : Int), .int .u64 (st : Int), .bool true]) ∧ Liv w tb s3 24 w') := fun W h => by have := liv_stat h fP (by decide); rw [hR.stat] at this; exact this
    have X16 : Hid (∀ W W2 A c, Liv w tb s3 24 W → Nums W2 A len4 c parts → (∀ j o, A = some ⟨j, o, none⟩ → W.heap.size ≤ j) → Nx W W2 → Calls Try.prog 14 #[.pointer (some ⟨tb, 0, none⟩), .int .i64 a3, .slice A len4 c] W2 fun e w' => e = .returned (.int .i64 0) ∧ Liv w tb (s3.crash a3 parts) 26 w') := fun W W2 A c h hN hA hn => liv_crash h hn (by decide) a3 hk A _ c parts hN hA
    have X17 : Hid (∀ W, Liv w tb (s3.crash a3 parts) 26 W → Calls Try.prog 21 #[.pointer (some ⟨tb, 0, none⟩), .string ⟨#[102]⟩] W fun e w' => e = .returned (.tuple #[.int .i64 (((la ++ lc).length : Nat) : Int), .int .u64 (st : Int), .bool true]) ∧ Liv w tb (s3.crash a3 parts) 26 w') := fun W h => by have := liv_stat h fP (by decide); rw [(hR.aft a3 parts).1] at this; exact this
    have X18 : Hid (∀ W, Liv w tb (s3.crash a3 parts) 26 W → Calls Try.prog 15 #[.pointer (some ⟨tb, 0, none⟩), .string ⟨#[102]⟩] W fun e w' => e = .returned (.string (Go.Proofs.Ytodnckflobefpaa.S (la ++ lc))) ∧ Liv w tb (s3.crash a3 parts) 26 w') := fun W h => by have := liv_got h (by decide) fP (by decide); rw [(hR.aft a3 parts).2] at this; exact this
    clear hL1 hR HL1
    obtain ⟨sv, hsv⟩ : ∃ sv, Go.Proofs.Ytodnckflobefpaa.S la = sv := ⟨_, rfl⟩
    obtain ⟨sc, hsc⟩ : ∃ sc, Go.Proofs.Ytodnckflobefpaa.S lc = sc := ⟨_, rfl⟩
    have hsz : sv.size ≤ 300 := by rw [← hsv, S_size]; omega
    have hcz : sc.size ≤ 300 := by rw [← hsc, S_size]; omega
    have hln : Hid (((la ++ lc).length : Int) = (sv.size : Int) + (len2 : Int)) := by
      show _ = _
      rw [← hsv, S_size, List.length_append, HC.out.len]
      push_cast
      rfl
    have hap : Hid (Go.Proofs.Ytodnckflobefpaa.S (la ++ lc) = sv ++ sc) := by show _ = _; rw [← hsv, ← hsc, S_append]
    rw [hln.out] at X15 X17
    rw [hap.out] at X18
    rw [hsv] at X11
    have cA : Sem.run Try.prog (convert 29 9 (.slice a0 len0 cap0)) w9 = .ok (.string sv) w9 := by rw [← hsv]; exact CA.out w9 H9.out.nx
    
    have CD : Hid (∀ W, Nx w W → (convert 29 9 (.slice a2 len2 cap2)).run Try.prog W = .ok (.string sc) W) := fun W hn => by rw [← hsc]; exact CC.out W hn
    clear hln hap hsv hsc CC
    go_wp2_with fail
    refine (X10.out w9 H9.out).mono ?_
    rintro e w10 ⟨⟨x10, y10, rfl⟩, hL⟩
    have H10 := Lib.hid hL
    clear hL X10 H9
    go_wp2_with fail
    refine (X11.out w10 H10.out).mono ?_
    rintro e w11 ⟨rfl, hL⟩
    have H11 := Lib.hid hL
    clear hL X11 H10
    go_wp2_with fail
    refine (OC.out w11 H11.out.nx).mono ?_
    rintro e wo ⟨j12, c12, rfl, ho, hn⟩
    have HO := Lib.hid ho
    have HN := Lib.hid hn
    clear ho hn OC
    go_wp2_with fail
    refine (X12.out w11 wo _ _ H11.out HO.out HN.out).mono ?_
    rintro e w12 ⟨rfl, hL⟩
    have H12 := Lib.hid hL
    clear hL X12 H11 HO HN
    go_wp2_with fail
    refine (X13.out w12 H12.out).mono ?_
    rintro e w13 ⟨rfl, hL⟩
    have H13 := Lib.hid hL
    clear hL X13 H12
    go_wp2_with fail
    refine (X14.out w13 H13.out).mono ?_
    rintro e w14 ⟨rfl, hL⟩
    have H14 := Lib.hid hL
    clear hL X14 H13
    go_wp2_with fail
    refine (X15.out w14 H14.out).mono ?_
    rintro e w15 ⟨rfl, hL⟩
    have H15 := Lib.hid hL
    clear hL X15 H14
    go_wp2_with (at_builtin; refine wpList_ints_copy rfl (.tmp 149) (.tmp 150) rfl rfl a4 len4 cap4 parts rfl (HP.out.nx H15.out.nx) ?_; intro A16 c16 wp hN hA hn; have HN := Lib.hid hN; have HA := Lib.hid hA; have HX := Lib.hid hn; clear hN hA hn)
    refine (X16.out w15 wp _ _ H15.out HN.out HA.out HX.out).mono ?_
    rintro e w16 ⟨rfl, hL⟩
    have H16 := Lib.hid hL
    clear hL X16 H15 HN HA HX
    go_wp2_with fail
    refine (X17.out w16 H16.out).mono ?_
    rintro e w17 ⟨rfl, hL⟩
    have H17 := Lib.hid hL
    clear hL X17 H16
    clear X_
    have hw : IntKind.i64.wrap ((sv.size : Int) + (len2 : Int)) = (sv.size : Int) + (len2 : Int) := by rw [IntWalk.i64_in _ (by omega)]
    have hcc : ¬ (9223372036854775807 < sv.size + sc.size) := by omega
    go_upto_region 23 with fail
    refine wp_region_held_drew (S := (fun W => (convert 29 9 (.slice a2 len2 cap2)).run Try.prog W = .ok (.string sc) W)) (by kernel_rfl) (CD.out _ (Nx.drew H17.out.nx)) (fun hHeld => ?_)
    change wpAnyH _ _ _ _ _ 27 (Array.replicate 27 false) _ _
    refine wpAnyH_take (i := 0) (oi := { dst := some 160, op := Op.move (Operand.tmp 11), type := 22, pos := "law.go:204", after := #[], guard := none }) (v := ?vb0) rfl (by kernel_rfl) (by kernel_rfl) (by kernel_rfl) (fun _ _ _ h => h) (Or.inl ⟨by rfl, ?hyb0⟩) hHeld ?restb0
    case hyb0 =>
      intro W hSw
      go_simp
      try with_reducible rfl
    try simp only [Act.put, List.setIfInBounds_toArray, List.set_cons_zero, List.set_cons_succ]
    refine wpAnyH_take (i := 2) (oi := { dst := some 162, op := Op.move (Operand.tmp 14), type := 9, pos := "law.go:204", after := #[], guard := none }) (v := ?vb2) rfl (by kernel_rfl) (by kernel_rfl) (by kernel_rfl) (fun _ _ _ h => h) (Or.inl ⟨by rfl, ?hyb2⟩) hHeld ?restb2
    case hyb2 =>
      intro W hSw
      go_simp
      try with_reducible rfl
    try simp only [Act.put, List.setIfInBounds_toArray, List.set_cons_zero, List.set_cons_succ]
    refine wpAnyH_take (i := 3) (oi := { dst := some 163, op := Op.move (Operand.tmp 2), type := 29, pos := "law.go:204", after := #[], guard := none }) (v := ?vb3) rfl (by kernel_rfl) (by kernel_rfl) (by kernel_rfl) (fun _ _ _ h => h) (Or.inl ⟨by rfl, ?hyb3⟩) hHeld ?restb3
    case hyb3 =>
      intro W hSw
      go_simp
      try with_reducible rfl
    try simp only [Act.put, List.setIfInBounds_toArray, List.set_cons_zero, List.set_cons_succ]
    refine wpAnyH_take (i := 4) (oi := { dst := some 164, op := Op.convert 29 9 (Operand.tmp 163), type := 9, pos := "law.go:204", after := #[{ on := 3, ground := Ground.data }], guard := none }) (v := ?vb4) rfl (by kernel_rfl) (by kernel_rfl) (by kernel_rfl) (fun _ _ _ h => h) (Or.inl ⟨by rfl, ?hyb4⟩) hHeld ?restb4
    case hyb4 =>
      intro W hSw
      have s1 := hSw
      go_simp
      try with_reducible rfl
    try simp only [Act.put, List.setIfInBounds_toArray, List.set_cons_zero, List.set_cons_succ]
    refine wpAnyH_take (i := 5) (oi := { dst := some 165, op := Op.binOp BinOp.add 9 (Operand.tmp 162) (Operand.tmp 164) 9, type := 9, pos := "law.go:204", after := #[{ on := 2, ground := Ground.data }, { on := 4, ground := Ground.data }], guard := none }) (v := ?vb5) rfl (by kernel_rfl) (by kernel_rfl) (by kernel_rfl) (fun _ _ _ h => h) (Or.inl ⟨by rfl, ?hyb5⟩) hHeld ?restb5
    case hyb5 =>
      intro W hSw
      go_simp
      try with_reducible rfl
    try simp only [Act.put, List.setIfInBounds_toArray, List.set_cons_zero, List.set_cons_succ]
    refine wpAnyH_ready (rs := [1]) (by kernel_rfl) (by simp) ?_
    refine AllReadyH.cons (o := { dst := some 161, op := Op.call { callee := Callee.value (Operand.func 15), args := #[Operand.tmp 160, Operand.const (Value.string { data := #[102] })], argTypes := #[22, 9] }, type := 9, pos := "law.go:204", after := #[{ on := 0, ground := Ground.data }], guard := none }) rfl (fun K' hK => ?_) AllReadyH.nil
    go_simp
    refine (X18.out w17.drew (Liv.drewN H17.out 1)).mono ?_
    rintro e w18 ⟨rfl, hL⟩
    have H18 := Lib.hid hL
    clear hL
    show K' _ w18
    refine hK.out _ _ (CD.out _ H18.out.nx) (fun hHeld => ?_)
    clear hK K'
    try simp only [Act.put, List.setIfInBounds_toArray, List.set_cons_zero, List.set_cons_succ]
    refine wpAnyH_take (i := 6) (oi := { dst := some 166, op := Op.binOp BinOp.eql 9 (Operand.tmp 161) (Operand.tmp 165) 9, type := 4, pos := "law.go:204", after := #[{ on := 1, ground := Ground.data }, { on := 5, ground := Ground.data }], guard := none }) (v := ?vb6) rfl (by kernel_rfl) (by kernel_rfl) (by kernel_rfl) (fun _ _ _ h => h) (Or.inl ⟨by rfl, ?hyb6⟩) hHeld ?restb6
    case hyb6 =>
      intro W hSw
      go_simp
      try with_reducible rfl
    try simp only [Act.put, List.setIfInBounds_toArray, List.set_cons_zero, List.set_cons_succ]
    refine wpAnyH_take (i := 7) (oi := { dst := some 167, op := Op.move (Operand.tmp 166), type := 4, pos := "law.go:204", after := #[{ on := 6, ground := Ground.data }, { on := 1, ground := Ground.chain }], guard := none }) (v := ?vb7) rfl (by kernel_rfl) (by kernel_rfl) (by kernel_rfl) (fun _ _ _ h => h) (Or.inl ⟨by rfl, ?hyb7⟩) hHeld ?restb7
    case hyb7 =>
      intro W hSw
      go_simp
      try with_reducible rfl
    try simp only [Act.put, List.setIfInBounds_toArray, List.set_cons_zero, List.set_cons_succ]
    refine wpAnyH_take (i := 8) (oi := { dst := some 168, op := Op.move (Operand.tmp 18), type := 3, pos := "law.go:204", after := #[{ on := 7, ground := Ground.guard }], guard := some (7, true) }) (v := ?vb8) rfl (by kernel_rfl) (by kernel_rfl) (by kernel_rfl) (fun _ _ _ h => h) (Or.inl ⟨by rfl, ?hyb8⟩) hHeld ?restb8
    case hyb8 =>
      intro W hSw
      go_simp
      try with_reducible rfl
    try simp only [Act.put, List.setIfInBounds_toArray, List.set_cons_zero, List.set_cons_succ]
    refine wpAnyH_take (i := 9) (oi := { dst := some 169, op := Op.move (Operand.tmp 21), type := 3, pos := "law.go:204", after := #[{ on := 7, ground := Ground.guard }], guard := some (7, true) }) (v := ?vb9) rfl (by kernel_rfl) (by kernel_rfl) (by kernel_rfl) (fun _ _ _ h => h) (Or.inl ⟨by rfl, ?hyb9⟩) hHeld ?restb9
    case hyb9 =>
      intro W hSw
      go_simp
      try with_reducible rfl
    try simp only [Act.put, List.setIfInBounds_toArray, List.set_cons_zero, List.set_cons_succ]
    refine wpAnyH_take (i := 10) (oi := { dst := some 170, op := Op.binOp BinOp.eql 3 (Operand.tmp 168) (Operand.tmp 169) 3, type := 4, pos := "law.go:204", after := #[{ on := 8, ground := Ground.data }, { on := 9, ground := Ground.data }, { on := 7, ground := Ground.guard }], guard := some (7, true) }) (v := ?vb10) rfl (by kernel_rfl) (by kernel_rfl) (by kernel_rfl) (fun _ _ _ h => h) (Or.inl ⟨by rfl, ?hyb10⟩) hHeld ?restb10
    case hyb10 =>
      intro W hSw
      go_simp
      try with_reducible rfl
    try simp only [Act.put, List.setIfInBounds_toArray, List.set_cons_zero, List.set_cons_succ]
    refine wpAnyH_take (i := 11) (oi := { dst := some 171, op := Op.pick (Operand.tmp 167) (Operand.tmp 170) (Operand.const (Value.bool false)), type := 4, pos := "law.go:204", after := #[{ on := 7, ground := Ground.data }, { on := 10, ground := Ground.data }], guard := none }) (v := ?vb11) rfl (by kernel_rfl) (by kernel_rfl) (by kernel_rfl) (fun _ _ _ h => h) (Or.inl ⟨by rfl, ?hyb11⟩) hHeld ?restb11
    case hyb11 =>
      intro W hSw
      go_simp
      try with_reducible rfl
    try simp only [Act.put, List.setIfInBounds_toArray, List.set_cons_zero, List.set_cons_succ]
    refine wpAnyH_take (i := 12) (oi := { dst := some 172, op := Op.move (Operand.tmp 171), type := 4, pos := "law.go:204", after := #[{ on := 11, ground := Ground.data }, { on := 7, ground := Ground.chain }], guard := none }) (v := ?vb12) rfl (by kernel_rfl) (by kernel_rfl) (by kernel_rfl) (fun _ _ _ h => h) (Or.inl ⟨by rfl, ?hyb12⟩) hHeld ?restb12
    case hyb12 =>
      intro W hSw
      go_simp
      try with_reducible rfl
    try simp only [Act.put, List.setIfInBounds_toArray, List.set_cons_zero, List.set_cons_succ]
    refine wpAnyH_take (i := 13) (oi := { dst := some 173, op := Op.move (Operand.tmp 19), type := 42, pos := "law.go:204", after := #[{ on := 12, ground := Ground.guard }], guard := some (12, true) }) (v := ?vb13) rfl (by kernel_rfl) (by kernel_rfl) (by kernel_rfl) (fun _ _ _ h => h) (Or.inl ⟨by rfl, ?hyb13⟩) hHeld ?restb13
    case hyb13 =>
      intro W hSw
      go_simp
      try with_reducible rfl
    try simp only [Act.put, List.setIfInBounds_toArray, List.set_cons_zero, List.set_cons_succ]
    refine wpAnyH_take (i := 14) (oi := { dst := some 174, op := Op.move (Operand.tmp 22), type := 42, pos := "law.go:204", after := #[{ on := 12, ground := Ground.guard }], guard := some (12, true) }) (v := ?vb14) rfl (by kernel_rfl) (by kernel_rfl) (by kernel_rfl) (fun _ _ _ h => h) (Or.inl ⟨by rfl, ?hyb14⟩) hHeld ?restb14
    case hyb14 =>
      intro W hSw
      go_simp
      try with_reducible rfl
    try simp only [Act.put, List.setIfInBounds_toArray, List.set_cons_zero, List.set_cons_succ]
    refine wpAnyH_take (i := 15) (oi := { dst := some 175, op := Op.binOp BinOp.eql 42 (Operand.tmp 173) (Operand.tmp 174) 42, type := 4, pos := "law.go:204", after := #[{ on := 13, ground := Ground.data }, { on := 14, ground := Ground.data }, { on := 12, ground := Ground.guard }], guard := some (12, true) }) (v := ?vb15) rfl (by kernel_rfl) (by kernel_rfl) (by kernel_rfl) (fun _ _ _ h => h) (Or.inl ⟨by rfl, ?hyb15⟩) hHeld ?restb15
    case hyb15 =>
      intro W hSw
      go_simp
      try with_reducible rfl
    try simp only [Act.put, List.setIfInBounds_toArray, List.set_cons_zero, List.set_cons_succ]
    refine wpAnyH_take (i := 16) (oi := { dst := some 176, op := Op.pick (Operand.tmp 172) (Operand.tmp 175) (Operand.const (Value.bool false)), type := 4, pos := "law.go:204", after := #[{ on := 12, ground := Ground.data }, { on := 15, ground := Ground.data }], guard := none }) (v := ?vb16) rfl (by kernel_rfl) (by kernel_rfl) (by kernel_rfl) (fun _ _ _ h => h) (Or.inl ⟨by rfl, ?hyb16⟩) hHeld ?restb16
    case hyb16 =>
      intro W hSw
      go_simp
      try with_reducible rfl
    try simp only [Act.put, List.setIfInBounds_toArray, List.set_cons_zero, List.set_cons_succ]
    refine wpAnyH_take (i := 17) (oi := { dst := some 177, op := Op.move (Operand.tmp 176), type := 4, pos := "law.go:204", after := #[{ on := 16, ground := Ground.data }, { on := 12, ground := Ground.chain }], guard := none }) (v := ?vb17) rfl (by kernel_rfl) (by kernel_rfl) (by kernel_rfl) (fun _ _ _ h => h) (Or.inl ⟨by rfl, ?hyb17⟩) hHeld ?restb17
    case hyb17 =>
      intro W hSw
      go_simp
      try with_reducible rfl
    try simp only [Act.put, List.setIfInBounds_toArray, List.set_cons_zero, List.set_cons_succ]
    refine wpAnyH_take (i := 18) (oi := { dst := some 178, op := Op.move (Operand.tmp 18), type := 3, pos := "law.go:204", after := #[{ on := 17, ground := Ground.guard }], guard := some (17, true) }) (v := ?vb18) rfl (by kernel_rfl) (by kernel_rfl) (by kernel_rfl) (fun _ _ _ h => h) (Or.inl ⟨by rfl, ?hyb18⟩) hHeld ?restb18
    case hyb18 =>
      intro W hSw
      go_simp
      try with_reducible rfl
    try simp only [Act.put, List.setIfInBounds_toArray, List.set_cons_zero, List.set_cons_succ]
    refine wpAnyH_take (i := 19) (oi := { dst := some 179, op := Op.move (Operand.tmp 14), type := 9, pos := "law.go:204", after := #[{ on := 17, ground := Ground.guard }], guard := some (17, true) }) (v := ?vb19) rfl (by kernel_rfl) (by kernel_rfl) (by kernel_rfl) (fun _ _ _ h => h) (Or.inl ⟨by rfl, ?hyb19⟩) hHeld ?restb19
    case hyb19 =>
      intro W hSw
      go_simp
      try with_reducible rfl
    try simp only [Act.put, List.setIfInBounds_toArray, List.set_cons_zero, List.set_cons_succ]
    refine wpAnyH_take (i := 20) (oi := { dst := some 180, op := Op.call { callee := Callee.builtin Builtin.len, args := #[Operand.tmp 179], argTypes := #[9] }, type := 3, pos := "law.go:204", after := #[{ on := 19, ground := Ground.data }, { on := 17, ground := Ground.guard }], guard := some (17, true) }) (v := ?vb20) rfl (by kernel_rfl) (by kernel_rfl) (by kernel_rfl) (fun _ _ _ h => h) (Or.inl ⟨by rfl, ?hyb20⟩) hHeld ?restb20
    case hyb20 =>
      intro W hSw
      go_simp
      try with_reducible rfl
    try simp only [Act.put, List.setIfInBounds_toArray, List.set_cons_zero, List.set_cons_succ]
    refine wpAnyH_take (i := 21) (oi := { dst := some 181, op := Op.move (Operand.tmp 2), type := 29, pos := "law.go:204", after := #[{ on := 17, ground := Ground.guard }], guard := some (17, true) }) (v := ?vb21) rfl (by kernel_rfl) (by kernel_rfl) (by kernel_rfl) (fun _ _ _ h => h) (Or.inl ⟨by rfl, ?hyb21⟩) hHeld ?restb21
    case hyb21 =>
      intro W hSw
      go_simp
      try with_reducible rfl
    try simp only [Act.put, List.setIfInBounds_toArray, List.set_cons_zero, List.set_cons_succ]
    refine wpAnyH_take (i := 22) (oi := { dst := some 182, op := Op.call { callee := Callee.builtin Builtin.len, args := #[Operand.tmp 181], argTypes := #[29] }, type := 3, pos := "law.go:204", after := #[{ on := 21, ground := Ground.data }, { on := 17, ground := Ground.guard }], guard := some (17, true) }) (v := ?vb22) rfl (by kernel_rfl) (by kernel_rfl) (by kernel_rfl) (fun _ _ _ h => h) (Or.inl ⟨by rfl, ?hyb22⟩) hHeld ?restb22
    case hyb22 =>
      intro W hSw
      go_simp
      try with_reducible rfl
    try simp only [Act.put, List.setIfInBounds_toArray, List.set_cons_zero, List.set_cons_succ]
    refine wpAnyH_take (i := 23) (oi := { dst := some 183, op := Op.binOp BinOp.add 3 (Operand.tmp 180) (Operand.tmp 182) 3, type := 3, pos := "law.go:204", after := #[{ on := 20, ground := Ground.data }, { on := 22, ground := Ground.data }, { on := 17, ground := Ground.guard }], guard := some (17, true) }) (v := ?vb23) rfl (by kernel_rfl) (by kernel_rfl) (by kernel_rfl) (fun _ _ _ h => h) (Or.inl ⟨by rfl, ?hyb23⟩) hHeld ?restb23
    case hyb23 =>
      intro W hSw
      go_simp
      try with_reducible rfl
    try simp only [Act.put, List.setIfInBounds_toArray, List.set_cons_zero, List.set_cons_succ]
    refine wpAnyH_take (i := 24) (oi := { dst := some 184, op := Op.binOp BinOp.eql 3 (Operand.tmp 178) (Operand.tmp 183) 3, type := 4, pos := "law.go:204", after := #[{ on := 18, ground := Ground.data }, { on := 23, ground := Ground.data }, { on := 17, ground := Ground.guard }], guard := some (17, true) }) (v := ?vb24) rfl (by kernel_rfl) (by kernel_rfl) (by kernel_rfl) (fun _ _ _ h => h) (Or.inl ⟨by rfl, ?hyb24⟩) hHeld ?restb24
    case hyb24 =>
      intro W hSw
      go_simp
      try with_reducible rfl
    try simp only [Act.put, List.setIfInBounds_toArray, List.set_cons_zero, List.set_cons_succ]
    refine wpAnyH_take (i := 25) (oi := { dst := some 185, op := Op.pick (Operand.tmp 177) (Operand.tmp 184) (Operand.const (Value.bool false)), type := 4, pos := "law.go:204", after := #[{ on := 17, ground := Ground.data }, { on := 24, ground := Ground.data }], guard := none }) (v := ?vb25) rfl (by kernel_rfl) (by kernel_rfl) (by kernel_rfl) (fun _ _ _ h => h) (Or.inl ⟨by rfl, ?hyb25⟩) hHeld ?restb25
    case hyb25 =>
      intro W hSw
      go_simp
      try with_reducible rfl
    try simp only [Act.put, List.setIfInBounds_toArray, List.set_cons_zero, List.set_cons_succ]
    refine wpAnyH_take (i := 26) (oi := { dst := some 10, op := Op.assign (Operand.tmp 185), type := 4, pos := "law.go:204", after := #[{ on := 25, ground := Ground.data }, { on := 17, ground := Ground.chain }, { on := 0, ground := Ground.phase }, { on := 1, ground := Ground.phase }, { on := 2, ground := Ground.phase }, { on := 3, ground := Ground.phase }, { on := 4, ground := Ground.phase }, { on := 5, ground := Ground.phase }, { on := 6, ground := Ground.phase }, { on := 7, ground := Ground.phase }, { on := 8, ground := Ground.phase }, { on := 9, ground := Ground.phase }, { on := 10, ground := Ground.phase }, { on := 11, ground := Ground.phase }, { on := 12, ground := Ground.phase }, { on := 13, ground := Ground.phase }, { on := 14, ground := Ground.phase }, { on := 15, ground := Ground.phase }, { on := 16, ground := Ground.phase }, { on := 17, ground := Ground.phase }, { on := 18, ground := Ground.phase }, { on := 19, ground := Ground.phase }, { on := 20, ground := Ground.phase }, { on := 21, ground := Ground.phase }, { on := 22, ground := Ground.phase }, { on := 23, ground := Ground.phase }, { on := 24, ground := Ground.phase }, { on := 25, ground := Ground.phase }], guard := none }) (v := ?vb26) rfl (by kernel_rfl) (by kernel_rfl) (by kernel_rfl) (fun _ _ _ h => h) (Or.inl ⟨by rfl, ?hyb26⟩) hHeld ?restb26
    case hyb26 =>
      intro W hSw
      go_simp
      try with_reducible rfl
    try simp only [Act.put, List.setIfInBounds_toArray, List.set_cons_zero, List.set_cons_succ]
    refine wpAnyH_done (by kernel_rfl) ?_ _
    go_wp2
    go_ret
    exact ⟨rfl, H18.out.nx⟩
  · obtain ⟨s1, s2, s3, st, hR⟩ := rest_of hL1 lc hc
    have X10 : Hid (∀ W, Liv w tb s9 18 W → Calls Try.prog 21 #[.pointer (some ⟨tb, 0, none⟩), .string ⟨#[46, 116, 109, 112, 47, 102]⟩] W fun e w' => (∃ x y, e = .returned (.tuple #[.int .i64 x, .int .u64 y, .bool false])) ∧ Liv w tb s9 18 w') := fun W h => by have := liv_stat h tP (by decide); rw [hL1.tl] at this; exact this.mono fun e w' ⟨e1, e2⟩ => ⟨⟨_, _, e1⟩, e2⟩
    have X11 : Hid (∀ W, Liv w tb s9 18 W → Calls Try.prog 15 #[.pointer (some ⟨tb, 0, none⟩), .string ⟨#[102]⟩] W fun e w' => e = .returned (.string (Go.Proofs.Ytodnckflobefpaa.S lb)) ∧ Liv w tb s9 18 w') := fun W h => by have := liv_got h (by decide) fP (by decide); rw [hR.read] at this; exact this
    have X12 : Hid (∀ W W2 j c2, Liv w tb s9 18 W → Own W2 W.heap.size (some ⟨j, 0, none⟩) len2 c2 lc → Nx W W2 → Calls Try.prog 28 #[.pointer (some ⟨tb, 0, none⟩), .string ⟨#[102]⟩, .slice (some ⟨j, 0, none⟩) len2 c2] W2 fun e w' => e = .returned (.int .i64 0) ∧ Liv w tb s1 20 w') := fun W W2 j c2 h ho hn => by have := liv_append h hn (by decide) fP (by decide) _ _ _ _ ho.arg (by omega) (own_ge ho); rw [hR.app] at this; exact this
    have X13 : Hid (∀ W, Liv w tb s1 20 W → Calls Try.prog 12 #[.pointer (some ⟨tb, 0, none⟩), .string ⟨#[102]⟩] W fun e w' => e = .returned (.int .i64 0) ∧ Liv w tb s2 22 w') := fun W h => by have := liv_sync h (by decide) fP (by decide); rw [hR.syn] at this; exact this
    have X14 : Hid (∀ W, Liv w tb s2 22 W → Calls Try.prog 27 #[.pointer (some ⟨tb, 0, none⟩)] W fun e w' => e = .returned (.int .i64 0) ∧ Liv w tb s3 24 w') := fun W h => by have := liv_syncPaths h (by decide); rw [hR.syp] at this; exact this
    have X15 : Hid (∀ W, Liv w tb s3 24 W → Calls Try.prog 21 #[.pointer (some ⟨tb, 0, none⟩), .string ⟨#[102]⟩] W fun e w' => e = .returned (.tuple #[.int .i64 (((lb ++ lc).length : Nat) : Int), .int .u64 (st : Int), .bool true]) ∧ Liv w tb s3 24 w') := fun W h => by have := liv_stat h fP (by decide); rw [hR.stat] at this; exact this
    have X16 : Hid (∀ W W2 A c, Liv w tb s3 24 W → Nums W2 A len4 c parts → (∀ j o, A = some ⟨j, o, none⟩ → W.heap.size ≤ j) → Nx W W2 → Calls Try.prog 14 #[.pointer (some ⟨tb, 0, none⟩), .int .i64 a3, .slice A len4 c] W2 fun e w' => e = .returned (.int .i64 0) ∧ Liv w tb (s3.crash a3 parts) 26 w') := fun W W2 A c h hN hA hn => liv_crash h hn (by decide) a3 hk A _ c parts hN hA
    have X17 : Hid (∀ W, Liv w tb (s3.crash a3 parts) 26 W → Calls Try.prog 21 #[.pointer (some ⟨tb, 0, none⟩), .string ⟨#[102]⟩] W fun e w' => e = .returned (.tuple #[.int .i64 (((lb ++ lc).length : Nat) : Int), .int .u64 (st : Int), .bool true]) ∧ Liv w tb (s3.crash a3 parts) 26 w') := fun W h => by have := liv_stat h fP (by decide); rw [(hR.aft a3 parts).1] at this; exact this
    have X18 : Hid (∀ W, Liv w tb (s3.crash a3 parts) 26 W → Calls Try.prog 15 #[.pointer (some ⟨tb, 0, none⟩), .string ⟨#[102]⟩] W fun e w' => e = .returned (.string (Go.Proofs.Ytodnckflobefpaa.S (lb ++ lc))) ∧ Liv w tb (s3.crash a3 parts) 26 w') := fun W h => by have := liv_got h (by decide) fP (by decide); rw [(hR.aft a3 parts).2] at this; exact this
    clear hL1 hR HL1
    obtain ⟨sv, hsv⟩ : ∃ sv, Go.Proofs.Ytodnckflobefpaa.S lb = sv := ⟨_, rfl⟩
    obtain ⟨sc, hsc⟩ : ∃ sc, Go.Proofs.Ytodnckflobefpaa.S lc = sc := ⟨_, rfl⟩
    have hsz : sv.size ≤ 300 := by rw [← hsv, S_size]; omega
    have hcz : sc.size ≤ 300 := by rw [← hsc, S_size]; omega
    have hln : Hid (((lb ++ lc).length : Int) = (sv.size : Int) + (len2 : Int)) := by
      show _ = _
      rw [← hsv, S_size, List.length_append, HC.out.len]
      push_cast
      rfl
    have hap : Hid (Go.Proofs.Ytodnckflobefpaa.S (lb ++ lc) = sv ++ sc) := by show _ = _; rw [← hsv, ← hsc, S_append]
    rw [hln.out] at X15 X17
    rw [hap.out] at X18
    rw [hsv] at X11
    have cB : Sem.run Try.prog (convert 29 9 (.slice a1 len1 cap1)) w9 = .ok (.string sv) w9 := by rw [← hsv]; exact CB.out w9 H9.out.nx
    have cA := CA.out w9 H9.out.nx
    have CD : Hid (∀ W, Nx w W → (convert 29 9 (.slice a2 len2 cap2)).run Try.prog W = .ok (.string sc) W) := fun W hn => by rw [← hsc]; exact CC.out W hn
    clear hln hap hsv hsc CC
    go_wp2_with fail
    refine (X10.out w9 H9.out).mono ?_
    rintro e w10 ⟨⟨x10, y10, rfl⟩, hL⟩
    have H10 := Lib.hid hL
    clear hL X10 H9
    go_wp2_with fail
    refine (X11.out w10 H10.out).mono ?_
    rintro e w11 ⟨rfl, hL⟩
    have H11 := Lib.hid hL
    clear hL X11 H10
    go_wp2_with fail
    refine (OC.out w11 H11.out.nx).mono ?_
    rintro e wo ⟨j12, c12, rfl, ho, hn⟩
    have HO := Lib.hid ho
    have HN := Lib.hid hn
    clear ho hn OC
    go_wp2_with fail
    refine (X12.out w11 wo _ _ H11.out HO.out HN.out).mono ?_
    rintro e w12 ⟨rfl, hL⟩
    have H12 := Lib.hid hL
    clear hL X12 H11 HO HN
    go_wp2_with fail
    refine (X13.out w12 H12.out).mono ?_
    rintro e w13 ⟨rfl, hL⟩
    have H13 := Lib.hid hL
    clear hL X13 H12
    go_wp2_with fail
    refine (X14.out w13 H13.out).mono ?_
    rintro e w14 ⟨rfl, hL⟩
    have H14 := Lib.hid hL
    clear hL X14 H13
    go_wp2_with fail
    refine (X15.out w14 H14.out).mono ?_
    rintro e w15 ⟨rfl, hL⟩
    have H15 := Lib.hid hL
    clear hL X15 H14
    go_wp2_with (at_builtin; refine wpList_ints_copy rfl (.tmp 149) (.tmp 150) rfl rfl a4 len4 cap4 parts rfl (HP.out.nx H15.out.nx) ?_; intro A16 c16 wp hN hA hn; have HN := Lib.hid hN; have HA := Lib.hid hA; have HX := Lib.hid hn; clear hN hA hn)
    refine (X16.out w15 wp _ _ H15.out HN.out HA.out HX.out).mono ?_
    rintro e w16 ⟨rfl, hL⟩
    have H16 := Lib.hid hL
    clear hL X16 H15 HN HA HX
    go_wp2_with fail
    refine (X17.out w16 H16.out).mono ?_
    rintro e w17 ⟨rfl, hL⟩
    have H17 := Lib.hid hL
    clear hL X17 H16
    clear X_
    have hw : IntKind.i64.wrap ((sv.size : Int) + (len2 : Int)) = (sv.size : Int) + (len2 : Int) := by rw [IntWalk.i64_in _ (by omega)]
    have hcc : ¬ (9223372036854775807 < sv.size + sc.size) := by omega
    go_upto_region 23 with fail
    refine wp_region_held_drew (S := (fun W => (convert 29 9 (.slice a2 len2 cap2)).run Try.prog W = .ok (.string sc) W)) (by kernel_rfl) (CD.out _ (Nx.drew H17.out.nx)) (fun hHeld => ?_)
    change wpAnyH _ _ _ _ _ 27 (Array.replicate 27 false) _ _
    refine wpAnyH_take (i := 0) (oi := { dst := some 160, op := Op.move (Operand.tmp 11), type := 22, pos := "law.go:204", after := #[], guard := none }) (v := ?vc0) rfl (by kernel_rfl) (by kernel_rfl) (by kernel_rfl) (fun _ _ _ h => h) (Or.inl ⟨by rfl, ?hyc0⟩) hHeld ?restc0
    case hyc0 =>
      intro W hSw
      go_simp
      try with_reducible rfl
    try simp only [Act.put, List.setIfInBounds_toArray, List.set_cons_zero, List.set_cons_succ]
    refine wpAnyH_take (i := 2) (oi := { dst := some 162, op := Op.move (Operand.tmp 14), type := 9, pos := "law.go:204", after := #[], guard := none }) (v := ?vc2) rfl (by kernel_rfl) (by kernel_rfl) (by kernel_rfl) (fun _ _ _ h => h) (Or.inl ⟨by rfl, ?hyc2⟩) hHeld ?restc2
    case hyc2 =>
      intro W hSw
      go_simp
      try with_reducible rfl
    try simp only [Act.put, List.setIfInBounds_toArray, List.set_cons_zero, List.set_cons_succ]
    refine wpAnyH_take (i := 3) (oi := { dst := some 163, op := Op.move (Operand.tmp 2), type := 29, pos := "law.go:204", after := #[], guard := none }) (v := ?vc3) rfl (by kernel_rfl) (by kernel_rfl) (by kernel_rfl) (fun _ _ _ h => h) (Or.inl ⟨by rfl, ?hyc3⟩) hHeld ?restc3
    case hyc3 =>
      intro W hSw
      go_simp
      try with_reducible rfl
    try simp only [Act.put, List.setIfInBounds_toArray, List.set_cons_zero, List.set_cons_succ]
    refine wpAnyH_take (i := 4) (oi := { dst := some 164, op := Op.convert 29 9 (Operand.tmp 163), type := 9, pos := "law.go:204", after := #[{ on := 3, ground := Ground.data }], guard := none }) (v := ?vc4) rfl (by kernel_rfl) (by kernel_rfl) (by kernel_rfl) (fun _ _ _ h => h) (Or.inl ⟨by rfl, ?hyc4⟩) hHeld ?restc4
    case hyc4 =>
      intro W hSw
      have s1 := hSw
      go_simp
      try with_reducible rfl
    try simp only [Act.put, List.setIfInBounds_toArray, List.set_cons_zero, List.set_cons_succ]
    refine wpAnyH_take (i := 5) (oi := { dst := some 165, op := Op.binOp BinOp.add 9 (Operand.tmp 162) (Operand.tmp 164) 9, type := 9, pos := "law.go:204", after := #[{ on := 2, ground := Ground.data }, { on := 4, ground := Ground.data }], guard := none }) (v := ?vc5) rfl (by kernel_rfl) (by kernel_rfl) (by kernel_rfl) (fun _ _ _ h => h) (Or.inl ⟨by rfl, ?hyc5⟩) hHeld ?restc5
    case hyc5 =>
      intro W hSw
      go_simp
      try with_reducible rfl
    try simp only [Act.put, List.setIfInBounds_toArray, List.set_cons_zero, List.set_cons_succ]
    refine wpAnyH_ready (rs := [1]) (by kernel_rfl) (by simp) ?_
    refine AllReadyH.cons (o := { dst := some 161, op := Op.call { callee := Callee.value (Operand.func 15), args := #[Operand.tmp 160, Operand.const (Value.string { data := #[102] })], argTypes := #[22, 9] }, type := 9, pos := "law.go:204", after := #[{ on := 0, ground := Ground.data }], guard := none }) rfl (fun K' hK => ?_) AllReadyH.nil
    go_simp
    refine (X18.out w17.drew (Liv.drewN H17.out 1)).mono ?_
    rintro e w18 ⟨rfl, hL⟩
    have H18 := Lib.hid hL
    clear hL
    show K' _ w18
    refine hK.out _ _ (CD.out _ H18.out.nx) (fun hHeld => ?_)
    clear hK K'
    try simp only [Act.put, List.setIfInBounds_toArray, List.set_cons_zero, List.set_cons_succ]
    refine wpAnyH_take (i := 6) (oi := { dst := some 166, op := Op.binOp BinOp.eql 9 (Operand.tmp 161) (Operand.tmp 165) 9, type := 4, pos := "law.go:204", after := #[{ on := 1, ground := Ground.data }, { on := 5, ground := Ground.data }], guard := none }) (v := ?vc6) rfl (by kernel_rfl) (by kernel_rfl) (by kernel_rfl) (fun _ _ _ h => h) (Or.inl ⟨by rfl, ?hyc6⟩) hHeld ?restc6
    case hyc6 =>
      intro W hSw
      go_simp
      try with_reducible rfl
    try simp only [Act.put, List.setIfInBounds_toArray, List.set_cons_zero, List.set_cons_succ]
    refine wpAnyH_take (i := 7) (oi := { dst := some 167, op := Op.move (Operand.tmp 166), type := 4, pos := "law.go:204", after := #[{ on := 6, ground := Ground.data }, { on := 1, ground := Ground.chain }], guard := none }) (v := ?vc7) rfl (by kernel_rfl) (by kernel_rfl) (by kernel_rfl) (fun _ _ _ h => h) (Or.inl ⟨by rfl, ?hyc7⟩) hHeld ?restc7
    case hyc7 =>
      intro W hSw
      go_simp
      try with_reducible rfl
    try simp only [Act.put, List.setIfInBounds_toArray, List.set_cons_zero, List.set_cons_succ]
    refine wpAnyH_take (i := 8) (oi := { dst := some 168, op := Op.move (Operand.tmp 18), type := 3, pos := "law.go:204", after := #[{ on := 7, ground := Ground.guard }], guard := some (7, true) }) (v := ?vc8) rfl (by kernel_rfl) (by kernel_rfl) (by kernel_rfl) (fun _ _ _ h => h) (Or.inl ⟨by rfl, ?hyc8⟩) hHeld ?restc8
    case hyc8 =>
      intro W hSw
      go_simp
      try with_reducible rfl
    try simp only [Act.put, List.setIfInBounds_toArray, List.set_cons_zero, List.set_cons_succ]
    refine wpAnyH_take (i := 9) (oi := { dst := some 169, op := Op.move (Operand.tmp 21), type := 3, pos := "law.go:204", after := #[{ on := 7, ground := Ground.guard }], guard := some (7, true) }) (v := ?vc9) rfl (by kernel_rfl) (by kernel_rfl) (by kernel_rfl) (fun _ _ _ h => h) (Or.inl ⟨by rfl, ?hyc9⟩) hHeld ?restc9
    case hyc9 =>
      intro W hSw
      go_simp
      try with_reducible rfl
    try simp only [Act.put, List.setIfInBounds_toArray, List.set_cons_zero, List.set_cons_succ]
    refine wpAnyH_take (i := 10) (oi := { dst := some 170, op := Op.binOp BinOp.eql 3 (Operand.tmp 168) (Operand.tmp 169) 3, type := 4, pos := "law.go:204", after := #[{ on := 8, ground := Ground.data }, { on := 9, ground := Ground.data }, { on := 7, ground := Ground.guard }], guard := some (7, true) }) (v := ?vc10) rfl (by kernel_rfl) (by kernel_rfl) (by kernel_rfl) (fun _ _ _ h => h) (Or.inl ⟨by rfl, ?hyc10⟩) hHeld ?restc10
    case hyc10 =>
      intro W hSw
      go_simp
      try with_reducible rfl
    try simp only [Act.put, List.setIfInBounds_toArray, List.set_cons_zero, List.set_cons_succ]
    refine wpAnyH_take (i := 11) (oi := { dst := some 171, op := Op.pick (Operand.tmp 167) (Operand.tmp 170) (Operand.const (Value.bool false)), type := 4, pos := "law.go:204", after := #[{ on := 7, ground := Ground.data }, { on := 10, ground := Ground.data }], guard := none }) (v := ?vc11) rfl (by kernel_rfl) (by kernel_rfl) (by kernel_rfl) (fun _ _ _ h => h) (Or.inl ⟨by rfl, ?hyc11⟩) hHeld ?restc11
    case hyc11 =>
      intro W hSw
      go_simp
      try with_reducible rfl
    try simp only [Act.put, List.setIfInBounds_toArray, List.set_cons_zero, List.set_cons_succ]
    refine wpAnyH_take (i := 12) (oi := { dst := some 172, op := Op.move (Operand.tmp 171), type := 4, pos := "law.go:204", after := #[{ on := 11, ground := Ground.data }, { on := 7, ground := Ground.chain }], guard := none }) (v := ?vc12) rfl (by kernel_rfl) (by kernel_rfl) (by kernel_rfl) (fun _ _ _ h => h) (Or.inl ⟨by rfl, ?hyc12⟩) hHeld ?restc12
    case hyc12 =>
      intro W hSw
      go_simp
      try with_reducible rfl
    try simp only [Act.put, List.setIfInBounds_toArray, List.set_cons_zero, List.set_cons_succ]
    refine wpAnyH_take (i := 13) (oi := { dst := some 173, op := Op.move (Operand.tmp 19), type := 42, pos := "law.go:204", after := #[{ on := 12, ground := Ground.guard }], guard := some (12, true) }) (v := ?vc13) rfl (by kernel_rfl) (by kernel_rfl) (by kernel_rfl) (fun _ _ _ h => h) (Or.inl ⟨by rfl, ?hyc13⟩) hHeld ?restc13
    case hyc13 =>
      intro W hSw
      go_simp
      try with_reducible rfl
    try simp only [Act.put, List.setIfInBounds_toArray, List.set_cons_zero, List.set_cons_succ]
    refine wpAnyH_take (i := 14) (oi := { dst := some 174, op := Op.move (Operand.tmp 22), type := 42, pos := "law.go:204", after := #[{ on := 12, ground := Ground.guard }], guard := some (12, true) }) (v := ?vc14) rfl (by kernel_rfl) (by kernel_rfl) (by kernel_rfl) (fun _ _ _ h => h) (Or.inl ⟨by rfl, ?hyc14⟩) hHeld ?restc14
    case hyc14 =>
      intro W hSw
      go_simp
      try with_reducible rfl
    try simp only [Act.put, List.setIfInBounds_toArray, List.set_cons_zero, List.set_cons_succ]
    refine wpAnyH_take (i := 15) (oi := { dst := some 175, op := Op.binOp BinOp.eql 42 (Operand.tmp 173) (Operand.tmp 174) 42, type := 4, pos := "law.go:204", after := #[{ on := 13, ground := Ground.data }, { on := 14, ground := Ground.data }, { on := 12, ground := Ground.guard }], guard := some (12, true) }) (v := ?vc15) rfl (by kernel_rfl) (by kernel_rfl) (by kernel_rfl) (fun _ _ _ h => h) (Or.inl ⟨by rfl, ?hyc15⟩) hHeld ?restc15
    case hyc15 =>
      intro W hSw
      go_simp
      try with_reducible rfl
    try simp only [Act.put, List.setIfInBounds_toArray, List.set_cons_zero, List.set_cons_succ]
    refine wpAnyH_take (i := 16) (oi := { dst := some 176, op := Op.pick (Operand.tmp 172) (Operand.tmp 175) (Operand.const (Value.bool false)), type := 4, pos := "law.go:204", after := #[{ on := 12, ground := Ground.data }, { on := 15, ground := Ground.data }], guard := none }) (v := ?vc16) rfl (by kernel_rfl) (by kernel_rfl) (by kernel_rfl) (fun _ _ _ h => h) (Or.inl ⟨by rfl, ?hyc16⟩) hHeld ?restc16
    case hyc16 =>
      intro W hSw
      go_simp
      try with_reducible rfl
    try simp only [Act.put, List.setIfInBounds_toArray, List.set_cons_zero, List.set_cons_succ]
    refine wpAnyH_take (i := 17) (oi := { dst := some 177, op := Op.move (Operand.tmp 176), type := 4, pos := "law.go:204", after := #[{ on := 16, ground := Ground.data }, { on := 12, ground := Ground.chain }], guard := none }) (v := ?vc17) rfl (by kernel_rfl) (by kernel_rfl) (by kernel_rfl) (fun _ _ _ h => h) (Or.inl ⟨by rfl, ?hyc17⟩) hHeld ?restc17
    case hyc17 =>
      intro W hSw
      go_simp
      try with_reducible rfl
    try simp only [Act.put, List.setIfInBounds_toArray, List.set_cons_zero, List.set_cons_succ]
    refine wpAnyH_take (i := 18) (oi := { dst := some 178, op := Op.move (Operand.tmp 18), type := 3, pos := "law.go:204", after := #[{ on := 17, ground := Ground.guard }], guard := some (17, true) }) (v := ?vc18) rfl (by kernel_rfl) (by kernel_rfl) (by kernel_rfl) (fun _ _ _ h => h) (Or.inl ⟨by rfl, ?hyc18⟩) hHeld ?restc18
    case hyc18 =>
      intro W hSw
      go_simp
      try with_reducible rfl
    try simp only [Act.put, List.setIfInBounds_toArray, List.set_cons_zero, List.set_cons_succ]
    refine wpAnyH_take (i := 19) (oi := { dst := some 179, op := Op.move (Operand.tmp 14), type := 9, pos := "law.go:204", after := #[{ on := 17, ground := Ground.guard }], guard := some (17, true) }) (v := ?vc19) rfl (by kernel_rfl) (by kernel_rfl) (by kernel_rfl) (fun _ _ _ h => h) (Or.inl ⟨by rfl, ?hyc19⟩) hHeld ?restc19
    case hyc19 =>
      intro W hSw
      go_simp
      try with_reducible rfl
    try simp only [Act.put, List.setIfInBounds_toArray, List.set_cons_zero, List.set_cons_succ]
    refine wpAnyH_take (i := 20) (oi := { dst := some 180, op := Op.call { callee := Callee.builtin Builtin.len, args := #[Operand.tmp 179], argTypes := #[9] }, type := 3, pos := "law.go:204", after := #[{ on := 19, ground := Ground.data }, { on := 17, ground := Ground.guard }], guard := some (17, true) }) (v := ?vc20) rfl (by kernel_rfl) (by kernel_rfl) (by kernel_rfl) (fun _ _ _ h => h) (Or.inl ⟨by rfl, ?hyc20⟩) hHeld ?restc20
    case hyc20 =>
      intro W hSw
      go_simp
      try with_reducible rfl
    try simp only [Act.put, List.setIfInBounds_toArray, List.set_cons_zero, List.set_cons_succ]
    refine wpAnyH_take (i := 21) (oi := { dst := some 181, op := Op.move (Operand.tmp 2), type := 29, pos := "law.go:204", after := #[{ on := 17, ground := Ground.guard }], guard := some (17, true) }) (v := ?vc21) rfl (by kernel_rfl) (by kernel_rfl) (by kernel_rfl) (fun _ _ _ h => h) (Or.inl ⟨by rfl, ?hyc21⟩) hHeld ?restc21
    case hyc21 =>
      intro W hSw
      go_simp
      try with_reducible rfl
    try simp only [Act.put, List.setIfInBounds_toArray, List.set_cons_zero, List.set_cons_succ]
    refine wpAnyH_take (i := 22) (oi := { dst := some 182, op := Op.call { callee := Callee.builtin Builtin.len, args := #[Operand.tmp 181], argTypes := #[29] }, type := 3, pos := "law.go:204", after := #[{ on := 21, ground := Ground.data }, { on := 17, ground := Ground.guard }], guard := some (17, true) }) (v := ?vc22) rfl (by kernel_rfl) (by kernel_rfl) (by kernel_rfl) (fun _ _ _ h => h) (Or.inl ⟨by rfl, ?hyc22⟩) hHeld ?restc22
    case hyc22 =>
      intro W hSw
      go_simp
      try with_reducible rfl
    try simp only [Act.put, List.setIfInBounds_toArray, List.set_cons_zero, List.set_cons_succ]
    refine wpAnyH_take (i := 23) (oi := { dst := some 183, op := Op.binOp BinOp.add 3 (Operand.tmp 180) (Operand.tmp 182) 3, type := 3, pos := "law.go:204", after := #[{ on := 20, ground := Ground.data }, { on := 22, ground := Ground.data }, { on := 17, ground := Ground.guard }], guard := some (17, true) }) (v := ?vc23) rfl (by kernel_rfl) (by kernel_rfl) (by kernel_rfl) (fun _ _ _ h => h) (Or.inl ⟨by rfl, ?hyc23⟩) hHeld ?restc23
    case hyc23 =>
      intro W hSw
      go_simp
      try with_reducible rfl
    try simp only [Act.put, List.setIfInBounds_toArray, List.set_cons_zero, List.set_cons_succ]
    refine wpAnyH_take (i := 24) (oi := { dst := some 184, op := Op.binOp BinOp.eql 3 (Operand.tmp 178) (Operand.tmp 183) 3, type := 4, pos := "law.go:204", after := #[{ on := 18, ground := Ground.data }, { on := 23, ground := Ground.data }, { on := 17, ground := Ground.guard }], guard := some (17, true) }) (v := ?vc24) rfl (by kernel_rfl) (by kernel_rfl) (by kernel_rfl) (fun _ _ _ h => h) (Or.inl ⟨by rfl, ?hyc24⟩) hHeld ?restc24
    case hyc24 =>
      intro W hSw
      go_simp
      try with_reducible rfl
    try simp only [Act.put, List.setIfInBounds_toArray, List.set_cons_zero, List.set_cons_succ]
    refine wpAnyH_take (i := 25) (oi := { dst := some 185, op := Op.pick (Operand.tmp 177) (Operand.tmp 184) (Operand.const (Value.bool false)), type := 4, pos := "law.go:204", after := #[{ on := 17, ground := Ground.data }, { on := 24, ground := Ground.data }], guard := none }) (v := ?vc25) rfl (by kernel_rfl) (by kernel_rfl) (by kernel_rfl) (fun _ _ _ h => h) (Or.inl ⟨by rfl, ?hyc25⟩) hHeld ?restc25
    case hyc25 =>
      intro W hSw
      go_simp
      try with_reducible rfl
    try simp only [Act.put, List.setIfInBounds_toArray, List.set_cons_zero, List.set_cons_succ]
    refine wpAnyH_take (i := 26) (oi := { dst := some 10, op := Op.assign (Operand.tmp 185), type := 4, pos := "law.go:204", after := #[{ on := 25, ground := Ground.data }, { on := 17, ground := Ground.chain }, { on := 0, ground := Ground.phase }, { on := 1, ground := Ground.phase }, { on := 2, ground := Ground.phase }, { on := 3, ground := Ground.phase }, { on := 4, ground := Ground.phase }, { on := 5, ground := Ground.phase }, { on := 6, ground := Ground.phase }, { on := 7, ground := Ground.phase }, { on := 8, ground := Ground.phase }, { on := 9, ground := Ground.phase }, { on := 10, ground := Ground.phase }, { on := 11, ground := Ground.phase }, { on := 12, ground := Ground.phase }, { on := 13, ground := Ground.phase }, { on := 14, ground := Ground.phase }, { on := 15, ground := Ground.phase }, { on := 16, ground := Ground.phase }, { on := 17, ground := Ground.phase }, { on := 18, ground := Ground.phase }, { on := 19, ground := Ground.phase }, { on := 20, ground := Ground.phase }, { on := 21, ground := Ground.phase }, { on := 22, ground := Ground.phase }, { on := 23, ground := Ground.phase }, { on := 24, ground := Ground.phase }, { on := 25, ground := Ground.phase }], guard := none }) (v := ?vc26) rfl (by kernel_rfl) (by kernel_rfl) (by kernel_rfl) (fun _ _ _ h => h) (Or.inl ⟨by rfl, ?hyc26⟩) hHeld ?restc26
    case hyc26 =>
      intro W hSw
      go_simp
      try with_reducible rfl
    try simp only [Act.put, List.setIfInBounds_toArray, List.set_cons_zero, List.set_cons_succ]
    refine wpAnyH_done (by kernel_rfl) ?_ _
    go_wp2
    go_ret
    exact ⟨rfl, H18.out.nx⟩
end Go.Proofs.Ytodnckflobefpaa
