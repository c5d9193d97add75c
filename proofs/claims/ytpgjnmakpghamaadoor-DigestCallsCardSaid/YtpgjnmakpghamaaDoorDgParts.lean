/- The walk of the law DigestParts. -/
import Derived.Test.YtpgjnmakpghamaaDoorDgParse
namespace Go.Proofs.YtpgjnmakpghamaaDoor
open Go.RowKit
set_option linter.unusedVariables false

/-- A slice of slices of bytes, as it came in. -/
structure Parts (w : World) (A : Option Addr) (n c : Nat) : Prop where
  le : n ≤ c
  cap : c ≤ maxLen
  lies : 0 < n → ∃ b o, A = some ⟨b, o, none⟩ ∧ b < w.heap.size ∧ ∀ i, i < n → ∃ (Ai : Option Addr) (ni ci : Nat) (li : List UInt8), w.cell? ⟨b, o + i, none⟩ = some (.slice Ai ni ci) ∧ Byt w w.heap.size Ai ni ci li
def sumTo (f : Nat → Nat) : Nat → Nat
  | 0 => 0
  | i + 1 => sumTo f i + min (f i) 3001
def totTo (f : Nat → Nat) : Nat → Nat
  | 0 => 0
  | i + 1 => totTo f i + f i
theorem sum_le (f : Nat → Nat) (i : Nat) : ∀ j, i ≤ j → sumTo f i ≤ sumTo f j
  | 0, h => by obtain rfl : i = 0 := by omega
               exact Nat.le_refl _
  | j + 1, h => by
    by_cases e : i = j + 1
    · subst e
      exact Nat.le_refl _
    · have := sum_le f i j (by omega)
      rw [sumTo]
      omega
theorem sum_tot (f : Nat → Nat) : ∀ i, sumTo f i ≤ 3000 → sumTo f i = totTo f i
  | 0, _ => rfl
  | i + 1, h => by
    rw [sumTo] at h
    rw [sumTo, totTo, sum_tot f i (by omega)]
    omega

theorem BlkIs.own_ne {w : World} {g : Nat} {t : TypeId} {cs : Array Value} (h : BlkIs w g t cs) (ht : t ≠ 5) {B n c : Nat} {A : Option Addr} {l : List UInt8} (ho : Own w B A n c l) : (Value.slice A n c).ownBlock ≠ some g := by
  rcases ho.2 with ⟨hv, _⟩ | ⟨g', cap, cur, hv, _, hh, _⟩
  · rw [hv]; simp [Value.ownBlock]
  · rw [hv]
    intro he
    have : g' = g := by simpa [Value.ownBlock] using he
    subst this
    unfold BlkIs at h
    rw [h] at hh
    injection hh with hh
    injection hh with _ hh
    exact ht hh
theorem Own.grown {w w' : World} {B n c : Nat} {A : Option Addr} {l : List UInt8} (h : Own w B A n c l) {row : Option Nat} (hg : w.grownBy w' row) (hne : (Value.slice A n c).ownBlock = none ∨ (Value.slice A n c).ownBlock ≠ row) : Own w' B A n c l := World.ownsRow.kept h hg hne
theorem nums_append (l r : List UInt8) : nums (l ++ r) = nums l ++ nums r := by simp [nums]
theorem own_nil (w : World) (B : Nat) : Own w B none 0 0 [] := ⟨rfl, .inl ⟨rfl, rfl⟩⟩
theorem Own.src {w : World} {B g n c : Nat} {A : Option Addr} {l : List UInt8} (h : Own w B A n c l) (hg : g < B) : Src w g A n c l := ⟨h.byt, fun h0 b o s e => by
  obtain ⟨g', e', hge, _⟩ := h.block h0
  rw [e'] at e
  injection e with e
  injection e with e
  omega⟩
/-- The hash in block g holds the bytes l, which lie in a row of their own. -/
structure PRel (w wr : World) (g : Nat) (A : Option Addr) (n c : Nat) (l : List UInt8) : Prop where
  msg : MsgAt wr g 71 made (absorbs msg0 (nums l))
  own : Own wr w.heap.size A n c l
  here : Below w.heap.size w wr
theorem PRel.below {w wr w' : World} {g : Nat} {A : Option Addr} {n c : Nat} {l : List UInt8} (h : PRel w wr g A n c l) (hb : Below wr.heap.size wr w') : PRel w w' g A n c l := ⟨h.msg.here hb, h.own.below hb, Below.onR h.here hb⟩
theorem ofN_length (l : List UInt8) : (ofN l).length = 32 := by rw [ofN, digestN, dgN_length]
theorem sum_is (w : World) (hp : Primes w) (g : Nat) (l : List UInt8) (Dg : List Nat) (h : MsgAt w g 71 made (absorbs msg0 (nums l))) (hn : l.length ≤ 1099511627776) (hD : ofN l = Dg) :
    Calls Tryd.prog 25 #[.pointer (some ⟨g, 0, none⟩)] w fun e w' => e = .returned (.agg (u8s Dg)) ∧ Below w.heap.size w w' := by
  subst hD
  exact sum_any w hp g _ h (by rw [absorbs_n, nums_length]; show 0 + _ ≤ _; omega)
theorem of_is (w : World) (hp : Primes w) (n c : Nat) (A : Option Addr) (l : List UInt8) (Dg : List Nat) (hb : Byt w w.heap.size A n c l) (hn : n ≤ 1099511627776) (hD : ofN l = Dg) :
    Calls Tryd.prog 14 #[.slice A n c] w fun e w' => e = .returned (.agg (u8s Dg)) ∧ Below w.heap.size w w' := by
  subst hD
  exact of_any w hp _ n c A l hb (Nat.le_refl _) hn
def mAt (N k : Nat) : Nat := 8 * N / 2 ^ (64 - 8 * k)
theorem mAt_zero (N : Nat) (h : N ≤ 3000) : mAt N 0 = 0 := by
  unfold mAt
  exact Nat.div_eq_of_lt (by omega)
theorem mAt_end (N : Nat) : mAt N 8 = 8 * N := by simp [mAt]
theorem mAt_succ (N k : Nat) (h : k < 8) : mAt N k * 256 + 8 * N / 2 ^ (56 - 8 * k) % 256 = mAt N (k + 1) := by
  unfold mAt
  obtain ⟨s, hs⟩ : ∃ s, 56 - 8 * k = s := ⟨_, rfl⟩
  rw [hs, show 64 - 8 * k = s + 8 by omega, show 64 - 8 * (k + 1) = s by omega, Nat.pow_add, ← Nat.div_div_eq_div_mul]
  generalize 8 * N / 2 ^ s = q
  omega
theorem padGo_first (N : Nat) : ∀ m, nth (padGo N m) 0 = 128
  | 0 => rfl
  | m + 1 => by rw [padGo, nth_append_left _ _ _ (by rw [padGo_length]; omega), padGo_first N m]
theorem padU_first (N : Nat) : nth (padU N) 0 = 128 := padGo_first N 8
theorem padGo_at (N k : Nat) : ∀ m, k < m → m ≤ 8 → nth (padGo N m) (1 + zerosOf N + k) = ((8 * N / 2 ^ (56 - 8 * k) % 256 : Nat) : Int)
  | 0, h, _ => absurd h (by omega)
  | m + 1, h, h8 => by
    by_cases e : k = m
    · subst e
      have := nth_append_right (padGo N k) [UInt8.ofNat (8 * N / 2 ^ (56 - 8 * k) % 256)] 0
      rw [Nat.add_zero, padGo_length] at this
      rw [padGo, this]
      show ((UInt8.ofNat (8 * N / 2 ^ (56 - 8 * k) % 256)).toNat : Int) = _
      rw [UInt8.toNat_ofNat', show 8 * N / 2 ^ (56 - 8 * k) % 256 % 2 ^ 8 = 8 * N / 2 ^ (56 - 8 * k) % 256 from Nat.mod_eq_of_lt (Nat.mod_lt _ (by omega))]
    · rw [padGo, nth_append_left _ _ _ (by rw [padGo_length]; omega), padGo_at N k m (by omega) (by omega)]
theorem padU_at (N k : Nat) (h : k < 8) : nth (padU N) (1 + zerosOf N + k) = ((8 * N / 2 ^ (56 - 8 * k) % 256 : Nat) : Int) := padGo_at N k 8 h (Nat.le_refl _)

set_option maxRecDepth 100000 in
set_option maxHeartbeats 20000000 in
theorem parts_any (w : World) (hp : Primes w) (n c : Nat) (A : Option Addr) (d : List Nat) (ha : Parts w A n c) (hd : d.length = 32) (hdb : Bytes d) :
    Calls Tryd.prog 6 #[.slice A n c, .agg (u8s d)] w (LivesPost w) := by
  have hle := ha.le
  have hcap := ha.cap
  unfold maxLen at hcap
  obtain ⟨b, o, fA, fn, fc, fl, hAb, hrows⟩ : ∃ (b o : Nat) (fA : Nat → Option Addr) (fn fc : Nat → Nat) (fl : Nat → List UInt8), (0 < n → A = some ⟨b, o, none⟩ ∧ b < w.heap.size) ∧
      ∀ i, i < n → w.cell? ⟨b, o + i, none⟩ = some (.slice (fA i) (fn i) (fc i)) ∧ Byt w w.heap.size (fA i) (fn i) (fc i) (fl i) := by
    by_cases h0 : 0 < n
    · obtain ⟨b, o, hA, hb, hall⟩ := ha.lies h0
      have h2 : ∀ i, ∃ y : Option Addr × Nat × Nat × List UInt8, i < n → w.cell? ⟨b, o + i, none⟩ = some (.slice y.1 y.2.1 y.2.2.1) ∧ Byt w w.heap.size y.1 y.2.1 y.2.2.1 y.2.2.2 := fun i => by
        by_cases hi : i < n
        · obtain ⟨Ai, ni, ci, li, h1, h2⟩ := hall i hi
          exact ⟨(Ai, ni, ci, li), fun _ => ⟨h1, h2⟩⟩
        · exact ⟨(none, 0, 0, []), fun h => absurd h hi⟩
      obtain ⟨f, hf⟩ := Classical.skolem.1 h2
      exact ⟨b, o, fun i => (f i).1, fun i => (f i).2.1, fun i => (f i).2.2.1, fun i => (f i).2.2.2, fun _ => ⟨hA, hb⟩, hf⟩
    · exact ⟨0, 0, fun _ => none, fun _ => 0, fun _ => 0, fun _ => [], fun h => absurd h h0, fun i hi => absurd hi (by omega)⟩
  have HAb := Lib.hid hAb
  have Hrows := Lib.hid hrows
  have Hp := Lib.hid hp
  have Hd := Lib.hid hd
  have Hdb := Lib.hid hdb
  have hal : Below w.heap.size w (w.alloc (.cells (u8s d) 23)) := (Below.refl _ _).alloc (Nat.le_refl _) _
  have hdx := BlkIs.new w 23 (u8s d)
  have Hl := Lib.hid (lives_any _ (hp.here hal))
  have Hal := Lib.hid hal
  have Hdx := Lib.hid hdx
  clear ha hAb hrows hp hd hdb hal hdx
  go_enter Tryd.func6, Tryd.ntmps6
  go_wp2_with fail
  refine Hl.out.mono ?_
  rintro e w1 ⟨rfl, hb1⟩
  have B1 := Lib.hid (Below.onR Hal.out hb1)
  have D1 := Lib.hid (Hdx.out.here hb1)
  clear hb1 Hl Hal Hdx
  go_wp2
  go_loopw [5, 6] (fun y x wr => ∃ i : Nat, y = .int .i64 (sumTo fn i : Nat) ∧ x = .int .i64 i ∧ i ≤ n ∧ sumTo fn i ≤ 6001 ∧ w1 = wr) (fun _ x _ => n - (intOf x).toNat)
  case atStart => exact ⟨0, rfl, rfl, by omega, Nat.zero_le _, rfl⟩
  case round =>
    obtain ⟨i, rfl, rfl, hi, hS, rfl⟩ := hrel
    have hstep : Hid (sumTo fn (i + 1) = sumTo fn i + min (fn i) 3001) := rfl
    obtain ⟨S, hSe⟩ : ∃ S, sumTo fn i = S := ⟨_, rfl⟩
    have HSe := Lib.hid hSe
    rw [hSe] at hS ⊢
    clear hSe
    by_cases hcont : i < n ∧ i ≤ 200 ∧ S ≤ 3000
    · obtain ⟨hlt, h200, h3000⟩ := hcont
      obtain ⟨hA, hbl⟩ := HAb.out (by omega)
      have hc := (Hrows.out i hlt).1
      have hcr := (B1.out.cell (p := ⟨b, o + i, none⟩) hbl).trans hc
      have em : min (fn i : Int) 3001 = ((min (fn i) 3001 : Nat) : Int) := by omega
      have hcp := Nat.le_trans (Hrows.out i hlt).2.le (Hrows.out i hlt).2.cap
      unfold maxLen at hcp
      have d1 : decide ((i : Int) < n) = true := by simp; omega
      have d2 : decide ((i : Int) ≤ 200) = true := by simp; omega
      have d3 : decide ((S : Int) ≤ 3000) = true := by simp; omega
      have hst := hstep.out
      rw [HSe.out] at hst
      have Hst := Lib.hid hst
      have hm : min (fn i) 3001 ≤ 3001 := Nat.min_le_right _ _
      generalize hmn : min (fn i) 3001 = mn at *
      subst hA
      clear hc hst hmn
      go_wp2
      rw [show (if (3001 : Int) < (fn i : Int) then (3001 : Int) else (fn i : Int)) = (mn : Int) by rw [← em]; omega]
      go_roundw
      case rel => exact ⟨i + 1, by rw [Hst.out]; congr 1, by congr 1, by omega, by rw [Hst.out]; omega, trivial⟩
      case measure => simp [intOf]; omega
    · by_cases hlt : i < n
      · have d1 : decide ((i : Int) < n) = true := by simp; omega
        by_cases h200 : i ≤ 200
        · have d2 : decide ((i : Int) ≤ 200) = true := by simp; omega
          have d3 : decide ((S : Int) ≤ 3000) = false := by simp; omega
          have e1 : decide ((3000 : Int) < S) = true := by simp; omega
          go_wp2
          go_ret
          exact ⟨rfl, B1.out⟩
        · have d2 : decide ((i : Int) ≤ 200) = false := by simp; omega
          have e2 : decide ((200 : Int) < n) = true := by simp; omega
          by_cases h3000 : S ≤ 3000
          · have e1 : decide ((3000 : Int) < S) = false := by simp; omega
            go_wp2
            go_ret
            exact ⟨rfl, B1.out⟩
          · have e1 : decide ((3000 : Int) < S) = true := by simp; omega
            go_wp2
            go_ret
            exact ⟨rfl, B1.out⟩
      · obtain rfl : n = i := by omega
        have d1 : decide ((n : Int) < n) = false := by simp
        by_cases h3000 : S ≤ 3000
        · have e1 : decide ((3000 : Int) < S) = false := by simp; omega
          by_cases h200 : n ≤ 200
          · have e2 : decide ((200 : Int) < n) = false := by simp; omega
            go_wp2_with fail
            clear hstep
            have ht0 := sum_tot fn n (by rw [HSe.out]; exact h3000)
            have ht1 : ∀ j, j < n → fn j ≤ 3000 ∧ totTo fn j + fn j ≤ 3000 := fun j hj => by
              have a1 := sum_le fn (j + 1) n (by omega)
              rw [HSe.out] at a1
              have a2 := sum_tot fn (j + 1) (by omega)
              rw [sumTo] at a1 a2
              rw [totTo] at a2
              omega
            have ht2 : totTo fn n ≤ 3000 := by rw [← ht0, HSe.out]; exact h3000
            have HT1 := Lib.hid ht1
            have HT2 := Lib.hid ht2
            clear ht0 ht1 ht2 HSe
            refine (new_any w1 (Hp.out.here B1.out)).mono ?_
            rintro e w2 ⟨g, rfl, hm2, hg2, hb2⟩
            have hg0 : g ≠ 0 := by
              have := (Hp.out.here B1.out).pos
              omega
            have Hg0 := Lib.hid hg0
            have Hg2 := Lib.hid hg2
            have hst : PRel w1 w2 g none 0 0 [] := ⟨hm2, own_nil _ _, hb2⟩
            have Hst := Lib.hid hst
            clear hm2 hg2 hb2 hg0 hst hi h3000 h200
            go_wp2
            go_loopw [8, 9] (fun y x W => ∃ (i : Nat) (A' : Option Addr) (c' : Nat) (l : List UInt8), y = .slice A' (totTo fn i) c' ∧ x = .int .i64 i ∧ i ≤ n ∧ PRel w1 W g A' (totTo fn i) c' l) (fun _ x _ => n - (intOf x).toNat)
            case atStart => exact ⟨0, _, _, _, rfl, rfl, Nat.zero_le _, Hst.out⟩
            case round =>
              obtain ⟨i, A', c', l, rfl, rfl, hi, hrel⟩ := hrel
              clear Hst
              have Hrel := Lib.hid hrel
              clear hrel
              by_cases hlt : i < n
              · obtain ⟨hA, hbl⟩ := HAb.out (by omega)
                have hc := (Hrows.out i hlt).1
                have hcr := ((Below.onR B1.out Hrel.out.here).cell (p := ⟨b, o + i, none⟩) hbl).trans hc
                have hcp := Nat.le_trans (Hrows.out i hlt).2.le (Hrows.out i hlt).2.cap
                unfold maxLen at hcp
                have d4 : decide ((i : Int) < n) = true := by simp; omega
                subst hA
                clear hc
                go_wp2_with fail
                refine (own_any wr w.heap.size (fn i) (fc i) (fA i) (fl i) ((Hrows.out i hlt).2.same (Below.onR B1.out Hrel.out.here)) (Below.onR B1.out Hrel.out.here).size (by have := (HT1.out i hlt).1; omega)).mono ?_
                rintro e w3 ⟨A3, c3, rfl, ho3, -, hb3⟩
                have hsrc := ho3.src (Hrel.out.msg.blk.lt)
                have hb3' := Below.onR B1.out (Below.onR Hrel.out.here hb3)
                have hm3 := Hrel.out.msg.here hb3
                have ho3' := Hrel.out.own.below hb3
                have hh3 := Below.onR Hrel.out.here hb3
                have Hsrc := Lib.hid hsrc
                have Hm3 := Lib.hid hm3
                have Ho3 := Lib.hid ho3'
                have Hh3 := Lib.hid hh3
                have Hb3 := Lib.hid hb3'
                clear hsrc hm3 ho3' hh3 hb3' ho3 hb3 Hrel
                go_wp2_with fail
                refine (write_any w3 (Hp.out.here Hb3.out) g _ Hm3.out Hg0.out (fn i) c3 A3 (fl i) Hsrc.out (by
                  rw [absorbs_n, nums_length, Ho3.out.len]
                  have := (HT1.out i hlt).2
                  show 0 + _ + _ ≤ _
                  omega)).mono ?_
                rintro e w4 ⟨rfl, hm4, hg4⟩
                have hh4 : Below w1.heap.size w1 w4 := Hh3.out.grown hg4 Hh3.out.size (fun k hk => by injection hk with hk; subst hk; exact Hg2.out)
                have hb4 := Below.onR B1.out hh4
                have ho4 := Ho3.out.grown hg4 (.inr (Hm3.out.blk.own_ne (by decide) Ho3.out))
                have hcr4 := (hb4.cell (p := ⟨b, o + i, none⟩) hbl).trans (Hrows.out i hlt).1
                rw [← absorbs_append, ← nums_append] at hm4
                have Hm4 := Lib.hid hm4
                have Ho4 := Lib.hid ho4
                have Hh4 := Lib.hid hh4
                have Hb4 := Lib.hid hb4
                have hbd := (HT1.out i hlt).2
                have Hbd := Lib.hid hbd
                have hne := hm4.blk.own_ne (by decide) ho4
                have Hne := Lib.hid hne
                clear hm4 ho4 hh4 hb4 hg4 Hm3 Ho3 Hh3 Hb3 Hsrc hbd hne hcr
                go_upto_region 18 with (at_builtin
                                        refine wpList_byte_append rfl (.tmp 61) (.tmp 65) rfl w1.heap.size A' (totTo fn i) c' l rfl Ho4.out w.heap.size _ (fn i) (fc i) (fl i) rfl ((Hrows.out i hlt).2.same Hb4.out) (by have := Hbd.out; omega) Hh4.out.size ?_
                                        intro A5 c5 w5 ho5 hg5 ha5
                                        have Ho5 := Lib.hid ho5
                                        have Hh5 := Lib.hid (Hh4.out.grown hg5 Hh4.out.size fun k hk => (World.ownsRow.lt Ho4.out k hk).1)
                                        have Hm5 := Lib.hid (MsgAt.mk (Hm4.out.blk.grown hg5 (Ne.symm Hne.out)) Hm4.out.hs Hm4.out.hr Hm4.out.sw Hm4.out.rb)
                                        clear ho5 hg5 ha5)
                have hst5 : PRel w1 w5 g A5 (totTo fn (i + 1)) c5 (l ++ fl i) := ⟨Hm5.out, Ho5.out, Hh5.out⟩
                have Hst5 := Lib.hid hst5
                rw [show totTo fn i + fn i = totTo fn (i + 1) from rfl]
                have hbd : totTo fn (i + 1) ≤ 3000 := Hbd.out
                clear Hm5 Ho5 Hh5 hst5 Hbd Hm4 Ho4 Hh4 Hb4 Hne
                generalize hT : totTo fn (i + 1) = T at *
                have HT := Lib.hid hT
                clear hT hcr4
                by_cases h8 : (i : Int) % 8 = 0
                · go_wp2_with fail
                  obtain ⟨Dg, hDg⟩ : ∃ Dg, ofN (l ++ fl i) = Dg := ⟨_, rfl⟩
                  have hD32 := hDg ▸ ofN_length (l ++ fl i)
                  have heq := fun W => run_equal_digest W Dg hD32
                  have HDg := Lib.hid hDg
                  have hlen := Hst5.out.own.len
                  clear hDg hD32
                  refine (sum_is w5 (Hp.out.here (Below.onR B1.out Hst5.out.here)) g _ Dg Hst5.out.msg (by omega) HDg.out).mono ?_
                  rintro e w6 ⟨rfl, hb6⟩
                  have Hst6 := Lib.hid (Hst5.out.below hb6)
                  clear hb6 Hst5
                  go_wp2_with fail
                  refine (own_any w6 w6.heap.size T c5 A5 (l ++ fl i) Hst6.out.own.byt (Nat.le_refl _) (by omega)).mono ?_
                  rintro e w7 ⟨A7, c7, rfl, ho7, -, hb7⟩
                  have Hst7 := Lib.hid (Hst6.out.below hb7)
                  have Ho7 := Lib.hid ho7
                  clear hb7 Hst6 ho7
                  go_wp2_with fail
                  refine (of_is w7 (Hp.out.here (Below.onR B1.out Hst7.out.here)) T c7 A7 _ Dg Ho7.out.byt (by omega) HDg.out).mono ?_
                  rintro e w8 ⟨rfl, hb8⟩
                  have Hst8 := Lib.hid (Hst7.out.below hb8)
                  clear hb8 Hst7 Ho7 hlen
                  go_wp2
                  go_roundw
                  case rel => exact ⟨i + 1, A5, c5, l ++ fl i, by rw [HT.out], by congr 1, by omega, by rw [HT.out]; exact Hst8.out⟩
                  case measure => simp [intOf]; omega
                · have h8' : ((i : Int) % 8 == 0) = false := by simpa using h8
                  go_wp2
                  go_roundw
                  case rel => exact ⟨i + 1, A5, c5, l ++ fl i, by rw [HT.out], by congr 1, by omega, by rw [HT.out]; exact Hst5.out⟩
                  case measure => simp [intOf]; omega
              · obtain rfl : n = i := by omega
                have d4 : decide ((n : Int) < n) = false := by simp
                go_wp2_with fail
                have hN := HT2.out
                generalize totTo fn n = N at *
                clear HT1 HT2 d1 d4 hi hlt HAb Hrows hle hcap
                have hlen := Hrel.out.own.len
                obtain ⟨Dg, hDg⟩ : ∃ Dg, ofN l = Dg := ⟨_, rfl⟩
                have hD32 := hDg ▸ ofN_length l
                have heq := fun W => run_equal_digest W Dg hD32
                have HDg := Lib.hid hDg
                clear hDg hD32
                refine (pad_any wr N (by omega)).mono ?_
                rintro e wp ⟨Ap, cp, rfl, hop, hbp⟩
                have Hst := Lib.hid (Hrel.out.below hbp)
                have Hb := Lib.hid (Below.onR B1.out Hst.out.here)
                obtain ⟨gp, rfl, -, -⟩ := hop.block (by omega)
                have hcell : ∀ j, j < 1 + zerosOf N + 8 → wp.cell? ⟨gp, j, none⟩ = some (.int .u8 (nth (padU N) j)) := by
                  obtain ⟨b', o', e', _, hall⟩ := hop.byt.lies (by omega)
                  injection e' with e'
                  injection e' with e1 e2 e3
                  subst e1 e2
                  intro j hj
                  have := hall j hj
                  rwa [Nat.zero_add] at this
                have h128 : nth (padU N) 0 = 128 := padU_first N
                have hmod : ((N : Int) + ((1 + zerosOf N + 8 : Nat) : Int)) % 64 = 0 := by
                  unfold zerosOf
                  omega
                have hnth : ∀ k, k < 8 → nth (padU N) (1 + zerosOf N + k) = ((8 * N / 2 ^ (56 - 8 * k) % 256 : Nat) : Int) := padU_at N
                have Hcell := Lib.hid hcell
                have H128 := Lib.hid h128
                have Hmod := Lib.hid hmod
                have Hnth := Lib.hid hnth
                have hz64 : zerosOf N < 64 := Nat.mod_lt _ (by omega)
                clear hcell h128 hmod hnth hop hbp Hrel
                generalize zerosOf N = Z at *
                obtain ⟨P, hP⟩ : ∃ P, 1 + Z + 8 = P := ⟨_, rfl⟩
                rw [hP] at Hcell Hmod ⊢
                have HP := Lib.hid hP
                have hP80 : P ≤ 80 := by omega
                have hP9 : 9 ≤ P := by omega
                clear hP
                go_wp2
                go_loopw [11, 12] (fun y x W => ∃ (k j : Nat), y = .int .i64 (mAt N k : Nat) ∧ x = .int .i64 j ∧ k ≤ 8 ∧ j = 1 + Z + k ∧ wp = W) (fun _ x _ => P - (intOf x).toNat)
                case atStart => exact ⟨0, 1 + Z, by rw [mAt_zero N hN]; rfl, by congr 1; have := HP.out; omega, by omega, rfl, rfl⟩
                case round =>
                  obtain ⟨k, j, rfl, rfl, hk, hj, rfl⟩ := hrel
                  have Hj := Lib.hid hj
                  clear hj
                  obtain ⟨M, hM⟩ : ∃ M, mAt N k = M := ⟨_, rfl⟩
                  have HM := Lib.hid hM
                  have hMle : M ≤ 24000 := by rw [← hM]; exact Nat.le_trans (Nat.div_le_self _ _) (by omega)
                  rw [hM]
                  clear hM
                  by_cases hlt : j < P
                  · have hk8 : k < 8 := by have := HP.out; have := Hj.out; omega
                    have hs := mAt_succ N k hk8
                    have hc := Hcell.out j hlt
                    rw [Hj.out, Hnth.out k hk8, ← Hj.out] at hc
                    have hq : 8 * N / 2 ^ (56 - 8 * k) % 256 < 256 := Nat.mod_lt _ (by omega)
                    rw [HM.out] at hs
                    generalize 8 * N / 2 ^ (56 - 8 * k) % 256 = q at *
                    have Hs := Lib.hid hs
                    clear hs
                    have d4 : decide ((j : Int) < P) = true := by simp; omega
                    have d5 : decide ((j : Int) < 0) = false := by simp
                    go_wp2
                    go_roundw
                    case rel => exact ⟨k + 1, j + 1, by rw [← Hs.out]; congr 1, by congr 1, by omega, by have := Hj.out; omega, trivial⟩
                    case measure => simp [intOf]; omega
                  · have hk8 : k = 8 := by have := HP.out; have := Hj.out; omega
                    have d4 : decide ((j : Int) < P) = false := by simp; omega
                    have hMe : M = 8 * N := by rw [← HM.out, hk8]; exact mAt_end N
                    subst hMe
                    clear HM hk8 Hj
                    have Hsz : Hid ((u8s d).size = 32) := by unfold Hid; rw [u8s_size, Hd.out]
                    have D2 := Lib.hid (D1.out.here Hst.out.here)
                    have heqd := fun W => run_equal_digest W d Hd.out
                    clear D1
                    go_wp2_with (refine wpList_load_row rfl 23 (.tmp 3) rfl w.heap.size rfl 23 (u8s d) (0, 0) _ D2.out Tryd.underlying23 rfl (by rw [info32, Hsz.out]) ?_)
                    refine (text_any wp d Hd.out Hdb.out).mono ?_
                    rintro e w5 ⟨rfl, hb5⟩
                    have B5 := Lib.hid hb5
                    clear hb5
                    go_wp2_with fail
                    refine (parse_text w5 d Hd.out Hdb.out).mono ?_
                    rintro e w6 ⟨rfl, hb6⟩
                    have B6 := Lib.hid (Below.onR B5.out hb6)
                    clear hb6 B5
                    have hnew := BlkIs.new w6 23 (u8s noDigest)
                    have hz32 : (u8s noDigest).size = 32 := by rw [u8s_size, noDigest_length]
                    have Hz32 := Lib.hid hz32
                    have Hnew := Lib.hid hnew
                    have hb7 : Below w6.heap.size w6 ((w6.alloc (.cells (u8s noDigest) 23)).setRow w6.heap.size (u8s d)) :=
                      ((Below.refl _ _).alloc (Nat.le_refl _) _).grown (grown_setRow _ _ _) (by simp) (by intro q hq; injection hq with hq; omega)
                    have B7 := Lib.hid (Below.onR B6.out hb7)
                    have X7 := Lib.hid (heap_setRow_same hnew (u8s d))
                    clear hnew hz32 hb7 B6
                    go_upto_region 29 with (rw [← zerosN]; refine wp_store_blk rfl 23 (.tmp 13) (.tmp 104) rfl w6.heap.size rfl (u8s d) rfl Hnew.out (by rw [info32, Hsz.out]) (by rw [Hz32.out, Hsz.out]) (u8s_one _) ?_)
                    clear Hnew
                    generalize (w6.alloc (.cells (u8s noDigest) 23)).setRow w6.heap.size (u8s d) = w7 at *
                    generalize w6.heap.size = gx at *
                    have D7 := Lib.hid (D2.out.here B7.out)
                    have Hst7 := Lib.hid (Hst.out.below B7.out)
                    have hc0 := Hcell.out 0 (by omega)
                    rw [H128.out] at hc0
                    have hm := Hmod.out
                    have hsize : ((absorbs msg0 (nums l)).n : Int) = N := by
                      rw [absorbs_n, nums_length, hlen]
                      show ((0 + N : Nat) : Int) = N
                      omega
                    go_wp2_with fail
                    refine (size_any w7 g _ Hst7.out.msg).mono ?_
                    rintro e w' ⟨rfl, rfl⟩
                    rw [hsize]
                    clear hsize
                    go_wp2_with fail
                    refine (sum_is w7 (Hp.out.here (Below.onR B1.out Hst7.out.here)) g _ Dg Hst7.out.msg (by omega) HDg.out).mono ?_
                    rintro e w8 ⟨rfl, hb8⟩
                    have Hst8 := Lib.hid (Hst7.out.below hb8)
                    have B8 := Lib.hid (Below.onR B7.out hb8)
                    have D8 := Lib.hid (D7.out.here hb8)
                    have X8 := Lib.hid (X7.out.here hb8)
                    clear hb8 Hst7 B7 D7 X7
                    go_wp2_with fail
                    refine (own_any w8 w8.heap.size N c' A' l Hst8.out.own.byt (Nat.le_refl _) (by omega)).mono ?_
                    rintro e w9 ⟨A9, c9, rfl, ho9, -, hb9⟩
                    have Hst9 := Lib.hid (Hst8.out.below hb9)
                    have Ho9 := Lib.hid ho9
                    have B9 := Lib.hid (Below.onR B8.out hb9)
                    have D9 := Lib.hid (D8.out.here hb9)
                    have X9 := Lib.hid (X8.out.here hb9)
                    clear hb9 Hst8 ho9 B8 D8 X8
                    go_wp2_with fail
                    refine (of_is w9 (Hp.out.here (Below.onR B1.out Hst9.out.here)) N c9 A9 _ Dg Ho9.out.byt (by omega) HDg.out).mono ?_
                    rintro e w10 ⟨rfl, hb10⟩
                    have Hst10 := Lib.hid (Hst9.out.below hb10)
                    have B10 := Lib.hid (Below.onR B9.out hb10)
                    have D10 := Lib.hid (D9.out.here hb10)
                    have X10 := Lib.hid (X9.out.here hb10)
                    clear hb10 Hst9 Ho9 B9 D9 X9
                    go_wp2_with fail
                    refine (sum_is w10 (Hp.out.here (Below.onR B1.out Hst10.out.here)) g _ Dg Hst10.out.msg (by omega) HDg.out).mono ?_
                    rintro e w11 ⟨rfl, hb11⟩
                    have Hst11 := Lib.hid (Hst10.out.below hb11)
                    have B11 := Lib.hid (Below.onR B10.out hb11)
                    have D11 := Lib.hid (D10.out.here hb11)
                    have X11 := Lib.hid (X10.out.here hb11)
                    clear hb11 Hst10 B10 D10 X10
                    go_wp2_with fail
                    refine (sum_is w11 (Hp.out.here (Below.onR B1.out Hst11.out.here)) g _ Dg Hst11.out.msg (by omega) HDg.out).mono ?_
                    rintro e w12 ⟨rfl, hb12⟩
                    have Hst12 := Lib.hid (Hst11.out.below hb12)
                    have B12 := Lib.hid (Below.onR B11.out hb12)
                    have D12 := Lib.hid (D11.out.here hb12)
                    have X12 := Lib.hid (X11.out.here hb12)
                    clear hb12 Hst11 B11 D11 X11 hlen
                    have hc1 := (B12.out.cell (p := ⟨gp, 0, none⟩) (World.block_lt_of_cell? _ _ hc0)).trans hc0
                    have hP0 : (0 : Int) < P := by omega
                    go_wp2_with (first
                      | (refine BigFrame.wpList_want rfl fun K hK => wp_load_row 23 (.tmp 13) rfl gx rfl 23 (u8s d) (0, 0) _ X12.out Tryd.underlying23 rfl (by rw [info32, Hsz.out]) (hK _ _ ?_); clear hK K)
                      | (refine BigFrame.wpList_want rfl fun K hK => wp_load_row 23 (.tmp 3) rfl w.heap.size rfl 23 (u8s d) (0, 0) _ D12.out Tryd.underlying23 rfl (by rw [info32, Hsz.out]) (hK _ _ ?_); clear hK K))
                    go_ret
                    exact ⟨rfl, Below.onR B1.out Hst12.out.here⟩
          · have e2 : decide ((200 : Int) < n) = true := by simp; omega
            go_wp2
            go_ret
            exact ⟨rfl, B1.out⟩
        · have e1 : decide ((3000 : Int) < S) = true := by simp; omega
          go_wp2
          go_ret
          exact ⟨rfl, B1.out⟩
end Go.Proofs.YtpgjnmakpghamaaDoor
