/- Package path: the mark of a conflict copy, written and read. -/
import Derived.Test.YtkffijgmcekboaaDoorPtApi
import Derived.WalkMore
import Derived.Deep.LoopGhost
namespace Go.Proofs.YtkffijgmcekboaaDoor
open Go.RowKit
open Go.Lib (decDigits)
set_option linter.unusedVariables false

theorem dec_len3 {n : Nat} (h : n < 1000) : (decDigits n).length ≤ 3 := by
  rw [decDigits]
  split
  · simp
  · rw [decDigits]
    split
    · simp
    · rw [decDigits]
      split
      · simp
      · omega
theorem mark_len {d n : Nat} (hd : d < 1000) (hn : n < 1000) : (mark d n).length ≤ 9 := by
  have h1 := dec_len3 hd
  have h2 := dec_len3 hn
  unfold mark
  simp only [List.length_cons, List.length_append]
  omega

theorem itoa_any (w : World) (n : Nat) (hn : n < 1000) (ht : Tab w) :
    Calls Tryd.prog 52 #[.int .i64 (n : Int)] w fun e w' => e = .returned (.string (S (decDigits n))) ∧ Nx w w' := by
  refine (Tryd.strconv_Itoa (n : Int) (by omega) (by omega) w ht).mono ?_
  rintro e w' ⟨h1, k, os, h2⟩
  refine ⟨h1.trans ?_, h2 ▸ Nx.grow w k os⟩
  unfold Lib.itoa
  rw [if_neg (by omega), Int.toNat_natCast]
  rfl
theorem mark_any (w : World) (d n : Nat) (hd : d < 1000) (hn : n < 1000) (ht : Tab w) :
    Calls Tryd.prog 40 #[.int .i64 (d : Int), .int .i64 (n : Int)] w fun e w' => e = .returned (.string (S (mark d n))) ∧ Nx w w' := by
  have X := Lib.hid (fun W h => itoa_any W d hd h)
  have Y := Lib.hid (fun W h => itoa_any W n hn h)
  have T := Lib.hid ht
  have hx : (⟨#[46, 99]⟩ : ByteArray) ++ S (decDigits d) ++ ⟨#[45]⟩ ++ S (decDigits n) = S (mark d n) := by
    have h1 : (⟨#[46, 99]⟩ : ByteArray) = S [46, 99] := rfl
    have h2 : (⟨#[45]⟩ : ByteArray) = S [45] := rfl
    rw [h1, h2, S_append, S_append, S_append]
    unfold mark
    simp
  have Hx := Lib.hid hx
  have z1 := dec_len3 hd
  have z2 := dec_len3 hn
  rw [← S_size] at z1 z2
  clear hx ht
  generalize S (mark d n) = r at *
  generalize S (decDigits d) = a at *
  generalize S (decDigits n) = b at *
  go_enter Tryd.func40, Tryd.ntmps40
  go_wp2_with fail
  refine (X.out w T.out).mono ?_
  rintro e w1 ⟨rfl, hb1⟩
  have H1 := Lib.hid hb1
  clear hb1 X
  go_wp2_with fail
  refine (Y.out w1 (T.out.next H1.out)).mono ?_
  rintro e w2 ⟨rfl, hb1⟩
  have H2 := Lib.hid (Nx.trans H1.out hb1)
  clear hb1 Y H1
  go_wp2
  go_ret
  rw [← Hx.out]
  exact ⟨rfl, H2.out⟩

/-! ### Numbers, read -/
/-- What a number between least and most is read as. -/
def NumIs (l : List UInt8) (least most : Nat) (r : Int) (t : Bool) : Prop :=
  (∃ n : Nat, least ≤ n ∧ n ≤ most ∧ l = decDigits n ∧ r = (n : Int) ∧ t = true) ∨ ((∀ n : Nat, least ≤ n → n ≤ most → l ≠ decDigits n) ∧ r = 0 ∧ t = false)
theorem dec_step {n d : Nat} (hn : 1 ≤ n) (hd : d ≤ 9) : decDigits (10 * n + d) = decDigits n ++ [UInt8.ofNat (48 + d)] := by
  rw [decDigits, dif_neg (by omega), show (10 * n + d) / 10 = n by omega, show (10 * n + d) % 10 = d by omega]
theorem dec_one {d : Nat} (hd : d ≤ 9) : decDigits d = [UInt8.ofNat (48 + d)] := by
  rw [decDigits, dif_pos (by omega)]
theorem dec_head (n : Nat) (hn : 1 ≤ n) : ∃ c r, decDigits n = c :: r ∧ c.toNat ≠ 48 := by
  induction n using Nat.strongRecOn with
  | _ n ih =>
    rw [decDigits]
    split
    · rename_i h
      refine ⟨_, [], rfl, ?_⟩
      rw [UInt8.toNat_ofNat']
      omega
    · obtain ⟨c, r, h1, h2⟩ := ih (n / 10) (by omega) (by omega)
      rw [h1]
      exact ⟨c, _, rfl, h2⟩
theorem dval_take_le (l : List UInt8) (i : Nat) : dval (l.take i) ≤ dval l := by
  have key : ∀ (m : List UInt8) (k : Nat), k ≤ m.foldl (fun n c => n * 10 + (c.toNat - 48)) k := by
    intro m
    induction m with
    | nil => exact fun k => Nat.le_refl _
    | cons c m ih => exact fun k => Nat.le_trans (by omega) (ih (k * 10 + (c.toNat - 48)))
  have e : dval l = (l.drop i).foldl (fun n c => n * 10 + (c.toNat - 48)) (dval (l.take i)) := by
    unfold dval
    rw [← List.foldl_append, List.take_append_drop]
  rw [e]
  exact key _ _
/-- The first i bytes have been read as k. -/
def ReadTo (l : List UInt8) (i k : Nat) : Prop := (i = 0 ∧ k = 0) ∨ (1 ≤ i ∧ l.take i = decDigits k)
theorem readTo_next {l : List UInt8} {i k : Nat} (h : ReadTo l i k) (hi : i < l.length) (h1 : 48 ≤ (l.getD i 0).toNat) (h2 : (l.getD i 0).toNat ≤ 57) (h3 : ¬ (0 < i ∧ k = 0)) :
    ReadTo l (i + 1) (10 * k + ((l.getD i 0).toNat - 48)) := by
  have hd : l.take (i + 1) = l.take i ++ [l.getD i 0] := by
    rw [List.take_succ_eq_append_getElem hi]
    simp [List.getD, hi]
  have hc : UInt8.ofNat (48 + ((l.getD i 0).toNat - 48)) = l.getD i 0 := by
    rw [show 48 + ((l.getD i 0).toNat - 48) = (l.getD i 0).toNat by omega, UInt8.ofNat_toNat]
  right
  refine ⟨by omega, ?_⟩
  rw [hd]
  rcases h with ⟨rfl, rfl⟩ | ⟨hp, ht⟩
  · rw [show 10 * 0 + ((l.getD 0 0).toNat - 48) = (l.getD 0 0).toNat - 48 by omega, dec_one (by omega), hc]
    rfl
  · rw [ht, dec_step (by omega) (by omega), hc]
theorem bad_byte {l : List UInt8} {i : Nat} (hi : i < l.length) (h : (l.getD i 0).toNat < 48 ∨ 57 < (l.getD i 0).toNat) (n : Nat) : l ≠ decDigits n := by
  intro e
  have hm : l.getD i 0 ∈ l := by
    simp only [List.getD, List.getElem?_eq_getElem hi, Option.getD_some]
    exact List.getElem_mem hi
  rw [e] at hm
  have := dec_digits n _ hm
  rw [e] at h
  omega
theorem bad_zero {l : List UInt8} {i : Nat} (h : ReadTo l i 0) (hi : 0 < i) (hl : i < l.length) (n : Nat) : l ≠ decDigits n := by
  intro e
  rcases h with ⟨h0, _⟩ | ⟨_, ht⟩
  · omega
  · have h48 : decDigits 0 = [48] := dec_one (by omega)
    rw [h48] at ht
    have hlen : i = 1 := by
      have := congrArg List.length ht
      simp at this
      omega
    subst hlen
    cases l with
    | nil => simp at hl
    | cons c r =>
      simp at ht
      subst ht
      rcases Nat.eq_zero_or_pos n with hn | hn
      · subst hn
        rw [h48] at e
        injection e with _ e
        subst e
        simp at hl
      · obtain ⟨c, r', h1, h2⟩ := dec_head n hn
        rw [h1] at e
        injection e with e1 e2
        subst e1
        exact h2 rfl
theorem bad_most {l : List UInt8} {i k most : Nat} (h : ReadTo l (i + 1) k) (hk : most < k) (n : Nat) (hn : n ≤ most) : l ≠ decDigits n := by
  intro e
  rcases h with ⟨h0, _⟩ | ⟨_, ht⟩
  · omega
  · have h1 := dval_take_le l (i + 1)
    rw [ht, dval_dec] at h1
    rw [e, dval_dec] at h1
    omega
theorem num_unique {l : List UInt8} {least most : Nat} {r r' : Int} {t t' : Bool} (h : NumIs l least most r t) (h' : NumIs l least most r' t') : r = r' ∧ t = t' := by
  rcases h with ⟨n, h1, h2, h3, h4, h5⟩ | ⟨h1, h2, h3⟩
  · rcases h' with ⟨n', g1, g2, g3, g4, g5⟩ | ⟨g1, g2, g3⟩
    · have := dec_inj (h3.symm.trans g3)
      subst this
      exact ⟨h4.trans g4.symm, h5.trans g5.symm⟩
    · exact absurd h3 (g1 n h1 h2)
  · rcases h' with ⟨n', g1, g2, g3, g4, g5⟩ | ⟨g1, g2, g3⟩
    · exact absurd g3 (h1 n' g1 g2)
    · exact ⟨h2.trans g2.symm, h3.trans g3.symm⟩
theorem num_ex (l : List UInt8) (least most : Nat) : ∃ r t, NumIs l least most r t := by
  by_cases h : ∃ n : Nat, least ≤ n ∧ n ≤ most ∧ l = decDigits n
  · obtain ⟨n, h1, h2, h3⟩ := h
    exact ⟨n, true, .inl ⟨n, h1, h2, h3, rfl, rfl⟩⟩
  · exact ⟨0, false, .inr ⟨fun n h1 h2 h3 => h ⟨n, h1, h2, h3⟩, rfl, rfl⟩⟩

set_option maxRecDepth 100000 in
theorem number_any (w : World) (l : List UInt8) (hl : l.length ≤ 1000000000) (least most : Nat) (hlm : least ≤ 1000) (hmost : most ≤ 1000) (r : Int) (t : Bool) (hN : NumIs l least most r t) :
    Calls Tryd.prog 48 #[.string (S l), .int .i64 (least : Int), .int .i64 (most : Int)] w fun e w' => e = .returned (.tuple #[.int .i64 r, .bool t]) ∧ Nx w w' := by
  have HN := Lib.hid hN
  have hsz := S_size l
  obtain ⟨c, w1, hrun, hcell, hc, hnx⟩ := run_bytes_of_text w l (by unfold maxLen; omega)
  have Hcell := Lib.hid hcell
  have Hnx := Lib.hid hnx
  have bad : (∀ n, least ≤ n → n ≤ most → l ≠ decDigits n) → r = 0 ∧ t = false := fun h => num_unique hN (.inr ⟨h, rfl, rfl⟩)
  have Bad := Lib.hid bad
  generalize hs : S l = s at *
  clear hs
  generalize hn : l.length = m at *
  clear hcell hnx hN bad
  go_enter Tryd.func48, Tryd.ntmps48
  go_wp2
  go_step3
  go_wp2
  go_step3
  go_wp2
  have Hn := Lib.hid hn
  clear hn hrun
  go_loopw [6, 8, 15] (fun vn vr vi wr => ∃ i k : Nat, vi = .int .i64 i ∧ vr = .int .i64 i ∧ vn = .int .i64 k ∧ i ≤ m ∧ k ≤ most ∧ wr = w1 ∧ Hid (ReadTo l i k)) (fun _ _ x _ => m - (intOf x).toNat)
  case atStart => exact ⟨0, 0, rfl, rfl, rfl, Nat.zero_le _, Nat.zero_le _, rfl, .inl ⟨rfl, rfl⟩⟩
  case round =>
    obtain ⟨i, k, rfl, rfl, rfl, hi, hk, rfl, hread⟩ := hrel
    by_cases hlt : i < m
    · have hcell := Hcell.out i hlt
      have hil : i < l.length := by rw [Hn.out]; exact hlt
      have e0 : nth l i = (((l.getD i 0).toNat : Nat) : Int) := rfl
      have b1 : (l.getD i 0).toNat < 256 := (l.getD i 0).toNat_lt
      have f1 := Lib.hid (fun h n => bad_byte hil h n)
      have f2 : Hid (0 < i → k = 0 → ∀ n, l ≠ decDigits n) := fun h1 h2 => by subst h2; exact bad_zero hread.out h1 hil
      have f3 := Lib.hid (fun h1 h2 h3 => readTo_next hread.out hil h1 h2 h3)
      rw [e0] at hcell
      clear e0 hread
      generalize (l.getD i 0).toNat = y at *
      have i1 : (i : Int) < (m : Int) := by omega
      have b2 : (k : Int) ≤ 1000 := by omega
      have b3 : (y : Int) ≤ 255 := by omega
      by_cases c1 : (y : Int) < 48
      · have hbad := Bad.out (fun n _ _ => f1.out (.inl (by omega)) n)
        obtain ⟨rfl, rfl⟩ := hbad
        have d1 : decide ((y : Int) < 48) = true := by simpa using c1
        clear f1 f2 f3
        go_wp2
        all_goals go_ret2
        all_goals exact ⟨rfl, Hnx.out⟩
      · have d1 : decide ((y : Int) < 48) = false := by simpa using c1
        by_cases c2 : (57 : Int) < (y : Int)
        · have hbad := Bad.out (fun n _ _ => f1.out (.inr (by omega)) n)
          obtain ⟨rfl, rfl⟩ := hbad
          have d2 : decide ((57 : Int) < (y : Int)) = true := by simpa using c2
          clear f1 f2 f3
          go_wp2
          all_goals go_ret2
          all_goals exact ⟨rfl, Hnx.out⟩
        · have d2 : decide ((57 : Int) < (y : Int)) = false := by simpa using c2
          by_cases c3 : 0 < i ∧ k = 0
          · have hbad := Bad.out (fun n _ _ => f2.out c3.1 c3.2 n)
            obtain ⟨rfl, rfl⟩ := hbad
            obtain ⟨c3, rfl⟩ := c3
            have d3 : (0 : Int) < (i : Int) := by omega
            clear f1 f2 f3
            go_wp2
            all_goals go_ret2
            all_goals exact ⟨rfl, Hnx.out⟩
          · have hnext := f3.out (by omega) (by omega) c3
            have hy : ((10 * k + (y - 48) : Nat) : Int) = 10 * (k : Int) + (y : Int) - 48 := by omega
            generalize 10 * k + (y - 48) = k2 at *
            by_cases c4 : most < k2
            · have hbad := Bad.out (fun n _ hn => bad_most hnext c4 n hn)
              obtain ⟨rfl, rfl⟩ := hbad
              have d4 : (most : Int) < 10 * (k : Int) + (y : Int) - 48 := by omega
              have d3 : ¬ (0 : Int) < (i : Int) ∨ ¬ ((k : Int) = 0) := by omega
              clear f1 f2 f3 hy hnext c3
              rcases Nat.eq_zero_or_pos i with rfl | hp
              · clear d3
                go_wp2
                all_goals go_ret2
                all_goals exact ⟨rfl, Hnx.out⟩
              · have d5 : ((k : Int) == 0) = false := by simp; omega
                have d6 : (0 : Int) < (i : Int) := by omega
                clear d3
                go_wp2
                all_goals go_ret2
                all_goals exact ⟨rfl, Hnx.out⟩
            · have d4 : ¬ (most : Int) < 10 * (k : Int) + (y : Int) - 48 := by omega
              have d3 : ¬ (0 : Int) < (i : Int) ∨ ¬ ((k : Int) = 0) := by omega
              have Hnext := Lib.hid hnext
              have Hy := Lib.hid hy
              clear f1 f2 f3 hy hnext c3
              rcases Nat.eq_zero_or_pos i with rfl | hp
              · clear d3
                go_wp2
                go_roundw
                case rel => exact ⟨0 + 1, k2, by go_num, by go_num, by rw [Hy.out], by omega, by omega, by first | trivial | rfl, Hnext.out⟩
                case measure => simp [intOf]; omega
              · have d5 : ((k : Int) == 0) = false := by simp; omega
                have d6 : (0 : Int) < (i : Int) := by omega
                clear d3
                go_wp2
                go_roundw
                case rel => exact ⟨i + 1, k2, by go_num, by go_num, by rw [Hy.out], by omega, by omega, by first | trivial | rfl, Hnext.out⟩
                case measure => simp [intOf]; omega
    · obtain rfl : i = m := by omega
      have hwhole : i = 0 ∧ k = 0 ∧ l = [] ∨ 1 ≤ i ∧ l = decDigits k := by
        rcases hread.out with ⟨h1, h2⟩ | ⟨h1, h2⟩
        · exact .inl ⟨h1, h2, List.eq_nil_of_length_eq_zero (by rw [Hn.out, h1])⟩
        · right
          refine ⟨h1, ?_⟩
          rwa [List.take_of_length_le (by rw [Hn.out]; omega)] at h2
      clear hread
      rcases hwhole with ⟨rfl, rfl, hnil⟩ | ⟨hp, hd⟩
      · have hbad := Bad.out (fun n _ _ e => dec_ne_nil n (by rw [← e, hnil]))
        obtain ⟨rfl, rfl⟩ := hbad
        go_wp2
        all_goals go_ret2
        all_goals exact ⟨rfl, Hnx.out⟩
      · by_cases c5 : k < least
        · have hbad := Bad.out (fun n h1 h2 e => by
            have := dec_inj (hd.symm.trans e)
            omega)
          obtain ⟨rfl, rfl⟩ := hbad
          have d1 : (k : Int) < (least : Int) := by omega
          have d2 : ((i : Int) == 0) = false := by simp; omega
          have d3 : ¬ ((i : Int) = 0) := by omega
          clear hd
          go_wp2
          all_goals go_ret2
          all_goals exact ⟨rfl, Hnx.out⟩
        · have hgood := num_unique HN.out (.inl ⟨k, by omega, by omega, hd, rfl, rfl⟩)
          obtain ⟨rfl, rfl⟩ := hgood
          have d1 : ¬ (k : Int) < (least : Int) := by omega
          have d2 : ((i : Int) == 0) = false := by simp; omega
          have d3 : ¬ ((i : Int) = 0) := by omega
          clear hd
          go_wp2
          all_goals go_ret2
          all_goals exact ⟨rfl, Hnx.out⟩
end Go.Proofs.YtkffijgmcekboaaDoor
