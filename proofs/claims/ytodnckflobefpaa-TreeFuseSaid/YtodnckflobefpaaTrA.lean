/- Package tree: what a call asks first: whether its paths are paths, whether the tree is one that New returned, and whether it is on. -/
import Derived.Test.YtodnckflobefpaaTrPath
namespace Go.Proofs.Ytodnckflobefpaa
open Go.RowKit Go.Maps
set_option linter.unusedVariables false

theorem isNoPath_any (w : World) (l : Str) :
    Calls Try.prog 51 #[.string (S l)] w fun e w' => e = .returned (.bool (!okP l)) ∧ Nx w w' := by
  have X := Lib.hid (fun W => temped_any W l)
  have Y := Lib.hid (fun W => check_any W l)
  have hz := @chk_zero l
  unfold okP
  generalize S (tempedR l).1 = u at *
  generalize (tempedR l).2 = t at *
  generalize S l = s at *
  cases t with
  | true =>
    clear hz Y
    go_enter Try.func51, Try.ntmps51
    go_wp2_with fail
    refine (X.out w).mono ?_
    rintro e w1 ⟨rfl, hb⟩
    have H1 := Lib.hid hb
    clear hb X
    go_wp2
    go_ret
    exact ⟨rfl, H1.out⟩
  | false =>
    cases hp : isPath l with
    | true =>
      rw [hz.2 hp] at Y
      clear hz hp
      go_enter Try.func51, Try.ntmps51
      go_wp2_with fail
      refine (X.out w).mono ?_
      rintro e w1 ⟨rfl, hb⟩
      have H1 := Lib.hid hb
      clear hb X
      go_wp2_with fail
      refine (Y.out w1).mono ?_
      rintro e w2 ⟨rfl, hb⟩
      have H2 := Lib.hid (Nx.trans H1.out hb)
      clear hb Y H1
      go_wp2
      go_ret
      exact ⟨rfl, H2.out⟩
    | false =>
      have hb := chk_bne hp
      clear hz hp
      generalize chk l = v at *
      go_enter Try.func51, Try.ntmps51
      go_wp2_with fail
      refine (X.out w).mono ?_
      rintro e w1 ⟨rfl, hb⟩
      have H1 := Lib.hid hb
      clear hb X
      go_wp2_with fail
      refine (Y.out w1).mono ?_
      rintro e w2 ⟨rfl, hb⟩
      have H2 := Lib.hid (Nx.trans H1.out hb)
      clear hb Y H1
      go_wp2
      go_ret
      exact ⟨rfl, H2.out⟩

/-! ### A slice of strings -/
structure Strs (w : World) (A : Option Addr) (n : Nat) (ps : List Str) : Prop where
  len : ps.length = n
  le : n ≤ 1000000
  at_ : 0 < n → ∃ b, A = some ⟨b, 0, none⟩ ∧ b < w.heap.size ∧ ∀ j, j < n → w.cell? ⟨b, j, none⟩ = some (.string (S (ps.getD j [])))
theorem Strs.nx {w w' : World} {A : Option Addr} {n : Nat} {ps : List Str} (h : Strs w A n ps) (k : Nx w w') : Strs w' A n ps := ⟨h.len, h.le, fun hn => by
  obtain ⟨b, e, hb, hc⟩ := h.at_ hn
  exact ⟨b, e, Nat.lt_of_lt_of_le hb k.size, fun j hj => (k.cell hb).trans (hc j hj)⟩⟩
theorem all_take_succ (ps : List Str) (i : Nat) (hi : i < ps.length) (h : (ps.take i).all okP = true) (h2 : okP (ps.getD i []) = true) : (ps.take (i + 1)).all okP = true := by
  rw [List.take_add_one, List.all_append, h]
  simp only [List.getD, List.getElem?_eq_getElem hi, Option.getD_some] at h2
  simp [List.getElem?_eq_getElem hi, h2]
theorem all_not (ps : List Str) (i : Nat) (hi : i < ps.length) (h2 : okP (ps.getD i []) = false) : ps.all okP = false := by
  simp only [List.getD, List.getElem?_eq_getElem hi, Option.getD_some] at h2
  rw [← Bool.not_eq_true, List.all_eq_true]
  intro h
  rw [h _ (List.getElem_mem hi)] at h2
  cases h2

theorem indexFunc_any (w : World) (A : Option Addr) (n c : Nat) (ps : List Str) (h : Strs w A n ps) :
    Calls Try.prog 61 #[.slice A n c, .func (.func 51) #[] #[]] w fun e w' => ∃ k : Int, e = .returned (.int .i64 k) ∧ (0 ≤ k ↔ ps.all okP = false) ∧ -1 ≤ k ∧ Nx w w' := by
  have hl := h.len
  have hle := h.le
  have H := Lib.hid h
  go_enter Try.func61, Try.ntmps61
  have HL := Lib.hid hl
  clear h hl
  go_wp2
  go_loopw [8] (fun x wr => ∃ i : Nat, x = .int .i64 i ∧ i ≤ n ∧ Nx w wr ∧ Hid ((ps.take i).all okP = true)) (fun x _ => n - (intOf x).toNat)
  case atStart => exact ⟨0, rfl, Nat.zero_le _, Nx.refl _, rfl⟩
  case round =>
    obtain ⟨i, rfl, hi, hnx, hall⟩ := hrel
    have Hnx := Lib.hid hnx
    by_cases hlt : i < n
    · have H2 := H.out.nx hnx
      obtain ⟨b, rfl, hb, hc⟩ := H2.at_ (by omega)
      have hcell := hc i hlt
      have X := Lib.hid (fun W => isNoPath_any W (ps.getD i []))
      have Hgood := Lib.hid (all_take_succ ps i (by rw [HL.out]; exact hlt) hall.out)
      have Hbad := Lib.hid (all_not ps i (by rw [HL.out]; exact hlt))
      clear hnx H2 hc hall
      generalize hok : okP (ps.getD i []) = ok at *
      generalize S (ps.getD i []) = s at *
      go_wp2_with fail
      refine (X.out wr).mono ?_
      rintro e w2 ⟨rfl, hb2⟩
      have H3 := Lib.hid (Nx.trans Hnx.out hb2)
      clear hb2 X Hnx hcell
      cases ok with
      | true =>
        go_wp2
        go_roundw
        case rel => exact ⟨i + 1, by go_num, by omega, H3.out, Hgood.out trivial⟩
        case measure => simp [intOf]; omega
      | false =>
        go_wp2
        go_ret
        exact ⟨(i : Int), rfl, ⟨fun _ => Hbad.out trivial, fun _ => by omega⟩, by omega, H3.out⟩
    · obtain rfl : i = n := by omega
      have hps : ps.all okP = true := by have := hall.out; rwa [List.take_of_length_le (by rw [HL.out]; omega)] at this
      have Hps := Lib.hid hps
      clear hps hall hnx
      go_wp2
      go_ret
      exact ⟨-1, rfl, ⟨fun h => absurd h (by omega), fun h => by rw [Hps.out] at h; cases h⟩, by omega, Hnx.out⟩

theorem containsFunc_any (w : World) (A : Option Addr) (n c : Nat) (ps : List Str) (h : Strs w A n ps) :
    Calls Try.prog 50 #[.slice A n c, .func (.func 51) #[] #[]] w fun e w' => e = .returned (.bool (!ps.all okP)) ∧ Nx w w' := by
  have X := Lib.hid (indexFunc_any w A n c ps h)
  clear h
  go_enter Try.func50, Try.ntmps50
  go_wp2_with fail
  refine X.out.mono ?_
  rintro e w' ⟨k, rfl, hk, hk1, hb⟩
  have H1 := Lib.hid hb
  have HK := Lib.hid hk
  clear hb X hk
  go_wp2
  go_ret
  refine ⟨?_, H1.out⟩
  have : decide (0 ≤ k) = !ps.all okP := by
    cases e : ps.all okP with
    | true => simp only [Bool.not_true, decide_eq_false_iff_not]; intro h; rw [HK.out.1 h] at e; cases e
    | false => simp only [Bool.not_false, decide_eq_true_eq]; exact HK.out.2 e
  rw [this]
  rfl
end Go.Proofs.Ytodnckflobefpaa
