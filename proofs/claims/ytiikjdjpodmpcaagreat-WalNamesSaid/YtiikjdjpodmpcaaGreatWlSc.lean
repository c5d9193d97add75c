/- The walk of the law WalScans. -/
import Derived.Test.YtiikjdjpodmpcaaGreatWlRef
namespace Go.Proofs.YtiikjdjpodmpcaaGreat
open Go.RowKit Go.Maps
set_option linter.unusedVariables false

theorem StrRow.nx {w w' : World} {B : Nat} {A : Option Addr} {m c : Nat} {ps : List Str} (h : StrRow w B A m c ps) (hn : Nx w w') : StrRow w' B A m c ps := row_chd (M := fun _ => False) h (Chd.of_below hn) (fun _ _ e => e)
set_option maxRecDepth 100000 in
set_option maxHeartbeats 2000000 in
theorem walScans_any (w : World) (A : Option Addr) (n c : Nat) (l : Str) (h : Byt w w.heap.size A n c l) (hf : RowForm A n c) :
    Calls Tryz.prog 4 #[.slice A n c] w fun e w' => e = .returned (.bool true) ∧ Below w.heap.size w w' := by
  have hcap := h.cap
  have hle := h.le
  unfold maxLen at hcap
  have i1 : (n : Int) ≤ 9223372036854775807 := by omega
  have LV := Lib.hid (lives_any w)
  by_cases c1 : 3000 < n
  · clear h hf hcap hle
    go_enter Tryz.func4, Tryz.ntmps4
    go_wp2_with fail
    refine LV.out.mono ?_
    rintro e w1 ⟨rfl, hb⟩
    have H1 := Lib.hid hb
    clear hb LV
    go_wp2
    go_ret
    exact ⟨rfl, H1.out⟩
  · have harg : Arg w A n c l := Arg.of_byt h (Nat.le_refl _)
    have OW : Hid (∀ W, Nx w W → _) := fun W hW => own_any2 W A n c l (harg.nx hW) (by omega)
    have RS : Hid (∀ W, Nx w W → _) := fun W hW => rscan_any W w.heap.size A n c l (h.below hW (Nat.le_refl _)) hW.size hf (by omega)
    have hl := h.len
    have HL := Lib.hid hl
    clear h hf hcap hle harg hl
    go_enter Tryz.func4, Tryz.ntmps4
    go_wp2_with fail
    refine LV.out.mono ?_
    rintro e w1 ⟨rfl, hb⟩
    have H1 := Lib.hid hb
    clear hb LV
    go_wp2_with fail
    refine (OW.out w1 H1.out).mono ?_
    rintro e w2 ⟨j, c2, rfl, ho, hn2⟩
    have SC := Lib.hid (scan_any w2 w2.heap.size (some ⟨j, 0, none⟩) n c2 l ho.byt (Nat.le_refl _) (.inr (.inr ⟨j, 0, rfl⟩)) (by omega))
    have H2 := Lib.hid (H1.out.trans hn2)
    clear ho hn2 OW
    go_wp2_with fail
    refine SC.out.mono ?_
    rintro e w3 ⟨A3, m3, c3, rfl, hr3, hm3, hn3⟩
    have H3 := Lib.hid (H2.out.trans hn3)
    have R3 := Lib.hid hr3
    clear hr3 hn3 SC
    go_wp2_with fail
    refine (RS.out w3 H3.out).mono ?_
    rintro e w4 ⟨A4, m4, c4, rfl, hr4, hm4, hn4⟩
    have H4 := Lib.hid (H3.out.trans hn4)
    have TX := texts_any w4 A3 A4 m3 c3 m4 c4 _ _ ((R3.out.nx hn4).strs (by omega)) (hr4.strs (by omega))
    rw [decide_eq_true rfl] at TX
    have T := Lib.hid TX
    clear hr4 hn4 RS TX R3
    generalize scan l = sc at *
    obtain ⟨rs, wh, ee⟩ := sc
    simp only at *
    go_wp2_with fail
    refine T.out.mono ?_
    rintro e w5 ⟨rfl, m, hm⟩
    have H5 : Hid (Nx w w5) := by rw [hm]; exact H4.out.drewN m
    clear hm T
    go_wp2
    go_ret
    exact ⟨rfl, H5.out⟩
theorem row_form {w : World} {a : Option Addr} {len cap : Nat} {zs : List Int}
    (h : (a = none ∧ len = 0 ∧ cap = 0 ∧ zs = []) ∨ ∃ x, a = some x ∧ len ≤ cap ∧ cap ≤ maxLen ∧ zs.length = cap ∧ (∀ i, i < zs.length → w.cell? (x.add i) = some (.int .u8 (zs.getD i 0))) ∧ ∀ n ∈ zs, (Lit.int .u8 n).wf = true) : RowForm a len cap := by
  rcases h with ⟨rfl, rfl, rfl, rfl⟩ | ⟨x, rfl, hl, hm, hz, hcell, hwf⟩
  · exact .inl ⟨rfl, rfl, rfl⟩
  · by_cases hc : cap = 0
    · exact .inr (.inl ⟨x, rfl, by omega, hc⟩)
    · obtain ⟨b, o, spot⟩ := x
      have h0 := hcell 0 (by omega)
      have hs : spot = none := by simpa [Addr.add] using World.cell?_spot h0
      subst hs
      exact .inr (.inr ⟨b, o, rfl⟩)
end Go.Proofs.YtiikjdjpodmpcaaGreat
