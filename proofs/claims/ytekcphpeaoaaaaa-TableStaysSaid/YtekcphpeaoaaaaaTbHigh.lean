/- Package table: highest. -/
import Derived.Test.YtekcphpeaoaaaaaTbRanks
namespace Go.Proofs.Ytekcphpeaoaaaaa
open Go.RowKit Go.Shelf
set_option linter.unusedVariables false

attribute [local go_sem] Oper.semAt_some

set_option maxRecDepth 100000 in
set_option maxHeartbeats 2000000 in
theorem highest_any (w : World) (b o c : Nat) (p0 : Pr) (rs : List Pr) (hv : RdC w (.slice (some ⟨b, o, none⟩) (p0 :: rs).length c) (p0 :: rs)) (hk : ∀ p ∈ p0 :: rs, p.k.length ≤ 100000) (ht : ∀ p ∈ rs, top p0.k p.k = true) (hn : (p0 :: rs).length ≤ 100000000) :
    Calls Try.prog 35 #[.slice (some ⟨b, o, none⟩) (p0 :: rs).length c] w fun e w' => e = .returned (.bool true) ∧ Nx w w' := by
  obtain ⟨N, hN⟩ : ∃ N, (p0 :: rs).length = N := ⟨_, rfl⟩
  have AT : Hid (∀ V, Nx w V → ∀ i (hi : i < (p0 :: rs).length), V.cell? ⟨b, o + i * 3, none⟩ = some (.string (S (p0 :: rs)[i].k))) := fun V hV i hi => by
    obtain ⟨A', c', e, _, _, e5 | ⟨b', o', e5, hc⟩⟩ := hv.nx hV
    · cases e5
    · simp only [Value.slice.injEq] at e
      obtain ⟨rfl, _, rfl⟩ := e
      simp only [Option.some.injEq, Addr.mk.injEq, and_true] at e5
      obtain ⟨rfl, rfl⟩ := e5
      exact (Rd.cells hc i hi).1
  have HK := Lib.hid hk
  have HT := Lib.hid ht
  have hN1 : 1 ≤ N := by rw [← hN]; simp
  rw [hN] at hn ⊢
  have HN := Lib.hid hN
  have N0 := Lib.hid (Nx.refl w)
  have c0 : ∀ V, Nx w V → V.cell? ⟨b, o, none⟩ = some (.string (S p0.k)) := fun V hV => by
    have := AT.out V hV 0 (by rw [HN.out]; omega)
    rw [Nat.zero_mul, Nat.add_zero] at this
    exact this
  have C0 := Lib.hid c0
  have e5 : (0 : Int) < (N : Int) := by omega
  have e6 : 0 < N := by omega
  clear hv hk ht hN c0
  go_enter Try.func35, Try.ntmps35
  go_wp2
  go_loopg [3] N (fun n p3 wr => ∃ (i : Nat), p3 = .int .i64 (i : Int) ∧ Hid (1 ≤ i ∧ i + n = N + 1 ∧ Nx w wr))
  case atStart => exact ⟨1, rfl, Nat.le_refl _, by omega, N0.out⟩
  case round =>
    obtain ⟨i, rfl, hh⟩ := hrel
    obtain ⟨hi1, hi2, hnx⟩ := hh.out
    have HNX := Lib.hid hnx
    by_cases hlt : i < N
    · have hil : i < (p0 :: rs).length := by rw [HN.out]; exact hlt
      have AI := Lib.hid (fun V hV => AT.out V hV i hil)
      have hkp := HK.out _ (List.getElem_mem hil)
      have hk0 := HK.out p0 List.mem_cons_self
      have htp : top p0.k (p0 :: rs)[i].k = true := by
        obtain ⟨j, rfl⟩ : ∃ j, i = j + 1 := ⟨i - 1, by omega⟩
        exact HT.out _ (by rw [List.getElem_cons_succ]; exact List.getElem_mem _)
      generalize (p0 :: rs)[i] = p at *
      have x0 := AI.out wr hnx
      have z0 := C0.out wr hnx
      have e2 : decide ((i : Int) < (N : Int)) = true := by simp; omega
      have e3 : (i : Int) < (N : Int) := by omega
      have e4 : (0 : Int) ≤ (i : Int) := by omega
      have hw : IntKind.i64.wrap ((i : Int) + 1) = (i : Int) + 1 := IntWalk.i64_in _ (by omega)
      have RA : Hid (∀ V, Calls Try.prog 12 #[.string (S p0.k)] V fun e w' => e = .returned (.int .u32 (rank p0.k)) ∧ Nx V w') := fun V => rank_any V p0.k (by omega)
      have RB : Hid (∀ V, Calls Try.prog 12 #[.string (S p.k)] V fun e w' => e = .returned (.int .u32 (rank p.k)) ∧ Nx V w') := fun V => rank_any V p.k (by omega)
      have KC : Hid (∀ V, Nx wr V → V.cell? ⟨b, o, none⟩ = some (.string (S p0.k)) ∧ V.cell? ⟨b, o + i * 3, none⟩ = some (.string (S p.k))) := fun V hV => ⟨C0.out V (hnx.trans hV), AI.out V (hnx.trans hV)⟩
      have NXT : Hid (gk - 1 < gk ∧ 1 ≤ i + 1 ∧ i + 1 + (gk - 1) = N + 1) := ⟨by omega, by omega, by omega⟩
      have d1 : decide (rank p0.k < rank p.k) = false := by
        rcases top_iff.1 htp with h | ⟨h, _⟩ <;> (simp; omega)
      have HTP := Lib.hid htp
      clear hh hi1 hi2 hnx hlt hil hkp hk0 htp
      generalize p.k = kb at *
      go_wp2_with fail
      go_region_held3 (fun V => V.cell? ⟨b, o, none⟩ = some (.string (S p0.k)) ∧ V.cell? ⟨b, o + i * 3, none⟩ = some (.string (S kb)))
        (first | exact KC.out _ N4.out | exact KC.out _ N3.out | exact KC.out _ (Nx.drew (Nx.refl wr)) | go_keep)
        ((first
          | (go_at_call_of 12 p0; refine (RA.out _).mono ?_; rintro e w3 ⟨rfl, hn3⟩; first | (have N4 := Lib.hid (N3.out.trans hn3); clear hn3) | (have N3 := Lib.hid ((Nx.drew (Nx.refl wr)).trans hn3); clear hn3))
          | (go_at_call_of 12 kb; refine (RB.out _).mono ?_; rintro e w4 ⟨rfl, hn4⟩; first | (have N4 := Lib.hid (N3.out.trans hn4); clear hn4) | (have N3 := Lib.hid ((Nx.drew (Nx.refl wr)).trans hn4); clear hn4))))
      obtain ⟨z1, x1⟩ := KC.out _ N4.out
      clear x0 z0
      rcases top_iff.1 HTP.out with h | ⟨h, h3⟩
      · have d2 : (rank p0.k == rank kb) = false := by simp; omega
        clear h
        go_wp2_with fail
        go_quiet (fail)
        go_wp2
        go_roundg (gk - 1)
        case measure => exact NXT.out.1
        case rel => exact ⟨i + 1, by push_cast; rfl, NXT.out.2.1, NXT.out.2.2, (HNX.out.trans N4.out).drewN _⟩
      · have d2 : (rank p0.k == rank kb) = true := by simp; omega
        have d3 : Op.bytesLess (S p0.k).toList (S kb).toList = true := by rw [S_lt]; exact h3
        clear h h3
        go_wp2_with fail
        go_quiet (fail)
        go_wp2
        go_roundg (gk - 1)
        case measure => exact NXT.out.1
        case rel => exact ⟨i + 1, by push_cast; rfl, NXT.out.2.1, NXT.out.2.2, (HNX.out.trans N4.out).drewN _⟩
    · have e2 : decide ((i : Int) < (N : Int)) = false := by simp; omega
      have e3 : decide (i < N) = false := by simp; omega
      clear hh hi1 hi2 hnx hlt
      go_wp2
      go_ret
      exact ⟨rfl, HNX.out⟩
end Go.Proofs.Ytekcphpeaoaaaaa
