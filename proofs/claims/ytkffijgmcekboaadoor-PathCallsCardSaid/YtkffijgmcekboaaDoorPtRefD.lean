/- The reference: digits. -/
import Derived.Test.YtkffijgmcekboaaDoorPtRefB
import Derived.RegionTactic
import Derived.Deep.RegionWith
namespace Go.Proofs.YtkffijgmcekboaaDoor
open Go.RowKit
open Go.Lib (decDigits)
set_option linter.unusedVariables false

theorem run_string_one (W : World) (b o : Nat) (x : UInt8) (h : W.cell? ⟨b, o, none⟩ = some (.int .u8 (x.toNat : Int))) :
    (convert 61 9 (.slice (some ⟨b, o, none⟩) 1 1)).run Tryd.prog W = .ok (.string (S [x])) W := by
  have := run_convert_bytes_back (P := Tryd.prog) W 61 9 5 ⟨b, o, none⟩ 1 [x] Tryd.underlying61 Tryd.underlying5 Tryd.underlying9 (fun j hj => by
    have hj0 : j = 0 := by simp at hj; omega
    subst hj0
    rw [add_plain]
    exact h)
  exact this
theorem rdigits1 (w : World) (n : Nat) (hn : n < 10) :
    Calls Tryd.prog 42 #[.int .i64 (n : Int)] w fun e w' => e = .returned (.string (S (decDigits n))) ∧ Nx w w' := by
  rw [dec_one (by omega)]
  have hx : ((UInt8.ofNat (48 + n)).toNat : Int) = 48 + (n : Int) := by
    rw [UInt8.toNat_ofNat']
    omega
  have hc := fun W b o h => run_string_one W b o (UInt8.ofNat (48 + n)) h
  rw [hx] at hc
  have Hc := Lib.hid hc
  have i1 : (n : Int) < 10 := by omega
  clear hc hx
  generalize S [UInt8.ofNat (48 + n)] = s at *
  go_enter Tryd.func42, Tryd.ntmps42
  have hc := Hc.out
  go_wp2
  go_ret
  exact ⟨rfl, (Nx.refl _).alloc _⟩
theorem Nx.at {a b : World} {p : Addr} {v : Value} (h : Nx a b) (hc : a.cell? p = some v) : b.cell? p = some v := (Below.cell h (World.block_lt_of_cell? a _ hc)).trans hc
theorem rdigits_step (w : World) (n : Nat) (hn : ¬ n < 10) (hn2 : n < 1000) (D : ∀ W : World, Calls Tryd.prog 42 #[.int .i64 ((n / 10 : Nat) : Int)] W fun e w' => e = .returned (.string (S (decDigits (n / 10)))) ∧ Nx W w') :
    Calls Tryd.prog 42 #[.int .i64 (n : Int)] w fun e w' => e = .returned (.string (S (decDigits n))) ∧ Nx w w' := by
  have hd : S (decDigits (n / 10)) ++ S [UInt8.ofNat (48 + n % 10)] = S (decDigits n) := by
    rw [S_append]
    congr 1
    conv => rhs; rw [decDigits, dif_neg hn]
  have hx : ((UInt8.ofNat (48 + n % 10)).toNat : Int) = 48 + ((n % 10 : Nat) : Int) := by
    rw [UInt8.toNat_ofNat']
    omega
  have hc := fun W b o h => run_string_one W b o (UInt8.ofNat (48 + n % 10)) h
  rw [hx] at hc
  have e1 : (n : Int) / 10 = ((n / 10 : Nat) : Int) := by omega
  have e2 : (n : Int) % 10 = ((n % 10 : Nat) : Int) := by omega
  have i1 : ¬ (n : Int) < 10 := by omega
  have i2 : n % 10 ≤ 9 := by omega
  have i3 : n / 10 < 1000 := by omega
  have z1 : (S (decDigits (n / 10))).size ≤ 3 := by rw [S_size]; exact dec_len3 (by omega)
  have z2 : (S [UInt8.ofNat (48 + n % 10)]).size ≤ 3 := by rw [S_size]; simp
  have D := Lib.hid D
  have Hd := Lib.hid hd
  clear hd hx
  generalize S [UInt8.ofNat (48 + n % 10)] = s at *
  generalize S (decDigits (n / 10)) = t at *
  generalize S (decDigits n) = u at *
  generalize n % 10 = r at *
  generalize n / 10 = q at *
  have e3 : IntKind.i64.wrap (q : Int) = (q : Int) := IntWalk.i64_in _ (by omega)
  have e4 : (n : Int).tmod 10 = (r : Int) := by rw [Int.tmod_eq_emod_of_nonneg (by omega)]; exact e2
  have e5 : IntKind.i64.wrap (48 + (r : Int)) = 48 + (r : Int) := IntWalk.i64_in _ (by omega)
  have e6 : IntKind.u8.wrap (48 + (r : Int)) = 48 + (r : Int) := IntWalk.u8_in _ (by omega)
  go_enter Tryd.func42, Tryd.ntmps42
  go_wp2_with fail
  go_region_with (go_at_call 42; (with_reducible refine (D.out _).mono ?_); rintro e w2 ⟨rfl, hb⟩
                  have hq := Nx.at (p := ⟨w.heap.size, 0, none⟩) (v := .int .u8 (48 + (r : Int))) hb
                  try simp at hq
                  have HB : Hid (Nx w w2) := by first | exact Nx.trans ((Nx.refl w).drew) hb | exact Nx.trans (((Nx.refl w).alloc _).drew) hb | exact Nx.trans hb hb
                  clear hb)
  all_goals
    go_wp2
    go_ret
    rw [← Hd.out]
    first | exact ⟨rfl, HB.out⟩ | exact ⟨rfl, HB.out.alloc _⟩
theorem rdigits_any (w : World) (n : Nat) (hn : n < 1000) :
    Calls Tryd.prog 42 #[.int .i64 (n : Int)] w fun e w' => e = .returned (.string (S (decDigits n))) ∧ Nx w w' := by
  have h2 : ∀ (W : World) (m : Nat), m < 100 → Calls Tryd.prog 42 #[.int .i64 (m : Int)] W fun e w' => e = .returned (.string (S (decDigits m))) ∧ Nx W w' := fun W m hm => by
    by_cases h : m < 10
    · exact rdigits1 W m h
    · exact rdigits_step W m h (by omega) (fun W => rdigits1 W (m / 10) (by omega))
  by_cases h : n < 10
  · exact rdigits1 w n h
  · exact rdigits_step w n h hn (fun W => h2 W (n / 10) (by omega))
end Go.Proofs.YtkffijgmcekboaaDoor
