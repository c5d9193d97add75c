/- Package tree: the calls that a law is handed: small. -/
import Derived.Test.YtodnckflobefpaaTrNil
namespace Go.Proofs.Ytodnckflobefpaa
open Go.RowKit Go.Maps
set_option linter.unusedVariables false

/-- A call, as a law is handed it. -/
structure Ac where
  K : Int
  p : Str
  q : Str
  A : Option Addr
  n : Nat
  c : Nat
  N : Int
  A4 : Option Addr
  n4 : Nat
  c4 : Nat
def Ac.cs (a : Ac) : Array Value := #[.int .i64 a.K, .string (S a.p), .string (S a.q), .slice a.A a.n a.c, .int .i64 a.N, .slice a.A4 a.n4 a.c4]
def Ac.fits (a : Ac) : Prop := a.p.length ≤ 3000 ∧ a.q.length ≤ 3000 ∧ a.n ≤ 3000 ∧ a.n4 ≤ 3000
/-- The calls lie in a row. -/
structure Acts (w : World) (A : Option Addr) (n c : Nat) (l : Nat → Ac) : Prop where
  le : n ≤ c
  cap : c ≤ maxLen
  lies : 0 < n → ∃ b o, A = some ⟨b, o, none⟩ ∧ b < w.heap.size ∧ ∀ i, i < n → ∀ f, f < 6 → w.cell? ⟨b, o + i * 6 + f, none⟩ = (l i).cs[f]?
theorem Acts.nx {w w' : World} {A : Option Addr} {n c : Nat} {l : Nat → Ac} (h : Acts w A n c l) (k : Nx w w') : Acts w' A n c l := ⟨h.le, h.cap, fun hn => by
  obtain ⟨b, o, e, hb, hc⟩ := h.lies hn
  exact ⟨b, o, e, Nat.lt_of_lt_of_le hb k.size, fun i hi f hf => (k.cell hb).trans (hc i hi f hf)⟩⟩

def SmallPost (n : Nat) (l : Nat → Ac) (w : World) (e : Ending) (w' : World) : Prop := ∃ b, e = .returned (.bool b) ∧ (∃ m, w' = w.drewN m) ∧ (b = true → n ≤ 200 ∧ ∀ i, i < n → (l i).fits)
set_option maxRecDepth 100000 in
theorem small_any (w : World) (A : Option Addr) (n c : Nat) (l : Nat → Ac) (h : Acts w A n c l) (hp : ∀ i, i < n → (l i).n ≤ 9223372036854775807 ∧ (l i).n4 ≤ 9223372036854775807) :
    Calls Try.prog 20 #[.slice A n c] w (SmallPost n l w) := by
  have H := Lib.hid h
  have HP := Lib.hid hp
  have hle := h.le
  have hcap := h.cap
  unfold maxLen at hcap
  clear h hp
  go_enter Try.func20, Try.ntmps20
  go_wp2
  go_loopw [3, 4] (fun y x wr => ∃ (i : Nat) (t : Int) (m : Nat), x = .int .i64 i ∧ y = .int .i64 t ∧ i ≤ n ∧ i ≤ 201 ∧ 0 ≤ t ∧ t ≤ 12004 * (i : Int) ∧ wr = w.drewN m ∧ Hid (t ≤ 3000 → ∀ j, j < i → (l j).fits)) (fun _ x _ => n - (intOf x).toNat)
  case atStart => exact ⟨0, 0, 0, rfl, rfl, Nat.zero_le _, by omega, by omega, by omega, rfl, fun _ j hj => absurd hj (by omega)⟩
  case round =>
    obtain ⟨i, t, m, rfl, rfl, hi, hi2, ht0, ht1, rfl, hall⟩ := hrel
    have H1 := Lib.hid hall
    clear hall
    by_cases hgo : i < n ∧ i ≤ 200 ∧ t ≤ 3000
    · obtain ⟨hlt, h200, h3000⟩ := hgo
      obtain ⟨b, o, rfl, hb, hc⟩ := H.out.lies (by omega)
      have d1 : w.cell? ⟨b, o + i * 6 + 1, none⟩ = some (.string (S (l i).p)) := hc i hlt 1 (by omega)
      have d2 : w.cell? ⟨b, o + i * 6 + 2, none⟩ = some (.string (S (l i).q)) := hc i hlt 2 (by omega)
      have d3 : w.cell? ⟨b, o + i * 6 + 3, none⟩ = some (.slice (l i).A (l i).n (l i).c) := hc i hlt 3 (by omega)
      have d5 : w.cell? ⟨b, o + i * 6 + 5, none⟩ = some (.slice (l i).A4 (l i).n4 (l i).c4) := hc i hlt 5 (by omega)
      obtain ⟨p3, p4⟩ := HP.out i hlt
      have HF : Hid (∀ t2 : Int, t2 = t + min (((S (l i).p).size : Nat) : Int) 3001 + min (((S (l i).q).size : Nat) : Int) 3001 + min (((l i).n : Nat) : Int) 3001 + min (((l i).n4 : Nat) : Int) 3001 → t2 ≤ 3000 → ∀ j, j < i + 1 → (l j).fits) := fun t2 e h j hj => by
        rcases Nat.lt_or_ge j i with h1 | h1
        · exact H1.out (by omega) j h1
        · obtain rfl : j = i := by omega
          rw [S_size, S_size] at e
          exact ⟨by omega, by omega, by omega, by omega⟩
      clear hc H1
      generalize S (l i).p = sp at *
      generalize S (l i).q = sq at *
      generalize (l i).A = A3 at *
      generalize (l i).n = n3 at *
      generalize (l i).c = c3 at *
      generalize (l i).A4 = A5 at *
      generalize (l i).n4 = n5 at *
      generalize (l i).c4 = c5 at *
      go_wp2_with fail
      go_quiet (fail)
      go_wp2
      go_roundw
      case rel => exact ⟨i + 1, _, _, by go_num, rfl, by omega, by omega, by omega, by push_cast; omega, rfl, HF.out _ rfl⟩
      case measure => simp [intOf]; omega
    · by_cases hlt : i < n
      · by_cases h2 : i ≤ 200
        · have h3 : ¬ t ≤ 3000 := fun h => hgo ⟨hlt, h2, h⟩
          clear hgo H1
          by_cases hn : n ≤ 200
          · go_wp2
            go_ret
            exact ⟨false, rfl, ⟨_, rfl⟩, fun h => by cases h⟩
          · go_wp2
            go_ret
            exact ⟨false, rfl, ⟨_, rfl⟩, fun h => by cases h⟩
        · have h3 : ¬ n ≤ 200 := by omega
          clear hgo H1
          go_wp2
          go_ret
          exact ⟨false, rfl, ⟨_, rfl⟩, fun h => by cases h⟩
      · obtain rfl : i = n := by omega
        clear hgo
        by_cases hn : i ≤ 200
        · by_cases ht : t ≤ 3000
          · have HALL := Lib.hid (H1.out ht)
            clear H1
            go_wp2
            go_ret
            exact ⟨true, rfl, ⟨_, rfl⟩, fun _ => ⟨hn, HALL.out⟩⟩
          · clear H1
            go_wp2
            go_ret
            exact ⟨false, rfl, ⟨_, rfl⟩, fun h => by cases h⟩
        · clear H1
          go_wp2
          go_ret
          exact ⟨false, rfl, ⟨_, rfl⟩, fun h => by cases h⟩
end Go.Proofs.Ytodnckflobefpaa
