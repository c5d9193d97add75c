/- Walks of package wire: a reader's position. -/
import Derived.Test.YtlmfjalkgapcgaaDoorWiEnc
import Derived.Test.YtlmfjalkgapcgaaDoorGnW
import Derived.BigQuiet
import Derived.Deep.QuietTactic
namespace Go.Proofs.YtlmfjalkgapcgaaDoor
open Go.RowKit
set_option linter.unusedVariables false

/-- What is behind a number that was read at offset at: the position has moved by its bytes, or nothing has changed. -/
def NumPost (w : World) (g at_ : Nat) (r : Nat × Nat × Nat) (e : Ending) (w' : World) : Prop :=
  e = .returned (.tuple #[.int .u64 (r.1 : Nat), .int .i64 (r.2.2 : Nat)]) ∧ ∃ q, w' = if r.2.2 = 0 then (w.drewN q).setCell ⟨g, 1, none⟩ (.int .i64 (at_ + r.2.1 : Nat)) else w.drewN q

theorem NumPost.bad {w : World} {g at_ q : Nat} {r : Nat × Nat × Nat} (h : r.2.2 ≠ 0) (hx : r.1 = 0) : NumPost w g at_ r (.returned (.tuple #[.int .u64 0, .int .i64 (r.2.2 : Nat)])) (w.drewN q) :=
  ⟨by rw [hx]; rfl, q, by rw [if_neg h]⟩
theorem NumPost.good {w : World} {g at_ q : Nat} {r : Nat × Nat × Nat} (h : r.2.2 = 0) : NumPost w g at_ r (.returned (.tuple #[.int .u64 (r.1 : Nat), .int .i64 0])) ((w.drewN q).setCell ⟨g, 1, none⟩ (.int .i64 (at_ + r.2.1 : Nat))) :=
  ⟨by rw [h]; rfl, q, by rw [if_pos h]⟩

/-- At a round's head: k bytes of l are read, and make x. -/
def NRel (l : List UInt8) (x k : Nat) : Prop := x ≤ 144115188075855871 ∧ numGo x k (l.drop k) = num l
theorem NRel.start (l : List UInt8) : NRel l 0 0 := ⟨by omega, rfl⟩
theorem NRel.stop {l : List UInt8} {x k : Nat} (h : NRel l x k) (hk : l.length ≤ k) : num l = (0, 0, 5) := by
  rw [← h.2, List.drop_eq_nil_of_le hk, numGo]
theorem NRel.at_ {l : List UInt8} {x k : Nat} (h : NRel l x k) (hk : k < l.length) :
    num l = if k = 0 ∧ l[k].toNat = 128 then (0, 0, 4)
      else if l[k].toNat < 128 then (x * 128 + l[k].toNat, k + 1, 0)
      else if 144115188075855871 < x * 128 + l[k].toNat % 128 then (0, 0, 4)
      else numGo (x * 128 + l[k].toNat % 128) (k + 1) (l.drop (k + 1)) := by
  rw [← h.2, List.drop_eq_getElem_cons hk, numGo]

set_option maxRecDepth 100000 in
set_option maxHeartbeats 1000000 in
theorem pos_number (w : World) (g B n c at_ : Nat) (A : Option Addr) (l : List UInt8) (h : Byt w B A n c l) (h0 : w.cell? ⟨g, 0, none⟩ = some (.slice A n c)) (h1 : w.cell? ⟨g, 1, none⟩ = some (.int .i64 at_)) (hf : w.frozen? ⟨g, 1, none⟩ = false) (hat : at_ < n) :
    Calls Tryd.prog 64 #[.pointer (some ⟨g, 0, none⟩)] w (NumPost w g at_ (num (l.drop at_))) := by
  have hcap := h.cap
  have hle := h.le
  unfold maxLen at hcap
  obtain ⟨b, o, rfl, hlt, hc⟩ := h.lies (by omega)
  have hca : ¬ c = at_ := by omega
  have f1 : (at_ : Int) ≤ n := by omega
  have f2 : (at_ : Int) ≤ c := by omega
  have Hl := Lib.hid h.len
  have Hc := Lib.hid hc
  clear hc h
  go_enter Tryd.func64, Tryd.ntmps64
  go_wp2_with fail
  go_quiet (fail)
  go_wp2_with fail
  have Hdl : Hid ((l.drop at_).length = n - at_) := by unfold Hid; rw [List.length_drop, Hl.out]
  go_loop [4, 17] (fun x i => ∃ xv k : Nat, k ≤ n - at_ ∧ i = .int .i64 k ∧ x = .int .u64 xv ∧ NRel (l.drop at_) xv k) (fun _ i => n - at_ - (intOf i).toNat)
  case atStart => exact ⟨0, 0, Nat.zero_le _, rfl, rfl, NRel.start _⟩
  case round =>
    obtain ⟨xv, k, hk, rfl, rfl, hrel⟩ := hrel
    have hx := hrel.1
    by_cases hlt : k < n - at_
    · have hkl : k < (l.drop at_).length := by rw [Hdl.out]; exact hlt
      have hnum := hrel.at_ hkl
      have hcx : w.cell? ⟨b, o + at_ + k, none⟩ = some (.int .u8 (((l.drop at_)[k].toNat : Nat) : Int)) := by
        have := Hc.out (at_ + k) (by omega)
        rw [← nth_drop, nth_eq _ _ hkl, ← Nat.add_assoc] at this
        exact this
      have hv := UInt8.toNat_lt (l.drop at_)[k]
      have hnext : 144115188075855871 < xv * 128 + (l.drop at_)[k].toNat % 128 ∨ NRel (l.drop at_) (xv * 128 + (l.drop at_)[k].toNat % 128) (k + 1) ∨ (k = 0 ∧ (l.drop at_)[k].toNat = 128) ∨ (l.drop at_)[k].toNat < 128 := by
        by_cases a : 144115188075855871 < xv * 128 + (l.drop at_)[k].toNat % 128
        · exact .inl a
        by_cases b1 : k = 0 ∧ (l.drop at_)[k].toNat = 128
        · exact .inr (.inr (.inl b1))
        by_cases b2 : (l.drop at_)[k].toNat < 128
        · exact .inr (.inr (.inr b2))
        rw [if_neg b1, if_neg b2, if_neg a] at hnum
        exact .inr (.inl ⟨by omega, hnum.symm⟩)
      generalize (l.drop at_)[k].toNat = v at *
      have Hn := Lib.hid hnum
      clear hnum hrel
      have d4 : ((v : Int) < 128) ∨ ¬ ((v : Int) < 128) := by omega
      by_cases c1 : k = 0 ∧ v = 128
      · have hres : num (l.drop at_) = (0, 0, 4) := by rw [Hn.out, if_pos c1]
        have Hr := Lib.hid hres
        have d1 : ((k : Int) == 0) = true := by simp; omega
        have d2 : ((v : Int) == 128) = true := by simp; omega
        clear hres hnext c1 d4
        go_wp2
        go_ret2
        have := NumPost.bad (w := w) (g := g) (at_ := at_) (q := nq) (r := (0, 0, 4)) (by decide) rfl
        rw [Hr.out]
        exact this
      by_cases c2 : v < 128
      · have hres : num (l.drop at_) = (xv * 128 + v, k + 1, 0) := by rw [Hn.out, if_neg c1, if_pos c2]
        have Hr := Lib.hid hres
        have d2 : ((v : Int) == 128) = false := by simp; omega
        have d3 : (v : Int) % 128 = v := by omega
        clear hres hnext c1
        by_cases k0 : k = 0
        · have d1 : ((k : Int) == 0) = true := by simp; omega
          clear k0
          go_wp2
          go_ret2
          rw [Hr.out]
          have := NumPost.good (w := w) (g := g) (at_ := at_) (q := nq) (r := (xv * 128 + v, k + 1, 0)) rfl
          push_cast at this
          exact this
        · have d1 : ((k : Int) == 0) = false := by simp; omega
          clear k0
          go_wp2
          go_ret2
          rw [Hr.out]
          have := NumPost.good (w := w) (g := g) (at_ := at_) (q := nq) (r := (xv * 128 + v, k + 1, 0)) rfl
          push_cast at this
          exact this
      have d5 : ¬ (v : Int) < 128 := by omega
      have d6 : ((k : Int) == 0) = false ∨ ((v : Int) == 128) = false := by
        rcases Nat.eq_zero_or_pos k with h | h
        · exact .inr (by simp; omega)
        · exact .inl (by simp; omega)
      by_cases c3 : 144115188075855871 < xv * 128 + v % 128
      · have hres : num (l.drop at_) = (0, 0, 4) := by rw [Hn.out, if_neg c1, if_neg c2, if_pos c3]
        have Hr := Lib.hid hres
        clear hres hnext c1 c2 d4
        rcases d6 with d6 | d6
        · go_wp2
          go_ret2
          have := NumPost.bad (w := w) (g := g) (at_ := at_) (q := nq) (r := (0, 0, 4)) (by decide) rfl
          rw [Hr.out]
          exact this
        · by_cases k0 : k = 0
          · have d1 : ((k : Int) == 0) = true := by simp; omega
            clear k0
            go_wp2
            go_ret2
            have := NumPost.bad (w := w) (g := g) (at_ := at_) (q := nq) (r := (0, 0, 4)) (by decide) rfl
            rw [Hr.out]
            exact this
          · have d1 : ((k : Int) == 0) = false := by simp; omega
            clear k0
            go_wp2
            go_ret2
            have := NumPost.bad (w := w) (g := g) (at_ := at_) (q := nq) (r := (0, 0, 4)) (by decide) rfl
            rw [Hr.out]
            exact this
      · have hrel2 : NRel (l.drop at_) (xv * 128 + v % 128) (k + 1) := by
          rcases hnext with a | a | a | a
          · exact absurd a c3
          · exact a
          · exact absurd a c1
          · exact absurd a c2
        have Hrel := Lib.hid hrel2
        have c3' : (xv : Int) * 128 + (v : Int) % 128 ≤ 144115188075855871 := by omega
        clear hnext hrel2 c1 c2 d4
        rcases d6 with d6 | d6
        · go_wp2
          go_round
          case rel => exact ⟨xv * 128 + v % 128, k + 1, by omega, by go_num, by push_cast; rfl, Hrel.out⟩
          case measure => simp [intOf]; omega
        · by_cases k0 : k = 0
          · have d1 : ((k : Int) == 0) = true := by simp; omega
            clear k0
            go_wp2
            go_round
            case rel => exact ⟨xv * 128 + v % 128, k + 1, by omega, by go_num, by push_cast; rfl, Hrel.out⟩
            case measure => simp [intOf]; omega
          · have d1 : ((k : Int) == 0) = false := by simp; omega
            clear k0
            go_wp2
            go_round
            case rel => exact ⟨xv * 128 + v % 128, k + 1, by omega, by go_num, by push_cast; rfl, Hrel.out⟩
            case measure => simp [intOf]; omega
    · have hres := hrel.stop (by rw [Hdl.out]; omega)
      have Hr := Lib.hid hres
      clear hres hrel
      go_wp2
      go_ret2
      have := NumPost.bad (w := w) (g := g) (at_ := at_) (q := nq) (r := (0, 0, 5)) (by decide) rfl
      rw [Hr.out]
      exact this

set_option maxRecDepth 100000 in
set_option maxHeartbeats 1000000 in
/-- .. where no byte is left. -/
theorem pos_number_none (w : World) (g n c : Nat) (A : Option Addr) (h0 : w.cell? ⟨g, 0, none⟩ = some (.slice A n c)) (h1 : w.cell? ⟨g, 1, none⟩ = some (.int .i64 n)) (hle : n ≤ c) (hcap : c ≤ 9223372036854775807) :
    Calls Tryd.prog 64 #[.pointer (some ⟨g, 0, none⟩)] w fun e w' => e = .returned (.tuple #[.int .u64 0, .int .i64 5]) ∧ ∃ q, w' = w.drewN q := by
  have f1 : (n : Int) ≤ c := by omega
  have f2 : n - n = 0 := by omega
  go_enter Tryd.func64, Tryd.ntmps64
  by_cases hc : c = n
  · subst hc
    go_wp2_with fail
    go_quiet (fail)
    go_wp2_with fail
    go_loop [17] (fun i => i = .int .i64 0) (fun _ => 0)
    case atStart => rfl
    case round =>
      subst hrel
      go_wp2
      go_ret2
      exact ⟨rfl, nq, rfl⟩
  · go_wp2_with fail
    go_quiet (fail)
    go_wp2_with fail
    go_loop [17] (fun i => i = .int .i64 0) (fun _ => 0)
    case atStart => rfl
    case round =>
      subst hrel
      go_wp2
      go_ret2
      exact ⟨rfl, nq, rfl⟩

/-- position.number, wherever the position stands. -/
theorem pos_number_any (w : World) (g B n c at_ : Nat) (A : Option Addr) (l : List UInt8) (h : Byt w B A n c l) (h0 : w.cell? ⟨g, 0, none⟩ = some (.slice A n c)) (h1 : w.cell? ⟨g, 1, none⟩ = some (.int .i64 at_)) (hf : w.frozen? ⟨g, 1, none⟩ = false) (hat : at_ ≤ n) :
    Calls Tryd.prog 64 #[.pointer (some ⟨g, 0, none⟩)] w (NumPost w g at_ (num (l.drop at_))) := by
  rcases Nat.lt_or_ge at_ n with hlt | hge
  · exact pos_number w g B n c at_ A l h h0 h1 hf hlt
  · obtain rfl : at_ = n := by omega
    have hcap := h.cap
    unfold maxLen at hcap
    refine (pos_number_none w g at_ c A h0 h1 h.le hcap).mono ?_
    rintro e w' ⟨rfl, q, rfl⟩
    rw [List.drop_eq_nil_of_le (by rw [h.len]; exact Nat.le_refl _)]
    exact NumPost.bad (r := (0, 0, 5)) (by decide) rfl
end Go.Proofs.YtlmfjalkgapcgaaDoor
