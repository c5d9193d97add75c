/- Package tree: what a crash leaves of a file. -/
import Derived.Test.YtodnckflobefpaaTrS
namespace Go.Proofs.Ytodnckflobefpaa
open Go.RowKit Go.Maps
set_option linter.unusedVariables false

def ints (b : Str) : List Int := b.map fun x => (x.toNat : Int)
theorem ints_len (b : Str) : (ints b).length = b.length := by simp [ints]
theorem ints_get (b : Str) (i : Nat) (hi : i < b.length) : (ints b).getD i 0 = nth b i := by
  rw [nth_eq b i hi]
  simp [ints, List.getD, hi]
theorem ints_of (b : Str) : Lib.bytesOf (ints b) = b := by
  unfold Lib.bytesOf ints
  rw [List.map_map]
  conv => rhs; rw [← List.map_id b]
  refine List.map_congr_left fun x _ => ?_
  simp
theorem Arg.bytesIn {w : World} {A : Option Addr} {n c : Nat} {b : Str} (h : Arg w A n c b) : Lib.BytesIn w A n (ints b) := fun hn => by
  obtain ⟨j, o, e, _, hx⟩ := h.lies hn
  exact ⟨j, o, e, fun i hi => by rw [hx i hi, ints_get b i (by rw [h.len]; exact hi)]⟩
theorem hasPrefix_at (w : World) {A A2 : Option Addr} {n c n2 c2 : Nat} {b b2 : Str} (h : Arg w A n c b) (h2 : Arg w A2 n2 c2 b2) :
    Calls Try.prog 67 #[.slice A n c, .slice A2 n2 c2] w fun e w' => e = .returned (.bool (b2.isPrefixOf b)) ∧ w' = w := by
  have := Try.bytes_HasPrefix_all A A2 n c n2 c2 (ints b) (ints b2) w (by rw [ints_len, h.len]) (by rw [ints_len, h2.len]) h.le h.bytesIn h2.bytesIn
  rw [ints_of, ints_of] at this
  exact this
theorem equal_at (w : World) {A A2 : Option Addr} {n c n2 c2 : Nat} {b b2 : Str} (h : Arg w A n c b) (h2 : Arg w A2 n2 c2 b2) :
    Calls Try.prog 58 #[.slice A n c, .slice A2 n2 c2] w fun e w' => e = .returned (.bool (b == b2)) ∧ w' = w := by
  have := Try.bytes_Equal_all A A2 n c n2 c2 (ints b) (ints b2) w (by rw [ints_len, h.len]) (by rw [ints_len, h2.len]) h.bytesIn h2.bytesIn
  rw [ints_of, ints_of] at this
  exact this
theorem Own.cut {w : World} {B n c : Nat} {A : Option Addr} {b : Str} (h : Own w B A n c b) (m : Nat) (hm : m ≤ n) : Own w B A m c (b.take m) := by
  have hl := h.len
  rcases h.2 with ⟨hv, h0⟩ | ⟨g, cap, cur, hv, hB, hg, h3, h4, h5, h6⟩
  · simp only [Value.slice.injEq] at hv
    obtain ⟨e1, e2, e3⟩ := hv
    have : m = 0 := by omega
    subst this e1 e3
    exact ⟨by simp [bvs], .inl ⟨rfl, rfl⟩⟩
  · simp only [Value.slice.injEq] at hv
    obtain ⟨e1, _, e2⟩ := hv
    subst e1 e2
    refine ⟨by rw [bvs_length, List.length_take]; omega, .inr ⟨g, c, cur, rfl, hB, hg, by omega, h4, h5, ?_⟩⟩
    have : bvs (b.take m) = (bvs b).take m := by unfold bvs; rw [List.map_take]
    rw [this, ← h6, List.take_take]
    congr 1
    omega

set_option maxRecDepth 100000 in
theorem remaining_any (w : World) (tag : Nat → Nat) (fb i : Nat) (x : Fil) (h : FileAt w tag fb i x) (hz : x.now.length ≤ 100000000) (part : Int) (hp : part ≤ 9223372036854775807) :
    Calls Try.prog 57 #[fptr fb, .int .i64 part] w fun e w' => ∃ A n c, e = .returned (.slice A n c) ∧ Own w 0 A n c (x.rem part) ∧ Tg tag A (11 + 2 * i) ∧ ∃ m, w' = w.drewN m := by
  obtain ⟨A, n, c, A2, n2, c2, hb, o1, o2, hal, t1, t2⟩ := h.ex
  have d0 : w.cell? ⟨fb, 0, none⟩ = some (.slice A n c) := by rw [hb.cell]; rfl
  have d1 : w.cell? ⟨fb, 1, none⟩ = some (.slice A2 n2 c2) := by rw [hb.cell]; rfl
  have hn : x.now.length = n := o1.len
  have hn2 : x.sf.length = n2 := o2.len
  have PX : Hid (∀ m, Calls Try.prog 67 #[.slice A n c, .slice A2 n2 c2] (w.drewN m) fun e w' => e = .returned (.bool (x.sf.isPrefixOf x.now)) ∧ w' = w.drewN m) := fun m =>
    hasPrefix_at (w.drewN m) (o1.arg.nx (Nx.drewN (Nx.refl _) _)) (o2.arg.nx (Nx.drewN (Nx.refl _) _))
  unfold fptr
  cases hpre : x.sf.isPrefixOf x.now with
  | false =>
    have hrem : x.rem part = x.sf := by unfold Fil.rem; rw [hpre]; rfl
    rw [hpre] at PX
    rw [hrem]
    have R := Lib.hid (And.intro o2 t2)
    clear h hb o1 o2 hal t1 t2 hn hn2 hpre hrem
    go_enter Try.func57, Try.ntmps57
    go_wp2_with fail
    go_quiet ((go_at_call 67; exact Calls.quiet_of_same (PX.out _)))
    go_wp2
    go_ret
    exact ⟨A2, n2, c2, rfl, R.out.1, R.out.2, nq, rfl⟩
  | true =>
    have hle : n2 ≤ n := by
      have := (List.isPrefixOf_iff_prefix.1 hpre).length_le
      omega
    obtain ⟨u, hu, hur⟩ : ∃ u : Nat, upTo part ((n : Int) - (n2 : Int)) = (u : Int) ∧ u ≤ n - n2 := by
      unfold upTo
      have h1 : 0 ≤ max 0 part % ((n : Int) - (n2 : Int) + 1) := Int.emod_nonneg _ (by omega)
      have h2 : max 0 part % ((n : Int) - (n2 : Int) + 1) < (n : Int) - (n2 : Int) + 1 := Int.emod_lt_of_pos _ (by omega)
      exact ⟨(max 0 part % ((n : Int) - (n2 : Int) + 1)).toNat, by omega, by omega⟩
    have hrem : x.rem part = x.now.take (n2 + u) := by
      unfold Fil.rem
      rw [if_pos hpre, hn, hn2, hu]
      simp
    have UX : Hid (∀ m, Calls Try.prog 43 #[.int .i64 part, .int .i64 ((n : Int) - (n2 : Int))] (w.drewN m) fun e w' => e = .returned (.int .i64 (u : Int)) ∧ w' = w.drewN m) := fun m => by
      have := upTo_any (w.drewN m) part ((n : Int) - (n2 : Int)) (by omega) (by omega) hp
      rw [hu] at this
      exact this.mono fun _ _ h => ⟨h.1, h.2.symm⟩
    rw [hpre] at PX
    rw [hrem]
    have hcm := o1.byt.cap
    have i1 : ((n2 : Int) + (u : Int)) ≤ (c : Int) := by have := o1.byt.le; omega
    have i2 : n2 ≤ 100000000 := by omega
    have i3 : u ≤ 100000000 := by omega
    have i4 : n ≤ 100000000 := by omega
    have R := Lib.hid (And.intro (o1.cut (n2 + u) (by omega)) t1)
    have HW : Hid (IntKind.i64.wrap ((n : Int) - (n2 : Int)) = (n : Int) - (n2 : Int)) := by show IntKind.i64.wrap ((n : Int) - (n2 : Int)) = (n : Int) - (n2 : Int); rw [IntKind.wrap_i64]; omega
    have i5 : (c : Int) ≤ 9223372036854775807 := by unfold maxLen at hcm; omega
    clear h hb o1 o2 hal t1 t2 hn hn2 hpre hrem hu hcm hz
    go_enter Try.func57, Try.ntmps57
    go_wp2_with fail
    go_quiet ((go_at_call 67; exact Calls.quiet_of_same (PX.out _)))
    go_wp2_with fail
    obtain ⟨w1, hw1⟩ : ∃ w1, w.drewN nq = w1 := ⟨_, rfl⟩
    have UX1 : Hid (∀ m, Calls Try.prog 43 #[.int .i64 part, .int .i64 ((n : Int) - (n2 : Int))] (w1.drewN m) fun e w' => e = .returned (.int .i64 (u : Int)) ∧ w' = w1.drewN m) := by
      subst hw1
      intro m
      rw [World.drewN_drewN]
      exact UX.out _
    have d0' : w1.cell? ⟨fb, 0, none⟩ = some (.slice A n c) := by rw [← hw1]; exact d0
    have d1' : w1.cell? ⟨fb, 1, none⟩ = some (.slice A2 n2 c2) := by rw [← hw1]; exact d1
    rw [hw1]
    have HW1 := Lib.hid hw1
    clear hw1 UX PX d0 d1
    go_quiet ((go_at_call 43; exact Calls.quiet_of_same (UX1.out _)))
    go_wp2
    go_ret
    refine ⟨A, n2 + u, c, ?_, R.out.1, R.out.2, ?_⟩
    · rfl
    · rename_i nq2
      exact ⟨_, by rw [← HW1.out, World.drewN_drewN]⟩
end Go.Proofs.Ytodnckflobefpaa
