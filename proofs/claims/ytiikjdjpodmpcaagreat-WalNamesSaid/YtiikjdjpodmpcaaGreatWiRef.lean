/- Walks of the document's answers for package wire: Sum, told, Unframe. -/
import Derived.Test.YtiikjdjpodmpcaaGreatWiFrame
import Derived.Lib.AppendStr
namespace Go.Proofs.YtiikjdjpodmpcaaGreat
open Go.RowKit
set_option linter.unusedVariables false

theorem rsum_any (w : World) (B n c : Nat) (A : Option Addr) (l : List UInt8) (h : Byt w B A n c l) :
    Calls Tryz.prog 78 #[.slice A n c] w fun e w' => e = .returned (.int .u32 (adl l : Nat)) ∧ w = w' := by
  have hcap := h.cap
  have hle := h.le
  have Hl := Lib.hid h.len
  have H := Lib.hid h
  unfold maxLen at hcap
  clear h
  go_enter Tryz.func78, Tryz.ntmps78
  go_wp2
  go_loop [3, 4, 5] (fun x y i => ∃ k : Nat, k ≤ n ∧ i = .int .i64 k ∧ x = .int .u32 (lowN (l.take k) % 65521 : Nat) ∧ y = .int .u32 (highN (l.take k) % 65521 : Nat)) (fun _ _ i => n - (intOf i).toNat)
  case atStart => exact ⟨0, Nat.zero_le _, rfl, by simp [lowN, sumN], by simp [highN, sumS]⟩
  case round =>
    obtain ⟨k, hk, rfl, rfl, rfl⟩ := hrel
    have x1 : lowN (l.take k) % 65521 < 65521 := Nat.mod_lt _ (by decide)
    have y1 : highN (l.take k) % 65521 < 65521 := Nat.mod_lt _ (by decide)
    by_cases hlt : k < n
    · obtain ⟨b, o, rfl, _, hc⟩ := H.out.lies (by omega)
      have hck := hc k hlt
      have hb0 := nth_lo l k
      have hb1 := nth_hi l k
      have hkl : k < l.length := by rw [Hl.out]; exact hlt
      have e1 : Hid (((lowN (l.take (k + 1)) % 65521 : Nat) : Int) = (((lowN (l.take k) % 65521 : Nat) : Int) + nth l k) % 65521) := by
        unfold Hid
        rw [take_snoc' l k hkl, lowN_snoc, nth_eq l k hkl]
        omega
      have e2 : Hid (((highN (l.take (k + 1)) % 65521 : Nat) : Int) = (((highN (l.take k) % 65521 : Nat) : Int) + ((lowN (l.take (k + 1)) % 65521 : Nat) : Int)) % 65521) := by
        unfold Hid
        rw [take_snoc' l k hkl, highN_snoc]
        omega
      rw [e1.out] at e2
      have E2 := Lib.hid e2.out
      generalize lowN (l.take k) % 65521 = x at *
      generalize highN (l.take k) % 65521 = y at *
      clear hc e2
      go_wp2
      go_round
      case rel => exact ⟨k + 1, by omega, by go_num, by rw [e1.out], by rw [E2.out]⟩
      case measure => simp [intOf]; omega
    · have hfin : Hid (((highN (l.take k) % 65521 : Nat) : Int) * 65536 + ((lowN (l.take k) % 65521 : Nat) : Int) = (adl l : Nat)) := by
        unfold Hid adl
        rw [List.take_of_length_le (by rw [Hl.out]; omega)]
        omega
      generalize lowN (l.take k) % 65521 = x at *
      generalize highN (l.take k) % 65521 = y at *
      go_wp2
      go_ret
      exact ⟨by rw [← hfin.out]; rfl, rfl⟩
theorem be4 (l : List UInt8) (h : 4 ≤ l.length) : ((be 0 (l.take 4) : Nat) : Int) = nth l 0 * 16777216 + nth l 1 * 65536 + nth l 2 * 256 + nth l 3 := by
  match l, h with
  | a :: b :: c :: d :: r, _ =>
    have ha := a.toNat_lt
    have hb := b.toNat_lt
    have hc := c.toNat_lt
    have hd := d.toNat_lt
    simp [be, nth]
    omega
theorem Byt.tail {w : World} {B n c : Nat} {A : Option Addr} {l : List UInt8} (h : Byt w B A n c l) {lo : Nat} (h1 : lo ≤ n) : Byt w B (if c = lo then A else A.map (·.add lo)) (n - lo) (c - lo) (l.drop lo) := by
  have := h.cut (lo := lo) (hi := n) h1 (Nat.le_refl _)
  rwa [List.take_of_length_le (by rw [h.len]; exact Nat.le_refl _)] at this

theorem told_any (w : World) (B n c : Nat) (A : Option Addr) (l : List UInt8) (h : Byt w B A n c l) (hn : 4 ≤ n) :
    Calls Tryz.prog 77 #[.slice A n c] w fun e w' => e = .returned (.int .u32 (be 0 (l.take 4) : Nat)) ∧ ∃ q, w' = w.drewN q := by
  have hb4 := Lib.hid (be4 l (by rw [h.len]; exact hn))
  have hcap := h.cap
  have hle := h.le
  unfold maxLen at hcap
  obtain ⟨b, o, rfl, _, hc⟩ := h.lies (by omega)
  have c0 := hc 0 (by omega)
  have c1 := hc 1 (by omega)
  have c2 := hc 2 (by omega)
  have c3 := hc 3 (by omega)
  rw [Nat.add_zero] at c0
  have a0 := nth_lo l 0
  have a1 := nth_lo l 1
  have a2 := nth_lo l 2
  have a3 := nth_lo l 3
  have b0 := nth_hi l 0
  have b1 := nth_hi l 1
  have b2 := nth_hi l 2
  have b3 := nth_hi l 3
  have hb5 := hb4.out
  clear hc h hb4
  generalize nth l 0 = v0 at *
  generalize nth l 1 = v1 at *
  generalize nth l 2 = v2 at *
  generalize nth l 3 = v3 at *
  have hb4 := Lib.hid hb5
  clear hb5
  have i0 : (0 : Int) < n := by omega
  have i1 : (1 : Int) < n := by omega
  have i2 : (2 : Int) < n := by omega
  have i3 : (3 : Int) < n := by omega
  go_enter Tryz.func77, Tryz.ntmps77
  go_wp2_with fail
  go_quiet (fail)
  go_wp2
  go_ret
  refine ⟨?_, nq, rfl⟩
  rw [hb4.out]
  rfl

/-! ### Unframe -/
theorem runframe_short (w : World) (A : Option Addr) (n c : Nat) (h : n < 4) :
    Calls Tryz.prog 41 #[.slice A n c] w fun e w' => e = .returned (.tuple #[.string ⟨#[]⟩, .int .i64 0, .int .i64 5]) ∧ ∃ q, w' = w.drewN q := by
  go_enter Tryz.func41, Tryz.ntmps41
  go_wp2
  go_ret3
  exact ⟨rfl, 0, rfl⟩
theorem runframe_big (w : World) (A : Option Addr) (n c : Nat) (l : List UInt8) (hb : Byt w w.heap.size A n c l) (h : 4 ≤ n) (h2 : 1048576 < sizeOfFrame l) :
    Calls Tryz.prog 41 #[.slice A n c] w fun e w' => e = .returned (.tuple #[.string ⟨#[]⟩, .int .i64 0, .int .i64 4]) ∧ ∃ q, w' = w.drewN q := by
  have hcap := hb.cap
  have hle := hb.le
  unfold maxLen at hcap
  have hs := sizeOfFrame_lt l
  have H := Lib.hid (told_any w _ n c A l hb h)
  have hk : Hid (be 0 (l.take 4) = sizeOfFrame l) := by unfold Hid; rfl
  generalize sizeOfFrame l = k at *
  clear hb
  go_enter Tryz.func41, Tryz.ntmps41
  go_wp2_with fail
  refine H.out.mono ?_
  rintro e w' ⟨rfl, q, rfl⟩
  rw [hk.out]
  go_wp2
  go_ret3
  exact ⟨rfl, q, rfl⟩
theorem runframe_more (w : World) (A : Option Addr) (n c : Nat) (l : List UInt8) (hb : Byt w w.heap.size A n c l) (h : 4 ≤ n) (h2 : sizeOfFrame l ≤ 1048576) (h3 : n < sizeOfFrame l + 8) :
    Calls Tryz.prog 41 #[.slice A n c] w fun e w' => e = .returned (.tuple #[.string ⟨#[]⟩, .int .i64 0, .int .i64 5]) ∧ ∃ q, w' = w.drewN q := by
  have hcap := hb.cap
  have hle := hb.le
  unfold maxLen at hcap
  have H := Lib.hid (told_any w _ n c A l hb h)
  have hk : Hid (be 0 (l.take 4) = sizeOfFrame l) := by unfold Hid; rfl
  generalize sizeOfFrame l = k at *
  clear hb
  have f1 : (n : Int) - 8 < k := by omega
  go_enter Tryz.func41, Tryz.ntmps41
  go_wp2_with fail
  refine H.out.mono ?_
  rintro e w' ⟨rfl, q, rfl⟩
  rw [hk.out]
  go_wp2
  go_ret3
  exact ⟨rfl, q, rfl⟩

theorem Byt.drewN {w : World} {B n c : Nat} {A : Option Addr} {l : List UInt8} (h : Byt w B A n c l) (q : Nat) : Byt (w.drewN q) B A n c l := h.keep fun _ _ => rfl

theorem quiet_more {P : Program} {f : FuncId} {args : Array Value} {w : World} {a k : Nat} {v : Value}
    (h : Calls P f args (w.drewN (a + k)) fun e w' => e = .returned v ∧ ∃ m, w' = (w.drewN (a + k)).drewN m) :
    Calls P f args (w.drewN (a + k)) fun e w'' => e = .returned v ∧ ∃ m, w'' = w.drewN (a + m) :=
  h.mono fun _ _ ⟨he, m, hm⟩ => ⟨he, k + m, by rw [hm, World.drewN_drewN, Nat.add_assoc]⟩
theorem quiet_stay {P : Program} {f : FuncId} {args : Array Value} {w : World} {a k : Nat} {v : Value}
    (h : Calls P f args (w.drewN (a + k)) fun e w' => e = .returned v ∧ w.drewN (a + k) = w') :
    Calls P f args (w.drewN (a + k)) fun e w'' => e = .returned v ∧ ∃ m, w'' = w.drewN (a + m) :=
  h.mono fun _ _ ⟨he, hm⟩ => ⟨he, k, hm.symm⟩

set_option maxRecDepth 100000 in
set_option maxHeartbeats 1600000 in
theorem runframe_walk (eqv : Bool) (w : World) (b o n c k m s t : Nat) (l p2 p3 p4 : List UInt8) (hcap : c ≤ 9223372036854775807) (hle : n ≤ c) (hm1 : 4 + (k : Int) ≤ m) (hm2 : (m : Int) ≤ 4 + k) (h2 : k ≤ 1048576) (h3 : m + 4 ≤ n)
    (hp : Byt w w.heap.size (some ⟨b, o, none⟩) n c l) (q1 : Byt w w.heap.size (some ⟨b, o, none⟩) m c p2) (q2 : Byt w w.heap.size (some ⟨b, o + m, none⟩) (n - m) (c - m) p3) (q3 : Byt w w.heap.size (some ⟨b, o + 4, none⟩) (m - 4) (c - 4) p4)
    (hk : be 0 (l.take 4) = k) (hs : adl p2 = s) (ht : be 0 (p3.take 4) = t) (hk1 : s < 4294967296) (hk2 : t < 4294967296) (he : ((t : Int) == (s : Int)) = eqv) (he2 : ((t : Int) != (s : Int)) = !eqv) :
    Calls Tryz.prog 41 #[.slice (some ⟨b, o, none⟩) n c] w fun e w' => e = .returned (if eqv then .tuple #[.string ⟨p4.toArray⟩, .int .i64 ((m : Int) + 4), .int .i64 0] else .tuple #[.string ⟨#[]⟩, .int .i64 0, .int .i64 4]) ∧ ∃ q, w' = w.drewN q := by
  have hcs : ∀ q : Nat, (convert 22 9 (.slice (some ⟨b, o + 4, none⟩) (m - 4) (c - 4))).run Tryz.prog (w.drewN q) = .ok (.string ⟨p4.toArray⟩) (w.drewN q) := fun q => run_string_of_bytes (q3.drewN q)
  have Hcs := Lib.hid hcs
  have hfirst := told_any w _ n c _ l hp (by omega)
  have hsum := fun q : Nat => (rsum_any (w.drewN q) w.heap.size m c _ p2 (q1.drewN q))
  have htold := fun q : Nat => (told_any (w.drewN q) w.heap.size (n - m) (c - m) _ p3 (q2.drewN q) (by omega))
  rw [hk] at hfirst
  rw [hs] at hsum
  rw [ht] at htold
  have Hf := Lib.hid hfirst
  have Hs := Lib.hid hsum
  have Ht := Lib.hid htold
  have Hm : Hid ((4 : Int) + k = m) := by unfold Hid; omega
  have He := Lib.hid he
  have He2 := Lib.hid he2
  have f1 : ¬ c = m := by omega
  have f2 : (m : Int) ≤ n := by omega
  have f3 : (m : Int) ≤ c := by omega
  have f6 : ¬ c = 4 := by omega
  have f7 : 4 ≤ m := by omega
  have f8 : ¬ ((n : Int) - 8 < k) := by omega
  clear hcs q1 q2 q3 hk hs ht he he2 hp hfirst hsum htold
  go_enter Tryz.func41, Tryz.ntmps41
  go_wp2_with fail
  refine Hf.out.mono ?_
  rintro e w' ⟨rfl, q, rfl⟩
  go_upto_region 9 with fail
  rw [Hm.out]
  have b1 := He.out
  have b2 := He2.out
  go_quiet ((first
    | (go_at_call 78; exact quiet_stay (Hs.out _))
    | (go_at_call 77; exact quiet_more (Ht.out _))))
  clear b1 b2
  cases eqv
  · go_wp2
    go_ret3
    exact ⟨rfl, _, rfl⟩
  · have hrun := Hcs.out (q + nq)
    go_wp2
    go_ret3
    exact ⟨rfl, _, rfl⟩

theorem runframe_any (w : World) (B : Nat) (A : Option Addr) (n c : Nat) (l : List UInt8) (hb : Byt w B A n c l) (hB : B ≤ w.heap.size) :
    Calls Tryz.prog 41 #[.slice A n c] w fun e w' => e = .returned (unfrV (unfr l)) ∧ ∃ q, w' = w.drewN q := by
  replace hb := hb.more hB
  have hl := hb.len
  unfold unfr
  by_cases h4 : l.length < 4
  · rw [if_pos h4]
    exact runframe_short w A n c (by omega)
  rw [if_neg h4]
  by_cases h5 : 1048576 < sizeOfFrame l
  · rw [if_pos h5]
    exact runframe_big w A n c l hb (by omega) h5
  rw [if_neg h5]
  by_cases h6 : l.length < sizeOfFrame l + 8
  · rw [if_pos h6]
    exact runframe_more w A n c l hb (by omega) (by omega) (by omega)
  rw [if_neg h6]
  have hcap := hb.cap
  have hle := hb.le
  unfold maxLen at hcap
  have q1 := hb.upto (hi := 4 + sizeOfFrame l) (by omega)
  have q2 := hb.tail (lo := 4 + sizeOfFrame l) (by omega)
  have q3 := hb.cut (lo := 4) (hi := 4 + sizeOfFrame l) (by omega) (by omega)
  rw [if_neg (by omega)] at q2 q3
  obtain ⟨b, o, rfl, hlt, hc⟩ := hb.lies (by omega)
  simp only [Option.map_some, add_plain] at q2 q3
  have hk1 := chk_lt (l.take (4 + sizeOfFrame l))
  have ht : be 0 ((l.drop (4 + sizeOfFrame l)).take 4) = toldSum l := by
    unfold toldSum
    rw [List.drop_take, show 4 + sizeOfFrame l + 4 - (4 + sizeOfFrame l) = 4 by omega]
  have hk2 : toldSum l < 4294967296 := be_lt 0 (by decide) _
  by_cases heq : adl (l.take (4 + sizeOfFrame l)) = toldSum l
  · rw [if_pos heq]
    refine (runframe_walk true w b o n c (sizeOfFrame l) (4 + sizeOfFrame l) _ (toldSum l) l _ _ _ (by omega) hle (by omega) (by omega) (by omega) (by omega) hb q1 q2 q3 rfl rfl ht hk1 hk2 ?_ ?_).mono ?_
    · change ((toldSum l : Int) == (adl (l.take (4 + sizeOfFrame l)) : Int)) = true
      simp
      omega
    · change ((toldSum l : Int) != (adl (l.take (4 + sizeOfFrame l)) : Int)) = false
      simp
      omega
    rintro e w' ⟨rfl, hbw⟩
    exact ⟨by simp [unfrV], hbw⟩
  · rw [if_neg heq]
    refine (runframe_walk false w b o n c (sizeOfFrame l) (4 + sizeOfFrame l) _ (toldSum l) l _ _ _ (by omega) hle (by omega) (by omega) (by omega) (by omega) hb q1 q2 q3 rfl rfl ht hk1 hk2 ?_ ?_).mono ?_
    · change ((toldSum l : Int) == (adl (l.take (4 + sizeOfFrame l)) : Int)) = false
      simp
      omega
    · change ((toldSum l : Int) != (adl (l.take (4 + sizeOfFrame l)) : Int)) = true
      simp
      omega
    rintro e w' ⟨rfl, hbw⟩
    exact ⟨rfl, hbw⟩
end Go.Proofs.YtiikjdjpodmpcaaGreat
