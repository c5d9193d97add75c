/- Walks of the document's answers for the layer: word, told, Frame, Unframe. -/
import Derived.Test.YtpgjnmakpghamaaRef
namespace Go.Proofs.Ytpgjnmakpghamaa
open Go.RowKit
set_option linter.unusedVariables false

theorem be4 (l : List UInt8) (h : 4 ≤ l.length) : ((be 0 (l.take 4) : Nat) : Int) = nth l 0 * 16777216 + nth l 1 * 65536 + nth l 2 * 256 + nth l 3 := by
  match l, h with
  | a :: b :: c :: d :: r, _ =>
    have ha := a.toNat_lt
    have hb := b.toNat_lt
    have hc := c.toNat_lt
    have hd := d.toNat_lt
    simp [be, nth]
    omega
theorem Byt.tail {w : World} {B n c : Nat} {A : Option Addr} {l : List UInt8} (h : Byt w B A n c l) {lo : Nat} (h1 : lo ≤ n) : Byt w B (if c = lo then A else A.map (·.add lo)) (n - lo) (c - lo) (l.drop lo) := by
  have := h.cut (lo := lo) (hi := n) h1 (Nat.le_refl _)
  rwa [List.take_of_length_le (by rw [h.len]; exact Nat.le_refl _)] at this

theorem told_any (w : World) (B n c : Nat) (A : Option Addr) (l : List UInt8) (h : Byt w B A n c l) (hn : 4 ≤ n) :
    Calls Try.prog 47 #[.slice A n c] w fun e w' => e = .returned (.int .u32 (be 0 (l.take 4) : Nat)) ∧ ∃ q, w' = w.drewN q := by
  have hb4 := Lib.hid (be4 l (by rw [h.len]; exact hn))
  have hcap := h.cap
  have hle := h.le
  unfold maxLen at hcap
  obtain ⟨b, o, rfl, _, hc⟩ := h.lies (by omega)
  have c0 := hc 0 (by omega)
  have c1 := hc 1 (by omega)
  have c2 := hc 2 (by omega)
  have c3 := hc 3 (by omega)
  rw [Nat.add_zero] at c0
  have a0 := nth_lo l 0
  have a1 := nth_lo l 1
  have a2 := nth_lo l 2
  have a3 := nth_lo l 3
  have b0 := nth_hi l 0
  have b1 := nth_hi l 1
  have b2 := nth_hi l 2
  have b3 := nth_hi l 3
  have hb5 := hb4.out
  clear hc h hb4
  generalize nth l 0 = v0 at *
  generalize nth l 1 = v1 at *
  generalize nth l 2 = v2 at *
  generalize nth l 3 = v3 at *
  have hb4 := Lib.hid hb5
  clear hb5
  have i0 : (0 : Int) < n := by omega
  have i1 : (1 : Int) < n := by omega
  have i2 : (2 : Int) < n := by omega
  have i3 : (3 : Int) < n := by omega
  go_enter Try.func47, Try.ntmps47
  go_wp2_with fail
  go_quiet (fail)
  go_wp2
  go_ret
  refine ⟨?_, nq, rfl⟩
  rw [hb4.out]
  rfl

theorem word_any (w : World) (B n c : Nat) (A : Option Addr) (l : List UInt8) (x : Nat) (h : Own w B A n c l) (hB : B ≤ w.heap.size) (hx : x < 4294967296) (hn : n ≤ 1099511627776) :
    Calls Try.prog 45 #[.slice A n c, .int .u32 x] w fun e w' => ∃ A' n' c', e = .returned (.slice A' n' c') ∧ Own w' B A' n' c' (l ++ w4 x) ∧ Below B w w' := by
  have hlit := Byt.lit w #[.int .u8 ((x : Int) / 16777216), .int .u8 ((x : Int) / 65536 % 256), .int .u8 ((x : Int) / 256 % 256), .int .u8 ((x : Int) % 256)] (w4 x) (by simp [bvs, w4]; omega) (by rw [w4_length]; decide)
  rw [w4_length] at hlit
  have ho := h.alloc (.cells #[.int .u8 ((x : Int) / 16777216), .int .u8 ((x : Int) / 65536 % 256), .int .u8 ((x : Int) / 256 % 256), .int .u8 ((x : Int) % 256)] 5)
  have Hl := Lib.hid hlit
  clear h hlit
  go_enter Try.func45, Try.ntmps45
  go_wp2_with (at_builtin; refine wpList_byte_append rfl (.tmp 5) (.tmp 17) rfl B A n c l rfl ho (w.heap.size + 1) _ 4 4 (w4 x) rfl Hl.out (by omega) (by simp; omega) ?_; intro A2 c2 w2 hown2 hgr2 hat2)
  go_ret
  exact ⟨A2, _, c2, rfl, hown2, (((Below.refl _ _).alloc hB _)).grown hgr2 (by simp; omega) fun k hk => (World.ownsRow.lt ho k hk).1⟩

theorem rframe_long (w : World) (s : ByteArray) (hs : 1048576 < s.size) (hs2 : s.size ≤ maxLen) :
    Calls Try.prog 21 #[.string s] w fun e w' => e = .returned (.tuple #[.slice none 0 0, .int .i64 3]) ∧ w = w' := by
  unfold maxLen at hs2
  go_enter Try.func21, Try.ntmps21
  go_wp2
  go_ret2
  exact ⟨rfl, rfl⟩
theorem rframe_any (w : World) (s : ByteArray) (hs : s.size ≤ 1048576) :
    Calls Try.prog 21 #[.string s] w fun e w' => ∃ A n c, e = .returned (.tuple #[.slice A n c, .int .i64 0]) ∧ Own w' w.heap.size A n c (frame s.data.toList) ∧ Below w.heap.size w w' := by
  obtain ⟨i0, hi0, hz0, hz1, hz2⟩ := info_parts byte_info
  have Hz := Lib.hid (And.intro hi0 (And.intro hz0 (And.intro hz1 hz2)))
  have Hl : Hid (s.data.toList.length = s.size) := by unfold Hid; rfl
  have H1 := Lib.hid (word_any w w.heap.size 0 0 none [] s.size (World.ownsRow_nil _ _ _ _) (Nat.le_refl _) (by omega) (by omega))
  have hcl := chk_lt (body s.data.toList)
  clear hi0 hz0 hz1 hz2
  go_enter Try.func21, Try.ntmps21
  go_wp2_with fail
  refine H1.out.mono ?_
  rintro e w1 ⟨A1, n1, c1, rfl, hown1, hb1⟩
  have hn1 : n1 = 4 := by rw [← hown1.len]; rfl
  subst hn1
  have hsz1 := hb1.size
  go_wp2_with (at_builtin; refine Lib.wpList_append_own_string _ rfl (.tmp 11) (.tmp 12) 24 9 rfl w.heap.size 5 i0 Try.underlying24 Try.underlying9 Hz.out.1 Hz.out.2.1 Hz.out.2.2.1 Hz.out.2.2.2 _ 4 _ rfl hown1 s rfl (by unfold maxLen; omega) (by omega) (by omega) ?_; intro v2 w2 hown2 hgr2 _; obtain ⟨A2, c2, rfl⟩ := own_form hown2)
  have hb2 : Below w.heap.size w w2 := hb1.grown hgr2 (by omega) fun k hk => (World.ownsRow.lt hown1 k hk).1
  have ho2 : Own w2 w.heap.size A2 (4 + s.size) c2 (body s.data.toList) := by
    unfold Own body
    rw [bvs_append, ← strCells_bvs]
    exact hown2
  have hsz2 := hb2.size
  clear hown2 hgr2 hown1
  refine (rsum_any w2 w2.heap.size _ c2 A2 _ ho2.byt).mono ?_
  rintro e w3 ⟨rfl, rfl⟩
  have H2 := Lib.hid (word_any w2 w.heap.size (4 + s.size) c2 A2 _ (chk (body s.data.toList)) ho2 hsz2 hcl (by omega))
  generalize hk : chk (body s.data.toList) = k at *
  have Hk := Lib.hid hk
  clear hk
  go_wp2_with fail
  refine H2.out.mono ?_
  rintro e w4 ⟨A4, n4, c4, rfl, hown4, hb4⟩
  go_wp2
  go_ret2
  exact ⟨A4, n4, c4, rfl, by unfold frame; rw [Hk.out]; exact hown4, hb2.trans hb4⟩

/-! ### Unframe -/
theorem runframe_short (w : World) (A : Option Addr) (n c : Nat) (h : n < 4) :
    Calls Try.prog 23 #[.slice A n c] w fun e w' => e = .returned (.tuple #[.string ⟨#[]⟩, .int .i64 0, .int .i64 5]) ∧ ∃ q, w' = w.drewN q := by
  go_enter Try.func23, Try.ntmps23
  go_wp2
  go_ret3
  exact ⟨rfl, 0, rfl⟩
theorem runframe_big (w : World) (A : Option Addr) (n c : Nat) (l : List UInt8) (hb : Byt w w.heap.size A n c l) (h : 4 ≤ n) (h2 : 1048576 < sizeOfFrame l) :
    Calls Try.prog 23 #[.slice A n c] w fun e w' => e = .returned (.tuple #[.string ⟨#[]⟩, .int .i64 0, .int .i64 4]) ∧ ∃ q, w' = w.drewN q := by
  have hcap := hb.cap
  have hle := hb.le
  unfold maxLen at hcap
  have hs := sizeOfFrame_lt l
  have H := Lib.hid (told_any w _ n c A l hb h)
  have hk : Hid (be 0 (l.take 4) = sizeOfFrame l) := by unfold Hid; rfl
  generalize sizeOfFrame l = k at *
  clear hb
  go_enter Try.func23, Try.ntmps23
  go_wp2_with fail
  refine H.out.mono ?_
  rintro e w' ⟨rfl, q, rfl⟩
  rw [hk.out]
  go_wp2
  go_ret3
  exact ⟨rfl, q, rfl⟩
theorem runframe_more (w : World) (A : Option Addr) (n c : Nat) (l : List UInt8) (hb : Byt w w.heap.size A n c l) (h : 4 ≤ n) (h2 : sizeOfFrame l ≤ 1048576) (h3 : n < sizeOfFrame l + 8) :
    Calls Try.prog 23 #[.slice A n c] w fun e w' => e = .returned (.tuple #[.string ⟨#[]⟩, .int .i64 0, .int .i64 5]) ∧ ∃ q, w' = w.drewN q := by
  have hcap := hb.cap
  have hle := hb.le
  unfold maxLen at hcap
  have H := Lib.hid (told_any w _ n c A l hb h)
  have hk : Hid (be 0 (l.take 4) = sizeOfFrame l) := by unfold Hid; rfl
  generalize sizeOfFrame l = k at *
  clear hb
  have f1 : (n : Int) - 8 < k := by omega
  go_enter Try.func23, Try.ntmps23
  go_wp2_with fail
  refine H.out.mono ?_
  rintro e w' ⟨rfl, q, rfl⟩
  rw [hk.out]
  go_wp2
  go_ret3
  exact ⟨rfl, q, rfl⟩

theorem Byt.drewN {w : World} {B n c : Nat} {A : Option Addr} {l : List UInt8} (h : Byt w B A n c l) (q : Nat) : Byt (w.drewN q) B A n c l := h.keep fun _ _ => rfl

theorem quiet_more {P : Program} {f : FuncId} {args : Array Value} {w : World} {a k : Nat} {v : Value}
    (h : Calls P f args (w.drewN (a + k)) fun e w' => e = .returned v ∧ ∃ m, w' = (w.drewN (a + k)).drewN m) :
    Calls P f args (w.drewN (a + k)) fun e w'' => e = .returned v ∧ ∃ m, w'' = w.drewN (a + m) :=
  h.mono fun _ _ ⟨he, m, hm⟩ => ⟨he, k + m, by rw [hm, World.drewN_drewN, Nat.add_assoc]⟩
theorem quiet_stay {P : Program} {f : FuncId} {args : Array Value} {w : World} {a k : Nat} {v : Value}
    (h : Calls P f args (w.drewN (a + k)) fun e w' => e = .returned v ∧ w.drewN (a + k) = w') :
    Calls P f args (w.drewN (a + k)) fun e w'' => e = .returned v ∧ ∃ m, w'' = w.drewN (a + m) :=
  h.mono fun _ _ ⟨he, hm⟩ => ⟨he, k, hm.symm⟩

set_option maxHeartbeats 1600000 in
theorem runframe_walk (eqv : Bool) (w : World) (b o n c k m s t : Nat) (l p2 p3 p4 : List UInt8) (hcap : c ≤ 9223372036854775807) (hle : n ≤ c) (hm1 : 4 + (k : Int) ≤ m) (hm2 : (m : Int) ≤ 4 + k) (h2 : k ≤ 1048576) (h3 : m + 4 ≤ n)
    (hp : Byt w w.heap.size (some ⟨b, o, none⟩) n c l) (q1 : Byt w w.heap.size (some ⟨b, o, none⟩) m c p2) (q2 : Byt w w.heap.size (some ⟨b, o + m, none⟩) (n - m) (c - m) p3) (q3 : Byt w w.heap.size (some ⟨b, o + 4, none⟩) (m - 4) (c - 4) p4)
    (hk : be 0 (l.take 4) = k) (hs : chk p2 = s) (ht : be 0 (p3.take 4) = t) (hk1 : s < 4294967296) (hk2 : t < 4294967296) (he : ((t : Int) == (s : Int)) = eqv) (he2 : ((t : Int) != (s : Int)) = !eqv) :
    Calls Try.prog 23 #[.slice (some ⟨b, o, none⟩) n c] w fun e w' => e = .returned (if eqv then .tuple #[.string ⟨p4.toArray⟩, .int .i64 ((m : Int) + 4), .int .i64 0] else .tuple #[.string ⟨#[]⟩, .int .i64 0, .int .i64 4]) ∧ ∃ q, w' = w.drewN q := by
  have hcs : ∀ q : Nat, (convert 24 9 (.slice (some ⟨b, o + 4, none⟩) (m - 4) (c - 4))).run Try.prog (w.drewN q) = .ok (.string ⟨p4.toArray⟩) (w.drewN q) := fun q => run_string_of_bytes (q3.drewN q)
  have Hcs := Lib.hid hcs
  have hfirst := told_any w _ n c _ l hp (by omega)
  have hsum := fun q : Nat => (rsum_any (w.drewN q) w.heap.size m c _ p2 (q1.drewN q))
  have htold := fun q : Nat => (told_any (w.drewN q) w.heap.size (n - m) (c - m) _ p3 (q2.drewN q) (by omega))
  rw [hk] at hfirst
  rw [hs] at hsum
  rw [ht] at htold
  have Hf := Lib.hid hfirst
  have Hs := Lib.hid hsum
  have Ht := Lib.hid htold
  have Hm : Hid ((4 : Int) + k = m) := by unfold Hid; omega
  have He := Lib.hid he
  have He2 := Lib.hid he2
  have f1 : ¬ c = m := by omega
  have f2 : (m : Int) ≤ n := by omega
  have f3 : (m : Int) ≤ c := by omega
  have f6 : ¬ c = 4 := by omega
  have f7 : 4 ≤ m := by omega
  have f8 : ¬ ((n : Int) - 8 < k) := by omega
  clear hcs q1 q2 q3 hk hs ht he he2 hp hfirst hsum htold
  go_enter Try.func23, Try.ntmps23
  go_wp2_with fail
  refine Hf.out.mono ?_
  rintro e w' ⟨rfl, q, rfl⟩
  go_upto_region 9 with fail
  rw [Hm.out]
  have b1 := He.out
  have b2 := He2.out
  go_quiet ((first
    | (go_at_call 25; exact quiet_stay (Hs.out _))
    | (go_at_call 47; exact quiet_more (Ht.out _))))
  clear b1 b2
  cases eqv
  · go_wp2
    go_ret3
    exact ⟨rfl, _, rfl⟩
  · have hrun := Hcs.out (q + nq)
    go_wp2
    go_ret3
    exact ⟨rfl, _, rfl⟩

theorem runframe_any (w : World) (B : Nat) (A : Option Addr) (n c : Nat) (l : List UInt8) (hb : Byt w B A n c l) (hB : B ≤ w.heap.size) :
    Calls Try.prog 23 #[.slice A n c] w fun e w' => e = .returned (unfrV (unfr l)) ∧ ∃ q, w' = w.drewN q := by
  replace hb := hb.more hB
  have hl := hb.len
  unfold unfr
  by_cases h4 : l.length < 4
  · rw [if_pos h4]
    exact runframe_short w A n c (by omega)
  rw [if_neg h4]
  by_cases h5 : 1048576 < sizeOfFrame l
  · rw [if_pos h5]
    exact runframe_big w A n c l hb (by omega) h5
  rw [if_neg h5]
  by_cases h6 : l.length < sizeOfFrame l + 8
  · rw [if_pos h6]
    exact runframe_more w A n c l hb (by omega) (by omega) (by omega)
  rw [if_neg h6]
  have hcap := hb.cap
  have hle := hb.le
  unfold maxLen at hcap
  have q1 := hb.upto (hi := 4 + sizeOfFrame l) (by omega)
  have q2 := hb.tail (lo := 4 + sizeOfFrame l) (by omega)
  have q3 := hb.cut (lo := 4) (hi := 4 + sizeOfFrame l) (by omega) (by omega)
  rw [if_neg (by omega)] at q2 q3
  obtain ⟨b, o, rfl, hlt, hc⟩ := hb.lies (by omega)
  simp only [Option.map_some, add_plain] at q2 q3
  have hk1 := chk_lt (l.take (4 + sizeOfFrame l))
  have ht : be 0 ((l.drop (4 + sizeOfFrame l)).take 4) = toldSum l := by
    unfold toldSum
    rw [List.drop_take, show 4 + sizeOfFrame l + 4 - (4 + sizeOfFrame l) = 4 by omega]
  have hk2 : toldSum l < 4294967296 := be_lt 0 (by decide) _
  by_cases heq : chk (l.take (4 + sizeOfFrame l)) = toldSum l
  · rw [if_pos heq]
    refine (runframe_walk true w b o n c (sizeOfFrame l) (4 + sizeOfFrame l) _ (toldSum l) l _ _ _ (by omega) hle (by omega) (by omega) (by omega) (by omega) hb q1 q2 q3 rfl rfl ht hk1 hk2 ?_ ?_).mono ?_
    · change ((toldSum l : Int) == (chk (l.take (4 + sizeOfFrame l)) : Int)) = true
      simp
      omega
    · change ((toldSum l : Int) != (chk (l.take (4 + sizeOfFrame l)) : Int)) = false
      simp
      omega
    rintro e w' ⟨rfl, hbw⟩
    exact ⟨by simp [unfrV], hbw⟩
  · rw [if_neg heq]
    refine (runframe_walk false w b o n c (sizeOfFrame l) (4 + sizeOfFrame l) _ (toldSum l) l _ _ _ (by omega) hle (by omega) (by omega) (by omega) (by omega) hb q1 q2 q3 rfl rfl ht hk1 hk2 ?_ ?_).mono ?_
    · change ((toldSum l : Int) == (chk (l.take (4 + sizeOfFrame l)) : Int)) = false
      simp
      omega
    · change ((toldSum l : Int) != (chk (l.take (4 + sizeOfFrame l)) : Int)) = true
      simp
      omega
    rintro e w' ⟨rfl, hbw⟩
    exact ⟨rfl, hbw⟩
end Go.Proofs.Ytpgjnmakpghamaa
