/- Walks of package wire's functions that call no others: the halves of checksums, words of four bytes, groups of seven bits, Reverse. -/
import Derived.Test.YtiikjdjpodmpcaaGreatMem
import Derived.Test.YtiikjdjpodmpcaaGreatWiPure
import Derived.BigQuiet
import Derived.Deep.QuietTactic
namespace Go.Proofs.YtiikjdjpodmpcaaGreat
open Go.RowKit

theorem ret_num {k : IntKind} {a b : Int} (h : a = b) : Ending.returned (.int k a) = .returned (.int k b) := by rw [h]

theorem or_add (a b : Nat) (k : Nat) (h : b < 2 ^ k) : (a * 2 ^ k) ||| b = a * 2 ^ k + b := by
  rw [Nat.mul_comm]
  exact (Nat.two_pow_add_eq_or_of_lt h a).symm
theorem or_shift (hi lo : Int) (h1 : 0 ≤ lo) (h2 : lo < 65536) (h3 : 0 ≤ hi) (h4 : hi < 281474976710656) : bits .or .u64 (hi * 65536) lo = hi * 65536 + lo := by
  obtain ⟨lo, rfl⟩ := Int.eq_ofNat_of_zero_le h1
  obtain ⟨hi, rfl⟩ := Int.eq_ofNat_of_zero_le h3
  have e : ((hi : Int) * 65536) = ((hi * 2 ^ 16 : Nat) : Int) := by omega
  rw [e, u64_or_nat _ _ (by omega) (by omega), or_add _ _ _ (by omega)]
  omega
theorem or_byte (x b : Nat) (h2 : b < 256) : bits .or .u32 ((x : Int) * 256 % 4294967296) (b : Int) = ((x * 256 % 4294967296 + b : Nat) : Int) := by
  have e : ((x : Int) * 256 % 4294967296) = ((x % 16777216 * 2 ^ 8 : Nat) : Int) := by omega
  rw [e, u32_or_nat _ _ (by omega) (by omega), or_add _ _ _ (by omega)]
  omega
theorem and_low (x : Nat) (h : x < 4294967296) : bits .and .u32 (x : Int) 65535 = ((x % 65536 : Nat) : Int) := by
  have := u32_and_nat x 65535 h (by decide)
  rw [show ((65535 : Nat) : Int) = 65535 from rfl] at this
  rw [this, show (65535 : Nat) = 2 ^ 16 - 1 by decide, Nat.and_two_pow_sub_one_eq_mod]

theorem checksum_any (lo hi : Int) (w : World) (h1 : 0 ≤ lo) (h2 : lo < 65521) (h3 : 0 ≤ hi) (h4 : hi < 65521) :
    Calls Tryz.prog 114 #[.int .u64 lo, .int .u64 hi] w fun e w' => e = .returned (.int .u32 (hi * 65536 + lo)) ∧ w = w' := by
  have hb := or_shift hi lo h1 (by omega) h3 (by omega)
  go_enter Tryz.func114, Tryz.ntmps114
  go_wp2
  go_ret
  exact ⟨ret_num (by omega), rfl⟩

theorem bigEndian_any (x : Nat) (w : World) (h2 : x < 4294967296) :
    Calls Tryz.prog 99 #[.int .u32 x] w fun e w' => e = .returned (.slice (some ⟨w.heap.size, 0, none⟩) 4 4) ∧ Own w' w.heap.size (some ⟨w.heap.size, 0, none⟩) 4 4 (w4 x) ∧ Below w.heap.size w w' ∧ w'.heap.size = w.heap.size + 1 := by
  go_enter Tryz.func99, Tryz.ntmps99
  go_wp2
  go_ret
  refine ⟨rfl, Own.lit w _ (w4 x) ?_ (by rw [w4_length]; decide), (Below.refl _ _).alloc (Nat.le_refl _) _, by simp⟩
  simp [bvs, w4]
  omega

theorem fromBigEndian_any (w : World) (B : Nat) (A : Option Addr) (n c : Nat) (l : List UInt8) (h : Byt w B A n c l) :
    Calls Tryz.prog 70 #[.slice A n c] w fun e w' => e = .returned (.int .u32 (be 0 l : Nat)) ∧ w = w' := by
  have hcap := h.cap
  have hle := h.le
  have hlen := h.len
  unfold maxLen at hcap
  go_enter Tryz.func70, Tryz.ntmps70
  go_wp2
  go_loop [3, 8] (fun x i => ∃ k : Nat, k ≤ n ∧ i = .int .i64 k ∧ x = .int .u32 (be 0 (l.take k) : Nat)) (fun _ i => n - (intOf i).toNat)
  case atStart => exact ⟨0, Nat.zero_le _, rfl, rfl⟩
  case round =>
    obtain ⟨k, hk, rfl, rfl⟩ := hrel
    by_cases hlt : k < n
    · obtain ⟨b, o, rfl, _, hc⟩ := h.lies (by omega)
      have hck := hc k hlt
      have hb0 := nth_lo l k
      have hb1 := nth_hi l k
      have hx := be_lt 0 (by decide) (l.take k)
      have hkl : k < l.length := by omega
      have hor := or_byte (be 0 (l.take k)) l[k].toNat (UInt8.toNat_lt _)
      rw [← nth_eq l k hkl] at hor
      have HS : Hid (((be 0 (l.take k) * 256 % 4294967296 + l[k].toNat : Nat) : Int) = ((be 0 (l.take (k + 1)) : Nat) : Int)) := by
        unfold Hid
        rw [take_snoc' l k hkl, be_snoc]
      clear hc hlen h
      go_wp2
      go_round
      case rel => exact ⟨k + 1, by omega, by go_num, by rw [← HS.out]; go_num⟩
      case measure => simp [intOf]; omega
    · go_wp2
      go_ret
      exact ⟨by rw [List.take_of_length_le (by omega)]; rfl, rfl⟩

/-! ### Groups of seven bits -/
theorem Own.alloc {w : World} {B n c : Nat} {A : Option Addr} {l : List UInt8} (h : Own w B A n c l) (o : Obj) : Own (w.alloc o) B A n c l := World.ownsRow.alloc h o
/-- A row laid by a literal reads as its bytes. -/
theorem Byt.lit (w : World) (cs : Array Value) (l : List UInt8) (h : cs.toList = bvs l) (hm : l.length ≤ maxLen) : Byt (w.alloc (.cells cs 5)) (w.heap.size + 1) (some ⟨w.heap.size, 0, none⟩) l.length l.length l := by
  have := (Own.lit w cs l h hm).byt
  simpa using this
theorem own_lo {w w' : World} {B n c n' c' : Nat} {A A' : Option Addr} {l : List UInt8} (h : Own w B A n c l)
    (hat : (Value.slice A' n' c').ownBlock = (Value.slice A n c).ownBlock ∨ (Value.slice A' n' c').ownBlock = some w'.heap.size) (hB : B ≤ w'.heap.size) :
    ∀ k, (Value.slice A' n' c').ownBlock = some k → B ≤ k := by
  intro k hk
  rcases hat with e | e
  · rw [e] at hk
    exact (World.ownsRow.lt h k hk).1
  · rw [e] at hk
    injection hk with hk
    omega

/-- What a round of 'groups' finds: l has the groups so far, and f more may come. -/
def GRel (w wr : World) (x0 x1 : Nat) (A : Option Addr) (n c : Nat) : Prop :=
  ∃ (f : Nat) (l : List UInt8), Own wr w.heap.size A n c l ∧ Below w.heap.size w wr ∧ l ++ grp f x1 = UInt8.ofNat (x0 % 128) :: grp 9 (x0 / 128) ∧ x1 < 128 ^ f ∧ n + f ≤ 10
theorem GRel.start (w : World) (x0 : Nat) (h : x0 < 18446744073709551616) :
    GRel w (w.alloc (.cells #[.int .u8 ((x0 : Int) % 128)] 5)) x0 (x0 / 128) (some ⟨w.heap.size, 0, none⟩) 1 1 := by
  refine ⟨9, [UInt8.ofNat (x0 % 128)], Own.lit w _ [UInt8.ofNat (x0 % 128)] ?_ (by simp [maxLen]), (Below.refl _ _).alloc (Nat.le_refl _) _, rfl, by omega, by omega⟩
  simp [bvs]
  omega
theorem GRel.size {w wr : World} {x0 x1 : Nat} {A : Option Addr} {n c : Nat} (h : GRel w wr x0 x1 A n c) : w.heap.size ≤ wr.heap.size := by
  obtain ⟨f, l, _, hb, _⟩ := h
  exact hb.size
theorem GRel.step {w wr : World} {x0 x1 : Nat} {A : Option Addr} {n c : Nat} (h : GRel w wr x0 x1 A n c) (hx : 0 < x1) :
    ∃ l, Own (wr.alloc (.cells #[.int .u8 (128 + (x1 : Int) % 128)] 5)) w.heap.size A n c l ∧ n ≤ 10 ∧
      Byt (wr.alloc (.cells #[.int .u8 (128 + (x1 : Int) % 128)] 5)) (wr.heap.size + 1) (some ⟨wr.heap.size, 0, none⟩) 1 1 [UInt8.ofNat (128 + x1 % 128)] ∧
      ∀ (A' : Option Addr) (c' : Nat) (w' : World), Own w' w.heap.size A' (n + 1) c' (l ++ [UInt8.ofNat (128 + x1 % 128)]) →
        (wr.alloc (.cells #[.int .u8 (128 + (x1 : Int) % 128)] 5)).grownBy w' (Value.slice A n c).ownBlock → GRel w w' x0 (x1 / 128) A' (n + 1) c' := by
  obtain ⟨f, l, ho, hb, he, hp, hf⟩ := h
  obtain ⟨f, rfl⟩ : ∃ g, f = g + 1 := by
    cases f with
    | zero => simp at hp; omega
    | succ g => exact ⟨g, rfl⟩
  refine ⟨l, ho.alloc _, by omega, Byt.lit wr _ [UInt8.ofNat (128 + x1 % 128)] ?_ (by simp [maxLen]), fun A' c' w' h1 h2 => ⟨f, _, h1, ?_, ?_, ?_, by omega⟩⟩
  · simp [bvs]
    omega
  · exact (hb.alloc hb.size _).grown h2 (by simp; have := hb.size; omega) fun k hk => (World.ownsRow.lt ho k hk).1
  · rw [grp_succ f x1 hx] at he
    rw [List.append_assoc]
    exact he
  · rw [Nat.pow_succ] at hp
    exact Nat.div_lt_of_lt_mul (by omega)

/-! ### slices.Reverse at []byte, over a row of the call's own -/
def RRel (w wr : World) (B : Nat) (A : Option Addr) (n c : Nat) (l : List UInt8) (i : Nat) : Prop :=
  ∃ lk : List UInt8, Own wr B A n c lk ∧ w.grownBy wr (Value.slice A n c).ownBlock ∧ ∀ p, p < n → nth lk p = if p < i ∨ n ≤ p + i then nth l (n - 1 - p) else nth l p
theorem RRel.start {w : World} {B n c : Nat} {A : Option Addr} {l : List UInt8} (h : Own w B A n c l) : RRel w w B A n c l 0 :=
  ⟨l, h, World.grownBy.refl w _, fun p hp => by rw [if_neg (by omega)]⟩
theorem nth_reverse (l : List UInt8) (p : Nat) (h : p < l.length) : nth l.reverse p = nth l (l.length - 1 - p) := by
  simp [nth, List.getD, List.getElem?_reverse h]
theorem ext_nth {l m : List UInt8} (hl : l.length = m.length) (h : ∀ p, p < l.length → nth l p = nth m p) : l = m := by
  refine List.ext_getElem hl fun p h1 h2 => ?_
  have := h p h1
  rw [nth_eq l p h1, nth_eq m p h2] at this
  exact UInt8.toNat_inj.1 (by omega)
theorem RRel.stop {w wr : World} {B n c i : Nat} {A : Option Addr} {l : List UInt8} (hl : l.length = n) (h : RRel w wr B A n c l i) (hi : n ≤ 2 * i + 1) : Own wr B A n c l.reverse ∧ w.grownBy wr (Value.slice A n c).ownBlock := by
  obtain ⟨lk, ho, hg, hp⟩ := h
  have hk := ho.len
  obtain rfl : lk = l.reverse := ext_nth (by simp; omega) fun p h1 => by
    rw [nth_reverse l p (by omega), hp p (by omega), hl]
    split
    · rfl
    · congr 1
      omega
  exact ⟨ho, hg⟩
theorem bvs_set (l : List UInt8) (j : Nat) (b : UInt8) : (bvs l).set j (.int .u8 (b.toNat : Int)) = bvs (l.set j b) := by simp [bvs, List.map_set]
theorem RRel.cells {w wr : World} {B n c i : Nat} {A : Option Addr} {l : List UInt8} (h : RRel w wr B A n c l i) (hi : 2 * i + 1 < n) :
    ∃ (g : Nat) (x y : UInt8), A = some ⟨g, 0, none⟩ ∧ wr.cell? ⟨g, i, none⟩ = some (.int .u8 (x.toNat : Int)) ∧ wr.cell? ⟨g, n - 1 - i, none⟩ = some (.int .u8 (y.toNat : Int)) ∧ wr.frozen? ⟨g, i, none⟩ = false ∧ wr.frozen? ⟨g, n - 1 - i, none⟩ = false ∧
      ∀ w' : World, w'.heap = ((wr.setCell ⟨g, i, none⟩ (.int .u8 (y.toNat : Int))).setCell ⟨g, n - 1 - i, none⟩ (.int .u8 (x.toNat : Int))).heap → w'.os = wr.os → w'.tape = wr.tape → w'.output = wr.output → RRel w w' B A n c l (i + 1) := by
  obtain ⟨lk, ho, hg, hp⟩ := h
  have hk := ho.len
  obtain ⟨g, rfl, hB, hlt⟩ := ho.block (by omega)
  have ho' : wr.ownsRow B 5 1 (.slice (some ⟨g, 0, none⟩) n c) n (bvs lk) := ho
  have c1 := ho'.cellAt i (by omega)
  have c2 := ho'.cellAt (n - 1 - i) (by omega)
  refine ⟨g, lk[i]'(by omega), lk[n - 1 - i]'(by omega), rfl, ?_, ?_, ho'.frozenAt i, ho'.frozenAt _, fun w' hh h1 h2 h3 => ?_⟩
  · rw [c1]; simp [bvs, show i < lk.length by omega]
  · rw [c2]; simp [bvs, show n - 1 - i < lk.length by omega]
  · have s1 := ho'.stored i (.int .u8 ((lk[n - 1 - i]'(by omega)).toNat : Int))
    have s2 := s1.1.stored (n - 1 - i) (.int .u8 ((lk[i]'(by omega)).toNat : Int))
    rw [bvs_set, bvs_set] at s2
    have g2 := (hg.trans s1.2).trans s2.2
    refine ⟨_, ⟨s2.1.1, ?_⟩, ⟨h1.trans hg.os, h2.trans hg.tape, h3.trans hg.output, by rw [hh]; exact g2.size, fun k hk hne => by rw [hh]; exact g2.block k hk hne⟩, fun p hpn => ?_⟩
    · rw [hh]
      exact s2.1.2
    · have e1 := hp i (by omega)
      have e2 := hp (n - 1 - i) (by omega)
      have e3 := hp p hpn
      rw [if_neg (by omega)] at e1 e2
      rw [nth_eq _ _ (by simp; omega), List.getElem_set]
      split
      · next h => subst h; rw [if_pos (by omega), ← nth_eq, e1]; congr 1; omega
      · rw [List.getElem_set]
        split
        · next h => subst h; rw [if_pos (by omega), ← nth_eq, e2]
        · rw [← nth_eq, e3]
          by_cases hc : p < i ∨ n ≤ p + i
          · rw [if_pos hc, if_pos (by omega)]
          · rw [if_neg hc, if_neg (by omega)]

end Go.Proofs.YtiikjdjpodmpcaaGreat
