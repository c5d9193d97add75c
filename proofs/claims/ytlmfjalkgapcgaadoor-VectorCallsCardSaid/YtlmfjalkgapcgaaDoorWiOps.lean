/- Walks of package wire's functions that call no others: the halves of checksums, words of four bytes, groups of seven bits, Reverse. -/
import Derived.Test.YtlmfjalkgapcgaaDoorMem
import Derived.Test.YtlmfjalkgapcgaaDoorWiPure
import Derived.BigQuiet
import Derived.Deep.QuietTactic
namespace Go.Proofs.YtlmfjalkgapcgaaDoor
open Go.RowKit

theorem ret_num {k : IntKind} {a b : Int} (h : a = b) : Ending.returned (.int k a) = .returned (.int k b) := by rw [h]

theorem or_add (a b : Nat) (k : Nat) (h : b < 2 ^ k) : (a * 2 ^ k) ||| b = a * 2 ^ k + b := by
  rw [Nat.mul_comm]
  exact (Nat.two_pow_add_eq_or_of_lt h a).symm
theorem or_shift (hi lo : Int) (h1 : 0 ≤ lo) (h2 : lo < 65536) (h3 : 0 ≤ hi) (h4 : hi < 281474976710656) : bits .or .u64 (hi * 65536) lo = hi * 65536 + lo := by
  obtain ⟨lo, rfl⟩ := Int.eq_ofNat_of_zero_le h1
  obtain ⟨hi, rfl⟩ := Int.eq_ofNat_of_zero_le h3
  have e : ((hi : Int) * 65536) = ((hi * 2 ^ 16 : Nat) : Int) := by omega
  rw [e, u64_or_nat _ _ (by omega) (by omega), or_add _ _ _ (by omega)]
  omega
theorem or_byte (x b : Nat) (h2 : b < 256) : bits .or .u32 ((x : Int) * 256 % 4294967296) (b : Int) = ((x * 256 % 4294967296 + b : Nat) : Int) := by
  have e : ((x : Int) * 256 % 4294967296) = ((x % 16777216 * 2 ^ 8 : Nat) : Int) := by omega
  rw [e, u32_or_nat _ _ (by omega) (by omega), or_add _ _ _ (by omega)]
  omega
theorem and_low (x : Nat) (h : x < 4294967296) : bits .and .u32 (x : Int) 65535 = ((x % 65536 : Nat) : Int) := by
  have := u32_and_nat x 65535 h (by decide)
  rw [show ((65535 : Nat) : Int) = 65535 from rfl] at this
  rw [this, show (65535 : Nat) = 2 ^ 16 - 1 by decide, Nat.and_two_pow_sub_one_eq_mod]

/-! ### Groups of seven bits -/
theorem Own.alloc {w : World} {B n c : Nat} {A : Option Addr} {l : List UInt8} (h : Own w B A n c l) (o : Obj) : Own (w.alloc o) B A n c l := World.ownsRow.alloc h o
/-- A row laid by a literal reads as its bytes. -/
theorem Byt.lit (w : World) (cs : Array Value) (l : List UInt8) (h : cs.toList = bvs l) (hm : l.length ≤ maxLen) : Byt (w.alloc (.cells cs 5)) (w.heap.size + 1) (some ⟨w.heap.size, 0, none⟩) l.length l.length l := by
  have := (Own.lit w cs l h hm).byt
  simpa using this
theorem own_lo {w w' : World} {B n c n' c' : Nat} {A A' : Option Addr} {l : List UInt8} (h : Own w B A n c l)
    (hat : (Value.slice A' n' c').ownBlock = (Value.slice A n c).ownBlock ∨ (Value.slice A' n' c').ownBlock = some w'.heap.size) (hB : B ≤ w'.heap.size) :
    ∀ k, (Value.slice A' n' c').ownBlock = some k → B ≤ k := by
  intro k hk
  rcases hat with e | e
  · rw [e] at hk
    exact (World.ownsRow.lt h k hk).1
  · rw [e] at hk
    injection hk with hk
    omega

/-- What a round of 'groups' finds: l has the groups so far, and f more may come. -/
def GRel (w wr : World) (x0 x1 : Nat) (A : Option Addr) (n c : Nat) : Prop :=
  ∃ (f : Nat) (l : List UInt8), Own wr w.heap.size A n c l ∧ Below w.heap.size w wr ∧ l ++ grp f x1 = UInt8.ofNat (x0 % 128) :: grp 9 (x0 / 128) ∧ x1 < 128 ^ f ∧ n + f ≤ 10
theorem GRel.start (w : World) (x0 : Nat) (h : x0 < 18446744073709551616) :
    GRel w (w.alloc (.cells #[.int .u8 ((x0 : Int) % 128)] 5)) x0 (x0 / 128) (some ⟨w.heap.size, 0, none⟩) 1 1 := by
  refine ⟨9, [UInt8.ofNat (x0 % 128)], Own.lit w _ [UInt8.ofNat (x0 % 128)] ?_ (by simp [maxLen]), (Below.refl _ _).alloc (Nat.le_refl _) _, rfl, by omega, by omega⟩
  simp [bvs]
  omega
theorem GRel.size {w wr : World} {x0 x1 : Nat} {A : Option Addr} {n c : Nat} (h : GRel w wr x0 x1 A n c) : w.heap.size ≤ wr.heap.size := by
  obtain ⟨f, l, _, hb, _⟩ := h
  exact hb.size
theorem GRel.step {w wr : World} {x0 x1 : Nat} {A : Option Addr} {n c : Nat} (h : GRel w wr x0 x1 A n c) (hx : 0 < x1) :
    ∃ l, Own (wr.alloc (.cells #[.int .u8 (128 + (x1 : Int) % 128)] 5)) w.heap.size A n c l ∧ n ≤ 10 ∧
      Byt (wr.alloc (.cells #[.int .u8 (128 + (x1 : Int) % 128)] 5)) (wr.heap.size + 1) (some ⟨wr.heap.size, 0, none⟩) 1 1 [UInt8.ofNat (128 + x1 % 128)] ∧
      ∀ (A' : Option Addr) (c' : Nat) (w' : World), Own w' w.heap.size A' (n + 1) c' (l ++ [UInt8.ofNat (128 + x1 % 128)]) →
        (wr.alloc (.cells #[.int .u8 (128 + (x1 : Int) % 128)] 5)).grownBy w' (Value.slice A n c).ownBlock → GRel w w' x0 (x1 / 128) A' (n + 1) c' := by
  obtain ⟨f, l, ho, hb, he, hp, hf⟩ := h
  obtain ⟨f, rfl⟩ : ∃ g, f = g + 1 := by
    cases f with
    | zero => simp at hp; omega
    | succ g => exact ⟨g, rfl⟩
  refine ⟨l, ho.alloc _, by omega, Byt.lit wr _ [UInt8.ofNat (128 + x1 % 128)] ?_ (by simp [maxLen]), fun A' c' w' h1 h2 => ⟨f, _, h1, ?_, ?_, ?_, by omega⟩⟩
  · simp [bvs]
    omega
  · exact (hb.alloc hb.size _).grown h2 (by simp; have := hb.size; omega) fun k hk => (World.ownsRow.lt ho k hk).1
  · rw [grp_succ f x1 hx] at he
    rw [List.append_assoc]
    exact he
  · rw [Nat.pow_succ] at hp
    exact Nat.div_lt_of_lt_mul (by omega)

/-! ### slices.Reverse at []byte, over a row of the call's own -/
def RRel (w wr : World) (B : Nat) (A : Option Addr) (n c : Nat) (l : List UInt8) (i : Nat) : Prop :=
  ∃ lk : List UInt8, Own wr B A n c lk ∧ w.grownBy wr (Value.slice A n c).ownBlock ∧ ∀ p, p < n → nth lk p = if p < i ∨ n ≤ p + i then nth l (n - 1 - p) else nth l p
theorem RRel.start {w : World} {B n c : Nat} {A : Option Addr} {l : List UInt8} (h : Own w B A n c l) : RRel w w B A n c l 0 :=
  ⟨l, h, World.grownBy.refl w _, fun p hp => by rw [if_neg (by omega)]⟩
theorem nth_reverse (l : List UInt8) (p : Nat) (h : p < l.length) : nth l.reverse p = nth l (l.length - 1 - p) := by
  simp [nth, List.getD, List.getElem?_reverse h]
theorem ext_nth {l m : List UInt8} (hl : l.length = m.length) (h : ∀ p, p < l.length → nth l p = nth m p) : l = m := by
  refine List.ext_getElem hl fun p h1 h2 => ?_
  have := h p h1
  rw [nth_eq l p h1, nth_eq m p h2] at this
  exact UInt8.toNat_inj.1 (by omega)
theorem RRel.stop {w wr : World} {B n c i : Nat} {A : Option Addr} {l : List UInt8} (hl : l.length = n) (h : RRel w wr B A n c l i) (hi : n ≤ 2 * i + 1) : Own wr B A n c l.reverse ∧ w.grownBy wr (Value.slice A n c).ownBlock := by
  obtain ⟨lk, ho, hg, hp⟩ := h
  have hk := ho.len
  obtain rfl : lk = l.reverse := ext_nth (by simp; omega) fun p h1 => by
    rw [nth_reverse l p (by omega), hp p (by omega), hl]
    split
    · rfl
    · congr 1
      omega
  exact ⟨ho, hg⟩
theorem bvs_set (l : List UInt8) (j : Nat) (b : UInt8) : (bvs l).set j (.int .u8 (b.toNat : Int)) = bvs (l.set j b) := by simp [bvs, List.map_set]
theorem RRel.cells {w wr : World} {B n c i : Nat} {A : Option Addr} {l : List UInt8} (h : RRel w wr B A n c l i) (hi : 2 * i + 1 < n) :
    ∃ (g : Nat) (x y : UInt8), A = some ⟨g, 0, none⟩ ∧ wr.cell? ⟨g, i, none⟩ = some (.int .u8 (x.toNat : Int)) ∧ wr.cell? ⟨g, n - 1 - i, none⟩ = some (.int .u8 (y.toNat : Int)) ∧ wr.frozen? ⟨g, i, none⟩ = false ∧ wr.frozen? ⟨g, n - 1 - i, none⟩ = false ∧
      ∀ w' : World, w'.heap = ((wr.setCell ⟨g, i, none⟩ (.int .u8 (y.toNat : Int))).setCell ⟨g, n - 1 - i, none⟩ (.int .u8 (x.toNat : Int))).heap → w'.os = wr.os → w'.tape = wr.tape → w'.output = wr.output → RRel w w' B A n c l (i + 1) := by
  obtain ⟨lk, ho, hg, hp⟩ := h
  have hk := ho.len
  obtain ⟨g, rfl, hB, hlt⟩ := ho.block (by omega)
  have ho' : wr.ownsRow B 5 1 (.slice (some ⟨g, 0, none⟩) n c) n (bvs lk) := ho
  have c1 := ho'.cellAt i (by omega)
  have c2 := ho'.cellAt (n - 1 - i) (by omega)
  refine ⟨g, lk[i]'(by omega), lk[n - 1 - i]'(by omega), rfl, ?_, ?_, ho'.frozenAt i, ho'.frozenAt _, fun w' hh h1 h2 h3 => ?_⟩
  · rw [c1]; simp [bvs, show i < lk.length by omega]
  · rw [c2]; simp [bvs, show n - 1 - i < lk.length by omega]
  · have s1 := ho'.stored i (.int .u8 ((lk[n - 1 - i]'(by omega)).toNat : Int))
    have s2 := s1.1.stored (n - 1 - i) (.int .u8 ((lk[i]'(by omega)).toNat : Int))
    rw [bvs_set, bvs_set] at s2
    have g2 := (hg.trans s1.2).trans s2.2
    refine ⟨_, ⟨s2.1.1, ?_⟩, ⟨h1.trans hg.os, h2.trans hg.tape, h3.trans hg.output, by rw [hh]; exact g2.size, fun k hk hne => by rw [hh]; exact g2.block k hk hne⟩, fun p hpn => ?_⟩
    · rw [hh]
      exact s2.1.2
    · have e1 := hp i (by omega)
      have e2 := hp (n - 1 - i) (by omega)
      have e3 := hp p hpn
      rw [if_neg (by omega)] at e1 e2
      rw [nth_eq _ _ (by simp; omega), List.getElem_set]
      split
      · next h => subst h; rw [if_pos (by omega), ← nth_eq, e1]; congr 1; omega
      · rw [List.getElem_set]
        split
        · next h => subst h; rw [if_pos (by omega), ← nth_eq, e2]
        · rw [← nth_eq, e3]
          by_cases hc : p < i ∨ n ≤ p + i
          · rw [if_pos hc, if_pos (by omega)]
          · rw [if_neg hc, if_neg (by omega)]

theorem reverse_any (w : World) (B n c : Nat) (A : Option Addr) (l : List UInt8) (h : Own w B A n c l) (hn : n ≤ 9223372036854775807) :
    Calls Tryd.prog 76 #[.slice A n c] w fun e w' => e = .returned (.tuple #[]) ∧ Own w' B A n c l.reverse ∧ w.grownBy w' (Value.slice A n c).ownBlock := by
  have hl := Lib.hid h.len
  have h0 := RRel.start h
  clear h
  go_enter Tryd.func76, Tryd.ntmps76
  go_wp2
  go_loopw [2, 3] (fun x y wr => ∃ (i : Nat) (j : Int), x = .int .i64 i ∧ y = .int .i64 j ∧ i ≤ n ∧ j ≤ (n : Int) - 1 - i ∧ (n : Int) - 1 - i ≤ j ∧ RRel w wr B A n c l i) (fun x _ _ => n - (intOf x).toNat)
  case atStart => exact ⟨0, (n : Int) - 1, rfl, rfl, by omega, by omega, by omega, h0⟩
  case round =>
    obtain ⟨i, j, rfl, rfl, hi, hj1, hj2, hrel⟩ := hrel
    by_cases hij : (i : Int) < j
    · obtain ⟨g, x, y, rfl, c1, c2, f1, f2, hs⟩ := hrel.cells (by omega)
      obtain ⟨jn, rfl⟩ := Int.eq_ofNat_of_zero_le (show 0 ≤ j by omega)
      have ej : n - 1 - i = jn := by omega
      rw [ej] at c2 f2 hs
      have H := Lib.hid hs
      clear hs ej hrel
      go_wp2
      go_region
      all_goals
        go_wp2
        go_roundw
        case rel => exact ⟨i + 1, (jn : Int) - 1, by go_num, rfl, by omega, by omega, by omega, H.out _ rfl rfl rfl rfl⟩
        case measure => simp [intOf]; omega
    · have hfin := hrel.stop hl.out (by omega)
      go_wp2
      go_end0
      exact ⟨rfl, hfin⟩

theorem groups_any (x0 : Nat) (w : World) (hx0 : x0 < 18446744073709551616) :
    Calls Tryd.prog 60 #[.int .u64 x0] w fun e w' => ∃ A n c, e = .returned (.slice A n c) ∧ Own w' w.heap.size A n c (enc x0) ∧ Below w.heap.size w w' := by
  go_enter Tryd.func60, Tryd.ntmps60
  go_wp2
  go_loopw [0, 3] (fun x v wr => ∃ (x1 : Nat) (A : Option Addr) (n c : Nat), x = .int .u64 x1 ∧ x1 < 18446744073709551616 ∧ v = .slice A n c ∧ GRel w wr x0 x1 A n c) (fun x _ _ => (intOf x).toNat)
  case atStart => exact ⟨x0 / 128, _, _, _, by go_num, by omega, rfl, GRel.start w x0 hx0⟩
  case round =>
    obtain ⟨x1, A, n, c, rfl, hx1, rfl, hrel⟩ := hrel
    by_cases hx : 0 < x1
    · obtain ⟨l, hown, hn, hby, hstep⟩ := hrel.step hx
      have hsz := hrel.size
      have H1 := Lib.hid hstep
      clear hstep hrel
      go_wp2_with (at_builtin; refine wpList_byte_append rfl (.tmp 14) (.tmp 19) rfl w.heap.size A n c l rfl hown (wr.heap.size + 1) _ 1 1 _ rfl hby (by omega) (by simp; omega) ?_; intro A2 c2 w2 hown2 hgr2 hat2; have hrel2 := H1.out A2 c2 w2 hown2 hgr2; clear hgr2 hat2 hown2)
      go_roundw
      case rel => exact ⟨x1 / 128, A2, n + 1, c2, by go_num, by omega, rfl, hrel2⟩
      case measure => simp [intOf]; omega
    · obtain rfl : x1 = 0 := by omega
      obtain ⟨f, l, hown, hb, he, _, hn⟩ := hrel
      rw [grp_zero, List.append_nil] at he
      have He := Lib.hid he
      clear he
      go_wp2_with (go_at_call 76; refine (reverse_any wr w.heap.size n c A l hown (by omega)).mono ?_; rintro e w' ⟨rfl, h1, h2⟩)
      go_ret
      refine ⟨A, n, c, rfl, ?_, hb.grown h2 hb.size fun k hk => (World.ownsRow.lt hown k hk).1⟩
      rw [enc, ← He.out]
      exact h1
end Go.Proofs.YtlmfjalkgapcgaaDoor
