/- Walks of package wire: concat, Number, Piece. -/
import Derived.Test.YtlmfjalkgapcgaaDoorWiOps
namespace Go.Proofs.YtlmfjalkgapcgaaDoor
open Go.RowKit

/-! ### Slices of slices of bytes -/
structure Part where
  A : Option Addr
  n : Nat
  c : Nat
  l : List UInt8
def total (ps : List Part) : Nat := (ps.map (·.n)).sum
def flat (ps : List Part) : List UInt8 := ps.flatMap (·.l)
/-- Block g has the parts' slice values, at off 0 on, and each part reads as its bytes, below block B. -/
structure PartsAt (w : World) (B g : Nat) (ps : List Part) : Prop where
  cells : ∀ j (h : j < ps.length), w.cell? ⟨g, j, none⟩ = some (.slice ps[j].A ps[j].n ps[j].c)
  byts : ∀ j (h : j < ps.length), Byt w B ps[j].A ps[j].n ps[j].c ps[j].l
theorem total_take (ps : List Part) (k : Nat) (h : k < ps.length) : total (ps.take (k + 1)) = total (ps.take k) + ps[k].n := by
  rw [List.take_succ_eq_append_getElem h, total, total, List.map_append, List.sum_append]
  rfl
theorem flat_take (ps : List Part) (k : Nat) (h : k < ps.length) : flat (ps.take (k + 1)) = flat (ps.take k) ++ ps[k].l := by
  rw [List.take_succ_eq_append_getElem h, flat, flat, List.flatMap_append]
  simp only [List.flatMap_cons, List.flatMap_nil, List.append_nil]
theorem total_le (ps : List Part) (k : Nat) : total (ps.take k) ≤ total ps := by
  have h : total ps = total (ps.take k) + total (ps.drop k) := by
    rw [total, total, total, ← List.sum_append, ← List.map_append, List.take_append_drop]
  omega
theorem PartsAt.keep {w w' : World} {B B' g : Nat} {ps : List Part} (h : PartsAt w B g ps) (hg : g < B') (hb : Below B' w w') (hB : B ≤ B') : PartsAt w' B g ps :=
  ⟨fun j hj => (hb.cell (p := ⟨g, j, none⟩) hg).trans (h.cells j hj), fun j hj => (h.byts j hj).below hb hB⟩
/-- The parts of a literal of two. -/
theorem PartsAt.two {w : World} {B : Nat} {A A' : Option Addr} {n c n' c' : Nat} {l l' : List UInt8} (t : TypeId) (h : Byt w B A n c l) (h' : Byt w B A' n' c' l') (hB : B ≤ w.heap.size) :
    PartsAt (w.alloc (.cells #[.slice A n c, .slice A' n' c'] t)) B w.heap.size [⟨A, n, c, l⟩, ⟨A', n', c', l'⟩] := by
  refine ⟨fun j hj => ?_, fun j hj => ?_⟩
  · match j, hj with
    | 0, _ => simp
    | 1, _ => simp
  · match j, hj with
    | 0, _ => exact h.alloc hB _
    | 1, _ => exact h'.alloc hB _
theorem PartsAt.three {w : World} {B : Nat} {A A' A2 : Option Addr} {n c n' c' n2 c2 : Nat} {l l' l2 : List UInt8} (t : TypeId) (h : Byt w B A n c l) (h' : Byt w B A' n' c' l') (h2 : Byt w B A2 n2 c2 l2) (hB : B ≤ w.heap.size) :
    PartsAt (w.alloc (.cells #[.slice A n c, .slice A' n' c', .slice A2 n2 c2] t)) B w.heap.size [⟨A, n, c, l⟩, ⟨A', n', c', l'⟩, ⟨A2, n2, c2, l2⟩] := by
  refine ⟨fun j hj => ?_, fun j hj => ?_⟩
  · match j, hj with
    | 0, _ => simp
    | 1, _ => simp
    | 2, _ => simp
  · match j, hj with
    | 0, _ => exact h.alloc hB _
    | 1, _ => exact h'.alloc hB _
    | 2, _ => exact h2.alloc hB _

/-- What a round of concat's second loop finds. -/
def CRel (w wr : World) (ps : List Part) (k : Nat) (A : Option Addr) (n c : Nat) : Prop :=
  Own wr w.heap.size A n c (flat (ps.take k)) ∧ Below w.heap.size w wr ∧ n ≤ total (ps.take k) ∧ total (ps.take k) ≤ n

theorem concat_any (w : World) (B g k kc : Nat) (ps : List Part) (hk : ps.length = k) (hB : B ≤ w.heap.size) (hg : g < w.heap.size) (hps : PartsAt w B g ps) (hk2 : k ≤ 65536) (ht : total ps ≤ 70368744177664) :
    Calls Tryd.prog 59 #[.slice (some ⟨g, 0, none⟩) k kc] w fun e w' => ∃ A n c, e = .returned (.slice A n c) ∧ Own w' w.heap.size A n c (flat ps) ∧ Below w.heap.size w w' := by
  obtain ⟨i0, hi0, hz0, hz1, hz2⟩ := info_parts byte_info
  have Hk := Lib.hid hk
  have Hz := Lib.hid (And.intro hi0 (And.intro hz0 (And.intro hz1 hz2)))
  clear hk hi0 hz0 hz1 hz2
  have Hps := Lib.hid hps
  clear hps
  go_enter Tryd.func59, Tryd.ntmps59
  go_wp2
  go_loop [3, 11] (fun s i => ∃ j : Nat, j ≤ k ∧ i = .int .i64 j ∧ s = .int .i64 (total (ps.take j))) (fun _ i => k - (intOf i).toNat)
  case atStart => exact ⟨0, Nat.zero_le _, rfl, rfl⟩
  case round =>
    obtain ⟨j, hj, rfl, rfl⟩ := hrel
    by_cases hlt : j < k
    · have hjl : j < ps.length := by rw [Hk.out]; exact hlt
      have hc := Hps.out.cells j hjl
      have hle := total_le ps (j + 1)
      have Ht := Lib.hid (total_take ps j hjl)
      have hle2 : total (ps.take j) + ps[j].n ≤ total ps := by rw [← Ht.out]; exact hle
      clear hle
      go_wp2
      go_round
      case rel => exact ⟨j + 1, by omega, by go_num, by rw [Ht.out]; go_num⟩
      case measure => simp [intOf]; omega
    · have hjk : j = k := by omega
      have Hf : Hid (total (ps.take j) = total ps) := by
        unfold Hid
        rw [List.take_of_length_le (by rw [Hk.out]; omega)]
      have hf1 : total (ps.take j) ≤ total ps := by rw [Hf.out]; exact Nat.le_refl _
      clear hjk
      go_wp2_with (at_make; refine wpList_make_own _ rfl _ _ 34 rfl w.heap.size 5 i0 (.int .u8 0) 1 Tryd.underlying34 Hz.out.1 Hz.out.2.1 Hz.out.2.2.1 .i64 .i64 _ (total (ps.take j)) rfl rfl rfl (by rw [Hz.out.2.2.2]; omega) (by unfold maxLen; omega) (Nat.le_refl _) ?_; intro w0 hown0 hgrow0)
      have hcr : CRel w w0 ps 0 (some ⟨w.heap.size, 0, none⟩) 0 (total (ps.take j)) := ⟨hown0, (Below.refl _ _).grown hgrow0 (Nat.le_refl _) (by simp), by simp [total], by simp [total]⟩
      clear hown0 hgrow0
      go_loopw [6, 24] (fun v i wr => ∃ (q : Nat) (A : Option Addr) (n c : Nat), q ≤ k ∧ i = .int .i64 q ∧ v = .slice A n c ∧ CRel w wr ps q A n c) (fun _ i _ => k - (intOf i).toNat)
      case atStart => exact ⟨0, _, _, _, Nat.zero_le _, rfl, rfl, hcr⟩
      case round =>
        obtain ⟨q, A, n, c, hq, rfl, rfl, hown, hb, hn1, hn2⟩ := hrel
        by_cases hltq : q < k
        · have hql : q < ps.length := by rw [Hk.out]; exact hltq
          have hc := (Hps.out.keep hg hb hB).cells q hql
          have hby := (Hps.out.keep hg hb hB).byts q hql
          have hle := total_le ps (q + 1)
          have Ht := Lib.hid (total_take ps q hql)
          have hle2 : total (ps.take q) + ps[q].n ≤ total ps := by rw [← Ht.out]; exact hle
          have Hfl := Lib.hid (flat_take ps q hql)
          clear hle
          go_wp2_with (at_builtin; refine wpList_byte_append rfl (.tmp 28) (.tmp 29) rfl w.heap.size A n c _ rfl hown B _ _ _ _ rfl hby (by omega) hb.size ?_; intro A2 c2 w2 hown2 hgr2 hat2)
          go_roundw
          case rel => exact ⟨q + 1, A2, _, c2, by omega, by go_num, rfl, by rw [Hfl.out]; exact hown2, hb.grown hgr2 hb.size fun k hk => (World.ownsRow.lt hown k hk).1, by rw [Ht.out]; omega, by rw [Ht.out]; omega⟩
          case measure => simp [intOf]; omega
        · have Hf2 : Hid (ps.take q = ps) := by
            unfold Hid
            rw [List.take_of_length_le (by rw [Hk.out]; omega)]
          go_wp2
          go_ret
          exact ⟨A, n, c, rfl, by rw [Hf2.out] at hown; exact hown, hb⟩
end Go.Proofs.YtlmfjalkgapcgaaDoor
