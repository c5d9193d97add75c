/- Walks of the document's answers: its readers. New, Left, End. -/
import Derived.Test.YtlmfjalkgapcgaaDoorRdr3
namespace Go.Proofs.YtlmfjalkgapcgaaDoor
open Go.RowKit
set_option linter.unusedVariables false

def dcells (A : Option Addr) (n c at_ : Nat) (e : Int) : Array Value := #[.slice A n c, .int .i64 at_, .int .i64 e]
/-- Block g is a reader, as the document's answers have it, of the bytes l, which are its own; at_ of them are read; its first error is e. -/
structure DRdr (w : World) (B g : Nat) (A : Option Addr) (n c : Nat) (l : List UInt8) (at_ : Nat) (e : Int) : Prop where
  blk : BlkIs w g 101 (dcells A n c at_ e)
  own : Own w B A n c l
  hat : at_ ≤ n
  hB : B ≤ g
section
variable {w w' : World} {B g n c at_ at2 : Nat} {A : Option Addr} {l : List UInt8} {e e2 : Int}
theorem DRdr.ne (h : DRdr w B g A n c l at_ e) : (Value.slice A n c).ownBlock ≠ some g := h.blk.own_ne (by decide) h.own
theorem DRdr.turn (h : DRdr w B g A n c l at_ e) (hg : w.grownBy w' (some g)) (hb : BlkIs w' g 101 (dcells A n c at2 e2)) (ha : at2 ≤ n) : DRdr w' B g A n c l at2 e2 :=
  ⟨hb, h.own.grown hg (.inr h.ne), ha, h.hB⟩
theorem DRdr.grown (h : DRdr w B g A n c l at_ e) {row : Option Nat} (hg : w.grownBy w' row) (h1 : some g ≠ row) (h2 : (Value.slice A n c).ownBlock = none ∨ (Value.slice A n c).ownBlock ≠ row) : DRdr w' B g A n c l at_ e :=
  ⟨h.blk.grown hg h1, h.own.grown hg h2, h.hat, h.hB⟩
theorem DRdr.below (h : DRdr w B g A n c l at_ e) (hb : Below w.heap.size w w') : DRdr w' B g A n c l at_ e := ⟨h.blk.below hb h.blk.lt, h.own.below hb, h.hat, h.hB⟩
theorem DRdr.drewN (h : DRdr w B g A n c l at_ e) (q : Nat) : DRdr (w.drewN q) B g A n c l at_ e := ⟨h.blk, h.own, h.hat, h.hB⟩
theorem DRdr.c0 (h : DRdr w B g A n c l at_ e) : w.cell? ⟨g, 0, none⟩ = some (.slice A n c) := h.blk.cell 0
theorem DRdr.c1 (h : DRdr w B g A n c l at_ e) : w.cell? ⟨g, 1, none⟩ = some (.int .i64 at_) := h.blk.cell 1
theorem DRdr.c2 (h : DRdr w B g A n c l at_ e) : w.cell? ⟨g, 2, none⟩ = some (.int .i64 e) := h.blk.cell 2
end

theorem dnew_any (w : World) (B n c : Nat) (A : Option Addr) (l : List UInt8) (h : Byt w B A n c l) (hB : B ≤ w.heap.size) (hn : n ≤ 1099511627776) :
    Calls Tryd.prog 47 #[.slice A n c] w fun e w' => ∃ g A' c', e = .returned (.pointer (some ⟨g, 0, none⟩)) ∧ DRdr w' w.heap.size g A' n c' l 0 0 ∧ Below w.heap.size w w' := by
  have Hb := Lib.hid ((h.more hB).alloc (Nat.le_refl _) (.cells #[] 5))
  have ho : Own (w.alloc (.cells #[] 5)) w.heap.size (some ⟨w.heap.size, 0, none⟩) 0 0 [] := Own.lit w #[] [] rfl (Nat.zero_le _)
  clear h
  go_enter Tryd.func47, Tryd.ntmps47
  go_wp2_with (first
    | (at_builtin
       refine wpList_byte_append rfl (.tmp 3) (.tmp 4) rfl w.heap.size _ 0 0 [] rfl ho w.heap.size _ n c l rfl Hb.out (by omega) (by simp) ?_
       intro A2 c2 w2 hown2 hgr2 hat2
       rw [Nat.zero_add, List.nil_append] at hown2
       have Hown2 := Lib.hid hown2
       have Hbel := Lib.hid (((Below.refl _ _).alloc (Nat.le_refl _) _).grown hgr2 (by simp) fun k hk => (World.ownsRow.lt ho k hk).1 : Below w.heap.size w w2)
       clear hown2 hgr2 hat2))
  go_ret
  exact ⟨w2.heap.size, A2, c2, rfl, ⟨BlkIs.new w2 _ _, Hown2.out.alloc _, Nat.zero_le _, Hbel.out.size⟩, Hbel.out.alloc Hbel.out.size _⟩

theorem dend_any (w : World) (B g n c at_ : Nat) (A : Option Addr) (l : List UInt8) (er : Int) (h : DRdr w B g A n c l at_ er) :
    Calls Tryd.prog 49 #[.pointer (some ⟨g, 0, none⟩)] w fun e w' => e = .returned (.int .i64 (endOf n at_ er)) ∧ ∃ q, w' = w.drewN q := by
  have h0 := h.c0
  have h1 := h.c1
  have h2 := h.c2
  clear h
  unfold endOf
  by_cases he : er = 0
  · subst he
    by_cases hl : at_ < n
    · rw [if_pos ⟨rfl, hl⟩]
      have hx : (at_ : Int) < n := by omega
      go_enter Tryd.func49, Tryd.ntmps49
      go_wp2_with fail
      go_quiet (fail)
      go_wp2
      go_ret
      exact ⟨rfl, nq, rfl⟩
    · rw [if_neg (fun h => hl h.2)]
      have hx : decide ((at_ : Int) < n) = false := by simp; omega
      go_enter Tryd.func49, Tryd.ntmps49
      go_wp2_with fail
      go_quiet (fail)
      go_wp2
      go_ret
      exact ⟨rfl, nq, rfl⟩
  · rw [if_neg (fun h => he h.1)]
    have hb : (er == 0) = false := by simpa using he
    clear he
    go_enter Tryd.func49, Tryd.ntmps49
    go_wp2_with fail
    go_quiet (fail)
    go_wp2
    go_ret
    exact ⟨rfl, nq, rfl⟩
end Go.Proofs.YtlmfjalkgapcgaaDoor
