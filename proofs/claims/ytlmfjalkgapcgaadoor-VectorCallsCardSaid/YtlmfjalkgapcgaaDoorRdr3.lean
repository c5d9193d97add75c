/- Walks of package wire: the methods of a reader. -/
import Derived.Test.YtlmfjalkgapcgaaDoorRdr2
import Derived.Lib.SliceRun
namespace Go.Proofs.YtlmfjalkgapcgaaDoor
open Go.RowKit
set_option linter.unusedVariables false

/-- A method's answer v; the reader then stands at a2, with the error e2. -/
def RdPost (w : World) (B g : Nat) (A : Option Addr) (n c : Nat) (l : List UInt8) (a2 : Nat) (e2 : Int) (v : Value) (e : Ending) (w' : World) : Prop :=
  e = .returned v ∧ Rdr w' B g A n c l a2 e2 ∧ w.grownBy w' (some g)
theorem RdPost.same {w : World} {B g n c at_ : Nat} {A : Option Addr} {l : List UInt8} {er : Int} (h : Rdr w B g A n c l at_ er) (v : Value) : RdPost w B g A n c l at_ er v (.returned v) w := ⟨rfl, h, World.grownBy.refl w _⟩

theorem rd_number0 (w : World) (B g n c at_ : Nat) (A : Option Addr) (l : List UInt8) (h : Rdr w B g A n c l at_ 0) :
    Calls Tryd.prog 45 #[.pointer (some ⟨g, 0, none⟩)] w (RdPost w B g A n c l (at_ + (num (l.drop at_)).2.1) ((num (l.drop at_)).2.2 : Nat) (.int .u64 ((num (l.drop at_)).1 : Nat))) := by
  have hn := (pos_number_any w g w.heap.size n c at_ A l h.own.byt h.c0 h.c1 (h.blk.frozen 1) h.hat).mono (NumPost.rdr h)
  have Hn := Lib.hid hn
  have Hc2 := Lib.hid h.c2
  have Hc3 := Lib.hid h.c3
  clear hn h
  go_enter Tryd.func45, Tryd.ntmps45
  go_wp2_with fail
  refine (err_any w g 0 Hc2.out Hc3.out).mono ?_
  rintro e w1 ⟨rfl, rfl⟩
  go_wp2_with fail
  refine Hn.out.mono ?_
  rintro e w1 ⟨rfl, hr1, hg1⟩
  have c3 := hr1.c3
  have f3 := hr1.blk.frozen 3
  have Hfin := Lib.hid (hr1.err3 hg1)
  clear hr1 hg1
  go_wp2
  go_ret
  exact ⟨rfl, Hfin.out _⟩

theorem rd_count0 (w : World) (B g n c at_ : Nat) (A : Option Addr) (l : List UInt8) (m : Int) (hm : m ≤ 9223372036854775807) (h : Rdr w B g A n c l at_ 0) :
    Calls Tryd.prog 44 #[.pointer (some ⟨g, 0, none⟩), .int .i64 m] w (RdPost w B g A n c l (at_ + (cnt m.toNat (l.drop at_)).2.1) ((cnt m.toNat (l.drop at_)).2.2 : Nat) (.int .i64 ((cnt m.toNat (l.drop at_)).1 : Nat))) := by
  have hn := pos_count_any w B g n c at_ A l 0 m h hm
  have Hn := Lib.hid hn
  have Hc2 := Lib.hid h.c2
  have Hc3 := Lib.hid h.c3
  clear hn h
  go_enter Tryd.func44, Tryd.ntmps44
  go_wp2_with fail
  refine (err_any w g 0 Hc2.out Hc3.out).mono ?_
  rintro e w1 ⟨rfl, rfl⟩
  go_wp2_with fail
  refine Hn.out.mono ?_
  rintro e w1 ⟨rfl, hr1, hg1⟩
  have c3 := hr1.c3
  have f3 := hr1.blk.frozen 3
  have Hfin := Lib.hid (hr1.err3 hg1)
  clear hr1 hg1
  go_wp2
  go_ret
  exact ⟨rfl, Hfin.out _⟩

/-! .. behind an error -/
theorem rd_number1 (w : World) (B g n c at_ : Nat) (A : Option Addr) (l : List UInt8) (er : Int) (he : er ≠ 0) (h : Rdr w B g A n c l at_ er) :
    Calls Tryd.prog 45 #[.pointer (some ⟨g, 0, none⟩)] w (RdPost w B g A n c l at_ er (.int .u64 0)) := by
  have H := Lib.hid h
  have hb : (er == 0) = false := by simpa using he
  clear h he
  go_enter Tryd.func45, Tryd.ntmps45
  go_wp2_with fail
  refine (err_any w g er H.out.c2 H.out.c3).mono ?_
  rintro e w1 ⟨rfl, rfl⟩
  go_wp2
  go_ret
  exact RdPost.same H.out _
theorem rd_count1 (w : World) (B g n c at_ : Nat) (A : Option Addr) (l : List UInt8) (er m : Int) (he : er ≠ 0) (h : Rdr w B g A n c l at_ er) :
    Calls Tryd.prog 44 #[.pointer (some ⟨g, 0, none⟩), .int .i64 m] w (RdPost w B g A n c l at_ er (.int .i64 0)) := by
  have H := Lib.hid h
  have hb : (er == 0) = false := by simpa using he
  clear h he
  go_enter Tryd.func44, Tryd.ntmps44
  go_wp2_with fail
  refine (err_any w g er H.out.c2 H.out.c3).mono ?_
  rintro e w1 ⟨rfl, rfl⟩
  go_wp2
  go_ret
  exact RdPost.same H.out _

theorem rd_err (w : World) (B g n c at_ : Nat) (A : Option Addr) (l : List UInt8) (er : Int) (h : Rdr w B g A n c l at_ er) :
    Calls Tryd.prog 62 #[.pointer (some ⟨g, 0, none⟩)] w fun e w' => e = .returned (.int .i64 er) ∧ w = w' := err_any w g er h.c2 h.c3
/-- What End returns. -/
def endOf (n at_ : Nat) (er : Int) : Int := if er = 0 ∧ at_ < n then 4 else er
theorem rd_end (w : World) (B g n c at_ : Nat) (A : Option Addr) (l : List UInt8) (er : Int) (h : Rdr w B g A n c l at_ er) :
    Calls Tryd.prog 46 #[.pointer (some ⟨g, 0, none⟩)] w fun e w' => e = .returned (.int .i64 (endOf n at_ er)) ∧ ∃ q, w' = w.drewN q := by
  have H := Lib.hid h
  have hcap := h.own.byt.cap
  have hle := h.own.byt.le
  unfold maxLen at hcap
  unfold endOf
  by_cases he : er = 0
  · subst he
    by_cases hl : at_ < n
    · rw [if_pos ⟨rfl, hl⟩]
      have hx : (0 : Int) < ((n - at_ : Nat) : Int) := by omega
      clear h
      go_enter Tryd.func46, Tryd.ntmps46
      go_wp2_with fail
      refine (err_any w g 0 H.out.c2 H.out.c3).mono ?_
      rintro e w1 ⟨rfl, rfl⟩
      go_wp2_with fail
      refine (pos_left w g n c at_ A H.out.c0 H.out.c1 H.out.hat (by omega)).mono ?_
      rintro e w1 ⟨rfl, q, rfl⟩
      go_wp2
      go_ret
      exact ⟨rfl, q, rfl⟩
    · rw [if_neg (fun h => hl h.2)]
      have hx : ¬ (0 : Int) < ((n - at_ : Nat) : Int) := by omega
      clear h
      go_enter Tryd.func46, Tryd.ntmps46
      go_wp2_with fail
      refine (err_any w g 0 H.out.c2 H.out.c3).mono ?_
      rintro e w1 ⟨rfl, rfl⟩
      go_wp2_with fail
      refine (pos_left w g n c at_ A H.out.c0 H.out.c1 H.out.hat (by omega)).mono ?_
      rintro e w1 ⟨rfl, q, rfl⟩
      go_wp2
      go_ret
      exact ⟨rfl, q, rfl⟩
  · rw [if_neg (fun h => he h.1)]
    have hb : (er == 0) = false := by simpa using he
    clear h he
    go_enter Tryd.func46, Tryd.ntmps46
    go_wp2_with fail
    refine (err_any w g er H.out.c2 H.out.c3).mono ?_
    rintro e w1 ⟨rfl, rfl⟩
    go_wp2
    go_ret
    exact ⟨rfl, 0, rfl⟩

/-! ### New -/
theorem clone_nil (w : World) : Calls Tryd.prog 61 #[.slice none 0 0] w fun e w' => e = .returned (.slice none 0 0) ∧ w = w' := by
  have hq := fun w : World => Lib.run_eql_slice_nil (P := Tryd.prog) w 34 5 none 0 0 0 0 Tryd.underlying34
  go_enter Tryd.func61, Tryd.ntmps61
  go_wp2
  go_ret
  exact ⟨rfl, rfl⟩
theorem clone_any (w : World) (B n c : Nat) (A : Option Addr) (l : List UInt8) (h : Byt w B A n c l) (hB : B ≤ w.heap.size) (hA : A = none → n = 0 ∧ c = 0) (hn : n ≤ 1099511627776) :
    Calls Tryd.prog 61 #[.slice A n c] w fun e w' => ∃ A' n' c', e = .returned (.slice A' n' c') ∧ Own w' w.heap.size A' n' c' l ∧ Below w.heap.size w w' := by
  rcases A with _ | ad
  · obtain ⟨rfl, rfl⟩ := hA rfl
    obtain rfl : l = [] := List.eq_nil_of_length_eq_zero h.len
    refine (clone_nil w).mono ?_
    rintro e w' ⟨rfl, rfl⟩
    exact ⟨none, 0, 0, rfl, World.ownsRow_nil _ _ _ _, Below.refl _ _⟩
  · have Hb := Lib.hid ((h.more hB).alloc (Nat.le_refl _) (.cells #[] 5))
    have ho : Own (w.alloc (.cells #[] 5)) w.heap.size (some ⟨w.heap.size, 0, none⟩) 0 0 [] := Own.lit w #[] [] rfl (Nat.zero_le _)
    have hq := fun w : World => Lib.run_eql_slice_nil (P := Tryd.prog) w 34 5 (some ad) n c 0 0 Tryd.underlying34
    clear h hA
    go_enter Tryd.func61, Tryd.ntmps61
    go_wp2_with (at_builtin; refine wpList_byte_append rfl (.tmp 5) (.tmp 6) rfl w.heap.size _ 0 0 [] rfl ho w.heap.size _ n c l rfl Hb.out (by omega) (by simp) ?_; intro A2 c2 w2 hown2 hgr2 hat2)
    go_ret
    rw [Nat.zero_add] at hown2
    exact ⟨A2, n, c2, rfl, hown2, ((Below.refl _ _).alloc (Nat.le_refl _) _).grown hgr2 (by simp) fun k hk => (World.ownsRow.lt ho k hk).1⟩

theorem new_any (w : World) (B n c : Nat) (A : Option Addr) (l : List UInt8) (h : Byt w B A n c l) (hB : B ≤ w.heap.size) (hA : A = none → n = 0 ∧ c = 0) (hn : n ≤ 1099511627776) :
    Calls Tryd.prog 43 #[.slice A n c] w fun e w' => ∃ g A' n' c', e = .returned (.pointer (some ⟨g, 0, none⟩)) ∧ Rdr w' w.heap.size g A' n' c' l 0 0 ∧ Below w.heap.size w w' := by
  have H := Lib.hid (clone_any w B n c A l h hB hA hn)
  clear h
  go_enter Tryd.func43, Tryd.ntmps43
  go_wp2_with fail
  refine H.out.mono ?_
  rintro e w1 ⟨A1, n1, c1, rfl, hown1, hb1⟩
  go_wp2
  go_ret
  exact ⟨w1.heap.size, A1, n1, c1, rfl, ⟨BlkIs.new w1 _ _, hown1.alloc _, Nat.zero_le _, hb1.size⟩, hb1.alloc hb1.size _⟩
end Go.Proofs.YtlmfjalkgapcgaaDoor
