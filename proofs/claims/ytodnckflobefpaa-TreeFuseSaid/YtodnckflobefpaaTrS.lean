/- Package tree: the paths of a map, ascending. -/
import Derived.Test.YtodnckflobefpaaTrR
import Derived.Sort.OwnSorted
namespace Go.Proofs.Ytodnckflobefpaa
open Go.RowKit Go.Maps
set_option linter.unusedVariables false

theorem before_le : ∀ (a b : Str), bytesBefore a b = true → a ≤ b
  | [], _, _ => List.nil_le _
  | _ :: _, [], h => by simp [bytesBefore] at h
  | x :: r, y :: s, h => by
    simp only [bytesBefore, Bool.or_eq_true, decide_eq_true_eq, Bool.and_eq_true, beq_iff_eq] at h
    rw [List.cons_le_cons_iff]
    rcases h with h | ⟨rfl, h⟩
    · exact .inl h
    · exact .inr ⟨rfl, before_le r s h⟩
def Rising (l : Dir) : Prop := l.Pairwise fun a b => bytesBefore a.1 b.1 = true
theorem MapAt.rising {w : World} {b : Nat} {blk : Nat → Nat} {l : Dir} (h : MapAt w b blk l) : Rising l := by
  obtain ⟨es, e, hp, _⟩ := World.ownsMap.canon h strK
  unfold dat at e
  have e := DataW.map.inj e
  subst e
  rw [List.pairwise_map] at hp
  exact hp
theorem rising_sort {l : Dir} (h : Rising l) : (l.map (·.1)).mergeSort (fun x y => decide (x ≤ y)) = l.map (·.1) := by
  refine List.mergeSort_of_pairwise ?_
  rw [List.pairwise_map]
  exact h.imp fun {a b} hab => by simpa using before_le a.1 b.1 hab
theorem rising_look {l : Dir} (h : Rising l) {e : Str × Nat} (he : e ∈ l) : look l e.1 = some e.2 := by
  unfold look
  induction l with
  | nil => cases he
  | cons x l ih =>
    have hx := List.pairwise_cons.1 h
    rcases List.mem_cons.1 he with rfl | he'
    · simp
    · have hne : (x.1 == e.1) = false := by
        have := hx.1 e he'
        rw [beq_eq_false_iff_ne]
        intro e2
        rw [e2, WideAt.bytes_irrefl] at this
        cases this
      rw [List.find?_cons, hne]
      exact ih hx.2 he'
/-- A new slice that holds these strings. -/
def StrRow (w : World) (B : Nat) (A : Option Addr) (n c : Nat) (ps : List Str) : Prop := w.ownsRow B 9 1 (.slice A n c) n (strV ps)
theorem strV_enc (ps : List Str) : ps.map encStr = strV ps := rfl

set_option maxRecDepth 100000 in
theorem sorted_any (w : World) (b : Nat) (blk : Nat → Nat) (l : Dir) (h : MapAt w b blk l) (hl : l.length ≤ 100000) :
    Calls Try.prog 45 #[.map (some b)] w fun e w' => ∃ A c, e = .returned (.slice A l.length c) ∧ StrRow w' w.heap.size A l.length c (l.map (·.1)) ∧ Nx w w' := by
  have hr := rising_sort h.rising
  have hsz : Maps.size (dat blk l) = l.length := by show (l.map (ent blk)).length = _; simp
  have hks : strKeys (dat blk l) = l.map (·.1) := by show (l.map (ent blk)).map _ = _; rw [List.map_map]; rfl
  have K := Lib.hid ((callsIn_wide (n := 5)).1 (Try.maps_Keys_56 (some b) w))
  have S := Lib.hid ((callsIn_wide (n := 5)).1 (Try.slices_Sorted_keys_55_56 b l.length (dat blk l) ptrE w h (by rw [hsz]; unfold maxLen; omega) (by rw [hsz]; omega)))
  have HR := Lib.hid hr
  have HK := Lib.hid hks
  clear h hr hsz hks
  go_enter Try.func45, Try.ntmps45
  go_wp2_with fail
  refine K.out.mono ?_
  rintro e w1 ⟨rfl, rfl⟩
  go_wp2_with fail
  refine S.out.mono ?_
  rintro e w2 ⟨v, ss, rfl, hperm, hrow, _, hb⟩
  have hss : ss.mergeSort (fun x y => decide (x ≤ y)) = l.map (·.1) := by
    rw [mergeSort_of_perm (hperm.trans (by rw [HK.out])), HR.out]
  have hlen : ss.length = l.length := by have := hperm.length_eq; rw [HK.out, List.length_map] at this; exact this
  rw [hss, hlen, strV_enc] at hrow
  obtain ⟨A, c, rfl⟩ : ∃ A c, v = .slice A l.length c := by
    rcases hrow.2 with ⟨hv, h0⟩ | ⟨g, cap, cur, hv, _⟩
    · exact ⟨none, 0, by rw [hv, h0]⟩
    · exact ⟨_, _, hv⟩
  have hb2 : Nx w w2 := ((Below.refl _ w).alloc (Nat.le_refl _) _).trans (hb.mono (by simp))
  have hrow2 : StrRow w2 w.heap.size A l.length c (l.map (·.1)) := by
    refine ⟨hrow.1, hrow.2.imp id ?_⟩
    rintro ⟨g, cap, cur, e, hB, r⟩
    exact ⟨g, cap, cur, e, Nat.le_trans (by simp) hB, r⟩
  have HR2 := Lib.hid hrow2
  have HB2 := Lib.hid hb2
  clear hss hlen hperm hrow hb hrow2 hb2 K S
  go_wp2
  go_ret
  exact ⟨A, c, rfl, HR2.out, HB2.out⟩
end Go.Proofs.Ytodnckflobefpaa
