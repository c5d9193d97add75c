/- Package wal: valid, Size, Count, Append, Sync, mend. -/
import Derived.Test.YtiikjdjpodmpcaaGreatWlD
namespace Go.Proofs.YtiikjdjpodmpcaaGreat
open Go.RowKit Go.Maps
set_option linter.unusedVariables false

/-! ### Bytes that lie in a block beside the tree -/
theorem own_argZ {w : World} {B n c : Nat} {A : Option Addr} {l : Str} {Z : List (Nat × Obj)} (ho : Own w B A n c l) (hl : l.length ≤ 10000) :
    (ArgZ Z A n c l) ∨ ∃ g o, B ≤ g ∧ w.heap[g]? = some o ∧ ArgZ ((g, o) :: Z) A n c l := by
  have h0 := ho
  obtain ⟨h1, h2⟩ := ho
  rcases h2 with ⟨hv, hn⟩ | ⟨g, cap, cur, hv, hB, hg, r1, r2, r3, r4⟩
  · injection hv with a b d
    subst a b d
    have : l = [] := by
      rw [bvs_length] at h1
      exact List.eq_nil_of_length_eq_zero (by omega)
    subst this
    exact .inl (ArgZ.nil Z)
  · right
    injection hv with a b d
    subst a d
    refine ⟨g, _, hB, hg, ⟨.inr ⟨g, _, rfl, List.mem_cons_self⟩, fun W hW => ?_, hl⟩⟩
    have hg2 := hW _ List.mem_cons_self
    exact Own.arg (B := 0) (⟨h1, .inr ⟨g, _, _, rfl, Nat.zero_le _, hg2, r1, r2, r3, r4⟩⟩ : Own W 0 (some ⟨g, 0, none⟩) n c l)
theorem ArgZ.take {Z : List (Nat × Obj)} {A : Option Addr} {n c : Nat} {b : Str} (h : ArgZ Z A n c b) (hl : b.length = n) (m : Nat) (hm : m ≤ n) : ArgZ Z A m c (b.take m) := by
  refine ⟨?_, fun W hW => ?_, by rw [List.length_take]; have := h.len; omega⟩
  · rcases h.at_ with ⟨h1, h2, h3, h4⟩ | h1
    · subst h4
      exact .inl ⟨h1, by omega, h3, by simp⟩
    · exact .inr h1
  · have := (h.arg W hW).byt.upto (hi := m) hm
    exact Arg.of_byt this (Nat.le_refl _)

section
variable {w W : World} {tb lb k : Nat} {s : St} {L : Lg} {Z : List (Nat × Obj)}
theorem lvalid_any (hl : LogHas W tb lb L) :
    Calls Tryz.prog 56 #[.pointer (some ⟨lb, 0, none⟩)] W fun e w' => e = .returned (.bool true) ∧ W = w' := by
  have c1 := hl.c1
  clear hl
  go_enter Tryz.func56, Tryz.ntmps56
  go_wp2
  go_ret
  exact ⟨rfl, rfl⟩
theorem lvalid_nil (W : World) :
    Calls Tryz.prog 56 #[.pointer none] W fun e w' => e = .returned (.bool false) ∧ W = w' := by
  go_enter Tryz.func56, Tryz.ntmps56
  go_wp2
  go_ret
  exact ⟨rfl, rfl⟩
theorem lsize_any (hl : LogHas W tb lb L) :
    Calls Tryz.prog 27 #[.pointer (some ⟨lb, 0, none⟩)] W fun e w' => e = .returned (.int .i64 L.size) ∧ W = w' := by
  have X := Lib.hid (lvalid_any hl)
  have c3 := hl.c3
  clear hl
  go_enter Tryz.func27, Tryz.ntmps27
  go_wp2_with fail
  refine X.out.mono ?_
  rintro e w1 ⟨rfl, rfl⟩
  go_wp2
  go_ret
  exact ⟨rfl, rfl⟩
theorem lsize_nil (W : World) :
    Calls Tryz.prog 27 #[.pointer none] W fun e w' => e = .returned (.int .i64 0) ∧ W = w' := by
  go_enter Tryz.func27, Tryz.ntmps27
  go_wp2_with fail
  refine (lvalid_nil W).mono ?_
  rintro e w1 ⟨rfl, rfl⟩
  go_wp2
  go_ret
  exact ⟨rfl, rfl⟩
theorem lcount_any (hl : LogHas W tb lb L) :
    Calls Tryz.prog 28 #[.pointer (some ⟨lb, 0, none⟩)] W fun e w' => e = .returned (.int .i64 L.count) ∧ W = w' := by
  have X := Lib.hid (lvalid_any hl)
  have c4 := hl.c4
  clear hl
  go_enter Tryz.func28, Tryz.ntmps28
  go_wp2_with fail
  refine X.out.mono ?_
  rintro e w1 ⟨rfl, rfl⟩
  go_wp2
  go_ret
  exact ⟨rfl, rfl⟩
theorem lcount_nil (W : World) :
    Calls Tryz.prog 28 #[.pointer none] W fun e w' => e = .returned (.int .i64 0) ∧ W = w' := by
  go_enter Tryz.func28, Tryz.ntmps28
  go_wp2_with fail
  refine (lvalid_nil W).mono ?_
  rintro e w1 ⟨rfl, rfl⟩
  go_wp2
  go_ret
  exact ⟨rfl, rfl⟩

set_option maxRecDepth 100000 in
set_option maxHeartbeats 2000000 in
theorem lsync_any (h : LivZ w tb s k ((lb, logO tb L) :: Z) W) (hk : k + 2 ≤ 1000) (e1 : isPath L.path = true) :
    Calls Tryz.prog 33 #[.pointer (some ⟨lb, 0, none⟩)] W fun e w' => e = .returned (.int .i64 (L.sync s).1.e) ∧ LivZ w tb (L.sync s).2 (k + 2) ((lb, logO tb (L.sync s).1) :: Z) w' := by
  have hlp := isPath_len e1
  have h1 := h.alloc (boxO 28 (.pointer (some ⟨lb, 0, none⟩)))
  obtain ⟨bl, hbl⟩ : ∃ bl, W.heap.size = bl := ⟨_, rfl⟩
  rw [hbl] at h1
  obtain ⟨W1, hW1⟩ : ∃ W1, W.alloc (boxO 28 (.pointer (some ⟨lb, 0, none⟩))) = W1 := ⟨_, rfl⟩
  rw [hW1] at h1
  have h1' := h1.swap
  have V := Lib.hid (lvalid_any h1'.logAt.log)
  have cl := h1'.box (b := bl) (List.mem_cons_of_mem _ List.mem_cons_self)
  have h2 := h1'.alloc (fnsO [.func (.func 61) #[] #[.pointer (some ⟨bl, 0, none⟩)]])
  obtain ⟨rb, hrb⟩ : ∃ rb, W1.heap.size = rb := ⟨_, rfl⟩
  rw [hrb] at h2
  have x := do_any w _ tb lb k s L ((rb, fnsO [.func (.func 61) #[] #[.pointer (some ⟨bl, 0, none⟩)]]) :: (bl, boxO 28 (.pointer (some ⟨lb, 0, none⟩))) :: Z) [fun s => s.sync L.path] [.func (.func 61) #[] #[.pointer (some ⟨bl, 0, none⟩)]] rb 1 h2.swap List.mem_cons_self rfl rfl (by omega) (by omega) (fun i v f hv hf => by
    match i with
    | 0 => cases hv; cases hf; exact stepv_logSync (L := { L with e := 0 }) (by show L.path.length ≤ _; omega) (List.mem_cons_of_mem _ List.mem_cons_self)
    | i + 1 => simp at hv)
  have X := Lib.hid x
  unfold boxO at hW1
  have HW := Lib.hid hW1
  have HB := Lib.hid hbl
  have HRB := Lib.hid hrb
  have hD : Hid ((L.sync s).1 = { L with e := (doS [fun s => s.sync L.path] s L.e).2 } ∧ (L.sync s).2 = (doS [fun s => s.sync L.path] s L.e).1) := ⟨rfl, rfl⟩
  clear h h1 h1' h2 x hW1 hbl hrb e1 hlp
  go_enter Tryz.func33, Tryz.ntmps33
  go_wp2_with fail
  rw [HW.out, HB.out]
  refine V.out.mono ?_
  rintro e w1 ⟨rfl, rfl⟩
  go_wp2_with fail
  rw [HRB.out]
  refine X.out.mono ?_
  rintro e w2 ⟨rfl, hl⟩
  have HL := Lib.hid hl
  clear hl X
  generalize hdd : doS [fun s => s.sync L.path] s L.e = D at *
  obtain ⟨s2, e2⟩ := D
  clear hdd
  simp only at hD HL ⊢
  go_wp2
  go_ret
  rw [hD.out.1, hD.out.2]
  exact ⟨rfl, HL.out.sub (List.Sublist.cons_cons _ (List.Sublist.cons _ (List.Sublist.cons _ (List.Sublist.refl _))))⟩
end
end Go.Proofs.YtiikjdjpodmpcaaGreat
