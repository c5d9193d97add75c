/- Package wal: Append, mend. -/
import Derived.Test.YtiikjdjpodmpcaaGreatWlE
namespace Go.Proofs.YtiikjdjpodmpcaaGreat
open Go.RowKit Go.Maps
set_option linter.unusedVariables false

section
variable {w W W0 : World} {tb lb k : Nat} {s : St} {L : Lg} {Z : List (Nat × Obj)}
theorem LivZ.own {x : Nat × Obj} {A : Option Addr} {n c : Nat} {l : Str} (h : LivZ w tb s k (x :: Z) W0) (hn : Nx W0 W) (ho : Own W W0.heap.size A n c l) (hl : l.length ≤ 10000) :
    ∃ Z1, Z.Sublist Z1 ∧ LivZ w tb s k (x :: Z1) W ∧ ArgZ Z1 A n c l := by
  rcases own_argZ (Z := Z) ho hl with h1 | ⟨g, o, hB, hg, h1⟩
  · exact ⟨Z, List.Sublist.refl _, h.next hn, h1⟩
  · exact ⟨(g, o) :: Z, List.sublist_cons_self _ _, (h.add hn hB hg).swap, h1⟩
theorem sframe_any (w : World) (r : Str) (hr : r.length ≤ 1048576) :
    Calls Tryz.prog 58 #[.string (S r)] w fun e w' => (∃ A n c, e = .returned (.tuple #[.slice A n c, .int .i64 0]) ∧ Own w' w.heap.size A n c (frame r)) ∧ Nx w w' :=
  (frame_any w (S r) (by rw [S_size]; exact hr)).mono fun e w' ⟨A, n, c, e1, e2, e3⟩ => ⟨⟨A, n, c, e1, e2⟩, e3⟩

set_option maxRecDepth 100000 in
set_option maxHeartbeats 4000000 in
theorem lappend_any (h : LivZ w tb s k ((lb, logO tb L) :: Z) W) (hk : k + 2 ≤ 1000) (e1 : isPath L.path = true) (r : Str) (hr : r.length ≤ 9000) (hs0 : 0 ≤ L.size) (hs1 : L.size ≤ 1000000000000) (hc0 : 0 ≤ L.count) (hc1 : L.count ≤ 1000000000000) :
    Calls Tryz.prog 32 #[.pointer (some ⟨lb, 0, none⟩), .string (S r)] W fun e w' => e = .returned (.int .i64 (L.append s r).1.e) ∧ LivZ w tb (L.append s r).2 (k + 2) ((lb, logO tb (L.append s r).1) :: Z) w' := by
  have hlp := isPath_len e1
  have h1 := h.alloc (boxO 28 (.pointer (some ⟨lb, 0, none⟩)))
  obtain ⟨bl, hbl⟩ : ∃ bl, W.heap.size = bl := ⟨_, rfl⟩
  rw [hbl] at h1
  obtain ⟨W1, hW1⟩ : ∃ W1, W.alloc (boxO 28 (.pointer (some ⟨lb, 0, none⟩))) = W1 := ⟨_, rfl⟩
  rw [hW1] at h1
  have h1' := h1.swap
  have V := Lib.hid (lvalid_any h1'.logAt.log)
  have cl := h1'.box (b := bl) (List.mem_cons_of_mem _ List.mem_cons_self)
  have FR := Lib.hid (sframe_any W1 r (by omega))
  have hfl := frame_length r
  have H1 := Lib.hid h1'
  unfold boxO at hW1
  have HW := Lib.hid hW1
  have HB := Lib.hid hbl
  have HLP := Lib.hid hlp
  have HK := Lib.hid hk
  have HFL := Lib.hid hfl
  have HR := Lib.hid hr
  clear h h1 h1' hW1 hbl e1 hlp hk hfl hr
  generalize hsr : S r = sr at *
  clear hsr
  go_enter Tryz.func32, Tryz.ntmps32
  go_wp2_with fail
  rw [HW.out, HB.out]
  refine V.out.mono ?_
  rintro e w1 ⟨rfl, rfl⟩
  go_wp2_with fail
  refine FR.out.mono ?_
  rintro e w2 ⟨⟨A, n, c, rfl, ho⟩, hn2⟩
  have hlen := ho.len
  have hnl : Hid (n = (frame r).length) := hlen.symm
  have hn9 : n ≤ 9008 := by have := HFL.out; have := HR.out; omega
  obtain ⟨Z1, hsub, h2, hA⟩ := H1.out.own hn2 ho (by omega)
  have h3 := (h2.alloc (boxO 22 (.slice A n c))).swap
  obtain ⟨bf, hbf⟩ : ∃ bf, w2.heap.size = bf := ⟨_, rfl⟩
  rw [hbf] at h3
  obtain ⟨W3, hW3⟩ : ∃ W3, w2.alloc (boxO 22 (.slice A n c)) = W3 := ⟨_, rfl⟩
  rw [hW3] at h3
  have hbl : (bl, boxO 28 (.pointer (some ⟨lb, 0, none⟩))) ∈ Z1 := hsub.subset List.mem_cons_self
  have dl := h2.box (b := bl) (List.mem_cons_of_mem _ hbl)
  have hlt := h2.lt (List.mem_cons_of_mem _ hbl)
  simp only at hlt
  have hne : ¬ bl = w2.heap.size := by omega
  have h4 := h3.alloc (fnsO [.func (.func 60) #[] #[.pointer (some ⟨bl, 0, none⟩), .pointer (some ⟨bf, 0, none⟩)]])
  obtain ⟨rb, hrb⟩ : ∃ rb, bf + 1 = rb := ⟨_, rfl⟩
  have hsz3 : W3.heap.size = rb := by rw [← hW3, ← hrb, ← hbf]; simp
  rw [hsz3] at h4
  have x := do_any w _ tb lb k s L ((rb, fnsO [.func (.func 60) #[] #[.pointer (some ⟨bl, 0, none⟩), .pointer (some ⟨bf, 0, none⟩)]]) :: (bf, boxO 22 (.slice A n c)) :: Z1) [fun s => s.append_ L.path (frame r)] [.func (.func 60) #[] #[.pointer (some ⟨bl, 0, none⟩), .pointer (some ⟨bf, 0, none⟩)]] rb 1 h4.swap List.mem_cons_self rfl rfl (by omega) (by have := HK.out; omega) (fun i v f hv hf => by
    match i with
    | 0 =>
      cases hv
      cases hf
      have hA2 := hA.more (Z' := (rb, fnsO [.func (.func 60) #[] #[.pointer (some ⟨bl, 0, none⟩), .pointer (some ⟨bf, 0, none⟩)]]) :: (bf, boxO 22 (.slice A n c)) :: Z1) (fun z hz => List.mem_cons_of_mem _ (List.mem_cons_of_mem _ hz))
      exact stepv_append (L := { L with e := 0 }) (by show L.path.length ≤ _; have := HLP.out; omega) hA2.at_ hA2.arg hA2.len (List.mem_cons_of_mem _ (List.mem_cons_of_mem _ hbl)) (List.mem_cons_of_mem _ List.mem_cons_self)
    | i + 1 => simp at hv)
  have X := Lib.hid x
  unfold boxO at hW3
  have HW3 := Lib.hid hW3
  have HBF := Lib.hid hbf
  have HRB := Lib.hid hrb
  have HS := Lib.hid hsub
  have HBL := Lib.hid hbl
  have hD : Hid ((L.append s r).1 = (if (doS [fun s => s.append_ L.path (frame r)] s L.e).2 = 0 then { L with size := L.size + (frame r).length, count := L.count + 1, e := (doS [fun s => s.append_ L.path (frame r)] s L.e).2 } else { L with e := (doS [fun s => s.append_ L.path (frame r)] s L.e).2 }) ∧ (L.append s r).2 = (doS [fun s => s.append_ L.path (frame r)] s L.e).1) := by
    unfold Hid Lg.append
    generalize doS [fun s => s.append_ L.path (frame r)] s L.e = q
    obtain ⟨s', e⟩ := q
    simp only
    split <;> exact ⟨rfl, rfl⟩
  clear h2 h3 h4 x hsz3 hW3 hbf hrb ho hn2 hA H1 hsub hbl FR V hlen
  go_wp2_with fail
  rw [HW3.out, HBF.out, HRB.out]
  refine X.out.mono ?_
  rintro e w4 ⟨rfl, hl⟩
  have HL := Lib.hid hl
  clear hl X
  generalize hdd : doS [fun s => s.append_ L.path (frame r)] s L.e = D at *
  obtain ⟨s2, e2⟩ := D
  clear hdd
  simp only at hD HL ⊢
  by_cases h0 : e2 = 0
  · subst h0
    have h5 := HL.out
    have gl := h5.box (b := bl) (List.mem_cons_of_mem _ (List.mem_cons_of_mem _ (List.mem_cons_of_mem _ HBL.out)))
    have gf := h5.box (b := bf) (List.mem_cons_of_mem _ (List.mem_cons_of_mem _ List.mem_cons_self))
    have k3 := h5.logAt.log.c3
    have k4 := h5.logAt.log.c4
    have fz3 := h5.logAt.log.fz 3
    have fz4 := h5.logAt.log.fz 4
    simp only at k3 k4
    have hbl4 : bl ≠ lb := fun e => by
      have := (List.pairwise_cons.1 h5.nd).1 _ (List.mem_cons_of_mem _ (List.mem_cons_of_mem _ HBL.out))
      exact this e.symm
    have i1 : IntKind.i64.wrap (L.size + (n : Int)) = L.size + (n : Int) := IntWalk.i64_in _ (by omega)
    have i2 : IntKind.i64.wrap (L.count + 1) = L.count + 1 := IntWalk.i64_in _ (by omega)
    have h6 := (h5.set 3 (.int .i64 (L.size + (n : Int)))).set 4 (.int .i64 (L.count + 1))
    have H6 := Lib.hid h6
    clear h5 h6
    go_wp2
    go_region
    go_wp2
    go_ret
    rw [hD.out.1, hD.out.2, if_pos trivial, ← hnl.out]
    exact ⟨rfl, H6.out.drew.sub (List.Sublist.cons_cons _ (List.Sublist.cons _ (List.Sublist.cons _ ((List.sublist_cons_self _ _).trans HS.out))))⟩
  · go_wp2
    go_ret
    rw [hD.out.1, hD.out.2, if_neg h0]
    exact ⟨rfl, HL.out.sub (List.Sublist.cons_cons _ (List.Sublist.cons _ (List.Sublist.cons _ ((List.sublist_cons_self _ _).trans HS.out))))⟩
theorem mend_eq (L : Lg) (s : St) (b : Str) (whole : Nat) (count : Int) : (¬ whole < b.length → (L.mend s b whole count).1 = { L with size := whole, count := count, e := (doS [cleanS (tmpOf L.path)] s L.e).2 } ∧ (L.mend s b whole count).2 = (doS [cleanS (tmpOf L.path)] s L.e).1) ∧ (whole < b.length → L.mend s b whole count = L.replace s (b.take whole) count) := by
  unfold Lg.mend
  refine ⟨fun h => ?_, fun h => by rw [if_pos h]⟩
  rw [if_neg h]
  exact ⟨rfl, rfl⟩
set_option maxRecDepth 100000 in
set_option maxHeartbeats 4000000 in
theorem lmend_any (h : LivZ w tb s k ((lb, logO tb L) :: Z) W) (hk : k + 12 ≤ 1000) (e1 : isPath L.path = true) (A : Option Addr) (n c : Nat) (b : Str) (hA : ArgZ Z A n c b) (whole : Nat) (hw : whole ≤ n) (count : Int) :
    Calls Tryz.prog 76 #[.pointer (some ⟨lb, 0, none⟩), .slice A n c, .int .i64 (whole : Int), .int .i64 count] W fun e w' => e = .returned (.int .i64 (L.mend s b whole count).1.e) ∧ LivZ w tb (L.mend s b whole count).2 (k + 12) ((lb, logO tb (L.mend s b whole count).1) :: Z) w' := by
  have harg := hA.arg W fun z hz => h.at_ z (List.mem_cons_of_mem _ hz)
  have hn := harg.len
  have hle := harg.le
  have hcap := harg.cap
  have hl9 := hA.len
  have i0 : (c : Int) ≤ 9223372036854775807 := by unfold maxLen at hcap; omega
  have i1 : (n : Int) ≤ c := by omega
  have i2 : (n : Int) ≤ 10000 := by omega
  by_cases hlt : whole < n
  · have hm := (mend_eq L s b whole count).2 (by omega)
    have X := Lib.hid (lreplace_any w W tb lb k s L Z A whole c (b.take whole) count h hk e1 (hA.take hn whole hw))
    have HM := Lib.hid hm
    have i3 : (whole : Int) < n := by omega
    have i4 : (whole : Int) ≤ c := by omega
    clear h e1 hA harg hn hm
    go_enter Tryz.func76, Tryz.ntmps76
    go_wp2_with fail
    refine X.out.mono ?_
    rintro e w2 ⟨rfl, hl⟩
    have HL := Lib.hid hl
    clear hl X
    go_wp2
    go_ret
    rw [HM.out]
    exact ⟨rfl, HL.out⟩
  · obtain rfl : whole = n := by omega
    have hm := (mend_eq L s b whole count).1 (by omega)
    have h2 := (h.set 3 (.int .i64 (whole : Int))).set 4 (.int .i64 count)
    obtain ⟨W2, hW2⟩ : ∃ W2, (W.setCell ⟨lb, 3, none⟩ (.int .i64 (whole : Int))).setCell ⟨lb, 4, none⟩ (.int .i64 count) = W2 := ⟨_, rfl⟩
    rw [hW2] at h2
    have h2' : LivZ w tb s k ((lb, logO tb { L with size := whole, count := count }) :: Z) W2 := h2
    have h3 := h2'.alloc (fnsO [.func (.func 101) #[.pointer (some ⟨lb, 0, none⟩)] #[]])
    obtain ⟨rb, hrb⟩ : ∃ rb, W2.heap.size = rb := ⟨_, rfl⟩
    rw [hrb] at h3
    have hsz : W.heap.size = rb := by rw [← hrb, ← hW2]; simp
    have x := do_any w _ tb lb k s { L with size := whole, count := count } ((rb, fnsO [.func (.func 101) #[.pointer (some ⟨lb, 0, none⟩)] #[]]) :: Z) [cleanS (tmpOf L.path)] [.func (.func 101) #[.pointer (some ⟨lb, 0, none⟩)] #[]] rb 1 h3.swap List.mem_cons_self rfl rfl (by omega) (by omega) (fun i v f hv hf => by
      match i with
      | 0 => cases hv; cases hf; exact stepv_clean (L := { L with size := whole, count := count, e := 0 }) e1
      | i + 1 => simp at hv)
    have k3 := h.logAt.log.c3
    have k4 := h.logAt.log.c4
    have fz3 := h.logAt.log.fz 3
    have fz4 := h.logAt.log.fz 4
    have X := Lib.hid x
    have HM := Lib.hid hm
    have HW2 := Lib.hid hW2
    have HSZ := Lib.hid hsz
    clear h e1 hA harg hn hm h2 h2' h3 hrb x hW2 hsz
    go_enter Tryz.func76, Tryz.ntmps76
    go_wp2_with fail
    rw [HW2.out, HSZ.out]
    refine X.out.mono ?_
    rintro e w2 ⟨rfl, hl⟩
    have HL := Lib.hid hl
    clear hl X
    go_wp2
    go_ret
    rw [HM.out.1, HM.out.2]
    refine ⟨rfl, (HL.out.up (by omega)).sub (List.Sublist.cons_cons _ (List.sublist_cons_self _ _))⟩
end
end Go.Proofs.YtiikjdjpodmpcaaGreat
