/- Package wal: path.Temp; temp, has, clean of a log. -/
import Derived.Test.YtiikjdjpodmpcaaGreatWlMem
namespace Go.Proofs.YtiikjdjpodmpcaaGreat
open Go.RowKit Go.Maps
set_option linter.unusedVariables false

theorem with_tmp (w : World) (b : List UInt8) (hb : b.length ≤ 1000000000000) :
    Calls Tryz.prog 148 #[.string ⟨#[46, 116, 109, 112]⟩, .string (S b)] w fun e w' => e = .returned (.string (S (tmpOf b))) ∧ w = w' := by
  have hsz2 := S_size b
  have hx : (⟨#[46, 116, 109, 112]⟩ : ByteArray) ++ ⟨#[47]⟩ ++ S b = S (tmpOf b) := by
    have : (⟨#[46, 116, 109, 112]⟩ : ByteArray) = S [46, 116, 109, 112] := rfl
    have h2 : (⟨#[47]⟩ : ByteArray) = S [47] := rfl
    rw [this, h2, S_append, S_append]
    rfl
  have Hx := Lib.hid hx
  clear hx
  go_enter Tryz.func148, Tryz.ntmps148
  go_wp2
  go_ret
  rw [← Hx.out]
  exact ⟨rfl, rfl⟩
theorem isPath_len {l : Str} (h : isPath l = true) : l.length ≤ 64 := (path_parts h).len
theorem tmpOf_len {l : Str} (h : isPath l = true) : (tmpOf l).length ≤ 69 := by
  have := isPath_len h
  unfold tmpOf tempL
  simp
  omega
theorem temp_any (w : World) (l : List UInt8) (e1 : isPath l = true) :
    Calls Tryz.prog 131 #[.string (S l)] w fun e w' => e = .returned (.tuple #[.string (S (tmpOf l)), .int .i64 0]) ∧ Nx w w' := by
  have X := Lib.hid (check_any w l)
  have h0 : chk l = 0 := chk_zero.2 e1
  rw [h0] at X
  have hl := isPath_len e1
  have Y := Lib.hid (fun W => with_tmp W l (by omega))
  clear e1 h0 hl
  generalize S (tmpOf l) = t at *
  generalize S l = s at *
  go_enter Tryz.func131, Tryz.ntmps131
  go_wp2_with fail
  refine X.out.mono ?_
  rintro e w1 ⟨rfl, hb1⟩
  have H1 := Lib.hid hb1
  clear hb1 X
  go_wp2_with fail
  refine (Y.out w1).mono ?_
  rintro e w2 ⟨rfl, rfl⟩
  go_wp2
  go_ret2
  exact ⟨rfl, H1.out⟩

section
variable {w W : World} {tb lb k : Nat} {s : St} {L : Lg} {Z : List (Nat × Obj)}
theorem ltemp_any (hl : LogHas W tb lb L) (e1 : isPath L.path = true) :
    Calls Tryz.prog 100 #[.pointer (some ⟨lb, 0, none⟩)] W fun e w' => e = .returned (.string (S (tmpOf L.path))) ∧ Nx W w' := by
  have X := Lib.hid (fun W => temp_any W L.path e1)
  have c2 := hl.c2
  clear hl e1
  generalize S L.path = sp at *
  generalize S (tmpOf L.path) = st at *
  go_enter Tryz.func100, Tryz.ntmps100
  go_wp2_with fail
  refine (X.out W).mono ?_
  rintro e w1 ⟨rfl, hb⟩
  have H := Lib.hid hb
  clear hb X
  go_wp2
  go_ret
  exact ⟨rfl, H.out⟩
theorem lhas_any (h : LivZ w tb s k Z W) (hl : LogHas W tb lb L) (p : Str) (hp : p.length ≤ 10000) :
    Calls Tryz.prog 75 #[.pointer (some ⟨lb, 0, none⟩), .string (S p)] W fun e w' => e = .returned (.bool (s.stat p).2.2) ∧ ∃ m, w' = W.drewN m := by
  have X := Lib.hid (livz_stat h p hp)
  have c1 := hl.c1
  clear hl h
  generalize s.stat p = r at *
  obtain ⟨r1, r2, r3⟩ := r
  generalize S p = sp at *
  simp only at *
  go_enter Tryz.func75, Tryz.ntmps75
  go_wp2_with fail
  refine X.out.mono ?_
  rintro e w1 ⟨rfl, hb⟩
  have H := Lib.hid hb
  clear hb X
  go_wp2
  go_ret
  exact ⟨rfl, H.out⟩
theorem lclean_any (h : LivZ w tb s k ((lb, logO tb L) :: Z) W) (hk : k + 1 ≤ 1000) (e1 : isPath L.path = true) :
    Calls Tryz.prog 101 #[.pointer (some ⟨lb, 0, none⟩)] W fun e w' => e = .returned (.int .i64 (cleanS (tmpOf L.path) s).2) ∧ LivZ w tb (cleanS (tmpOf L.path) s).1 (k + 2) ((lb, logO tb L) :: Z) w' := by
  have hlen := tmpOf_len e1
  have X := Lib.hid (ltemp_any h.logAt.log e1)
  have Y : Hid (∀ W2, Nx W W2 → Calls Tryz.prog 75 #[.pointer (some ⟨lb, 0, none⟩), .string (S (tmpOf L.path))] W2 fun e w' => e = .returned (.bool (s.stat (tmpOf L.path)).2.2) ∧ Nx W w') := fun W2 hn =>
    (lhas_any (h.next hn) (h.next hn).logAt.log (tmpOf L.path) (by omega)).mono fun e w' ⟨e1, m, e2⟩ => ⟨e1, by rw [e2]; exact Nx.drewN hn m⟩
  have R : Hid (∀ W2, Nx W W2 → LogHas W2 tb lb L ∧ Calls Tryz.prog 132 #[.pointer (some ⟨tb, 0, none⟩), .string (S (tmpOf L.path))] W2 fun e w' => e = .returned (.int .i64 (s.remove (tmpOf L.path)).2) ∧ LivZ w tb (s.remove (tmpOf L.path)).1 (k + 2) ((lb, logO tb L) :: Z) w') := fun W2 hn =>
    ⟨(h.next hn).logAt.log, livz_remove (h.next hn) hk (tmpOf L.path) (by omega)⟩
  have N : Hid (∀ W2, Nx W W2 → LivZ w tb s (k + 2) ((lb, logO tb L) :: Z) W2) := fun W2 hn => (h.next hn).up (by omega)
  unfold cleanS
  generalize hst : s.stat (tmpOf L.path) = r at *
  obtain ⟨r1, r2, r3⟩ := r
  clear h e1 hlen hst
  generalize S (tmpOf L.path) = st at *
  simp only at *
  cases r3 with
  | true =>
    rw [if_pos rfl]
    generalize s.remove (tmpOf L.path) = q at *
    obtain ⟨q1, q2⟩ := q
    simp only at *
    go_enter Tryz.func101, Tryz.ntmps101
    go_wp2_with fail
    refine X.out.mono ?_
    rintro e w1 ⟨rfl, hb⟩
    have H1 := Lib.hid hb
    clear hb X
    go_wp2_with fail
    refine (Y.out w1 H1.out).mono ?_
    rintro e w2 ⟨rfl, hb⟩
    have H2 := Lib.hid hb
    have c1 := (R.out w2 H2.out).1.c1
    clear hb Y
    go_wp2_with fail
    refine (R.out w2 H2.out).2.mono ?_
    rintro e w3 ⟨rfl, hb⟩
    have H3 := Lib.hid hb
    clear hb R
    go_wp2
    go_ret
    exact ⟨rfl, H3.out⟩
  | false =>
    rw [if_neg (by decide)]
    go_enter Tryz.func101, Tryz.ntmps101
    go_wp2_with fail
    refine X.out.mono ?_
    rintro e w1 ⟨rfl, hb⟩
    have H1 := Lib.hid hb
    clear hb X
    go_wp2_with fail
    refine (Y.out w1 H1.out).mono ?_
    rintro e w2 ⟨rfl, hb⟩
    have H2 := Lib.hid hb
    clear hb Y
    go_wp2
    go_ret
    exact ⟨rfl, N.out w2 H2.out⟩
end
end Go.Proofs.YtiikjdjpodmpcaaGreat
