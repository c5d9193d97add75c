/- Package wal: Open, frames, Aside; calls of an invalid log. -/
import Derived.Test.YtiikjdjpodmpcaaGreatWlH
namespace Go.Proofs.YtiikjdjpodmpcaaGreat
open Go.RowKit Go.Maps
set_option linter.unusedVariables false

/-- What Open returns. -/
def OpenAns (lb : Nat) (A : Option Addr) (m c : Nat) (er : Int) (e : Ending) : Prop := (er = 0 ∧ e = .returned (.tuple #[.pointer (some ⟨lb, 0, none⟩), .slice A m c, .int .i64 0])) ∨ (er ≠ 0 ∧ e = .returned (.tuple #[.pointer none, .slice none 0 0, .int .i64 er]))
section
variable {w W W0 : World} {tb lb k : Nat} {s : St} {L : Lg} {Z : List (Nat × Obj)}
set_option maxRecDepth 100000 in
set_option maxHeartbeats 2000000 in
theorem lopen_all (h : LivZ w tb s k Z W) (hk : k + 12 ≤ 1000) (p : Str) (e1 : isPath p = true) (hl : (s.read p).2.1.length ≤ 10000) :
    Calls Tryz.prog 11 #[.pointer (some ⟨tb, 0, none⟩), .string (S p)] W fun e w' => ∃ lb A m c Z1, Z.Sublist Z1 ∧ LivZ w tb (openL p s).2.1 (k + 12) ((lb, logO tb (openL p s).1) :: Z1) w' ∧ StrZ Z1 A m c (openL p s).2.2.1 ∧ OpenAns lb A m c (openL p s).2.2.2 e := by
  have hlp := isPath_len e1
  have CK := lcheck_any h (by omega) p
  rw [show chk p = 0 from chk_zero.2 e1] at CK
  have X := Lib.hid CK
  have CL := Lib.hid (fun W => clone_any W (S p) (by rw [S_size]; omega))
  have BG : Hid (∀ W2, LivZ w tb s k Z W2 → Calls Tryz.prog 40 #[.pointer (some ⟨W2.heap.size, 0, none⟩)] (W2.alloc (.cells #[.int .i64 0, .pointer (some ⟨tb, 0, none⟩), .string (S p), .int .i64 0, .int .i64 0] 74)) fun e w' => ∃ A m c Z1, e = .returned (.tuple #[.slice A m c, .int .i64 (openL p s).2.2.2]) ∧ Z.Sublist Z1 ∧ LivZ w tb (openL p s).2.1 (k + 12) ((W2.heap.size, logO tb (openL p s).1) :: Z1) w' ∧ StrZ Z1 A m c (openL p s).2.2.1) := fun W2 h2 =>
    lbegin_any (L := ⟨p, 0, 0, 0⟩) (h2.alloc (logO tb ⟨p, 0, 0, 0⟩)) hk e1 hl
  clear h CK e1 hl hlp hk
  generalize hO : openL p s = O at *
  obtain ⟨L2, s2, rs, eo⟩ := O
  clear hO
  generalize S p = sp at *
  simp only at *
  go_enter Tryz.func11, Tryz.ntmps11
  go_wp2_with fail
  refine X.out.mono ?_
  rintro e w1 ⟨rfl, h1⟩
  have H1 := Lib.hid h1
  clear h1 X
  go_wp2_with fail
  refine (CL.out w1).mono ?_
  rintro e w2 ⟨rfl, hb⟩
  have H2 := Lib.hid (H1.out.next hb)
  clear hb CL H1
  go_wp2_with fail
  refine (BG.out w2 H2.out).mono ?_
  rintro e w3 ⟨A, m, c, Z1, rfl, hs, h3, hz⟩
  have H3 := Lib.hid (And.intro hs (And.intro h3 hz))
  clear hs h3 hz BG
  by_cases h0 : eo = 0
  · subst h0
    go_wp2
    go_ret3
    exact ⟨w2.heap.size, A, m, c, Z1, H3.out.1, H3.out.2.1, H3.out.2.2, .inl ⟨rfl, rfl⟩⟩
  · go_wp2
    go_ret3
    exact ⟨w2.heap.size, A, m, c, Z1, H3.out.1, H3.out.2.1, H3.out.2.2, .inr ⟨h0, rfl⟩⟩
/-- Open, where it returns OK. -/
theorem lopen_ok (h : LivZ w tb s k Z W) (hk : k + 12 ≤ 1000) (p : Str) (e1 : isPath p = true) (hl : (s.read p).2.1.length ≤ 10000) (he : (openL p s).2.2.2 = 0) :
    Calls Tryz.prog 11 #[.pointer (some ⟨tb, 0, none⟩), .string (S p)] W fun e w' => ∃ lb A m c Z1, e = .returned (.tuple #[.pointer (some ⟨lb, 0, none⟩), .slice A m c, .int .i64 0]) ∧ Z.Sublist Z1 ∧ LivZ w tb (openL p s).2.1 (k + 12) ((lb, logO tb (openL p s).1) :: Z1) w' ∧ StrZ Z1 A m c (openL p s).2.2.1 :=
  (lopen_all h hk p e1 hl).mono fun e w' ⟨lb, A, m, c, Z1, h1, h2, h3, h4⟩ => by
    rcases h4 with ⟨_, h4⟩ | ⟨h5, _⟩
    · exact ⟨lb, A, m, c, Z1, h4, h1, h2, h3⟩
    · exact absurd he h5
theorem lopen_nil (W : World) (p : Str) :
    Calls Tryz.prog 11 #[.pointer none, .string (S p)] W fun e w' => e = .returned (.tuple #[.pointer none, .slice none 0 0, .int .i64 1]) ∧ Nx W w' := by
  have X := Lib.hid (check_nil W p)
  generalize S p = sp at *
  go_enter Tryz.func11, Tryz.ntmps11
  go_wp2_with fail
  refine X.out.mono ?_
  rintro e w1 ⟨rfl, h1⟩
  have H1 := Lib.hid h1
  clear h1 X
  go_wp2
  go_ret3
  exact ⟨rfl, H1.out⟩

/-! ### frames -/
theorem fra_take (rs : List Str) (i : Nat) (r : Str) (h : rs[i]? = some r) : fra (rs.take (i + 1)) = fra (rs.take i) ++ frame r := by
  rw [List.take_add_one, h, fra_append]
  show _ ++ fra [r] = _
  rw [fra_one]
theorem fra_take_le (rs : List Str) (i : Nat) : (fra (rs.take i)).length ≤ (fra rs).length := by
  have : fra rs = fra (rs.take i) ++ fra (rs.drop i) := by rw [← fra_append, List.take_append_drop]
  rw [this, List.length_append]
  omega
theorem fra_one_le {rs : List Str} {r : Str} (h : r ∈ rs) : 8 + r.length ≤ (fra rs).length := by
  obtain ⟨a, b, rfl⟩ := List.append_of_mem h
  rw [fra_append, fra_cons, List.length_append, List.length_append, frame_length]
  omega
set_option maxRecDepth 100000 in
set_option maxHeartbeats 2000000 in
theorem frames_any (w : World) (A : Option Addr) (n c : Nat) (rs : List Str) (h : Strs w A n rs) (hl : (fra rs).length ≤ 10000) :
    Calls Tryz.prog 63 #[.slice A n c] w fun e w' => ∃ A' m c', e = .returned (.tuple #[.slice A' m c', .int .i64 0]) ∧ Own w' w.heap.size A' m c' (fra rs) ∧ Nx w w' := by
  have hn := h.len
  have hle := h.le
  have HL := Lib.hid hl
  have HN := Lib.hid hn
  have H := Lib.hid h
  have i1 : (n : Int) ≤ 1000000 := by omega
  clear h hn hl
  go_enter Tryz.func63, Tryz.ntmps63
  go_wp2
  go_loopw [4, 11] (fun y x wr => ∃ (i m c' : Nat) (A' : Option Addr), y = .slice A' m c' ∧ x = .int .i64 i ∧ i ≤ n ∧ m ≤ 10000 ∧ Hid (Own wr w.heap.size A' m c' (fra (rs.take i)) ∧ Nx w wr)) (fun _ x _ => n - (intOf x).toNat)
  case atStart => exact ⟨0, 0, 0, none, rfl, rfl, Nat.zero_le _, Nat.zero_le _, ⟨rfl, .inl ⟨rfl, rfl⟩⟩, Nx.refl w⟩
  case round =>
    obtain ⟨i, m, c', A', rfl, rfl, hi, hm, hrel⟩ := hrel
    by_cases hlt : i < n
    · obtain ⟨r, hr⟩ : ∃ r, rs[i]? = some r := ⟨_, List.getElem?_eq_getElem (by rw [HN.out]; exact hlt)⟩
      have hmem := List.mem_of_getElem? hr
      have hr9 := fra_one_le hmem
      obtain ⟨b1, rfl, hb1, hc1⟩ := H.out.at_ (by omega)
      have d1 : wr.cell? ⟨b1, i, none⟩ = some (.string (S r)) := by
        rw [hrel.out.2.cell hb1, hc1 i hlt]
        simp [List.getD, hr]
      have hft := fra_take rs i r hr
      have hfl := fra_take_le rs (i + 1)
      have hfr := frame_length r
      have hml := hrel.out.1.len
      have FR := Lib.hid (sframe_any wr r (by have := HL.out; omega))
      have HFT := Lib.hid hft
      have hsum : m + (8 + r.length) ≤ 10000 := by rw [hft, List.length_append, hml, hfr] at hfl; have := HL.out; omega
      have HFR := Lib.hid hfr
      have REL := hrel
      clear hr hmem hr9 hc1 hft hfl hfr hml hrel
      generalize S r = sr at *
      go_wp2_with fail
      refine FR.out.mono ?_
      rintro e w2 ⟨⟨A2, n2, c2, rfl, ho2⟩, hn2⟩
      have hl2 : m + n2 ≤ 10000 := by have := ho2.len; have := HFR.out; omega
      have hby := ho2.byt
      have hown : Own w2 w.heap.size A' m c' (fra (rs.take i)) := REL.out.1.below hn2
      have hnx := REL.out.2.trans hn2
      have hsz := hnx.size
      have HO := Lib.hid hown
      have HX := Lib.hid hnx
      have HBY := Lib.hid hby
      clear ho2 hn2 FR REL hown hnx hby hsum
      go_wp2_with (at_builtin; refine wpList_byte_append rfl (.tmp 23) (.tmp 24) rfl w.heap.size A' m c' _ rfl HO.out w2.heap.size A2 n2 c2 _ rfl HBY.out (by omega) hsz ?_; intro A3 c3 w3 hown3 hgr3 hat3)
      have hnx3 : Nx w w3 := HX.out.grown hgr3 (by exact hsz) fun k hk => (World.ownsRow.lt HO.out k hk).1
      rw [← HFT.out] at hown3
      have REL3 := Lib.hid (And.intro hown3 hnx3)
      clear hown3 hnx3 hgr3 hat3 HO HX HBY
      go_roundw
      case rel => exact ⟨i + 1, m + n2, c3, A3, rfl, by go_num, by omega, by omega, REL3.out⟩
      case measure => simp [intOf]; omega
    · obtain rfl : i = n := by omega
      have hfin : rs.take i = rs := List.take_of_length_le (by rw [HN.out]; exact Nat.le_refl _)
      have RR := hrel.out
      rw [hfin] at RR
      have R2 := Lib.hid RR
      clear RR hfin hrel
      go_wp2
      go_ret2
      exact ⟨A', m, c', rfl, R2.out⟩

/-! ### Aside -/
def Lg.aside (L : Lg) (s : St) (rs : List Str) : Lg × St := L.replace s (fra rs) (rs.length : Nat)
set_option maxRecDepth 100000 in
set_option maxHeartbeats 2000000 in
theorem laside_any (h : LivZ w tb s k ((lb, logO tb L) :: Z) W) (hk : k + 12 ≤ 1000) (e1 : isPath L.path = true) (A : Option Addr) (n c : Nat) (rs : List Str) (hs : Strs W A n rs) (hl : (fra rs).length ≤ 10000) :
    Calls Tryz.prog 34 #[.pointer (some ⟨lb, 0, none⟩), .slice A n c] W fun e w' => e = .returned (.int .i64 (L.aside s rs).1.e) ∧ ∃ Z1, Z.Sublist Z1 ∧ LivZ w tb (L.aside s rs).2 (k + 12) ((lb, logO tb (L.aside s rs).1) :: Z1) w' := by
  have V := Lib.hid (lvalid_any h.logAt.log)
  have FR := Lib.hid (frames_any W A n c rs hs hl)
  have hn := hs.len
  have hle := hs.le
  have H := Lib.hid h
  have HN := Lib.hid hn
  have HK := Lib.hid hk
  have HL := Lib.hid hl
  have E1 := Lib.hid e1
  have i1 : (n : Int) ≤ 1000000 := by omega
  clear h hs hn hl hk e1
  go_enter Tryz.func34, Tryz.ntmps34
  go_wp2_with fail
  refine V.out.mono ?_
  rintro e w1 ⟨rfl, rfl⟩
  go_wp2_with fail
  refine FR.out.mono ?_
  rintro e w2 ⟨A2, n2, c2, rfl, ho, hn2⟩
  obtain ⟨Z1, hsub, h2, hA⟩ := H.out.own hn2 ho HL.out
  have RP := lreplace_any w w2 tb lb k s L Z1 A2 n2 c2 (fra rs) (n : Int) h2 HK.out E1.out hA
  have hR : L.replace s (fra rs) (n : Int) = L.aside s rs := by unfold Lg.aside; rw [HN.out]
  rw [hR] at RP
  have X := Lib.hid RP
  have HS := Lib.hid hsub
  clear RP hR hsub h2 hA ho hn2 FR V H
  generalize hq : L.aside s rs = q at *
  obtain ⟨L2, s2⟩ := q
  have HQ := Lib.hid hq
  clear hq
  simp only at X
  go_wp2_with fail
  refine X.out.mono ?_
  rintro e w3 ⟨rfl, h3⟩
  have H3 := Lib.hid h3
  clear h3 X
  go_wp2
  go_ret
  rw [HQ.out]
  exact ⟨rfl, Z1, HS.out, H3.out⟩
end

/-! ### An invalid log -/
theorem lappend_nil (W : World) (s : ByteArray) :
    Calls Tryz.prog 32 #[.pointer none, .string s] W fun e w' => e = .returned (.int .i64 1) ∧ Nx W w' := by
  go_enter Tryz.func32, Tryz.ntmps32
  go_wp2_with fail
  refine (lvalid_nil _).mono ?_
  rintro e w1 ⟨rfl, rfl⟩
  go_wp2
  go_ret
  exact ⟨rfl, (Below.refl _ W).alloc (Nat.le_refl _) _⟩
theorem lsync_nil (W : World) :
    Calls Tryz.prog 33 #[.pointer none] W fun e w' => e = .returned (.int .i64 1) ∧ Nx W w' := by
  go_enter Tryz.func33, Tryz.ntmps33
  go_wp2_with fail
  refine (lvalid_nil _).mono ?_
  rintro e w1 ⟨rfl, rfl⟩
  go_wp2
  go_ret
  exact ⟨rfl, (Below.refl _ W).alloc (Nat.le_refl _) _⟩
theorem laside_nil (W : World) (A : Option Addr) (n c : Nat) :
    Calls Tryz.prog 34 #[.pointer none, .slice A n c] W fun e w' => e = .returned (.int .i64 1) ∧ Nx W w' := by
  go_enter Tryz.func34, Tryz.ntmps34
  go_wp2_with fail
  refine (lvalid_nil _).mono ?_
  rintro e w1 ⟨rfl, rfl⟩
  go_wp2
  go_ret
  exact ⟨rfl, Nx.refl W⟩
end Go.Proofs.YtiikjdjpodmpcaaGreat
