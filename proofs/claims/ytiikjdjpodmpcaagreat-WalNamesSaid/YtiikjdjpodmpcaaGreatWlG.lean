/- Package wal: Scan. -/
import Derived.Test.YtiikjdjpodmpcaaGreatWlF
namespace Go.Proofs.YtiikjdjpodmpcaaGreat
open Go.RowKit Go.Maps
set_option linter.unusedVariables false

/-- A row of strings with one more. -/
theorem strRow_more {w : World} {B : Nat} {gb n cap : Nat} {ps : List Str} {p : Str} {sp : ByteArray} (hsp : S p = sp) (h : w.ownsRow B 9 1 (.slice (some ⟨gb, 0, none⟩) (n + 1) cap) (n + 1) (strV ps ++ [.string sp])) : StrRow w B (some ⟨gb, 0, none⟩) (n + 1) cap (ps ++ [p]) := by
  unfold StrRow strV
  rw [List.map_append, List.map_cons, List.map_nil, hsp]
  exact h
/-- Where a slice may lie. -/
def RowForm (A : Option Addr) (n c : Nat) : Prop := (A = none ∧ n = 0 ∧ c = 0) ∨ (∃ x, A = some x ∧ n = 0 ∧ c = 0) ∨ ∃ g o, A = some ⟨g, o, none⟩
theorem RowForm.of {A : Option Addr} {n c : Nat} (h : (A = none ∧ n = 0 ∧ c = 0) ∨ ∃ g, A = some ⟨g, 0, none⟩) : RowForm A n c := h.imp id fun ⟨g, h⟩ => .inr ⟨g, 0, h⟩
/-- What a round of Scan finds: ps and k bytes so far. -/
def ScanR (w wr : World) (l : Str) (A : Option Addr) (m c k : Nat) (ps : List Str) : Prop :=
  StrRow wr w.heap.size A m c ps ∧ Nx w wr ∧ scan l = (ps ++ (scan (l.drop k)).1, k + (scan (l.drop k)).2.1, (scan (l.drop k)).2.2)
theorem ScanR.start (w : World) (l : Str) : ScanR w w l none 0 0 0 [] := ⟨⟨rfl, .inl ⟨rfl, rfl⟩⟩, Nx.refl w, by simp⟩
theorem ScanR.nx {w wr w2 : World} {l : Str} {A : Option Addr} {m c k : Nat} {ps : List Str} (h : ScanR w wr l A m c k ps) : Nx w wr := h.2.1
theorem ScanR.end_ {w wr w2 : World} {l : Str} {A : Option Addr} {m c k : Nat} {ps : List Str} (h : ScanR w wr l A m c k ps) (hn : Nx wr w2) (he : (unfr (l.drop k)).2.2 ≠ 0) :
    StrRow w2 w.heap.size A m c (scan l).1 ∧ (scan l).2.1 = k ∧ (scan l).2.2 = (if (unfr (l.drop k)).2.2 = 5 then 0 else (unfr (l.drop k)).2.2) ∧ Nx w w2 := by
  obtain ⟨h1, h2, h3⟩ := h
  have e := scan_eq (l.drop k)
  rw [if_neg he] at e
  rw [e] at h3
  simp only [List.append_nil, Nat.add_zero] at h3
  rw [h3]
  exact ⟨row_chd (M := fun _ => False) h1 (Chd.of_below hn) (fun _ _ e => e), rfl, rfl, h2.trans hn⟩

theorem ScanR.step {w wr w2 w5 : World} {l p : Str} {A : Option Addr} {m c k q gb cap : Nat} {ps : List Str} {sp : ByteArray} (h : ScanR w wr l A m c k ps) (hn : Nx wr w2) (hu : unfr (l.drop k) = (p, q, 0)) (hsp : S p = sp)
    (hown : w5.ownsRow w.heap.size 9 1 (.slice (some ⟨gb, 0, none⟩) (m + 1) cap) (m + 1) (strV ps ++ [.string sp])) (hgrow : (w2.alloc (.cells #[.string sp] 9)).grownBy w5 (Value.slice A m c).ownBlock) :
    ScanR w w5 l (some ⟨gb, 0, none⟩) (m + 1) cap (k + q) (ps ++ [p]) := by
  obtain ⟨h1, h2, h3⟩ := h
  have e := scan_eq (l.drop k)
  rw [hu] at e
  simp only [↓reduceIte, List.drop_drop] at e
  rw [e] at h3
  refine ⟨strRow_more hsp hown, ?_, ?_⟩
  · have C25 : Chd (fun j => (Value.slice A m c).ownBlock = some j) wr w5 := (Chd.of_below (hn.trans ((Below.refl _ w2).alloc (Nat.le_refl _) _))).trans (Chd.of_grownBy hgrow)
    have a : Chd (fun _ => False) w w5 := (Chd.of_below h2).then_ C25 (fun j hj e => by
      have := (World.ownsRow.lt h1 j e).1
      omega)
    exact a.below (Nat.le_refl _) (fun _ _ e => e)
  · rw [h3]
    simp only [List.append_assoc, List.cons_append, List.nil_append]
    congr 2
    omega

set_option maxRecDepth 100000 in
set_option maxHeartbeats 4000000 in
theorem scan_any (w : World) (B : Nat) (A : Option Addr) (n c : Nat) (l : Str) (hb : Byt w B A n c l) (hB : B ≤ w.heap.size) (hform : RowForm A n c) (hn : n ≤ 1000000) :
    Calls Tryz.prog 10 #[.slice A n c] w fun e w' => ∃ A' m c', e = .returned (.tuple #[.slice A' m c', .int .i64 ((scan l).2.1 : Nat), .int .i64 ((scan l).2.2 : Nat)]) ∧ StrRow w' w.heap.size A' m c' (scan l).1 ∧ m ≤ n ∧ Nx w w' := by
  obtain ⟨i0, hi, hz0, hz1, hz2⟩ := info_parts string_info
  have hle := hb.le
  have hcap := hb.cap
  have HCAP := Lib.hid hcap
  have HL := Lib.hid hb.len
  have H := Lib.hid hb
  have HB := Lib.hid hB
  have HF := Lib.hid hform
  have j1 : (n : Int) ≤ 1000000 := by omega
  have j2 : (c : Int) ≤ 9223372036854775807 := by unfold maxLen at hcap; omega
  clear hb hB hform hcap
  go_enter Tryz.func10, Tryz.ntmps10
  go_wp2
  go_loopw [2, 3] (fun y x wr => ∃ (k m c' : Nat) (A' : Option Addr) (ps : List Str), y = .slice A' m c' ∧ x = .int .i64 k ∧ k ≤ n ∧ 8 * m ≤ k ∧ Hid (ScanR w wr l A' m c' k ps)) (fun _ x _ => n - (intOf x).toNat)
  case atStart => exact ⟨0, 0, 0, none, [], rfl, rfl, Nat.zero_le _, Nat.le_refl _, ScanR.start w l⟩
  case round =>
    obtain ⟨k, m, c', A', ps, rfl, rfl, hkn, hmk, hrel⟩ := hrel
    have hnx : Nx w wr := ScanR.nx (w2 := wr) hrel.out
    have hby := ((H.out.more HB.out).below hnx (Nat.le_refl _)).more hnx.size
    have hcut := hby.cut (lo := k) (hi := n) hkn (Nat.le_refl _)
    rw [List.take_of_length_le (by rw [HL.out]; exact Nat.le_refl _)] at hcut
    obtain ⟨A2, hA2⟩ : ∃ A2, (if c = k then A else A.map (·.add k)) = A2 := ⟨_, rfl⟩
    rw [hA2] at hcut
    have un := unframe_any wr wr.heap.size A2 (n - k) (c - k) (l.drop k) hcut (Nat.le_refl _) (by omega)
    obtain ⟨r1, hr1⟩ : ∃ r1, n - k = r1 := ⟨_, rfl⟩
    obtain ⟨r2, hr2⟩ : ∃ r2, c - k = r2 := ⟨_, rfl⟩
    rw [hr1, hr2] at un
    have UN := Lib.hid un
    clear un
    have hue := unfr_e (l.drop k)
    have hun := unfr_n (l.drop k)
    have hend := fun w2 hn he => ScanR.end_ (w2 := w2) hrel.out hn he
    have hsq := scan_eq (l.drop k)
    have hdd : (l.drop k).length = n - k := by rw [List.length_drop, HL.out]
    rw [hdd] at hun
    unfold unfrV at UN
    generalize hu : unfr (l.drop k) = u at *
    obtain ⟨p, q, e'⟩ := u
    simp only at UN hue hun hend hsq
    have hc3 : Hid ((A = none ∧ n = 0 ∧ c = 0 ∧ k = 0 ∧ A2 = none ∧ r1 = 0 ∧ r2 = 0) ∨ (∃ x, A = some x ∧ c = k ∧ n = k ∧ A2 = some x ∧ r1 = 0 ∧ r2 = 0) ∨ (∃ g o, A = some ⟨g, o, none⟩ ∧ ¬ c = k ∧ A2 = some ⟨g, o + k, none⟩ ∧ r1 = n - k ∧ r2 = c - k)) := by
      rcases HF.out with ⟨h1, h2, h3⟩ | ⟨x, h1, h2, h3⟩ | ⟨g, o, h1⟩
      · subst h1 h2 h3
        obtain rfl : k = 0 := by omega
        exact .inl ⟨rfl, rfl, rfl, rfl, by rw [← hA2]; simp, by omega, by omega⟩
      · subst h1 h2 h3
        obtain rfl : k = 0 := by omega
        exact .inr (.inl ⟨x, rfl, rfl, rfl, by rw [← hA2]; simp, by omega, by omega⟩)
      · subst h1
        by_cases hck : c = k
        · exact .inr (.inl ⟨_, rfl, hck, by omega, by rw [← hA2, if_pos hck], by omega, by omega⟩)
        · refine .inr (.inr ⟨g, o, rfl, hck, ?_⟩)
          rw [← hA2, if_neg hck]
          simp only [Option.map_some, add_plain]
          exact ⟨trivial, hr1.symm, hr2.symm⟩
    have REL := hrel
    have HEND := Lib.hid hend
    have HSQ := Lib.hid hsq
    have HUE := Lib.hid hue
    have HUN := Lib.hid hun
    have HDD := Lib.hid hdd
    have HU := Lib.hid hu
    have k1 : (k : Int) ≤ n := by omega
    have k2 : (k : Int) ≤ c := by omega
    clear hr1 hr2 hnx hby hcut hA2 hue hun hend hsq hdd hu hrel
    rcases hc3.out with ⟨rfl, rfl, rfl, rfl, rfl, rfl, rfl⟩ | ⟨g, rfl, rfl, rfl, rfl, rfl, rfl⟩ | ⟨g, o, rfl, hck, rfl, rfl, rfl⟩
    all_goals go_wp2_with fail
    all_goals refine UN.out.mono ?_
    all_goals rintro e w2 ⟨rfl, hb2⟩
    all_goals have HN2 : Hid (Nx wr w2) := hb2
    all_goals clear hb2 UN
    · rcases HUE.out with h0 | h4 | h5
      · exact absurd (HUN.out h0) (by omega)
      · subst h4
        have E := HEND.out w2 HN2.out (by decide)
        rw [if_neg (by decide)] at E
        have E' := Lib.hid E
        clear E HEND
        go_wp2
        go_ret3
        exact ⟨A', m, c', by rw [E'.out.2.1, E'.out.2.2.1]; rfl, E'.out.1, by omega, E'.out.2.2.2⟩
      · subst h5
        have E := HEND.out w2 HN2.out (by decide)
        rw [if_pos rfl] at E
        have E' := Lib.hid E
        clear E HEND
        go_wp2
        go_ret3
        exact ⟨A', m, c', by rw [E'.out.2.1, E'.out.2.2.1]; rfl, E'.out.1, by omega, E'.out.2.2.2⟩
    · rcases HUE.out with h0 | h4 | h5
      · exact absurd (HUN.out h0) (by omega)
      · subst h4
        have E := HEND.out w2 HN2.out (by decide)
        rw [if_neg (by decide)] at E
        have E' := Lib.hid E
        clear E HEND
        go_wp2
        go_ret3
        exact ⟨A', m, c', by rw [E'.out.2.1, E'.out.2.2.1]; rfl, E'.out.1, by omega, E'.out.2.2.2⟩
      · subst h5
        have E := HEND.out w2 HN2.out (by decide)
        rw [if_pos rfl] at E
        have E' := Lib.hid E
        clear E HEND
        go_wp2
        go_ret3
        exact ⟨A', m, c', by rw [E'.out.2.1, E'.out.2.2.1]; rfl, E'.out.1, by omega, E'.out.2.2.2⟩
    · rcases HUE.out with h0 | h4 | h5
      · subst h0
        have hq := HUN.out rfl
        obtain ⟨sp, hsp⟩ : ∃ sp, S p = sp := ⟨_, rfl⟩
        have hsp' : (⟨p.toArray⟩ : ByteArray) = sp := hsp
        have HSP := Lib.hid hsp
        rw [hsp']
        clear hsp hsp' HEND
        have hrow3 : (w2.alloc (.cells #[.string sp] 9)).ownsRow w.heap.size 9 1 (.slice A' m c') m (strV ps) :=
          row_chd (M := fun _ => False) REL.out.1 (Chd.of_below (Nx.trans HN2.out ((Below.refl _ w2).alloc (Nat.le_refl _) _))) (fun _ _ e => e)
        have HR3 := Lib.hid hrow3
        have hBl : w.heap.size ≤ w2.heap.size := Nat.le_trans REL.out.2.1.size HN2.out.size
        have q1 : (k : Int) + q ≤ n := by omega
        clear hrow3
        go_wp2_with (at_builtin; refine wpList_append_lies _ rfl _ _ 24 rfl w.heap.size 9 i0 (.string ⟨#[]⟩) 1 16 Tryz.underlying24 hi hz0 hz1 hz2 rfl (by decide) (.slice A' m c') m _ rfl HR3.out ⟨w2.heap.size, 0, none⟩ 1 1 [.string sp] rfl rfl (cell_one_new _ _ _) (by simp [Value.oneCell']) (by decide) (by unfold maxLen; omega) (by omega) (by simp; omega) _ rfl ?_; intro gb cap w5 hown5 hgrow hat hlt5)
        have ST := Lib.hid (ScanR.step REL.out HN2.out HU.out HSP.out hown5 hgrow)
        clear hown5 hgrow hat HR3
        go_roundw
        case rel => exact ⟨k + q, m + 1, cap, some ⟨gb, 0, none⟩, ps ++ [p], rfl, by go_num, by omega, by omega, ST.out⟩
        case measure => simp [intOf]; omega
      · subst h4
        have E := HEND.out w2 HN2.out (by decide)
        rw [if_neg (by decide)] at E
        have E' := Lib.hid E
        clear E HEND
        go_wp2
        go_ret3
        exact ⟨A', m, c', by rw [E'.out.2.1, E'.out.2.2.1]; rfl, E'.out.1, by omega, E'.out.2.2.2⟩
      · subst h5
        have E := HEND.out w2 HN2.out (by decide)
        rw [if_pos rfl] at E
        have E' := Lib.hid E
        clear E HEND
        go_wp2
        go_ret3
        exact ⟨A', m, c', by rw [E'.out.2.1, E'.out.2.2.1]; rfl, E'.out.1, by omega, E'.out.2.2.2⟩
end Go.Proofs.YtiikjdjpodmpcaaGreat
