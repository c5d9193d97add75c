/- The document's answer for Scan. -/
import Derived.Test.YtiikjdjpodmpcaaGreatWlStr
import Derived.Test.YtiikjdjpodmpcaaGreatWiRef
namespace Go.Proofs.YtiikjdjpodmpcaaGreat
open Go.RowKit Go.Maps
set_option linter.unusedVariables false

set_option maxRecDepth 100000 in
set_option maxHeartbeats 4000000 in
theorem rscan_any (w : World) (B : Nat) (A : Option Addr) (n c : Nat) (l : Str) (hb : Byt w B A n c l) (hB : B ≤ w.heap.size) (hform : RowForm A n c) (hn : n ≤ 1000000) :
    Calls Tryz.prog 15 #[.slice A n c] w fun e w' => ∃ A' m c', e = .returned (.tuple #[.slice A' m c', .int .i64 ((scan l).2.1 : Nat), .int .i64 ((scan l).2.2 : Nat)]) ∧ StrRow w' w.heap.size A' m c' (scan l).1 ∧ m ≤ n ∧ Nx w w' := by
  obtain ⟨i0, hi, hz0, hz1, hz2⟩ := info_parts string_info
  have hle := hb.le
  have hcap := hb.cap
  have HCAP := Lib.hid hcap
  have HL := Lib.hid hb.len
  have H := Lib.hid hb
  have HB := Lib.hid hB
  have HF := Lib.hid hform
  have j1 : (n : Int) ≤ 1000000 := by omega
  have j2 : (c : Int) ≤ 9223372036854775807 := by unfold maxLen at hcap; omega
  clear hb hB hform hcap
  go_enter Tryz.func15, Tryz.ntmps15
  go_wp2
  go_loopw [5, 6] (fun y x wr => ∃ (k m c' : Nat) (A' : Option Addr) (ps : List Str), y = .slice A' m c' ∧ x = .int .i64 k ∧ k ≤ n ∧ 8 * m ≤ k ∧ Hid (ScanR w wr l A' m c' k ps)) (fun _ x _ => n - (intOf x).toNat)
  case atStart => exact ⟨0, 0, 0, none, [], rfl, rfl, Nat.zero_le _, Nat.le_refl _, ScanR.start w l⟩
  case round =>
    obtain ⟨k, m, c', A', ps, rfl, rfl, hkn, hmk, hrel⟩ := hrel
    have hnx : Nx w wr := ScanR.nx (w2 := wr) hrel.out
    have hby := ((H.out.more HB.out).below hnx (Nat.le_refl _)).more hnx.size
    have hcut := hby.cut (lo := k) (hi := n) hkn (Nat.le_refl _)
    rw [List.take_of_length_le (by rw [HL.out]; exact Nat.le_refl _)] at hcut
    obtain ⟨A2, hA2⟩ : ∃ A2, (if c = k then A else A.map (·.add k)) = A2 := ⟨_, rfl⟩
    rw [hA2] at hcut
    have un := (runframe_any wr wr.heap.size A2 (n - k) (c - k) (l.drop k) hcut (Nat.le_refl _)).mono fun e w' ⟨e1, q, e2⟩ => (⟨e1, by rw [e2]; exact Nx.drewN (Nx.refl _) q⟩ : e = _ ∧ Nx wr w')
    obtain ⟨r1, hr1⟩ : ∃ r1, n - k = r1 := ⟨_, rfl⟩
    obtain ⟨r2, hr2⟩ : ∃ r2, c - k = r2 := ⟨_, rfl⟩
    rw [hr1, hr2] at un
    have UN := Lib.hid un
    clear un
    have hue := unfr_e (l.drop k)
    have hun := unfr_n (l.drop k)
    have hend := fun w2 hn he => ScanR.end_ (w2 := w2) hrel.out hn he
    have hsq := scan_eq (l.drop k)
    have hdd : (l.drop k).length = n - k := by rw [List.length_drop, HL.out]
    rw [hdd] at hun
    unfold unfrV at UN
    generalize hu : unfr (l.drop k) = u at *
    obtain ⟨p, q, e'⟩ := u
    simp only at UN hue hun hend hsq
    have hc3 : Hid ((A = none ∧ n = 0 ∧ c = 0 ∧ k = 0 ∧ A2 = none ∧ r1 = 0 ∧ r2 = 0) ∨ (∃ x, A = some x ∧ c = k ∧ n = k ∧ A2 = some x ∧ r1 = 0 ∧ r2 = 0) ∨ (∃ g o, A = some ⟨g, o, none⟩ ∧ ¬ c = k ∧ A2 = some ⟨g, o + k, none⟩ ∧ r1 = n - k ∧ r2 = c - k)) := by
      rcases HF.out with ⟨h1, h2, h3⟩ | ⟨x, h1, h2, h3⟩ | ⟨g, o, h1⟩
      · subst h1 h2 h3
        obtain rfl : k = 0 := by omega
        exact .inl ⟨rfl, rfl, rfl, rfl, by rw [← hA2]; simp, by omega, by omega⟩
      · subst h1 h2 h3
        obtain rfl : k = 0 := by omega
        exact .inr (.inl ⟨x, rfl, rfl, rfl, by rw [← hA2]; simp, by omega, by omega⟩)
      · subst h1
        by_cases hck : c = k
        · exact .inr (.inl ⟨_, rfl, hck, by omega, by rw [← hA2, if_pos hck], by omega, by omega⟩)
        · refine .inr (.inr ⟨g, o, rfl, hck, ?_⟩)
          rw [← hA2, if_neg hck]
          simp only [Option.map_some, add_plain]
          exact ⟨trivial, hr1.symm, hr2.symm⟩
    have REL := hrel
    have HEND := Lib.hid hend
    have HSQ := Lib.hid hsq
    have HUE := Lib.hid hue
    have HUN := Lib.hid hun
    have HDD := Lib.hid hdd
    have HU := Lib.hid hu
    have k1 : (k : Int) ≤ n := by omega
    have k2 : (k : Int) ≤ c := by omega
    clear hr1 hr2 hnx hby hcut hA2 hue hun hend hsq hdd hu hrel
    rcases hc3.out with ⟨rfl, rfl, rfl, rfl, rfl, rfl, rfl⟩ | ⟨g, rfl, rfl, rfl, rfl, rfl, rfl⟩ | ⟨g, o, rfl, hck, rfl, rfl, rfl⟩
    all_goals go_wp2_with fail
    all_goals refine UN.out.mono ?_
    all_goals rintro e w2 ⟨rfl, hb2⟩
    all_goals have HN2 : Hid (Nx wr w2) := hb2
    all_goals clear hb2 UN
    · rcases HUE.out with h0 | h4 | h5
      · exact absurd (HUN.out h0) (by omega)
      · subst h4
        have E := HEND.out w2 HN2.out (by decide)
        rw [if_neg (by decide)] at E
        have E' := Lib.hid E
        clear E HEND
        go_wp2
        go_ret3
        exact ⟨A', m, c', by rw [E'.out.2.1, E'.out.2.2.1]; rfl, E'.out.1, by omega, E'.out.2.2.2⟩
      · subst h5
        have E := HEND.out w2 HN2.out (by decide)
        rw [if_pos rfl] at E
        have E' := Lib.hid E
        clear E HEND
        go_wp2
        go_ret3
        exact ⟨A', m, c', by rw [E'.out.2.1, E'.out.2.2.1]; rfl, E'.out.1, by omega, E'.out.2.2.2⟩
    · rcases HUE.out with h0 | h4 | h5
      · exact absurd (HUN.out h0) (by omega)
      · subst h4
        have E := HEND.out w2 HN2.out (by decide)
        rw [if_neg (by decide)] at E
        have E' := Lib.hid E
        clear E HEND
        go_wp2
        go_ret3
        exact ⟨A', m, c', by rw [E'.out.2.1, E'.out.2.2.1]; rfl, E'.out.1, by omega, E'.out.2.2.2⟩
      · subst h5
        have E := HEND.out w2 HN2.out (by decide)
        rw [if_pos rfl] at E
        have E' := Lib.hid E
        clear E HEND
        go_wp2
        go_ret3
        exact ⟨A', m, c', by rw [E'.out.2.1, E'.out.2.2.1]; rfl, E'.out.1, by omega, E'.out.2.2.2⟩
    · rcases HUE.out with h0 | h4 | h5
      · subst h0
        have hq := HUN.out rfl
        obtain ⟨sp, hsp⟩ : ∃ sp, S p = sp := ⟨_, rfl⟩
        have hsp' : (⟨p.toArray⟩ : ByteArray) = sp := hsp
        have HSP := Lib.hid hsp
        rw [hsp']
        clear hsp hsp' HEND
        have hrow3 : (w2.alloc (.cells #[.string sp] 9)).ownsRow w.heap.size 9 1 (.slice A' m c') m (strV ps) :=
          row_chd (M := fun _ => False) REL.out.1 (Chd.of_below (Nx.trans HN2.out ((Below.refl _ w2).alloc (Nat.le_refl _) _))) (fun _ _ e => e)
        have HR3 := Lib.hid hrow3
        have hBl : w.heap.size ≤ w2.heap.size := Nat.le_trans REL.out.2.1.size HN2.out.size
        have q1 : (k : Int) + q ≤ n := by omega
        clear hrow3
        go_wp2_with (at_builtin; refine wpList_append_lies _ rfl _ _ 24 rfl w.heap.size 9 i0 (.string ⟨#[]⟩) 1 16 Tryz.underlying24 hi hz0 hz1 hz2 rfl (by decide) (.slice A' m c') m _ rfl HR3.out ⟨w2.heap.size, 0, none⟩ 1 1 [.string sp] rfl rfl (cell_one_new _ _ _) (by simp [Value.oneCell']) (by decide) (by unfold maxLen; omega) (by omega) (by simp; omega) _ rfl ?_; intro gb cap w5 hown5 hgrow hat hlt5)
        have ST := Lib.hid (ScanR.step REL.out HN2.out HU.out HSP.out hown5 hgrow)
        clear hown5 hgrow hat HR3
        go_roundw
        case rel => exact ⟨k + q, m + 1, cap, some ⟨gb, 0, none⟩, ps ++ [p], rfl, by go_num, by omega, by omega, ST.out⟩
        case measure => simp [intOf]; omega
      · subst h4
        have E := HEND.out w2 HN2.out (by decide)
        rw [if_neg (by decide)] at E
        have E' := Lib.hid E
        clear E HEND
        go_wp2
        go_ret3
        exact ⟨A', m, c', by rw [E'.out.2.1, E'.out.2.2.1]; rfl, E'.out.1, by omega, E'.out.2.2.2⟩
      · subst h5
        have E := HEND.out w2 HN2.out (by decide)
        rw [if_pos rfl] at E
        have E' := Lib.hid E
        clear E HEND
        go_wp2
        go_ret3
        exact ⟨A', m, c', by rw [E'.out.2.1, E'.out.2.2.1]; rfl, E'.out.1, by omega, E'.out.2.2.2⟩
end Go.Proofs.YtiikjdjpodmpcaaGreat
