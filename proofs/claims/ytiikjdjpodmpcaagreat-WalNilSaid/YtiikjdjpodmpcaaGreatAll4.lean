/- Texts of one proof, laid together: WlG, TrKeep, TrKeep2, TrInts, TrNil, WlH, WlI, WlLives, WlStr, WlNil. -/
import Derived.Test.YtiikjdjpodmpcaaGreatAll3
import Derived.Test.YtiikjdjpodmpcaaGreatAll2
import Derived.DataShut
import Derived.SliceStrings

/- Package wal: Scan. -/
namespace Go.Proofs.YtiikjdjpodmpcaaGreat
open Go.RowKit Go.Maps
set_option linter.unusedVariables false

/-- A row of strings with one more. -/
theorem strRow_more {w : World} {B : Nat} {gb n cap : Nat} {ps : List Str} {p : Str} {sp : ByteArray} (hsp : S p = sp) (h : w.ownsRow B 9 1 (.slice (some ⟨gb, 0, none⟩) (n + 1) cap) (n + 1) (strV ps ++ [.string sp])) : StrRow w B (some ⟨gb, 0, none⟩) (n + 1) cap (ps ++ [p]) := by
  unfold StrRow strV
  rw [List.map_append, List.map_cons, List.map_nil, hsp]
  exact h
/-- What a round of Scan finds: ps and k bytes so far. -/
def ScanR (w wr : World) (l : Str) (A : Option Addr) (m c k : Nat) (ps : List Str) : Prop :=
  StrRow wr w.heap.size A m c ps ∧ Nx w wr ∧ scan l = (ps ++ (scan (l.drop k)).1, k + (scan (l.drop k)).2.1, (scan (l.drop k)).2.2)
theorem ScanR.start (w : World) (l : Str) : ScanR w w l none 0 0 0 [] := ⟨⟨rfl, .inl ⟨rfl, rfl⟩⟩, Nx.refl w, by simp⟩
theorem ScanR.nx {w wr w2 : World} {l : Str} {A : Option Addr} {m c k : Nat} {ps : List Str} (h : ScanR w wr l A m c k ps) : Nx w wr := h.2.1
theorem ScanR.end_ {w wr w2 : World} {l : Str} {A : Option Addr} {m c k : Nat} {ps : List Str} (h : ScanR w wr l A m c k ps) (hn : Nx wr w2) (he : (unfr (l.drop k)).2.2 ≠ 0) :
    StrRow w2 w.heap.size A m c (scan l).1 ∧ (scan l).2.1 = k ∧ (scan l).2.2 = (if (unfr (l.drop k)).2.2 = 5 then 0 else (unfr (l.drop k)).2.2) ∧ Nx w w2 := by
  obtain ⟨h1, h2, h3⟩ := h
  have e := scan_eq (l.drop k)
  rw [if_neg he] at e
  rw [e] at h3
  simp only [List.append_nil, Nat.add_zero] at h3
  rw [h3]
  exact ⟨row_chd (M := fun _ => False) h1 (Chd.of_below hn) (fun _ _ e => e), rfl, rfl, h2.trans hn⟩

theorem ScanR.step {w wr w2 w5 : World} {l p : Str} {A : Option Addr} {m c k q gb cap : Nat} {ps : List Str} {sp : ByteArray} (h : ScanR w wr l A m c k ps) (hn : Nx wr w2) (hu : unfr (l.drop k) = (p, q, 0)) (hsp : S p = sp)
    (hown : w5.ownsRow w.heap.size 9 1 (.slice (some ⟨gb, 0, none⟩) (m + 1) cap) (m + 1) (strV ps ++ [.string sp])) (hgrow : (w2.alloc (.cells #[.string sp] 9)).grownBy w5 (Value.slice A m c).ownBlock) :
    ScanR w w5 l (some ⟨gb, 0, none⟩) (m + 1) cap (k + q) (ps ++ [p]) := by
  obtain ⟨h1, h2, h3⟩ := h
  have e := scan_eq (l.drop k)
  rw [hu] at e
  simp only [↓reduceIte, List.drop_drop] at e
  rw [e] at h3
  refine ⟨strRow_more hsp hown, ?_, ?_⟩
  · have C25 : Chd (fun j => (Value.slice A m c).ownBlock = some j) wr w5 := (Chd.of_below (hn.trans ((Below.refl _ w2).alloc (Nat.le_refl _) _))).trans (Chd.of_grownBy hgrow)
    have a : Chd (fun _ => False) w w5 := (Chd.of_below h2).then_ C25 (fun j hj e => by
      have := (World.ownsRow.lt h1 j e).1
      omega)
    exact a.below (Nat.le_refl _) (fun _ _ e => e)
  · rw [h3]
    simp only [List.append_assoc, List.cons_append, List.nil_append]
    congr 2
    omega

set_option maxRecDepth 100000 in
set_option maxHeartbeats 4000000 in
theorem scan_any (w : World) (B : Nat) (A : Option Addr) (n c : Nat) (l : Str) (hb : Byt w B A n c l) (hB : B ≤ w.heap.size) (hform : (A = none ∧ n = 0 ∧ c = 0) ∨ ∃ g, A = some ⟨g, 0, none⟩) (hn : n ≤ 1000000) :
    Calls Tryz.prog 10 #[.slice A n c] w fun e w' => ∃ A' m c', e = .returned (.tuple #[.slice A' m c', .int .i64 ((scan l).2.1 : Nat), .int .i64 ((scan l).2.2 : Nat)]) ∧ StrRow w' w.heap.size A' m c' (scan l).1 ∧ m ≤ n ∧ Nx w w' := by
  obtain ⟨i0, hi, hz0, hz1, hz2⟩ := info_parts string_info
  have hle := hb.le
  have hcap := hb.cap
  have HCAP := Lib.hid hcap
  have HL := Lib.hid hb.len
  have H := Lib.hid hb
  have HB := Lib.hid hB
  have HF := Lib.hid hform
  have j1 : (n : Int) ≤ 1000000 := by omega
  have j2 : (c : Int) ≤ 9223372036854775807 := by unfold maxLen at hcap; omega
  clear hb hB hform hcap
  go_enter Tryz.func10, Tryz.ntmps10
  go_wp2
  go_loopw [2, 3] (fun y x wr => ∃ (k m c' : Nat) (A' : Option Addr) (ps : List Str), y = .slice A' m c' ∧ x = .int .i64 k ∧ k ≤ n ∧ 8 * m ≤ k ∧ Hid (ScanR w wr l A' m c' k ps)) (fun _ x _ => n - (intOf x).toNat)
  case atStart => exact ⟨0, 0, 0, none, [], rfl, rfl, Nat.zero_le _, Nat.le_refl _, ScanR.start w l⟩
  case round =>
    obtain ⟨k, m, c', A', ps, rfl, rfl, hkn, hmk, hrel⟩ := hrel
    have hnx : Nx w wr := ScanR.nx (w2 := wr) hrel.out
    have hby := ((H.out.more HB.out).below hnx (Nat.le_refl _)).more hnx.size
    have hcut := hby.cut (lo := k) (hi := n) hkn (Nat.le_refl _)
    rw [List.take_of_length_le (by rw [HL.out]; exact Nat.le_refl _)] at hcut
    obtain ⟨A2, hA2⟩ : ∃ A2, (if c = k then A else A.map (·.add k)) = A2 := ⟨_, rfl⟩
    rw [hA2] at hcut
    have un := unframe_any wr wr.heap.size A2 (n - k) (c - k) (l.drop k) hcut (Nat.le_refl _) (by omega)
    obtain ⟨r1, hr1⟩ : ∃ r1, n - k = r1 := ⟨_, rfl⟩
    obtain ⟨r2, hr2⟩ : ∃ r2, c - k = r2 := ⟨_, rfl⟩
    rw [hr1, hr2] at un
    have UN := Lib.hid un
    clear un
    have hue := unfr_e (l.drop k)
    have hun := unfr_n (l.drop k)
    have hend := fun w2 hn he => ScanR.end_ (w2 := w2) hrel.out hn he
    have hsq := scan_eq (l.drop k)
    have hdd : (l.drop k).length = n - k := by rw [List.length_drop, HL.out]
    rw [hdd] at hun
    unfold unfrV at UN
    generalize hu : unfr (l.drop k) = u at *
    obtain ⟨p, q, e'⟩ := u
    simp only at UN hue hun hend hsq
    have hc3 : Hid ((A = none ∧ n = 0 ∧ c = 0 ∧ k = 0 ∧ A2 = none ∧ r1 = 0 ∧ r2 = 0) ∨ (∃ g, A = some ⟨g, 0, none⟩ ∧ c = k ∧ n = k ∧ A2 = some ⟨g, 0, none⟩ ∧ r1 = 0 ∧ r2 = 0) ∨ (∃ g, A = some ⟨g, 0, none⟩ ∧ ¬ c = k ∧ A2 = some ⟨g, k, none⟩ ∧ r1 = n - k ∧ r2 = c - k)) := by
      rcases HF.out with ⟨h1, h2, h3⟩ | ⟨g, h1⟩
      · subst h1 h2 h3
        obtain rfl : k = 0 := by omega
        exact .inl ⟨rfl, rfl, rfl, rfl, by rw [← hA2]; simp, by omega, by omega⟩
      · subst h1
        by_cases hck : c = k
        · exact .inr (.inl ⟨g, rfl, hck, by omega, by rw [← hA2, if_pos hck], by omega, by omega⟩)
        · refine .inr (.inr ⟨g, rfl, hck, ?_⟩)
          rw [← hA2, if_neg hck]
          simp only [Option.map_some, add_plain, Nat.zero_add]
          exact ⟨trivial, hr1.symm, hr2.symm⟩
    have REL := hrel
    have HEND := Lib.hid hend
    have HSQ := Lib.hid hsq
    have HUE := Lib.hid hue
    have HUN := Lib.hid hun
    have HDD := Lib.hid hdd
    have HU := Lib.hid hu
    have k1 : (k : Int) ≤ n := by omega
    have k2 : (k : Int) ≤ c := by omega
    clear hr1 hr2 hnx hby hcut hA2 hue hun hend hsq hdd hu hrel
    rcases hc3.out with ⟨rfl, rfl, rfl, rfl, rfl, rfl, rfl⟩ | ⟨g, rfl, rfl, rfl, rfl, rfl, rfl⟩ | ⟨g, rfl, hck, rfl, rfl, rfl⟩
    all_goals go_wp2_with fail
    all_goals refine UN.out.mono ?_
    all_goals rintro e w2 ⟨rfl, hb2⟩
    all_goals have HN2 : Hid (Nx wr w2) := hb2
    all_goals clear hb2 UN
    · rcases HUE.out with h0 | h4 | h5
      · exact absurd (HUN.out h0) (by omega)
      · subst h4
        have E := HEND.out w2 HN2.out (by decide)
        rw [if_neg (by decide)] at E
        have E' := Lib.hid E
        clear E HEND
        go_wp2
        go_ret3
        exact ⟨A', m, c', by rw [E'.out.2.1, E'.out.2.2.1]; rfl, E'.out.1, by omega, E'.out.2.2.2⟩
      · subst h5
        have E := HEND.out w2 HN2.out (by decide)
        rw [if_pos rfl] at E
        have E' := Lib.hid E
        clear E HEND
        go_wp2
        go_ret3
        exact ⟨A', m, c', by rw [E'.out.2.1, E'.out.2.2.1]; rfl, E'.out.1, by omega, E'.out.2.2.2⟩
    · rcases HUE.out with h0 | h4 | h5
      · exact absurd (HUN.out h0) (by omega)
      · subst h4
        have E := HEND.out w2 HN2.out (by decide)
        rw [if_neg (by decide)] at E
        have E' := Lib.hid E
        clear E HEND
        go_wp2
        go_ret3
        exact ⟨A', m, c', by rw [E'.out.2.1, E'.out.2.2.1]; rfl, E'.out.1, by omega, E'.out.2.2.2⟩
      · subst h5
        have E := HEND.out w2 HN2.out (by decide)
        rw [if_pos rfl] at E
        have E' := Lib.hid E
        clear E HEND
        go_wp2
        go_ret3
        exact ⟨A', m, c', by rw [E'.out.2.1, E'.out.2.2.1]; rfl, E'.out.1, by omega, E'.out.2.2.2⟩
    · rcases HUE.out with h0 | h4 | h5
      · subst h0
        have hq := HUN.out rfl
        obtain ⟨sp, hsp⟩ : ∃ sp, S p = sp := ⟨_, rfl⟩
        have hsp' : (⟨p.toArray⟩ : ByteArray) = sp := hsp
        have HSP := Lib.hid hsp
        rw [hsp']
        clear hsp hsp' HEND
        have hrow3 : (w2.alloc (.cells #[.string sp] 9)).ownsRow w.heap.size 9 1 (.slice A' m c') m (strV ps) :=
          row_chd (M := fun _ => False) REL.out.1 (Chd.of_below (Nx.trans HN2.out ((Below.refl _ w2).alloc (Nat.le_refl _) _))) (fun _ _ e => e)
        have HR3 := Lib.hid hrow3
        have hBl : w.heap.size ≤ w2.heap.size := Nat.le_trans REL.out.2.1.size HN2.out.size
        have q1 : (k : Int) + q ≤ n := by omega
        clear hrow3
        go_wp2_with (at_builtin; refine wpList_append_lies _ rfl _ _ 24 rfl w.heap.size 9 i0 (.string ⟨#[]⟩) 1 16 Tryz.underlying24 hi hz0 hz1 hz2 rfl (by decide) (.slice A' m c') m _ rfl HR3.out ⟨w2.heap.size, 0, none⟩ 1 1 [.string sp] rfl rfl (cell_one_new _ _ _) (by simp [Value.oneCell']) (by decide) (by unfold maxLen; omega) (by omega) (by simp; omega) _ rfl ?_; intro gb cap w5 hown5 hgrow hat hlt5)
        have ST := Lib.hid (ScanR.step REL.out HN2.out HU.out HSP.out hown5 hgrow)
        clear hown5 hgrow hat HR3
        go_roundw
        case rel => exact ⟨k + q, m + 1, cap, some ⟨gb, 0, none⟩, ps ++ [p], rfl, by go_num, by omega, by omega, ST.out⟩
        case measure => simp [intOf]; omega
      · subst h4
        have E := HEND.out w2 HN2.out (by decide)
        rw [if_neg (by decide)] at E
        have E' := Lib.hid E
        clear E HEND
        go_wp2
        go_ret3
        exact ⟨A', m, c', by rw [E'.out.2.1, E'.out.2.2.1]; rfl, E'.out.1, by omega, E'.out.2.2.2⟩
      · subst h5
        have E := HEND.out w2 HN2.out (by decide)
        rw [if_pos rfl] at E
        have E' := Lib.hid E
        clear E HEND
        go_wp2
        go_ret3
        exact ⟨A', m, c', by rw [E'.out.2.1, E'.out.2.2.1]; rfl, E'.out.1, by omega, E'.out.2.2.2⟩
end Go.Proofs.YtiikjdjpodmpcaaGreat

/- Package tree: what is kept by a rename, a sync and a crash. -/
namespace Go.Proofs.YtiikjdjpodmpcaaGreat
open Go.RowKit Go.Maps
set_option linter.unusedVariables false

/-! ### Operations on a tree that is on and has no fuse -/
structure Idle (s : St) : Prop where
  off : s.off = false
  fuse : s.fuse = -1
theorem burn_idle {s : St} (h : Idle s) : s.burn = s := by
  obtain ⟨r, u, c, f, sa, ch, fu, o, fi⟩ := s
  obtain ⟨h1, h2⟩ := h
  simp only at h1 h2
  subst h1 h2
  rfl
theorem begin_idle {s : St} (h : Idle s) (ps : List Str) (hp : ps.all okP = true) : s.begin_ ps = (s, 0) := by
  unfold St.begin_
  rw [if_pos hp, burn_idle h, h.off]
  rfl
theorem find_idle {s : St} (h : Idle s) (p : Str) (o : List Str) (hp : (o ++ [p]).all okP = true) {f : Nat} (hl : look s.files p = some f) : s.find p o = (s, some f, 0) := by
  unfold St.find
  rw [begin_idle h _ hp]
  simp only [if_pos, hl]
theorem write_idle {s : St} (h : Idle s) (p b : Str) (hp : okP p = true) {f : Nat} (hl : look s.files p = some f) (hb : ¬ (b.length : Int) > s.left_ (s.used - ((s.at_ f).now.length : Int))) : s.write p b = (s.putB f b, 0) := by
  unfold St.write
  rw [find_idle h p [] (by simpa using hp) hl]
  simp only
  rw [if_neg hb]
theorem append_idle {s : St} (h : Idle s) (p b : Str) (hp : okP p = true) {f : Nat} (hl : look s.files p = some f) (hb : ¬ (b.length : Int) > s.left_ s.used) : s.append_ p b = (s.putB f ((s.at_ f).now ++ b), 0) := by
  unfold St.append_
  rw [find_idle h p [] (by simpa using hp) hl]
  simp only
  rw [if_neg hb]
theorem sync_idle {s : St} (h : Idle s) (p : Str) (hp : okP p = true) {f : Nat} (hl : look s.files p = some f) : s.sync p = (s.set_ f { s.at_ f with sf := (s.at_ f).now }, 0) := by
  unfold St.sync
  rw [find_idle h p [] (by simpa using hp) hl]
theorem syncPaths_idle {s : St} (h : Idle s) : s.syncPaths = (s.settle s.chs.length, 0) := by
  unfold St.syncPaths
  rw [begin_idle h [] rfl]
  rfl
theorem read_idle {s : St} (h : Idle s) (p : Str) (hp : okP p = true) {f : Nat} (hl : look s.files p = some f) : s.read p = (s, (s.at_ f).now, 0) := by
  unfold St.read
  rw [find_idle h p [] (by simpa using hp) hl]

/-! ### Crashes -/
theorem upTo_zero (n : Int) : upTo n 0 = 0 := by unfold upTo; omega
theorem rem_same (v : Str) (st : Nat) (part : Int) : (⟨v, v, st⟩ : Fil).rem part = v := by
  unfold Fil.rem
  rw [if_pos (by simp)]
  rw [show ((v.length : Int) - (v.length : Int)) = 0 from by omega, upTo_zero]
  simp
theorem set_at (s s' : St) (f : Nat) (x : Fil) (h : s'.fil = s.fil.set f x) (hf : f < s.fil.length) (i : Nat) : s'.at_ i = if i = f then x else s.at_ i := by
  rw [← at_set s f i x hf]
  unfold St.at_
  rw [h]
/-- A file whose bytes are safe has them after the crash. -/
theorem restores_at (before : Dir) (parts : List Int) (g : Nat) (v : Str) : ∀ (l : Dir) (i : Nat) (s : St), (∀ e ∈ l, e.2 < s.fil.length) → (s.at_ g).now = v → (s.at_ g).sf = v → ((St.restores before parts i l s).at_ g).now = v ∧ ((St.restores before parts i l s).at_ g).sf = v
  | [], _, s, _, h1, h2 => ⟨h1, h2⟩
  | (p, f) :: r, i, s, hl, h1, h2 => by
    obtain ⟨st, e1, _⟩ := restore_facts s p f (look before p) (partAt parts i)
    have hf := hl (p, f) List.mem_cons_self
    have ha := set_at s _ f _ e1 hf g
    refine restores_at before parts g v r (i + 1) _ (fun e he => by rw [e1, List.length_set]; exact hl e (List.mem_cons_of_mem _ he)) ?_ ?_
    all_goals
      rw [ha]
      split
      · rename_i e
        subst e
        have hx : s.at_ g = ⟨v, v, (s.at_ g).st⟩ := by
          cases hq : s.at_ g with
          | mk a b c => rw [hq] at h1 h2; simp only at h1 h2; subst h1; subst h2; rfl
        rw [hx]
        exact rem_same v _ _
      · assumption
/-- Where all bytes are safe, and every file has the path that it had, a crash changes no file. -/
theorem restores_calm (before : Dir) (parts : List Int) : ∀ (l : Dir) (i : Nat) (s : St), (∀ e ∈ l, e.2 < s.fil.length ∧ look before e.1 = some e.2 ∧ (s.at_ e.2).sf = (s.at_ e.2).now) → ∀ j, (St.restores before parts i l s).at_ j = s.at_ j
  | [], _, s, _, j => rfl
  | (p, f) :: r, i, s, hl, j => by
    obtain ⟨hf, hb, hsf⟩ := hl (p, f) List.mem_cons_self
    simp only at hf hb hsf
    have hx : s.at_ f = ⟨(s.at_ f).now, (s.at_ f).now, (s.at_ f).st⟩ := by
      cases hq : s.at_ f with
      | mk a b c => rw [hq] at hsf; simp only at hsf; rw [hsf]
    have hr : (s.at_ f).rem (partAt parts i) = (s.at_ f).now := by
      conv => lhs; rw [hx]
      exact rem_same _ _ _
    have hk : keeps s f (look before p) (partAt parts i) = true := by
      unfold keeps
      rw [hb, hr]
      simp
    have e := restore_yes s p f (look before p) (partAt parts i) hk
    have hat : ∀ j, (s.restore p f (look before p) (partAt parts i)).at_ j = s.at_ j := fun j => by
      rw [set_at s _ f ⟨(s.at_ f).rem (partAt parts i), (s.at_ f).rem (partAt parts i), (s.at_ f).st⟩ (by rw [e]) hf j]
      split
      · rename_i e2; subst e2; rw [hr]; exact hx.symm
      · rfl
    show (St.restores before parts (i + 1) r (s.restore p f (look before p) (partAt parts i))).at_ j = _
    rw [restores_calm before parts r (i + 1) _ (fun q hq => ?_) j, hat]
    obtain ⟨q1, q2, q3⟩ := hl q (List.mem_cons_of_mem _ hq)
    exact ⟨by rw [e]; simpa using q1, q2, by rw [hat]; exact q3⟩
theorem restores_same (before : Dir) (parts : List Int) : ∀ (l : Dir) (i : Nat) (s : St), (St.restores before parts i l s).files = s.files ∧ (St.restores before parts i l s).safe = s.safe ∧ (St.restores before parts i l s).chs = s.chs ∧ (St.restores before parts i l s).room = s.room ∧ (St.restores before parts i l s).fil.length = s.fil.length
  | [], _, _ => ⟨rfl, rfl, rfl, rfl, rfl⟩
  | (p, f) :: r, i, s => by
    obtain ⟨st, e1, _, _, e4, e5, e6, e7, _⟩ := restore_facts s p f (look before p) (partAt parts i)
    obtain ⟨a, b, c, d, e⟩ := restores_same before parts r (i + 1) (s.restore p f (look before p) (partAt parts i))
    exact ⟨a.trans e4, b.trans e5, c.trans e6, d.trans e7, e.trans (by rw [e1, List.length_set])⟩
def kept (s : St) (keep : Int) : Dir := apps (s.chs.take (upTo keep (s.chs.length : Int)).toNat) s.safe
structure After (s : St) (keep : Int) (s' : St) : Prop where
  idle : Idle s'
  files : s'.files = kept s keep
  safe : s'.safe = kept s keep
  chs : s'.chs = []
  room : s'.room = s.room
  len : s'.fil.length = s.fil.length
theorem after_crash (s : St) (keep : Int) (parts : List Int) : After s keep (s.crash keep parts) := by
  rw [crash_eq]
  obtain ⟨a, b, c, d, e⟩ := restores_same s.files parts (s.c3 keep).files 0 (s.c3 keep)
  exact ⟨⟨rfl, rfl⟩, a, b, c, d, e⟩
theorem crash_at {s : St} (keep : Int) (parts : List Int) (g : Nat) (v : Str) (hl : ∀ e ∈ kept s keep, e.2 < s.fil.length) (h1 : (s.at_ g).now = v) (h2 : (s.at_ g).sf = v) : ((s.crash keep parts).at_ g).now = v ∧ ((s.crash keep parts).at_ g).sf = v := by
  rw [crash_eq]
  exact restores_at s.files parts g v (s.c3 keep).files 0 (s.c3 keep) hl h1 h2
theorem crash_calm {s : St} (keep : Int) (parts : List Int) (hc : s.chs = []) (hs : s.safe = s.files) (hl : ∀ e ∈ s.files, e.2 < s.fil.length ∧ look s.files e.1 = some e.2 ∧ (s.at_ e.2).sf = (s.at_ e.2).now) : (s.crash keep parts).files = s.files ∧ ∀ j, (s.crash keep parts).at_ j = s.at_ j := by
  have hk : (s.c3 keep).files = s.files := by
    show apps (s.chs.take _) s.safe = _
    rw [hc, hs, List.take_nil]
    rfl
  refine ⟨(after_crash s keep parts).files.trans hk, fun j => ?_⟩
  rw [crash_eq]
  show (St.restores s.files parts 0 (s.c3 keep).files (s.c3 keep)).at_ j = _
  rw [hk]
  exact restores_calm s.files parts s.files 0 (s.c3 keep) hl j
end Go.Proofs.YtiikjdjpodmpcaaGreat

/- Package tree: the states that the law TreeKeeps goes through. -/
namespace Go.Proofs.YtiikjdjpodmpcaaGreat
open Go.RowKit Go.Maps
set_option linter.unusedVariables false

theorem make_idle {s : St} (h : Idle s) (p : Str) (hp : okP p = true) (hl : look s.files p = none) : s.make p = (St.record { s with fil := s.fil ++ [(⟨[], [], s.clock + 1⟩ : Fil)] } (.mk p s.fil.length), 0) := by
  unfold St.make
  rw [begin_idle h [p] (by simpa using hp)]
  simp only [if_pos, hl]
theorem rename_idle {s : St} (h : Idle s) (p q : Str) (hp : okP p = true) (hq : okP q = true) {f : Nat} (hl : look s.files p = some f) (hne : p ≠ q) : s.rename p q = ((s.free q).record (.mv p q f), 0) := by
  unfold St.rename
  rw [find_idle h p [q] (by simp [hp, hq]) hl]
  simp only
  rw [if_neg hne]
theorem restores_used (before : Dir) (parts : List Int) (M : Nat) : ∀ (l : Dir) (i : Nat) (s : St), (∀ e ∈ l, e.2 < s.fil.length ∧ (s.at_ e.2).sf = (s.at_ e.2).now ∧ (s.at_ e.2).now.length ≤ M) → (St.restores before parts i l s).used ≤ s.used + (M : Int) * (l.length : Int)
  | [], _, s, _ => by show s.used ≤ _; simp
  | (p, f) :: r, i, s, hl => by
    obtain ⟨st, e1, e2, _⟩ := restore_facts s p f (look before p) (partAt parts i)
    obtain ⟨hf, hsf, hM⟩ := hl (p, f) List.mem_cons_self
    simp only at hf hsf hM
    have hr : (s.at_ f).rem (partAt parts i) = (s.at_ f).now := by
      have hx : s.at_ f = ⟨(s.at_ f).now, (s.at_ f).now, (s.at_ f).st⟩ := by
        cases hq : s.at_ f with
        | mk a b c => rw [hq] at hsf; simp only at hsf; rw [hsf]
      conv => lhs; rw [hx]
      exact rem_same _ _ _
    rw [hr] at e1 e2
    have ih := restores_used before parts M r (i + 1) (s.restore p f (look before p) (partAt parts i)) (fun q hq => by
      obtain ⟨q1, q2, q3⟩ := hl q (List.mem_cons_of_mem _ hq)
      rw [set_at s _ f _ e1 hf q.2]
      refine ⟨by rw [e1, List.length_set]; exact q1, ?_⟩
      split
      · exact ⟨rfl, hM⟩
      · exact ⟨q2, q3⟩)
    refine Int.le_trans ih ?_
    rw [e2]
    simp only [List.length_cons]
    push_cast
    rw [Int.mul_add]
    omega

def fP : Str := [102]
def tP : Str := [46, 116, 109, 112, 47, 102]
theorem fP_ok : okP fP = true := by decide +kernel
theorem tP_ok : okP tP = true := by decide +kernel
def K0 : St := St.new 10000
def K1 : St := St.record { K0 with fil := K0.fil ++ [(⟨[], [], K0.clock + 1⟩ : Fil)] } (.mk fP K0.fil.length)
def K2 (a : Str) : St := K1.putB 0 a
def K3 (a : Str) : St := (K2 a).set_ 0 { (K2 a).at_ 0 with sf := ((K2 a).at_ 0).now }
def K4 (a : Str) : St := (K3 a).settle (K3 a).chs.length
def K5 (a : Str) : St := St.record { K4 a with fil := (K4 a).fil ++ [(⟨[], [], (K4 a).clock + 1⟩ : Fil)] } (.mk tP (K4 a).fil.length)
def K6 (a b : Str) : St := (K5 a).putB 1 b
def K7 (a b : Str) : St := (K6 a b).set_ 1 { (K6 a b).at_ 1 with sf := ((K6 a b).at_ 1).now }
def K8 (a b : Str) : St := ((K7 a b).free fP).record (.mv tP fP 1)
section
variable (a b : Str) (ha : a.length ≤ 300) (hb : b.length ≤ 300)
theorem K1e : K0.make fP = (K1, 0) := make_idle ⟨rfl, rfl⟩ fP fP_ok rfl
include ha in
theorem K2e : K1.write fP a = (K2 a, 0) := write_idle ⟨rfl, rfl⟩ fP a fP_ok (f := 0) (by decide +kernel) (by show ¬ ((a.length : Int) > max 0 (10000 - (0 - 0))); omega)
theorem K3e : (K2 a).sync fP = (K3 a, 0) := sync_idle ⟨rfl, rfl⟩ fP fP_ok (f := 0) (by show look K1.files fP = some 0; decide +kernel)
theorem K4e : (K3 a).syncPaths = (K4 a, 0) := syncPaths_idle ⟨rfl, rfl⟩
theorem K5e : (K4 a).make tP = (K5 a, 0) := make_idle ⟨rfl, rfl⟩ tP tP_ok (by show look K1.files tP = none; decide +kernel)
theorem K5l : look (K5 a).files tP = some 1 := by show look (Chg.app (.mk tP 1) K1.files) tP = some 1; decide +kernel
include ha hb in
theorem K6e : (K5 a).write tP b = (K6 a b, 0) := write_idle ⟨rfl, rfl⟩ tP b tP_ok (f := 1) (K5l a) (by show ¬ ((b.length : Int) > max 0 (10000 - ((0 + ((a.length : Int) - 0)) - 0))); omega)
theorem K7e : (K6 a b).sync tP = (K7 a b, 0) := sync_idle ⟨rfl, rfl⟩ tP tP_ok (f := 1) (K5l a)
theorem K8e : (K7 a b).rename tP fP = (K8 a b, 0) := rename_idle ⟨rfl, rfl⟩ tP fP tP_ok fP_ok (f := 1) (K5l a) (by decide)
theorem K7f : look (K7 a b).files fP = some 0 := by show look (Chg.app (.mk tP 1) K1.files) fP = some 0; decide +kernel
theorem K8fil : (K8 a b).fil = [⟨a, a, 2⟩, ⟨b, b, 4⟩] := by
  show ((K7 a b).free fP).fil = _
  unfold St.free
  rw [K7f]
  rfl
theorem K8chs : (K8 a b).chs = [.mk tP 1, .mv tP fP 1] := by
  show ((K7 a b).free fP).chs ++ [_] = _
  unfold St.free
  rw [K7f]
  rfl
theorem K8safe : (K8 a b).safe = [(fP, 0)] := by
  show ((K7 a b).free fP).safe = _
  unfold St.free
  rw [K7f]
  show apps [Chg.mk fP 0] [] = _
  decide +kernel
theorem K8room : (K8 a b).room = 10000 := by
  show ((K7 a b).free fP).room = _
  unfold St.free
  rw [K7f]
  rfl
theorem K8at0 : (K8 a b).at_ 0 = ⟨a, a, 2⟩ := by unfold St.at_; rw [K8fil]; rfl
theorem K8at1 : (K8 a b).at_ 1 = ⟨b, b, 4⟩ := by unfold St.at_; rw [K8fil]; rfl

/-- What the first crash leaves. -/
structure Left1 (a b : Str) (s : St) (g : Nat) (v : Str) (tm : Bool) : Prop where
  idle : Idle s
  fl : look s.files fP = some g
  tl : (s.stat tP).2.2 = tm
  all : ∀ e ∈ s.files, e.2 < s.fil.length ∧ look s.files e.1 = some e.2 ∧ (s.at_ e.2).sf = (s.at_ e.2).now
  now : (s.at_ g).now = v
  vl : v.length ≤ 300
  lt : g < s.fil.length
  chs : s.chs = []
  safe : s.safe = s.files
  room : s.room = 10000
  used : s.used ≤ 600
include ha hb in
theorem crash_left1 (keep : Int) (parts : List Int) (l : Dir) (g : Nat) (v : Str) (tm : Bool) (hk : kept (K8 a b) keep = l) (h1 : look l fP = some g) (h2 : (look l tP).isSome = tm) (h3 : ∀ e ∈ l, e.2 < 2 ∧ look l e.1 = some e.2) (h4 : l.length ≤ 2) (hg : g = 0 ∧ v = a ∨ g = 1 ∧ v = b) :
    Left1 a b ((K8 a b).crash keep parts) g v tm := by
  have A := after_crash (K8 a b) keep parts
  have hlen : (K8 a b).fil.length = 2 := by rw [K8fil]; rfl
  have hf : ((K8 a b).crash keep parts).files = l := A.files.trans hk
  have hl : ∀ e ∈ kept (K8 a b) keep, e.2 < (K8 a b).fil.length := by rw [hk, hlen]; exact fun e he => (h3 e he).1
  have p0 := crash_at keep parts 0 a hl (by rw [K8at0]) (by rw [K8at0])
  have p1 := crash_at keep parts 1 b hl (by rw [K8at1]) (by rw [K8at1])
  have hat : ∀ i, i < 2 → (((K8 a b).crash keep parts).at_ i).sf = (((K8 a b).crash keep parts).at_ i).now := fun i hi => by
    rcases (show i = 0 ∨ i = 1 by omega) with rfl | rfl
    · rw [p0.1, p0.2]
    · rw [p1.1, p1.2]
  refine ⟨A.idle, by rw [hf]; exact h1, ?_, ?_, ?_, ?_, ?_, A.chs, by rw [A.safe, A.files], by rw [A.room, K8room], ?_⟩
  · unfold St.stat
    rw [hf]
    cases e : look l tP with
    | none => rw [e] at h2; exact h2
    | some x => rw [e] at h2; exact h2
  · intro e he
    rw [hf] at he ⊢
    rw [A.len, hlen]
    exact ⟨(h3 e he).1, (h3 e he).2, hat _ (h3 e he).1⟩
  · rcases hg with ⟨rfl, rfl⟩ | ⟨rfl, rfl⟩
    · exact p0.1
    · exact p1.1
  · rcases hg with ⟨-, rfl⟩ | ⟨-, rfl⟩ <;> assumption
  · rw [A.len, hlen]; omega
  · rw [crash_eq]
    show (St.restores (K8 a b).files parts 0 ((K8 a b).c3 keep).files ((K8 a b).c3 keep)).used ≤ 600
    have hcf : ((K8 a b).c3 keep).files = l := hk
    have := restores_used (K8 a b).files parts 300 ((K8 a b).c3 keep).files 0 ((K8 a b).c3 keep) (fun e he => by
      rw [hcf] at he
      have h5 := (h3 e he).1
      refine ⟨by show e.2 < (K8 a b).fil.length; omega, ?_⟩
      show ((K8 a b).at_ e.2).sf = ((K8 a b).at_ e.2).now ∧ ((K8 a b).at_ e.2).now.length ≤ 300
      rcases (show e.2 = 0 ∨ e.2 = 1 by omega) with h6 | h6 <;> rw [h6]
      · rw [K8at0]; exact ⟨rfl, ha⟩
      · rw [K8at1]; exact ⟨rfl, hb⟩)
    refine Int.le_trans this ?_
    rw [hcf]
    show (0 : Int) + _ ≤ _
    omega
include ha hb in
theorem left1 (keep : Int) (parts : List Int) :
    (max 0 keep % 3 = 0 ∧ Left1 a b ((K8 a b).crash keep parts) 0 a false) ∨ (max 0 keep % 3 = 1 ∧ Left1 a b ((K8 a b).crash keep parts) 0 a true) ∨ (max 0 keep % 3 = 2 ∧ Left1 a b ((K8 a b).crash keep parts) 1 b false) := by
  have hk : kept (K8 a b) keep = apps ([Chg.mk tP 1, Chg.mv tP fP 1].take (max 0 keep % 3).toNat) [(fP, 0)] := by
    unfold kept upTo
    rw [K8chs, K8safe]
    rfl
  rcases (show max 0 keep % 3 = 0 ∨ max 0 keep % 3 = 1 ∨ max 0 keep % 3 = 2 by omega) with h | h | h
  · rw [h] at hk
    exact .inl ⟨h, crash_left1 a b ha hb keep parts [(fP, 0)] 0 a false (hk.trans (by decide +kernel)) (by decide +kernel) (by decide +kernel) (by decide +kernel) (by decide) (.inl ⟨rfl, rfl⟩)⟩
  · rw [h] at hk
    exact .inr (.inl ⟨h, crash_left1 a b ha hb keep parts [(tP, 1), (fP, 0)] 0 a true (hk.trans (by decide +kernel)) (by decide +kernel) (by decide +kernel) (by decide +kernel) (by decide) (.inl ⟨rfl, rfl⟩)⟩)
  · rw [h] at hk
    exact .inr (.inr ⟨h, crash_left1 a b ha hb keep parts [(fP, 1)] 1 b false (hk.trans (by decide +kernel)) (by decide +kernel) (by decide +kernel) (by decide +kernel) (by decide) (.inr ⟨rfl, rfl⟩)⟩)
end
/-- What follows the first crash. -/
structure Rest (s : St) (g : Nat) (v c : Str) (s1 s2 s3 : St) (st : Nat) : Prop where
  read : s.read fP = (s, v, 0)
  app : s.append_ fP c = (s1, 0)
  syn : s1.sync fP = (s2, 0)
  syp : s2.syncPaths = (s3, 0)
  stat : s3.stat fP = (((v ++ c).length : Int), st, true)
  aft : ∀ keep parts, (s3.crash keep parts).stat fP = (((v ++ c).length : Int), st, true) ∧ ((s3.crash keep parts).read fP) = (s3.crash keep parts, v ++ c, 0)
theorem rest_of {a b : Str} {s : St} {g : Nat} {v : Str} {tm : Bool} (h : Left1 a b s g v tm) (c : Str) (hc : c.length ≤ 300) : ∃ s1 s2 s3 st, Rest s g v c s1 s2 s3 st := by
  have i1 : Idle (s.putB g ((s.at_ g).now ++ c)) := ⟨h.idle.off, h.idle.fuse⟩
  have e1 : (s.putB g ((s.at_ g).now ++ c)).at_ g = { s.at_ g with now := (s.at_ g).now ++ c, st := s.clock + 1 } := by
    rw [set_at s _ g _ rfl h.lt g, if_pos rfl]
  have l1 : g < (s.putB g ((s.at_ g).now ++ c)).fil.length := by show g < (s.fil.set g _).length; rw [List.length_set]; exact h.lt
  obtain ⟨s1, hs1⟩ : ∃ s1, s.putB g ((s.at_ g).now ++ c) = s1 := ⟨_, rfl⟩
  have f1 : s1.files = s.files := by rw [← hs1]; rfl
  have c1 : s1.chs = [] := by rw [← hs1]; exact h.chs
  have sa1 : s1.safe = s.files := by rw [← hs1]; exact h.safe
  have o1 : ∀ j, j ≠ g → s1.at_ j = s.at_ j := fun j hj => by rw [← hs1, set_at s _ g _ rfl h.lt j, if_neg hj]
  have n1 : s1.fil.length = s.fil.length := by rw [← hs1]; show (s.fil.set g _).length = _; rw [List.length_set]
  rw [hs1] at i1 e1 l1
  obtain ⟨s2, hs2⟩ : ∃ s2, s1.set_ g { s1.at_ g with sf := (s1.at_ g).now } = s2 := ⟨_, rfl⟩
  have e2 : s2.at_ g = ⟨v ++ c, v ++ c, s.clock + 1⟩ := by
    rw [← hs2, set_at s1 _ g _ rfl l1 g, if_pos rfl, e1, h.now]
  have f2 : s2.files = s.files := by rw [← hs2]; exact f1
  have c2 : s2.chs = [] := by rw [← hs2]; exact c1
  have sa2 : s2.safe = s.files := by rw [← hs2]; exact sa1
  have o2 : ∀ j, j ≠ g → s2.at_ j = s.at_ j := fun j hj => by rw [← hs2, set_at s1 _ g _ rfl l1 j, if_neg hj, o1 j hj]
  have n2 : s2.fil.length = s.fil.length := by rw [← hs2]; show (s1.fil.set g _).length = _; rw [List.length_set, n1]
  have i2 : Idle s2 := by rw [← hs2]; exact ⟨i1.off, i1.fuse⟩
  have s3f : (s2.settle s2.chs.length).files = s.files := f2
  have s3s : (s2.settle s2.chs.length).safe = s.files := by
    show apps (s2.chs.take _) s2.safe = _
    rw [c2, List.take_nil, sa2]
    rfl
  have hst : (s2.settle s2.chs.length).stat fP = (((v ++ c).length : Int), s.clock + 1, true) := by
    unfold St.stat
    rw [s3f, h.fl]
    show ((((s2.at_ g).now.length : Nat) : Int), (s2.at_ g).st, true) = _
    rw [e2]
  refine ⟨s1, s2, s2.settle s2.chs.length, s.clock + 1, ?_, ?_, ?_, syncPaths_idle i2, hst, ?_⟩
  · rw [read_idle h.idle fP fP_ok h.fl, h.now]
  · rw [append_idle h.idle fP c fP_ok h.fl ?_, hs1]
    unfold St.left_
    rw [h.room]
    have := h.used
    omega
  · rw [sync_idle i1 fP fP_ok (f := g) (by rw [f1]; exact h.fl), hs2]
  · intro keep parts
    have C := crash_calm (s := s2.settle s2.chs.length) keep parts rfl (s3s.trans s3f.symm) (fun e he => by
      rw [s3f] at he ⊢
      obtain ⟨q1, q2, q3⟩ := h.all e he
      refine ⟨by show e.2 < s2.fil.length; rw [n2]; exact q1, q2, ?_⟩
      show (s2.at_ e.2).sf = (s2.at_ e.2).now
      by_cases hg : e.2 = g
      · rw [hg, e2]
      · rw [o2 _ hg]; exact q3)
    have A := after_crash (s2.settle s2.chs.length) keep parts
    have hl : look ((s2.settle s2.chs.length).crash keep parts).files fP = some g := by rw [C.1, s3f]; exact h.fl
    refine ⟨?_, ?_⟩
    · rw [← hst]
      unfold St.stat
      rw [C.1]
      have := C.2
      simp only [this]
    · rw [read_idle A.idle fP fP_ok hl, C.2]
      show (_, (s2.at_ g).now, _) = _
      rw [e2]
end Go.Proofs.YtiikjdjpodmpcaaGreat

/- Package tree: slices of numbers that a law copies. -/
namespace Go.Proofs.YtiikjdjpodmpcaaGreat
open Go.RowKit Go.Maps
set_option linter.unusedVariables false

theorem int_info : (Tryz.prog.info? 3).map (fun i => (i.zero, i.size, i.bytes)) = some (some (.int .i64 0), 1, 8) := by kernel_rfl
def ivs (l : List Int) : List Value := l.map fun x => Value.int .i64 x
theorem ivs_length (l : List Int) : (ivs l).length = l.length := by simp [ivs]
theorem ivs_get (l : List Int) (j : Nat) (h : j < l.length) : (ivs l)[j]? = some (.int .i64 (l.getD j 0)) := by simp [ivs, List.getD, h]
theorem iown_form {w : World} {B n : Nat} {v : Value} {xs : List Value} (h : w.ownsRow B 3 1 v n xs) : ∃ A c, v = .slice A n c := by
  rcases h.2 with ⟨hv, h0⟩ | ⟨g, cap, cur, hv, _⟩
  · exact ⟨none, 0, by rw [hv, h0]⟩
  · exact ⟨_, _, hv⟩
theorem int_append_nil (w : World) (ty : TypeId) (B : Nat) (v : Value) (n : Nat) (xs : List Value) (hown : w.ownsRow B 3 1 v n xs) (c : Nat) :
    (Builtin.append_ #[37, 37] ty #[v, .slice none 0 c]).run Tryz.prog w = .ok v w := by
  obtain ⟨i, hi, _, _, _⟩ := info_parts int_info
  rcases hown.2 with ⟨rfl, rfl⟩ | ⟨g, cap, cur, rfl, _, _, hnc, _⟩
  · simp [Builtin.append_, run_underlying Tryz.underlying37, sizeOf, typeInfo, hi, Builtin.lenOf, Builtin.firstCells]
  · simp [Builtin.append_, run_underlying Tryz.underlying37, sizeOf, typeInfo, hi, Builtin.lenOf, Builtin.firstCells, hnc, storeCells]
theorem Nums.nx {w w' : World} {A : Option Addr} {n c : Nat} {b : List Int} (h : Nums w A n c b) (k : Nx w w') : Nums w' A n c b := h.chd (M := fun _ => False) (Chd.of_below k) (fun _ _ _ _ e => e)
theorem int_append (w : World) (ty : TypeId) (B : Nat) (v : Value) (hown : w.ownsRow B 3 1 v 0 []) (hB : B ≤ w.heap.size)
    (A' : Option Addr) (m c' : Nat) (l' : List Int) (hr : Nums w A' m c' l') :
    ∃ v' w', (Builtin.append_ #[37, 37] ty #[v, .slice A' m c']).run Tryz.prog w = .ok v' w' ∧ w'.ownsRow B 3 1 v' m (ivs l') ∧ w.grownBy w' v.ownBlock := by
  obtain ⟨i, hi, hz, hs, hby⟩ := info_parts int_info
  have hl' := hr.len
  have hle := hr.le
  rcases Nat.eq_zero_or_pos m with hm | hm
  · subst hm
    obtain rfl : l' = [] := List.eq_nil_of_length_eq_zero hl'
    rcases A' with _ | ad
    · exact ⟨v, w, int_append_nil w ty B _ 0 _ hown c', hown, World.grownBy.refl w _⟩
    · obtain ⟨v', w', hrun, h2, h3, _, h5⟩ := run_append_own_at (P := Tryz.prog) w B 37 ty 3 i (.int .i64 0) 1 8 Tryz.underlying37 hi hz hs hby rfl (by decide) _ 0 _ hown ad 0 c' []
        rfl (by simp) (by simp) (by simp only [maxLen]; omega) (by omega) hB
      exact ⟨v', w', hrun, h2, h3⟩
  · obtain ⟨b, o, rfl, hlt, hc⟩ := hr.lies hm
    obtain ⟨v', w', hrun, h2, h3, _, h5⟩ := run_append_own_at (P := Tryz.prog) w B 37 ty 3 i (.int .i64 0) 1 8 Tryz.underlying37 hi hz hs hby rfl (by decide) _ 0 _ hown ⟨b, o, none⟩ m c' (ivs l')
      (by rw [ivs_length]; omega) (fun j u hu => by
        have hj : j < l'.length := by rw [← ivs_length]; exact (List.getElem?_eq_some_iff.1 hu).1
        rw [add_plain, hc j (by omega), ← ivs_get l' j hj, hu]) (fun u hu => by
          obtain ⟨x, _, rfl⟩ := List.mem_map.1 hu
          rfl) (by simp only [maxLen]; omega) (by omega) hB
    rw [Nat.zero_add] at h2
    exact ⟨v', w', hrun, h2, h3⟩
theorem ints_copy (w0 : World) (ty : TypeId) (A' : Option Addr) (m c' : Nat) (l' : List Int) (hr : Nums w0 A' m c' l') :
    ∃ A2 c2 w', (Builtin.append_ #[37, 37] ty #[.slice (some ⟨w0.heap.size, 0, none⟩) 0 0, .slice A' m c']).run Tryz.prog (w0.alloc (.cells #[] 3)) = .ok (.slice A2 m c2) w' ∧ Nums w' A2 m c2 l' ∧ (∀ j o, A2 = some ⟨j, o, none⟩ → w0.heap.size ≤ j) ∧ Nx w0 w' := by
  have b1 : Nx w0 (w0.alloc (.cells #[] 3)) := (Below.refl _ w0).alloc (Nat.le_refl _) _
  have hown := World.ownsRow_lit (e := 3) (size := 1) w0 #[] 0 (Nat.le_refl _) (Nat.zero_le _) rfl
  obtain ⟨v', w', hrun, h2, h3⟩ := int_append _ ty w0.heap.size _ hown (by simp) A' m c' l' (hr.nx b1)
  obtain ⟨A2, c2, rfl⟩ := iown_form h2
  refine ⟨A2, c2, w', hrun, ⟨hr.len, hr.le, hr.ok, fun hm => ?_⟩, fun j o e => ?_, ?_⟩
  · rcases h2.2 with ⟨hv, h0⟩ | ⟨g, cap, cur, hv, hb, hg, r⟩
    · omega
    · simp only [Value.slice.injEq] at hv
      obtain ⟨rfl, -, rfl⟩ := hv
      refine ⟨g, 0, rfl, (Array.getElem?_eq_some_iff.1 hg).1, fun i hi => ?_⟩
      have := World.ownsRow.cells (w := w') h2 (g := g) rfl i (.int .i64 (l'.getD i 0)) (ivs_get l' i (by rw [hr.len]; exact hi))
      rwa [add_plain] at this
  · rcases h2.2 with ⟨hv, h0⟩ | ⟨g, cap, cur, hv, hb, hg, r⟩
    · simp only [Value.slice.injEq] at hv
      rw [hv.1] at e; cases e
    · simp only [Value.slice.injEq] at hv
      rw [hv.1] at e
      simp only [Option.some.injEq, Addr.mk.injEq] at e
      omega
  · have c1 : Chd (fun j => j = w0.heap.size) w0 w' := (Chd.of_below b1).trans (Chd.of_grown h3)
    exact c1.below (Nat.le_refl _) (fun j hj e => by omega)
/-- append([]int{}, parts...). -/
theorem wpList_ints_copy {w0 : World} {ops : Array Oper} {rest : List Oper} {o : Oper} {a : Act} {Q : Exit → Act → World → Prop} (hgd : o.guard = none) (s x : Operand)
    (ho : o.op = .call { callee := .builtin .append, args := #[s, x], argTypes := #[37, 37] })
    (hs : a.eval s = .slice (some ⟨w0.heap.size, 0, none⟩) 0 0)
    (A' : Option Addr) (m c' : Nat) (l' : List Int) (hx : a.eval x = .slice A' m c') (hr : Nums w0 A' m c' l')
    (h : ∀ A2 c2 w', Nums w' A2 m c2 l' → (∀ j o, A2 = some ⟨j, o, none⟩ → w0.heap.size ≤ j) → Nx w0 w' → wpList Tryz.prog ops Q rest (a.put o.dst (.slice A2 m c2)) w') :
    wpList Tryz.prog ops Q (o :: rest) a (w0.alloc (.cells #[] 3)) := by
  refine wpList_plain hgd fun K hK => ?_
  obtain ⟨A2, c2, w', hrun, hN, hA, hx2⟩ := ints_copy w0 o.type A' m c' l' hr
  unfold Oper.wp execOp
  simp only [ho, resolve, invoke, builtin, Sem.run_bind, Sem.run_pure, Result.andThen_ok, List.map_toArray, List.map_cons, List.map_nil, hs, hx, hrun]
  exact hK _ _ (h A2 c2 w' hN hA hx2)
theorem wp_ints_copy {w0 : World} {o : Oper} {a : Act} {K : Act → World → Prop} {Q : Exit → Act → World → Prop} (s x : Operand)
    (ho : o.op = .call { callee := .builtin .append, args := #[s, x], argTypes := #[37, 37] })
    (hs : a.eval s = .slice (some ⟨w0.heap.size, 0, none⟩) 0 0)
    (A' : Option Addr) (m c' : Nat) (l' : List Int) (hx : a.eval x = .slice A' m c') (hr : Nums w0 A' m c' l')
    (h : ∀ A2 c2 w', Nums w' A2 m c2 l' → (∀ j o, A2 = some ⟨j, o, none⟩ → w0.heap.size ≤ j) → Nx w0 w' → K (a.put o.dst (.slice A2 m c2)) w') :
    o.wp Tryz.prog a (w0.alloc (.cells #[] 3)) K Q := by
  obtain ⟨A2, c2, w', hrun, hN, hA, hx2⟩ := ints_copy w0 o.type A' m c' l' hr
  unfold Oper.wp execOp
  simp only [ho, resolve, invoke, builtin, Sem.run_bind, Sem.run_pure, Result.andThen_ok, List.map_toArray, List.map_cons, List.map_nil, hs, hx, hrun]
  exact h A2 c2 w' hN hA hx2
/-- A slice of numbers that came in, as the shell of a law hands it over. -/
theorem row_nums {w : World} {a : Option Addr} {len cap : Nat} {zs : List Int}
    (h : (a = none ∧ len = 0 ∧ cap = 0 ∧ zs = []) ∨ ∃ x, a = some x ∧ len ≤ cap ∧ cap ≤ maxLen ∧ zs.length = cap ∧ (∀ i, i < zs.length → w.cell? (x.add i) = some (.int .i64 (zs.getD i 0))) ∧ ∀ n ∈ zs, (Lit.int .i64 n).wf = true) (hl : len ≤ 100000) :
    ∃ ps, Nums w a len cap ps := by
  rcases h with ⟨rfl, rfl, rfl, rfl⟩ | ⟨x, rfl, hlc, hm, hz, hcell, hwf⟩
  · exact ⟨[], nums_nil w⟩
  · refine ⟨zs.take len, by simp; omega, hl, fun i => ?_, fun hn => ?_⟩
    · simp only [List.getD]
      cases e : (zs.take len)[i]? with
      | none => simp
      | some v =>
        have hv := List.mem_of_mem_take (List.mem_of_getElem? e)
        have := ((Lit.wf_int_iff .i64 v).1 (hwf v hv)).2
        simp only [Option.getD_some]
        exact this
    · obtain ⟨b, o, spot⟩ := x
      have h0 := hcell 0 (by omega)
      have hs : spot = none := by simpa [Addr.add] using World.cell?_spot h0
      subst hs
      refine ⟨b, o, rfl, by simpa [add_plain] using World.block_lt_of_cell? w _ h0, fun i hi => ?_⟩
      have hc := hcell i (by omega)
      rw [add_plain] at hc
      rw [hc]
      simp only [List.getD, List.getElem?_take, if_pos hi]
theorem row_le {w : World} {a : Option Addr} {len cap : Nat} {zs : List Int}
    (h : (a = none ∧ len = 0 ∧ cap = 0 ∧ zs = []) ∨ ∃ x, a = some x ∧ len ≤ cap ∧ cap ≤ maxLen ∧ zs.length = cap ∧ (∀ i, i < zs.length → w.cell? (x.add i) = some (.int .i64 (zs.getD i 0))) ∧ ∀ n ∈ zs, (Lit.int .i64 n).wf = true) : len ≤ cap := by
  rcases h with ⟨_, rfl, rfl, _⟩ | ⟨x, _, h, _⟩
  · exact Nat.le_refl _
  · exact h
end Go.Proofs.YtiikjdjpodmpcaaGreat

/- Package tree: a nil tree. -/
namespace Go.Proofs.YtiikjdjpodmpcaaGreat
open Go.RowKit Go.Maps
set_option linter.unusedVariables false

theorem begin_nil (w : World) (A : Option Addr) (n c : Nat) :
    Calls Tryz.prog 127 #[.pointer none, .slice A n c] w fun e w' => e = .returned (.int .i64 1) ∧ w = w' := by
  have V := Lib.hid (valid_nil w)
  go_enter Tryz.func127, Tryz.ntmps127
  go_wp2_with fail
  refine V.out.mono ?_
  rintro e w' ⟨rfl, rfl⟩
  go_wp2
  go_ret
  exact ⟨rfl, rfl⟩
set_option maxRecDepth 100000 in
theorem find_nil (w : World) (p : Str) (A : Option Addr) (n c : Nat) (others : List Str) (hn : n ≤ 1000) (hown : w.ownsRow 0 9 1 (.slice A n c) n (strV others)) :
    Calls Tryz.prog 93 #[.pointer none, .string (S p), .slice A n c] w fun e w' =>
      e = .returned (.tuple #[.pointer none, .int .i64 1]) ∧ Chd (fun j => (Value.slice A n c).ownBlock = some j) w w' := by
  obtain ⟨i0, hi, hz0, hz1, hz2⟩ := info_parts string_info
  have HO := Lib.hid hown
  have BN := Lib.hid (fun W A n c => begin_nil W A n c)
  have halloc : (w.alloc (.cells #[.string (S p)] 9)).ownsRow 0 9 1 (.slice A n c) n (strV others) := row_chd (M := fun _ => False) HO.out ((Chd.refl w).then_ (Chd.of_below ((Below.refl _ w).alloc (Nat.le_refl _) _)) (fun _ _ e => e)) (fun _ _ e => e)
  have Hal := Lib.hid halloc
  clear halloc hown
  generalize hsp : S p = sp at *
  clear hsp
  go_enter Tryz.func93, Tryz.ntmps93
  go_wp2_with (at_builtin; refine wpList_append_lies _ rfl _ _ 24 rfl 0 9 i0 (.string ⟨#[]⟩) 1 16 Tryz.underlying24 hi hz0 hz1 hz2 rfl (by decide) (.slice A n c) n (strV others) rfl Hal.out ⟨w.heap.size, 0, none⟩ 1 1 [.string sp] rfl rfl (cell_one_new _ _ _) (by simp [Value.oneCell']) (by decide) (by unfold maxLen; omega) (by omega) (Nat.zero_le _) _ rfl ?_; intro gb cap w2 hown2 hgrow hat hlt)
  have C2 : Chd (fun j => (Value.slice A n c).ownBlock = some j) w w2 := (Chd.of_below ((Below.refl _ w).alloc (Nat.le_refl _) _)).trans (Chd.of_grownBy hgrow)
  have HC2 := Lib.hid C2
  clear C2 hown2 hgrow hat hlt HO Hal
  go_wp2_with fail
  refine (BN.out w2 _ _ _).mono ?_
  rintro e w3 ⟨rfl, rfl⟩
  clear BN
  go_wp2
  go_ret2
  exact ⟨rfl, HC2.out⟩
theorem find_nil0 (w : World) (p : Str) :
    Calls Tryz.prog 93 #[.pointer none, .string (S p), .slice none 0 0] w fun e w' => e = .returned (.tuple #[.pointer none, .int .i64 1]) ∧ Nx w w' :=
  (find_nil w p none 0 0 [] (by decide) ⟨rfl, .inl ⟨rfl, rfl⟩⟩).mono fun e w' ⟨e1, e2⟩ => ⟨e1, e2.below (Nat.le_refl _) (fun j hj e => by cases e)⟩
theorem make_nil (w : World) (p : Str) :
    Calls Tryz.prog 103 #[.pointer none, .string (S p)] w fun e w' => e = .returned (.int .i64 1) ∧ Nx w w' := by
  have BN := Lib.hid (fun W A n c => begin_nil W A n c)
  generalize S p = sp at *
  go_enter Tryz.func103, Tryz.ntmps103
  go_wp2_with fail
  refine (BN.out _ _ _ _).mono ?_
  rintro e w' ⟨rfl, rfl⟩
  clear BN
  go_wp2
  go_ret
  first
  | exact ⟨rfl, (Below.refl _ w).alloc (Nat.le_refl _) _⟩
  | exact ⟨rfl, Nx.trans (show Nx w (w.alloc (.cells #[.string (S p)] 9)) from (Below.refl _ w).alloc (Nat.le_refl _) _) HX.out⟩
  | exact ⟨rfl, (((Below.refl _ w).alloc (Nat.le_refl _) _).alloc (by simp) _ : Nx w _)⟩
theorem write_nil (w : World) (p : Str) (A : Option Addr) (n c : Nat) :
    Calls Tryz.prog 105 #[.pointer none, .string (S p), .slice A n c] w fun e w' => e = .returned (.int .i64 1) ∧ Nx w w' := by
  have FN := Lib.hid (fun W p => find_nil0 W p)
  go_enter Tryz.func105, Tryz.ntmps105
  go_wp2_with fail
  refine (FN.out _ p).mono ?_
  rintro e w' ⟨rfl, hx⟩
  have HX := Lib.hid hx
  clear hx
  clear FN
  go_wp2
  go_ret
  first
  | exact ⟨rfl, HX.out⟩
  | exact ⟨rfl, Nx.trans (show Nx w (w.alloc (.cells #[.string (S p)] 9)) from (Below.refl _ w).alloc (Nat.le_refl _) _) HX.out⟩
  | exact ⟨rfl, (((Below.refl _ w).alloc (Nat.le_refl _) _).alloc (by simp) _ : Nx w _)⟩
theorem append_nil (w : World) (p : Str) (A : Option Addr) (n c : Nat) :
    Calls Tryz.prog 50 #[.pointer none, .string (S p), .slice A n c] w fun e w' => e = .returned (.int .i64 1) ∧ Nx w w' := by
  have FN := Lib.hid (fun W p => find_nil0 W p)
  go_enter Tryz.func50, Tryz.ntmps50
  go_wp2_with fail
  refine (FN.out _ p).mono ?_
  rintro e w' ⟨rfl, hx⟩
  have HX := Lib.hid hx
  clear hx
  clear FN
  go_wp2
  go_ret
  first
  | exact ⟨rfl, HX.out⟩
  | exact ⟨rfl, Nx.trans (show Nx w (w.alloc (.cells #[.string (S p)] 9)) from (Below.refl _ w).alloc (Nat.le_refl _) _) HX.out⟩
  | exact ⟨rfl, (((Below.refl _ w).alloc (Nat.le_refl _) _).alloc (by simp) _ : Nx w _)⟩
theorem sync_nil (w : World) (p : Str) :
    Calls Tryz.prog 62 #[.pointer none, .string (S p)] w fun e w' => e = .returned (.int .i64 1) ∧ Nx w w' := by
  have FN := Lib.hid (fun W p => find_nil0 W p)
  go_enter Tryz.func62, Tryz.ntmps62
  go_wp2_with fail
  refine (FN.out _ p).mono ?_
  rintro e w' ⟨rfl, hx⟩
  have HX := Lib.hid hx
  clear hx
  clear FN
  go_wp2
  go_ret
  first
  | exact ⟨rfl, HX.out⟩
  | exact ⟨rfl, Nx.trans (show Nx w (w.alloc (.cells #[.string (S p)] 9)) from (Below.refl _ w).alloc (Nat.le_refl _) _) HX.out⟩
  | exact ⟨rfl, (((Below.refl _ w).alloc (Nat.le_refl _) _).alloc (by simp) _ : Nx w _)⟩
theorem syncPaths_nil (w : World) :
    Calls Tryz.prog 109 #[.pointer none] w fun e w' => e = .returned (.int .i64 1) ∧ Nx w w' := by
  have BN := Lib.hid (fun W A n c => begin_nil W A n c)
  go_enter Tryz.func109, Tryz.ntmps109
  go_wp2_with fail
  refine (BN.out _ _ _ _).mono ?_
  rintro e w' ⟨rfl, rfl⟩
  clear BN
  go_wp2
  go_ret
  first
  | exact ⟨rfl, Nx.refl _⟩
  | exact ⟨rfl, Nx.trans (show Nx w (w.alloc (.cells #[.string (S p)] 9)) from (Below.refl _ w).alloc (Nat.le_refl _) _) HX.out⟩
  | exact ⟨rfl, (((Below.refl _ w).alloc (Nat.le_refl _) _).alloc (by simp) _ : Nx w _)⟩
theorem remove_nil (w : World) (p : Str) :
    Calls Tryz.prog 132 #[.pointer none, .string (S p)] w fun e w' => e = .returned (.int .i64 1) ∧ Nx w w' := by
  have FN := Lib.hid (fun W p => find_nil0 W p)
  go_enter Tryz.func132, Tryz.ntmps132
  go_wp2_with fail
  refine (FN.out _ p).mono ?_
  rintro e w' ⟨rfl, hx⟩
  have HX := Lib.hid hx
  clear hx
  clear FN
  go_wp2
  go_ret
  first
  | exact ⟨rfl, HX.out⟩
  | exact ⟨rfl, Nx.trans (show Nx w (w.alloc (.cells #[.string (S p)] 9)) from (Below.refl _ w).alloc (Nat.le_refl _) _) HX.out⟩
  | exact ⟨rfl, (((Below.refl _ w).alloc (Nat.le_refl _) _).alloc (by simp) _ : Nx w _)⟩
theorem read_nil (w : World) (p : Str) :
    Calls Tryz.prog 72 #[.pointer none, .string (S p)] w fun e w' => e = .returned (.tuple #[.slice none 0 0, .int .i64 1]) ∧ Nx w w' := by
  have FN := Lib.hid (fun W p => find_nil0 W p)
  go_enter Tryz.func72, Tryz.ntmps72
  go_wp2_with fail
  refine (FN.out _ p).mono ?_
  rintro e w' ⟨rfl, hx⟩
  have HX := Lib.hid hx
  clear hx
  clear FN
  go_wp2
  go_ret2
  first
  | exact ⟨rfl, HX.out⟩
  | exact ⟨rfl, Nx.trans (show Nx w (w.alloc (.cells #[.string (S p)] 9)) from (Below.refl _ w).alloc (Nat.le_refl _) _) HX.out⟩
  | exact ⟨rfl, (((Below.refl _ w).alloc (Nat.le_refl _) _).alloc (by simp) _ : Nx w _)⟩
theorem fuse_nil (w : World) (n : Int) :
    Calls Tryz.prog 35 #[.pointer none, .int .i64 n] w fun e w' => e = .returned (.int .i64 1) ∧ Nx w w' := by
  have VN := Lib.hid (fun W => valid_nil W)
  go_enter Tryz.func35, Tryz.ntmps35
  go_wp2_with fail
  refine (VN.out _).mono ?_
  rintro e w' ⟨rfl, rfl⟩
  clear VN
  go_wp2
  go_ret
  first
  | exact ⟨rfl, Nx.refl _⟩
  | exact ⟨rfl, Nx.trans (show Nx w (w.alloc (.cells #[.string (S p)] 9)) from (Below.refl _ w).alloc (Nat.le_refl _) _) HX.out⟩
  | exact ⟨rfl, (((Below.refl _ w).alloc (Nat.le_refl _) _).alloc (by simp) _ : Nx w _)⟩
theorem crash_nil (w : World) (n : Int) (A : Option Addr) (m c : Nat) :
    Calls Tryz.prog 36 #[.pointer none, .int .i64 n, .slice A m c] w fun e w' => e = .returned (.int .i64 1) ∧ Nx w w' := by
  have VN := Lib.hid (fun W => valid_nil W)
  go_enter Tryz.func36, Tryz.ntmps36
  go_wp2_with fail
  refine (VN.out _).mono ?_
  rintro e w' ⟨rfl, rfl⟩
  clear VN
  go_wp2
  go_ret
  first
  | exact ⟨rfl, Nx.refl _⟩
  | exact ⟨rfl, Nx.trans (show Nx w (w.alloc (.cells #[.string (S p)] 9)) from (Below.refl _ w).alloc (Nat.le_refl _) _) HX.out⟩
  | exact ⟨rfl, (((Below.refl _ w).alloc (Nat.le_refl _) _).alloc (by simp) _ : Nx w _)⟩
theorem stat_nil (w : World) (p : Str) :
    Calls Tryz.prog 116 #[.pointer none, .string (S p)] w fun e w' => e = .returned (.tuple #[.int .i64 0, .int .u64 0, .bool false]) ∧ Nx w w' := by
  have VN := Lib.hid (fun W => valid_nil W)
  generalize S p = sp at *
  go_enter Tryz.func116, Tryz.ntmps116
  go_wp2_with fail
  refine (VN.out _).mono ?_
  rintro e w' ⟨rfl, rfl⟩
  clear VN
  go_wp2
  go_ret3
  first
  | exact ⟨rfl, Nx.refl _⟩
  | exact ⟨rfl, Nx.trans (show Nx w (w.alloc (.cells #[.string (S p)] 9)) from (Below.refl _ w).alloc (Nat.le_refl _) _) HX.out⟩
  | exact ⟨rfl, (((Below.refl _ w).alloc (Nat.le_refl _) _).alloc (by simp) _ : Nx w _)⟩
theorem paths_nil (w : World) (p : Str) :
    Calls Tryz.prog 21 #[.pointer none, .string (S p)] w fun e w' => e = .returned (.slice none 0 0) ∧ Nx w w' := by
  have VN := Lib.hid (fun W => valid_nil W)
  generalize S p = sp at *
  go_enter Tryz.func21, Tryz.ntmps21
  go_wp2_with fail
  refine (VN.out _).mono ?_
  rintro e w' ⟨rfl, rfl⟩
  clear VN
  go_wp2
  go_ret
  first
  | exact ⟨rfl, Nx.refl _⟩
  | exact ⟨rfl, Nx.trans (show Nx w (w.alloc (.cells #[.string (S p)] 9)) from (Below.refl _ w).alloc (Nat.le_refl _) _) HX.out⟩
  | exact ⟨rfl, (((Below.refl _ w).alloc (Nat.le_refl _) _).alloc (by simp) _ : Nx w _)⟩
theorem left_nil (w : World) :
    Calls Tryz.prog 25 #[.pointer none] w fun e w' => e = .returned (.int .i64 0) ∧ Nx w w' := by
  have VN := Lib.hid (fun W => valid_nil W)
  go_enter Tryz.func25, Tryz.ntmps25
  go_wp2_with fail
  refine (VN.out _).mono ?_
  rintro e w' ⟨rfl, rfl⟩
  clear VN
  go_wp2
  go_ret
  first
  | exact ⟨rfl, Nx.refl _⟩
  | exact ⟨rfl, Nx.trans (show Nx w (w.alloc (.cells #[.string (S p)] 9)) from (Below.refl _ w).alloc (Nat.le_refl _) _) HX.out⟩
  | exact ⟨rfl, (((Below.refl _ w).alloc (Nat.le_refl _) _).alloc (by simp) _ : Nx w _)⟩
theorem on_nil (w : World) :
    Calls Tryz.prog 23 #[.pointer none] w fun e w' => e = .returned (.bool false) ∧ Nx w w' := by
  have VN := Lib.hid (fun W => valid_nil W)
  go_enter Tryz.func23, Tryz.ntmps23
  go_wp2_with fail
  refine (VN.out _).mono ?_
  rintro e w' ⟨rfl, rfl⟩
  clear VN
  go_wp2
  go_ret
  first
  | exact ⟨rfl, Nx.refl _⟩
  | exact ⟨rfl, Nx.trans (show Nx w (w.alloc (.cells #[.string (S p)] 9)) from (Below.refl _ w).alloc (Nat.le_refl _) _) HX.out⟩
  | exact ⟨rfl, (((Below.refl _ w).alloc (Nat.le_refl _) _).alloc (by simp) _ : Nx w _)⟩
theorem safe_nil (w : World) :
    Calls Tryz.prog 30 #[.pointer none] w fun e w' => e = .returned (.slice none 0 0) ∧ Nx w w' := by
  have VN := Lib.hid (fun W => valid_nil W)
  go_enter Tryz.func30, Tryz.ntmps30
  go_wp2_with fail
  refine (VN.out _).mono ?_
  rintro e w' ⟨rfl, rfl⟩
  clear VN
  go_wp2
  go_ret
  first
  | exact ⟨rfl, Nx.refl _⟩
  | exact ⟨rfl, Nx.trans (show Nx w (w.alloc (.cells #[.string (S p)] 9)) from (Below.refl _ w).alloc (Nat.le_refl _) _) HX.out⟩
  | exact ⟨rfl, (((Below.refl _ w).alloc (Nat.le_refl _) _).alloc (by simp) _ : Nx w _)⟩
set_option maxRecDepth 100000 in
theorem rename_nil (w : World) (p q : Str) :
    Calls Tryz.prog 108 #[.pointer none, .string (S p), .string (S q)] w fun e w' => e = .returned (.int .i64 1) ∧ Nx w w' := by
  have Z1 : Hid (BlkIs (((w.alloc (.cells #[.string (S p)] 9)).alloc (.cells #[.string (S q)] 9)).alloc (.cells #[.string (S q)] 9)) (w.heap.size + 2) 9 #[.string (S q)]) := by
    have := (BlkIs.new ((w.alloc (.cells #[.string (S p)] 9)).alloc (.cells #[.string (S q)] 9)) 9 #[.string (S q)])
    rw [World.size_alloc, World.size_alloc] at this
    exact this
  have FN : Hid (∀ W b, BlkIs W b 9 #[.string (S q)] → _) := fun W b hb => find_nil W p (some ⟨b, 0, none⟩) 1 1 [q] (by decide) ⟨rfl, .inr ⟨b, 1, _, rfl, Nat.zero_le _, hb, Nat.le_refl _, by decide, rfl, rfl⟩⟩
  have bl : Below w.heap.size w (((w.alloc (.cells #[.string (S p)] 9)).alloc (.cells #[.string (S q)] 9)).alloc (.cells #[.string (S q)] 9)) := (((Below.refl _ w).alloc (Nat.le_refl _) _).alloc (by simp) _).alloc (by simp; omega) _
  have B1 := Lib.hid bl
  clear bl
  generalize S p = sp at *
  generalize S q = sq at *
  go_enter Tryz.func108, Tryz.ntmps108
  go_wp2_with fail
  refine (FN.out _ (w.heap.size + 2) Z1.out).mono ?_
  rintro e w2 ⟨rfl, hc⟩
  have N2 : Hid (Nx w w2) := ((Chd.of_below B1.out).trans hc).below (Nat.le_refl _) (fun j hj e => by
    have : some (w.heap.size + 2) = some j := e
    rw [Option.some.injEq] at this
    omega)
  have hx : ∀ o, (w2.alloc o).heap.size = w2.heap.size + 1 := fun o => by simp
  clear hc FN Z1 B1
  go_wp2
  go_ret
  exact ⟨rfl, N2.out.alloc _⟩
end Go.Proofs.YtiikjdjpodmpcaaGreat

/- Package wal: check, begin, Open. -/
namespace Go.Proofs.YtiikjdjpodmpcaaGreat
open Go.RowKit Go.Maps
set_option linter.unusedVariables false

/-- A slice of strings that lies in one of the blocks Z, or is nil. -/
structure StrZ (Z : List (Nat × Obj)) (A : Option Addr) (m c : Nat) (ps : List Str) : Prop where
  arg : ∀ W : World, (∀ z ∈ Z, W.heap[z.1]? = some z.2) → StrRow W 0 A m c ps
  le : m ≤ 1000000
theorem StrZ.nil (Z : List (Nat × Obj)) : StrZ Z none 0 0 [] := ⟨fun W _ => ⟨rfl, .inl ⟨rfl, rfl⟩⟩, Nat.zero_le _⟩
theorem StrZ.more {Z Z' : List (Nat × Obj)} {A : Option Addr} {m c : Nat} {ps : List Str} (h : StrZ Z A m c ps) (hs : ∀ z ∈ Z, z ∈ Z') : StrZ Z' A m c ps := ⟨fun W hW => h.arg W fun z hz => hW z (hs z hz), h.le⟩
theorem StrZ.strs {Z : List (Nat × Obj)} {A : Option Addr} {m c : Nat} {ps : List Str} (h : StrZ Z A m c ps) {W : World} (hW : ∀ z ∈ Z, W.heap[z.1]? = some z.2) : Strs W A m ps := (h.arg W hW).strs h.le
theorem StrZ.len {Z : List (Nat × Obj)} {A : Option Addr} {m c : Nat} {ps : List Str} (h : StrZ Z A m c ps) {W : World} (hW : ∀ z ∈ Z, W.heap[z.1]? = some z.2) : ps.length = m := (h.strs hW).len
theorem row_strZ {w : World} {B m c : Nat} {A : Option Addr} {ps : List Str} {Z : List (Nat × Obj)} (ho : StrRow w B A m c ps) (hm : m ≤ 1000000) :
    (StrZ Z A m c ps) ∨ ∃ g o, B ≤ g ∧ w.heap[g]? = some o ∧ StrZ ((g, o) :: Z) A m c ps := by
  obtain ⟨h1, h2⟩ := ho
  rcases h2 with ⟨hv, hn⟩ | ⟨g, cap, cur, hv, hB, hg, r1, r2, r3, r4⟩
  · exact .inl ⟨fun W _ => ⟨h1, .inl ⟨hv, hn⟩⟩, hm⟩
  · right
    refine ⟨g, _, hB, hg, ⟨fun W hW => ?_, hm⟩⟩
    have hg2 := hW _ List.mem_cons_self
    exact ⟨h1, .inr ⟨g, _, _, hv, Nat.zero_le _, hg2, r1, r2, r3, r4⟩⟩
section
variable {w W W0 : World} {tb lb k : Nat} {s : St} {L : Lg} {Z : List (Nat × Obj)}
theorem LivZ.ownS {x : Nat × Obj} {A : Option Addr} {m c : Nat} {ps : List Str} (h : LivZ w tb s k (x :: Z) W0) (hn : Nx W0 W) (ho : StrRow W W0.heap.size A m c ps) (hm : m ≤ 1000000) :
    ∃ Z1, Z.Sublist Z1 ∧ LivZ w tb s k (x :: Z1) W ∧ StrZ Z1 A m c ps := by
  rcases row_strZ (Z := Z) ho hm with h1 | ⟨g, o, hB, hg, h1⟩
  · exact ⟨Z, List.Sublist.refl _, h.next hn, h1⟩
  · exact ⟨(g, o) :: Z, List.sublist_cons_self _ _, (h.add hn hB hg).swap, h1⟩
theorem own_form2 {w : World} {B n c : Nat} {A : Option Addr} {l : Str} (h : Own w B A n c l) : (A = none ∧ n = 0 ∧ c = 0) ∨ ∃ g, A = some ⟨g, 0, none⟩ := by
  rcases h.2 with ⟨hv, h0⟩ | ⟨g, cap, cur, hv, _⟩
  · simp only [Value.slice.injEq] at hv
    exact .inl ⟨hv.1, hv.2.1, hv.2.2⟩
  · simp only [Value.slice.injEq] at hv
    exact .inr ⟨g, hv.1⟩
theorem livz_read2 {x : Nat × Obj} (h : LivZ w tb s k (x :: Z) W) (hk : k + 1 ≤ 1000) (p : Str) (hp : p.length ≤ 10000) (hl : (s.read p).2.1.length ≤ 10000) :
    Calls Tryz.prog 72 #[.pointer (some ⟨tb, 0, none⟩), .string (S p)] W fun e w' => ∃ A n c Z1, e = .returned (.tuple #[.slice A n c, .int .i64 (s.read p).2.2]) ∧ Z.Sublist Z1 ∧ LivZ w tb (s.read p).1 k (x :: Z1) w' ∧ ArgZ Z1 A n c (s.read p).2.1 ∧ ((A = none ∧ n = 0 ∧ c = 0) ∨ ∃ g, A = some ⟨g, 0, none⟩) := by
  have hnw := h.nx.size
  obtain ⟨g, hT, h0, hz⟩ := h.ex
  refine (read_any W tb s g (by omega) hT h.good.ok p hp).mono ?_
  rintro e w' ⟨A, n, c, e1, e2, hT', hC⟩
  have htb := hT.topT
  have hL : LivZ w tb (s.read p).1 k (x :: Z) w' := by
    refine ⟨⟨g, hT', h0, hz⟩, fun z hm => ?_, h.new, h.nd, ?_, h.good.read p⟩
    · rw [hC.block z.1 (h.lt hm) (fun e => by have := hz z hm; rw [e, htb] at this; omega)]
      exact h.at_ z hm
    · have c : Chd (fun _ => False) w w' := (Chd.of_below h.nx).then_ hC (fun j hj e => by
        have := h0 tb (by rw [htb]; omega)
        omega)
      exact c.below (Nat.le_refl _) (fun _ _ e => e)
  rcases own_argZ (Z := Z) e2 hl with h1 | ⟨gb, o, hB, hg, h1⟩
  · exact ⟨A, n, c, Z, e1, List.Sublist.refl _, hL, h1, own_form2 e2⟩
  · refine ⟨A, n, c, (gb, o) :: Z, e1, List.sublist_cons_self _ _, ?_, h1, own_form2 e2⟩
    refine LivZ.swap ⟨⟨g, hT', h0, fun z hm => ?_⟩, fun z hm => ?_, fun z hm => ?_, ?_, hL.nx, hL.good⟩
    · rcases List.mem_cons.1 hm with rfl | hm
      · exact new_zero hT hB
      · exact hz z hm
    · rcases List.mem_cons.1 hm with rfl | hm
      · exact hg
      · exact hL.at_ z hm
    · rcases List.mem_cons.1 hm with rfl | hm
      · exact Nat.le_trans hnw hB
      · exact h.new z hm
    · refine List.pairwise_cons.2 ⟨fun z hm e => ?_, h.nd⟩
      have := h.lt hm
      simp only at e
      omega
theorem check_nil (W : World) (p : Str) :
    Calls Tryz.prog 38 #[.pointer none, .string (S p)] W fun e w' => e = .returned (.int .i64 1) ∧ Nx W w' := by
  have X := Lib.hid (read_nil W [])
  rw [S_nil] at X
  generalize S p = sp
  go_enter Tryz.func38, Tryz.ntmps38
  go_wp2_with fail
  refine X.out.mono ?_
  rintro e w1 ⟨rfl, hb⟩
  have H := Lib.hid hb
  clear hb X
  go_wp2
  go_ret
  exact ⟨rfl, H.out⟩
theorem read_empty (s : St) : s.read [] = (s, [], 2) := by
  have : okP [] = false := by decide +kernel
  unfold St.read St.find St.begin_
  simp [this]
theorem lcheck_any (h : LivZ w tb s k Z W) (hk : k + 1 ≤ 1000) (p : Str) :
    Calls Tryz.prog 38 #[.pointer (some ⟨tb, 0, none⟩), .string (S p)] W fun e w' => e = .returned (.int .i64 (chk p)) ∧ LivZ w tb s k Z w' := by
  have X := livz_read h hk [] (by decide)
  rw [read_empty, S_nil] at X
  simp only at X
  have X := Lib.hid X
  have Y := Lib.hid (fun W => check_any W p)
  clear h
  generalize S p = sp at *
  generalize chk p = v at *
  go_enter Tryz.func38, Tryz.ntmps38
  go_wp2_with fail
  refine X.out.mono ?_
  rintro e w1 ⟨⟨A, n, c, rfl, ho⟩, hl⟩
  have HL := Lib.hid hl
  clear hl ho X
  go_wp2_with fail
  refine (Y.out w1).mono ?_
  rintro e w2 ⟨rfl, hb⟩
  have H := Lib.hid (HL.out.next hb)
  clear hb Y HL
  go_wp2
  go_ret
  exact ⟨rfl, H.out⟩

theorem begin_yes (L : Lg) (s : St) (h : (s.stat L.path).2.2 = true) : ((s.read L.path).2.2 ≠ 0 → L.begin_ s = (L, (s.read L.path).1, [], (s.read L.path).2.2)) ∧
    ((s.read L.path).2.2 = 0 → ((scan (s.read L.path).2.1).2.2 ≠ 0 → L.begin_ s = (L, (s.read L.path).1, [], (((scan (s.read L.path).2.1).2.2 : Nat) : Int))) ∧
     ((scan (s.read L.path).2.1).2.2 = 0 → L.begin_ s = ((L.mend (s.read L.path).1 (s.read L.path).2.1 (scan (s.read L.path).2.1).2.1 ((scan (s.read L.path).2.1).1.length : Nat)).1, (L.mend (s.read L.path).1 (s.read L.path).2.1 (scan (s.read L.path).2.1).2.1 ((scan (s.read L.path).2.1).1.length : Nat)).2, (scan (s.read L.path).2.1).1, (L.mend (s.read L.path).1 (s.read L.path).2.1 (scan (s.read L.path).2.1).2.1 ((scan (s.read L.path).2.1).1.length : Nat)).1.e))) := by
  unfold Lg.begin_
  rw [if_pos h]
  generalize s.read L.path = r
  obtain ⟨s1, b, e⟩ := r
  simp only
  refine ⟨fun h => by rw [if_neg h], fun h => ?_⟩
  rw [if_pos h]
  exact ⟨fun h => by rw [if_neg h], fun h => by rw [if_pos h]⟩

set_option maxRecDepth 100000 in
set_option maxHeartbeats 4000000 in
theorem lbegin_any (h : LivZ w tb s k ((lb, logO tb L) :: Z) W) (hk : k + 12 ≤ 1000) (e1 : isPath L.path = true) (hl : (s.read L.path).2.1.length ≤ 10000) :
    Calls Tryz.prog 40 #[.pointer (some ⟨lb, 0, none⟩)] W fun e w' => ∃ A m c Z1, e = .returned (.tuple #[.slice A m c, .int .i64 (L.begin_ s).2.2.2]) ∧ Z.Sublist Z1 ∧ LivZ w tb (L.begin_ s).2.1 (k + 12) ((lb, logO tb (L.begin_ s).1) :: Z1) w' ∧ StrZ Z1 A m c (L.begin_ s).2.2.1 := by
  have hlp := isPath_len e1
  have HH := Lib.hid (lhas_any h h.logAt.log L.path (by omega))
  have c2 := h.logAt.log.c2
  cases hst : (s.stat L.path).2.2 with
  | false =>
    rw [hst] at HH
    have hb : L.begin_ s = ((L.replace s [] 0).1, (L.replace s [] 0).2, [], (L.replace s [] 0).1.e) := by unfold Lg.begin_; rw [hst]; rfl
    have RP : Hid (∀ m, Calls Tryz.prog 64 #[.pointer (some ⟨lb, 0, none⟩), .slice none 0 0, .int .i64 0] (W.drewN m) fun e w' => e = .returned (.int .i64 (L.replace s [] 0).1.e) ∧ LivZ w tb (L.replace s [] 0).2 (k + 12) ((lb, logO tb (L.replace s [] 0).1) :: Z) w') := fun m => lreplace_any w _ tb lb k s L Z none 0 0 [] 0 (h.drewN m) hk e1 (ArgZ.nil Z)
    rw [hb]
    clear h e1 hl hlp hst hb
    generalize L.replace s [] 0 = q at *
    obtain ⟨L2, s2⟩ := q
    generalize S L.path = sp at *
    simp only at *
    go_enter Tryz.func40, Tryz.ntmps40
    go_wp2_with fail
    refine HH.out.mono ?_
    rintro e w1 ⟨rfl, m, hm⟩
    rw [hm]
    go_wp2_with fail
    refine (RP.out m).mono ?_
    rintro e w2 ⟨rfl, hl⟩
    have HL := Lib.hid hl
    clear hl RP HH hm
    go_wp2
    go_ret2
    exact ⟨none, 0, 0, Z, rfl, List.Sublist.refl _, HL.out, StrZ.nil Z⟩
  | true =>
    rw [hst] at HH
    have hb := begin_yes L s hst
    have RD : Hid (∀ m, Calls Tryz.prog 72 #[.pointer (some ⟨tb, 0, none⟩), .string (S L.path)] (W.drewN m).drew fun e w' => ∃ A n c Z1, e = .returned (.tuple #[.slice A n c, .int .i64 (s.read L.path).2.2]) ∧ Z.Sublist Z1 ∧ LivZ w tb (s.read L.path).1 k ((lb, logO tb L) :: Z1) w' ∧ ArgZ Z1 A n c (s.read L.path).2.1 ∧ ((A = none ∧ n = 0 ∧ c = 0) ∨ ∃ g, A = some ⟨g, 0, none⟩)) := fun m => livz_read2 (h.drewN m).drew (by omega) L.path (by omega) hl
    have hdr : Hid (∀ m, (W.drewN m).cell? ⟨lb, 1, none⟩ = some (.pointer (some ⟨tb, 0, none⟩)) ∧ (W.drewN m).cell? ⟨lb, 2, none⟩ = some (.string (S L.path))) := fun m => ⟨(h.drewN m).logAt.log.c1, (h.drewN m).logAt.log.c2⟩
    have HB := Lib.hid hb
    have E1 := Lib.hid e1
    have HLL := Lib.hid hl
    have HK := Lib.hid hk
    clear h e1 hl hlp hst hb hk
    generalize hrd : s.read L.path = r at *
    obtain ⟨s1, b, er⟩ := r
    clear hrd
    generalize hsp : S L.path = sp at *
    have HSP := Lib.hid hsp
    clear hsp
    simp only at HB RD HLL
    go_enter Tryz.func40, Tryz.ntmps40
    go_wp2_with fail
    refine HH.out.mono ?_
    rintro e w1 ⟨rfl, m, hm⟩
    have d1 := (hdr.out m).1
    have d2 := (hdr.out m).2
    rw [← hm] at d1 d2
    have RD1 := RD.out m
    rw [← hm] at RD1
    have X := Lib.hid RD1
    clear RD1 RD HH hm hdr c2
    go_upto_region 3 with fail
    refine wp_region_held_drew (S := (fun W => W.cell? ⟨lb, 1, none⟩ = some (.pointer (some ⟨tb, 0, none⟩)) ∧ W.cell? ⟨lb, 2, none⟩ = some (.string sp))) (by kernel_rfl) ⟨d1, d2⟩ (fun hHeld => ?_)
    change wpAnyH _ _ _ _ _ 14 (Array.replicate 14 false) _ _
    refine wpAnyH_take (i := 0) (oi := { dst := some 18, op := Op.move (Operand.tmp 0), type := 28, pos := "file.go:14", after := #[], guard := none }) (v := ?va0) rfl (by kernel_rfl) (by kernel_rfl) (by kernel_rfl) (fun _ _ _ h => h) (Or.inl ⟨by rfl, ?hya0⟩) hHeld ?resta0
    case hya0 =>
      intro W hSw
      have x0 := hSw.1
      have x1 := hSw.2
      go_simp
      try with_reducible rfl
    try simp only [Act.put, List.setIfInBounds_toArray, List.set_cons_zero, List.set_cons_succ]
    refine wpAnyH_take (i := 1) (oi := { dst := some 19, op := Op.nilCheck (Operand.tmp 18), type := 0, pos := "file.go:14", after := #[{ on := 0, ground := Ground.data }], guard := none }) (v := ?va1) rfl (by kernel_rfl) (by kernel_rfl) (by kernel_rfl) (fun _ _ _ h => h) (Or.inl ⟨by rfl, ?hya1⟩) hHeld ?resta1
    case hya1 =>
      intro W hSw
      have x0 := hSw.1
      have x1 := hSw.2
      go_simp
      try with_reducible rfl
    try simp only [Act.put, List.setIfInBounds_toArray, List.set_cons_zero, List.set_cons_succ]
    refine wpAnyH_take (i := 2) (oi := { dst := some 20, op := Op.fieldAddr 74 (Operand.tmp 19) 1, type := 0, pos := "file.go:14", after := #[{ on := 1, ground := Ground.data }], guard := none }) (v := ?va2) rfl (by kernel_rfl) (by kernel_rfl) (by kernel_rfl) (fun _ _ _ h => h) (Or.inl ⟨by rfl, ?hya2⟩) hHeld ?resta2
    case hya2 =>
      intro W hSw
      have x0 := hSw.1
      have x1 := hSw.2
      go_simp
      try with_reducible rfl
    try simp only [Act.put, List.setIfInBounds_toArray, List.set_cons_zero, List.set_cons_succ]
    refine wpAnyH_take (i := 3) (oi := { dst := some 21, op := Op.load 40 (Operand.tmp 20), type := 40, pos := "file.go:14", after := #[{ on := 2, ground := Ground.data }], guard := none }) (v := ?va3) rfl (by kernel_rfl) (by kernel_rfl) (by kernel_rfl) (fun _ _ _ h => h) (Or.inl ⟨by rfl, ?hya3⟩) hHeld ?resta3
    case hya3 =>
      intro W hSw
      have x0 := hSw.1
      have x1 := hSw.2
      go_simp
      try with_reducible rfl
    try simp only [Act.put, List.setIfInBounds_toArray, List.set_cons_zero, List.set_cons_succ]
    refine wpAnyH_take (i := 4) (oi := { dst := some 22, op := Op.move (Operand.tmp 0), type := 28, pos := "file.go:14", after := #[], guard := none }) (v := ?va4) rfl (by kernel_rfl) (by kernel_rfl) (by kernel_rfl) (fun _ _ _ h => h) (Or.inl ⟨by rfl, ?hya4⟩) hHeld ?resta4
    case hya4 =>
      intro W hSw
      have x0 := hSw.1
      have x1 := hSw.2
      go_simp
      try with_reducible rfl
    try simp only [Act.put, List.setIfInBounds_toArray, List.set_cons_zero, List.set_cons_succ]
    refine wpAnyH_take (i := 5) (oi := { dst := some 23, op := Op.nilCheck (Operand.tmp 22), type := 0, pos := "file.go:14", after := #[{ on := 4, ground := Ground.data }], guard := none }) (v := ?va5) rfl (by kernel_rfl) (by kernel_rfl) (by kernel_rfl) (fun _ _ _ h => h) (Or.inl ⟨by rfl, ?hya5⟩) hHeld ?resta5
    case hya5 =>
      intro W hSw
      have x0 := hSw.1
      have x1 := hSw.2
      go_simp
      try with_reducible rfl
    try simp only [Act.put, List.setIfInBounds_toArray, List.set_cons_zero, List.set_cons_succ]
    refine wpAnyH_take (i := 6) (oi := { dst := some 24, op := Op.fieldAddr 74 (Operand.tmp 23) 2, type := 0, pos := "file.go:14", after := #[{ on := 5, ground := Ground.data }], guard := none }) (v := ?va6) rfl (by kernel_rfl) (by kernel_rfl) (by kernel_rfl) (fun _ _ _ h => h) (Or.inl ⟨by rfl, ?hya6⟩) hHeld ?resta6
    case hya6 =>
      intro W hSw
      have x0 := hSw.1
      have x1 := hSw.2
      go_simp
      try with_reducible rfl
    try simp only [Act.put, List.setIfInBounds_toArray, List.set_cons_zero, List.set_cons_succ]
    refine wpAnyH_take (i := 7) (oi := { dst := some 25, op := Op.load 9 (Operand.tmp 24), type := 9, pos := "file.go:14", after := #[{ on := 6, ground := Ground.data }], guard := none }) (v := ?va7) rfl (by kernel_rfl) (by kernel_rfl) (by kernel_rfl) (fun _ _ _ h => h) (Or.inl ⟨by rfl, ?hya7⟩) hHeld ?resta7
    case hya7 =>
      intro W hSw
      have x0 := hSw.1
      have x1 := hSw.2
      go_simp
      try with_reducible rfl
    try simp only [Act.put, List.setIfInBounds_toArray, List.set_cons_zero, List.set_cons_succ]
    refine wpAnyH_ready (rs := [8]) (by kernel_rfl) (by simp) ?_
    refine AllReadyH.cons (o := { dst := some 26, op := Op.call { callee := Callee.value (Operand.func 72), args := #[Operand.tmp 21, Operand.tmp 25], argTypes := #[40, 9] }, type := 105, pos := "file.go:14", after := #[{ on := 3, ground := Ground.data }, { on := 7, ground := Ground.data }], guard := none }) rfl (fun K' hK => ?_) AllReadyH.nil
    go_simp
    refine X.out.mono ?_
    rintro e w2 ⟨A, n, c, Z1, rfl, hs, hl, ha, hf⟩
    have HL := Lib.hid hl
    have HS := Lib.hid hs
    have HA := Lib.hid ha
    have HF := Lib.hid hf
    have t1 := hl.logAt.log.c1
    have t2 := hl.logAt.log.c2
    rw [HSP.out] at t2
    clear hl hs ha hf X
    show K' _ w2
    refine hK.out _ _ ⟨t1, t2⟩ (fun hHeld => ?_)
    clear hK K'
    try simp only [Act.put, List.setIfInBounds_toArray, List.set_cons_zero, List.set_cons_succ]
    refine wpAnyH_take (i := 9) (oi := { dst := some 17, op := Op.move (Operand.tmp 26), type := 105, pos := "file.go:14", after := #[{ on := 8, ground := Ground.data }], guard := none }) (v := ?va9) rfl (by kernel_rfl) (by kernel_rfl) (by kernel_rfl) (fun _ _ _ h => h) (Or.inl ⟨by rfl, ?hya9⟩) hHeld ?resta9
    case hya9 =>
      intro W hSw
      have x0 := hSw.1
      have x1 := hSw.2
      go_simp
      try with_reducible rfl
    try simp only [Act.put, List.setIfInBounds_toArray, List.set_cons_zero, List.set_cons_succ]
    refine wpAnyH_take (i := 10) (oi := { dst := some 27, op := Op.extract (Operand.tmp 17) 0, type := 22, pos := "file.go:14", after := #[{ on := 9, ground := Ground.data }], guard := none }) (v := ?va10) rfl (by kernel_rfl) (by kernel_rfl) (by kernel_rfl) (fun _ _ _ h => h) (Or.inl ⟨by rfl, ?hya10⟩) hHeld ?resta10
    case hya10 =>
      intro W hSw
      have x0 := hSw.1
      have x1 := hSw.2
      go_simp
      try with_reducible rfl
    try simp only [Act.put, List.setIfInBounds_toArray, List.set_cons_zero, List.set_cons_succ]
    refine wpAnyH_take (i := 11) (oi := { dst := some 28, op := Op.extract (Operand.tmp 17) 1, type := 25, pos := "file.go:14", after := #[{ on := 9, ground := Ground.data }, { on := 12, ground := Ground.gcOnly Departure.lateStores }], guard := none }) (v := ?va11) rfl (by kernel_rfl) (by kernel_rfl) (by kernel_rfl) (fun _ _ _ h => h) (Or.inl ⟨by rfl, ?hya11⟩) hHeld ?resta11
    case hya11 =>
      intro W hSw
      have x0 := hSw.1
      have x1 := hSw.2
      go_simp
      try with_reducible rfl
    try simp only [Act.put, List.setIfInBounds_toArray, List.set_cons_zero, List.set_cons_succ]
    refine wpAnyH_take (i := 12) (oi := { dst := some 4, op := Op.assign (Operand.tmp 27), type := 22, pos := "file.go:14", after := #[{ on := 10, ground := Ground.data }, { on := 8, ground := Ground.chain }, { on := 0, ground := Ground.phase }, { on := 1, ground := Ground.phase }, { on := 2, ground := Ground.phase }, { on := 3, ground := Ground.phase }, { on := 4, ground := Ground.phase }, { on := 5, ground := Ground.phase }, { on := 6, ground := Ground.phase }, { on := 7, ground := Ground.phase }, { on := 8, ground := Ground.phase }, { on := 9, ground := Ground.phase }, { on := 10, ground := Ground.phase }, { on := 11, ground := Ground.textOnly Departure.lateStores }], guard := none }) (v := ?va12) rfl (by kernel_rfl) (by kernel_rfl) (by kernel_rfl) (fun _ _ _ h => h) (Or.inl ⟨by rfl, ?hya12⟩) hHeld ?resta12
    case hya12 =>
      intro W hSw
      have x0 := hSw.1
      have x1 := hSw.2
      go_simp
      try with_reducible rfl
    try simp only [Act.put, List.setIfInBounds_toArray, List.set_cons_zero, List.set_cons_succ]
    refine wpAnyH_take (i := 13) (oi := { dst := some 5, op := Op.assign (Operand.tmp 28), type := 25, pos := "file.go:14", after := #[{ on := 11, ground := Ground.data }, { on := 12, ground := Ground.chain }, { on := 0, ground := Ground.phase }, { on := 1, ground := Ground.phase }, { on := 2, ground := Ground.phase }, { on := 3, ground := Ground.phase }, { on := 4, ground := Ground.phase }, { on := 5, ground := Ground.phase }, { on := 6, ground := Ground.phase }, { on := 7, ground := Ground.phase }, { on := 8, ground := Ground.phase }, { on := 9, ground := Ground.phase }, { on := 10, ground := Ground.phase }, { on := 11, ground := Ground.phase }, { on := 12, ground := Ground.phase }], guard := none }) (v := ?va13) rfl (by kernel_rfl) (by kernel_rfl) (by kernel_rfl) (fun _ _ _ h => h) (Or.inl ⟨by rfl, ?hya13⟩) hHeld ?resta13
    case hya13 =>
      intro W hSw
      have x0 := hSw.1
      have x1 := hSw.2
      go_simp
      try with_reducible rfl
    try simp only [Act.put, List.setIfInBounds_toArray, List.set_cons_zero, List.set_cons_succ]
    refine wpAnyH_done (by kernel_rfl) ?_ _
    clear hHeld
    by_cases h0 : er = 0
    · subst h0
      have hlen := (HA.out.arg w2 fun z hz => HL.out.at_ z (List.mem_cons_of_mem _ hz)).len
      have hb9 := HLL.out
      have hbyt := (HA.out.arg w2 fun z hz => HL.out.at_ z (List.mem_cons_of_mem _ hz)).byt
      have SC := Lib.hid (scan_any w2 w2.heap.size A n c b hbyt (Nat.le_refl _) HF.out (by omega))
      have hsn := scan_le b.length b rfl
      have hse := scan_ends b.length b rfl
      have HSN := Lib.hid hsn
      have HNN := Lib.hid hlen
      have hB := HB.out.2 rfl
      have HB2 := Lib.hid hB
      clear hbyt hlen hb9 HB hB hsn
      generalize hscv : scan b = sc at *
      obtain ⟨rs, whole, ee⟩ := sc
      clear hscv
      simp only at SC HB2 hse HSN
      go_wp2_with fail
      refine SC.out.mono ?_
      rintro e w3 ⟨A3, m3, c3, rfl, hrow, hm3, hn3⟩
      obtain ⟨Z2, hsub2, hl3, hstz⟩ := HL.out.ownS hn3 hrow (by have := HLL.out; have := HNN.out; omega)
      have HL3 := Lib.hid hl3
      have HS2 := Lib.hid hsub2
      have HZ := Lib.hid hstz
      have hml : rs.length = m3 := hstz.len (fun z hz => hl3.at_ z (List.mem_cons_of_mem _ hz))
      clear hl3 hsub2 hstz hrow hn3 SC HL
      rcases hse with rfl | rfl
      · have MD := Lib.hid (lmend_any HL3.out HK.out E1.out A n c b (HA.out.more fun z hz => HS2.out.subset hz) whole (by have := HSN.out.1; have := HNN.out; omega) (m3 : Int))
        have hB3 := HB2.out.2 rfl
        rw [hml] at hB3
        have HB3 := Lib.hid hB3
        clear hB3 HB2 hml
        go_wp2_with fail
        refine MD.out.mono ?_
        rintro e w4 ⟨rfl, hl4⟩
        have HL4 := Lib.hid hl4
        clear hl4 MD HL3
        go_wp2
        go_ret2
        rw [HB3.out]
        exact ⟨A3, m3, c3, Z2, rfl, HS.out.trans HS2.out, HL4.out, HZ.out⟩
      · have hB3 := HB2.out.1 (by decide)
        have HB3 := Lib.hid hB3
        clear hB3 HB2 hml
        go_wp2
        go_ret2
        rw [HB3.out]
        exact ⟨none, 0, 0, Z2, rfl, HS.out.trans HS2.out, HL3.out.up (by omega), StrZ.nil _⟩
    · have hB3 := HB.out.1 h0
      have HB3 := Lib.hid hB3
      clear hB3 HB
      go_wp2
      go_ret2
      rw [HB3.out]
      exact ⟨none, 0, 0, Z1, rfl, HS.out, HL.out.up (by omega), StrZ.nil _⟩
end
end Go.Proofs.YtiikjdjpodmpcaaGreat

/- Package wal: Open, frames, Aside; calls of an invalid log. -/
namespace Go.Proofs.YtiikjdjpodmpcaaGreat
open Go.RowKit Go.Maps
set_option linter.unusedVariables false

/-- A log that is opened: the log, the tree, the records, the error. -/
def openL (p : Str) (s : St) : Lg × St × List Str × Int := Lg.begin_ ⟨p, 0, 0, 0⟩ s
/-- What Open returns. -/
def OpenAns (lb : Nat) (A : Option Addr) (m c : Nat) (er : Int) (e : Ending) : Prop := (er = 0 ∧ e = .returned (.tuple #[.pointer (some ⟨lb, 0, none⟩), .slice A m c, .int .i64 0])) ∨ (er ≠ 0 ∧ e = .returned (.tuple #[.pointer none, .slice none 0 0, .int .i64 er]))
section
variable {w W W0 : World} {tb lb k : Nat} {s : St} {L : Lg} {Z : List (Nat × Obj)}
set_option maxRecDepth 100000 in
set_option maxHeartbeats 2000000 in
theorem lopen_all (h : LivZ w tb s k Z W) (hk : k + 12 ≤ 1000) (p : Str) (e1 : isPath p = true) (hl : (s.read p).2.1.length ≤ 10000) :
    Calls Tryz.prog 11 #[.pointer (some ⟨tb, 0, none⟩), .string (S p)] W fun e w' => ∃ lb A m c Z1, Z.Sublist Z1 ∧ LivZ w tb (openL p s).2.1 (k + 12) ((lb, logO tb (openL p s).1) :: Z1) w' ∧ StrZ Z1 A m c (openL p s).2.2.1 ∧ OpenAns lb A m c (openL p s).2.2.2 e := by
  have hlp := isPath_len e1
  have CK := lcheck_any h (by omega) p
  rw [show chk p = 0 from chk_zero.2 e1] at CK
  have X := Lib.hid CK
  have CL := Lib.hid (fun W => clone_any W (S p) (by rw [S_size]; omega))
  have BG : Hid (∀ W2, LivZ w tb s k Z W2 → Calls Tryz.prog 40 #[.pointer (some ⟨W2.heap.size, 0, none⟩)] (W2.alloc (.cells #[.int .i64 0, .pointer (some ⟨tb, 0, none⟩), .string (S p), .int .i64 0, .int .i64 0] 74)) fun e w' => ∃ A m c Z1, e = .returned (.tuple #[.slice A m c, .int .i64 (openL p s).2.2.2]) ∧ Z.Sublist Z1 ∧ LivZ w tb (openL p s).2.1 (k + 12) ((W2.heap.size, logO tb (openL p s).1) :: Z1) w' ∧ StrZ Z1 A m c (openL p s).2.2.1) := fun W2 h2 =>
    lbegin_any (L := ⟨p, 0, 0, 0⟩) (h2.alloc (logO tb ⟨p, 0, 0, 0⟩)) hk e1 hl
  clear h CK e1 hl hlp hk
  generalize hO : openL p s = O at *
  obtain ⟨L2, s2, rs, eo⟩ := O
  clear hO
  generalize S p = sp at *
  simp only at *
  go_enter Tryz.func11, Tryz.ntmps11
  go_wp2_with fail
  refine X.out.mono ?_
  rintro e w1 ⟨rfl, h1⟩
  have H1 := Lib.hid h1
  clear h1 X
  go_wp2_with fail
  refine (CL.out w1).mono ?_
  rintro e w2 ⟨rfl, hb⟩
  have H2 := Lib.hid (H1.out.next hb)
  clear hb CL H1
  go_wp2_with fail
  refine (BG.out w2 H2.out).mono ?_
  rintro e w3 ⟨A, m, c, Z1, rfl, hs, h3, hz⟩
  have H3 := Lib.hid (And.intro hs (And.intro h3 hz))
  clear hs h3 hz BG
  by_cases h0 : eo = 0
  · subst h0
    go_wp2
    go_ret3
    exact ⟨w2.heap.size, A, m, c, Z1, H3.out.1, H3.out.2.1, H3.out.2.2, .inl ⟨rfl, rfl⟩⟩
  · go_wp2
    go_ret3
    exact ⟨w2.heap.size, A, m, c, Z1, H3.out.1, H3.out.2.1, H3.out.2.2, .inr ⟨h0, rfl⟩⟩
/-- Open, where it returns OK. -/
theorem lopen_ok (h : LivZ w tb s k Z W) (hk : k + 12 ≤ 1000) (p : Str) (e1 : isPath p = true) (hl : (s.read p).2.1.length ≤ 10000) (he : (openL p s).2.2.2 = 0) :
    Calls Tryz.prog 11 #[.pointer (some ⟨tb, 0, none⟩), .string (S p)] W fun e w' => ∃ lb A m c Z1, e = .returned (.tuple #[.pointer (some ⟨lb, 0, none⟩), .slice A m c, .int .i64 0]) ∧ Z.Sublist Z1 ∧ LivZ w tb (openL p s).2.1 (k + 12) ((lb, logO tb (openL p s).1) :: Z1) w' ∧ StrZ Z1 A m c (openL p s).2.2.1 :=
  (lopen_all h hk p e1 hl).mono fun e w' ⟨lb, A, m, c, Z1, h1, h2, h3, h4⟩ => by
    rcases h4 with ⟨_, h4⟩ | ⟨h5, _⟩
    · exact ⟨lb, A, m, c, Z1, h4, h1, h2, h3⟩
    · exact absurd he h5
theorem lopen_nil (W : World) (p : Str) :
    Calls Tryz.prog 11 #[.pointer none, .string (S p)] W fun e w' => e = .returned (.tuple #[.pointer none, .slice none 0 0, .int .i64 1]) ∧ Nx W w' := by
  have X := Lib.hid (check_nil W p)
  generalize S p = sp at *
  go_enter Tryz.func11, Tryz.ntmps11
  go_wp2_with fail
  refine X.out.mono ?_
  rintro e w1 ⟨rfl, h1⟩
  have H1 := Lib.hid h1
  clear h1 X
  go_wp2
  go_ret3
  exact ⟨rfl, H1.out⟩

/-! ### frames -/
theorem fra_take (rs : List Str) (i : Nat) (r : Str) (h : rs[i]? = some r) : fra (rs.take (i + 1)) = fra (rs.take i) ++ frame r := by
  rw [List.take_add_one, h, fra_append]
  show _ ++ fra [r] = _
  rw [fra_one]
theorem fra_take_le (rs : List Str) (i : Nat) : (fra (rs.take i)).length ≤ (fra rs).length := by
  have : fra rs = fra (rs.take i) ++ fra (rs.drop i) := by rw [← fra_append, List.take_append_drop]
  rw [this, List.length_append]
  omega
theorem fra_one_le {rs : List Str} {r : Str} (h : r ∈ rs) : 8 + r.length ≤ (fra rs).length := by
  obtain ⟨a, b, rfl⟩ := List.append_of_mem h
  rw [fra_append, fra_cons, List.length_append, List.length_append, frame_length]
  omega
set_option maxRecDepth 100000 in
set_option maxHeartbeats 2000000 in
theorem frames_any (w : World) (A : Option Addr) (n c : Nat) (rs : List Str) (h : Strs w A n rs) (hl : (fra rs).length ≤ 10000) :
    Calls Tryz.prog 63 #[.slice A n c] w fun e w' => ∃ A' m c', e = .returned (.tuple #[.slice A' m c', .int .i64 0]) ∧ Own w' w.heap.size A' m c' (fra rs) ∧ Nx w w' := by
  have hn := h.len
  have hle := h.le
  have HL := Lib.hid hl
  have HN := Lib.hid hn
  have H := Lib.hid h
  have i1 : (n : Int) ≤ 1000000 := by omega
  clear h hn hl
  go_enter Tryz.func63, Tryz.ntmps63
  go_wp2
  go_loopw [4, 11] (fun y x wr => ∃ (i m c' : Nat) (A' : Option Addr), y = .slice A' m c' ∧ x = .int .i64 i ∧ i ≤ n ∧ m ≤ 10000 ∧ Hid (Own wr w.heap.size A' m c' (fra (rs.take i)) ∧ Nx w wr)) (fun _ x _ => n - (intOf x).toNat)
  case atStart => exact ⟨0, 0, 0, none, rfl, rfl, Nat.zero_le _, Nat.zero_le _, ⟨rfl, .inl ⟨rfl, rfl⟩⟩, Nx.refl w⟩
  case round =>
    obtain ⟨i, m, c', A', rfl, rfl, hi, hm, hrel⟩ := hrel
    by_cases hlt : i < n
    · obtain ⟨r, hr⟩ : ∃ r, rs[i]? = some r := ⟨_, List.getElem?_eq_getElem (by rw [HN.out]; exact hlt)⟩
      have hmem := List.mem_of_getElem? hr
      have hr9 := fra_one_le hmem
      obtain ⟨b1, rfl, hb1, hc1⟩ := H.out.at_ (by omega)
      have d1 : wr.cell? ⟨b1, i, none⟩ = some (.string (S r)) := by
        rw [hrel.out.2.cell hb1, hc1 i hlt]
        simp [List.getD, hr]
      have hft := fra_take rs i r hr
      have hfl := fra_take_le rs (i + 1)
      have hfr := frame_length r
      have hml := hrel.out.1.len
      have FR := Lib.hid (sframe_any wr r (by have := HL.out; omega))
      have HFT := Lib.hid hft
      have hsum : m + (8 + r.length) ≤ 10000 := by rw [hft, List.length_append, hml, hfr] at hfl; have := HL.out; omega
      have HFR := Lib.hid hfr
      have REL := hrel
      clear hr hmem hr9 hc1 hft hfl hfr hml hrel
      generalize S r = sr at *
      go_wp2_with fail
      refine FR.out.mono ?_
      rintro e w2 ⟨⟨A2, n2, c2, rfl, ho2⟩, hn2⟩
      have hl2 : m + n2 ≤ 10000 := by have := ho2.len; have := HFR.out; omega
      have hby := ho2.byt
      have hown : Own w2 w.heap.size A' m c' (fra (rs.take i)) := REL.out.1.below hn2
      have hnx := REL.out.2.trans hn2
      have hsz := hnx.size
      have HO := Lib.hid hown
      have HX := Lib.hid hnx
      have HBY := Lib.hid hby
      clear ho2 hn2 FR REL hown hnx hby hsum
      go_wp2_with (at_builtin; refine wpList_byte_append rfl (.tmp 23) (.tmp 24) rfl w.heap.size A' m c' _ rfl HO.out w2.heap.size A2 n2 c2 _ rfl HBY.out (by omega) hsz ?_; intro A3 c3 w3 hown3 hgr3 hat3)
      have hnx3 : Nx w w3 := HX.out.grown hgr3 (by exact hsz) fun k hk => (World.ownsRow.lt HO.out k hk).1
      rw [← HFT.out] at hown3
      have REL3 := Lib.hid (And.intro hown3 hnx3)
      clear hown3 hnx3 hgr3 hat3 HO HX HBY
      go_roundw
      case rel => exact ⟨i + 1, m + n2, c3, A3, rfl, by go_num, by omega, by omega, REL3.out⟩
      case measure => simp [intOf]; omega
    · obtain rfl : i = n := by omega
      have hfin : rs.take i = rs := List.take_of_length_le (by rw [HN.out]; exact Nat.le_refl _)
      have RR := hrel.out
      rw [hfin] at RR
      have R2 := Lib.hid RR
      clear RR hfin hrel
      go_wp2
      go_ret2
      exact ⟨A', m, c', rfl, R2.out⟩

/-! ### Aside -/
def Lg.aside (L : Lg) (s : St) (rs : List Str) : Lg × St := L.replace s (fra rs) (rs.length : Nat)
set_option maxRecDepth 100000 in
set_option maxHeartbeats 2000000 in
theorem laside_any (h : LivZ w tb s k ((lb, logO tb L) :: Z) W) (hk : k + 12 ≤ 1000) (e1 : isPath L.path = true) (A : Option Addr) (n c : Nat) (rs : List Str) (hs : Strs W A n rs) (hl : (fra rs).length ≤ 10000) :
    Calls Tryz.prog 34 #[.pointer (some ⟨lb, 0, none⟩), .slice A n c] W fun e w' => e = .returned (.int .i64 (L.aside s rs).1.e) ∧ ∃ Z1, Z.Sublist Z1 ∧ LivZ w tb (L.aside s rs).2 (k + 12) ((lb, logO tb (L.aside s rs).1) :: Z1) w' := by
  have V := Lib.hid (lvalid_any h.logAt.log)
  have FR := Lib.hid (frames_any W A n c rs hs hl)
  have hn := hs.len
  have hle := hs.le
  have H := Lib.hid h
  have HN := Lib.hid hn
  have HK := Lib.hid hk
  have HL := Lib.hid hl
  have E1 := Lib.hid e1
  have i1 : (n : Int) ≤ 1000000 := by omega
  clear h hs hn hl hk e1
  go_enter Tryz.func34, Tryz.ntmps34
  go_wp2_with fail
  refine V.out.mono ?_
  rintro e w1 ⟨rfl, rfl⟩
  go_wp2_with fail
  refine FR.out.mono ?_
  rintro e w2 ⟨A2, n2, c2, rfl, ho, hn2⟩
  obtain ⟨Z1, hsub, h2, hA⟩ := H.out.own hn2 ho HL.out
  have RP := lreplace_any w w2 tb lb k s L Z1 A2 n2 c2 (fra rs) (n : Int) h2 HK.out E1.out hA
  have hR : L.replace s (fra rs) (n : Int) = L.aside s rs := by unfold Lg.aside; rw [HN.out]
  rw [hR] at RP
  have X := Lib.hid RP
  have HS := Lib.hid hsub
  clear RP hR hsub h2 hA ho hn2 FR V H
  generalize hq : L.aside s rs = q at *
  obtain ⟨L2, s2⟩ := q
  have HQ := Lib.hid hq
  clear hq
  simp only at X
  go_wp2_with fail
  refine X.out.mono ?_
  rintro e w3 ⟨rfl, h3⟩
  have H3 := Lib.hid h3
  clear h3 X
  go_wp2
  go_ret
  rw [HQ.out]
  exact ⟨rfl, Z1, HS.out, H3.out⟩
end

/-! ### An invalid log -/
theorem lappend_nil (W : World) (s : ByteArray) :
    Calls Tryz.prog 32 #[.pointer none, .string s] W fun e w' => e = .returned (.int .i64 1) ∧ Nx W w' := by
  go_enter Tryz.func32, Tryz.ntmps32
  go_wp2_with fail
  refine (lvalid_nil _).mono ?_
  rintro e w1 ⟨rfl, rfl⟩
  go_wp2
  go_ret
  exact ⟨rfl, (Below.refl _ W).alloc (Nat.le_refl _) _⟩
theorem lsync_nil (W : World) :
    Calls Tryz.prog 33 #[.pointer none] W fun e w' => e = .returned (.int .i64 1) ∧ Nx W w' := by
  go_enter Tryz.func33, Tryz.ntmps33
  go_wp2_with fail
  refine (lvalid_nil _).mono ?_
  rintro e w1 ⟨rfl, rfl⟩
  go_wp2
  go_ret
  exact ⟨rfl, (Below.refl _ W).alloc (Nat.le_refl _) _⟩
theorem laside_nil (W : World) (A : Option Addr) (n c : Nat) :
    Calls Tryz.prog 34 #[.pointer none, .slice A n c] W fun e w' => e = .returned (.int .i64 1) ∧ Nx W w' := by
  go_enter Tryz.func34, Tryz.ntmps34
  go_wp2_with fail
  refine (lvalid_nil _).mono ?_
  rintro e w1 ⟨rfl, rfl⟩
  go_wp2
  go_ret
  exact ⟨rfl, Nx.refl W⟩
end Go.Proofs.YtiikjdjpodmpcaaGreat

/- The examples of the law's lives, call by call. -/
namespace Go.Proofs.YtiikjdjpodmpcaaGreat
open Go.RowKit Go.Maps
set_option linter.unusedVariables false

theorem strs_1 (W : World) (a : Str) : Strs (W.alloc (.cells #[.string (S a)] 9)) (some ⟨W.heap.size, 0, none⟩) 1 [a] :=
  ⟨rfl, by decide, fun _ => ⟨W.heap.size, rfl, by simp, fun j hj => by
    rw [(BlkIs.new W 9 #[.string (S a)]).cell]
    obtain rfl : j = 0 := by omega
    rfl⟩⟩
theorem strs_2 (W : World) (a b : Str) : Strs (W.alloc (.cells #[.string (S a), .string (S b)] 9)) (some ⟨W.heap.size, 0, none⟩) 2 [a, b] := strs_two W a b
def Vvs0 : St := St.new 1000
theorem Vvf1 : ((Vvs0).read [100, 98, 47, 108, 111, 103]).2.1.length ≤ 10000 := by decide +kernel
theorem Vvf2 : (openL [100, 98, 47, 108, 111, 103] Vvs0).2.2.2 = 0 := by decide +kernel
theorem Vvf3 : (openL [100, 98, 47, 108, 111, 103] Vvs0).2.2.1 = [] := by decide +kernel
def Vvs1 : St := (openL [100, 98, 47, 108, 111, 103] Vvs0).2.1
def Vvl1 : Lg := (openL [100, 98, 47, 108, 111, 103] Vvs0).1
theorem Vvf4 : (Vvl1.append Vvs1 [97] ).1.e = 0 := by decide +kernel
def Vvs2 : St := (Vvl1.append Vvs1 [97]).2
def Vvl2 : Lg := (Vvl1.append Vvs1 [97]).1
theorem Vvf5 : (Vvl2.append Vvs2 [98] ).1.e = 0 := by decide +kernel
def Vvs3 : St := (Vvl2.append Vvs2 [98]).2
def Vvl3 : Lg := (Vvl2.append Vvs2 [98]).1
theorem Vvf6 : (Vvl3.sync Vvs3 ).1.e = 0 := by decide +kernel
def Vvs4 : St := (Vvl3.sync Vvs3).2
def Vvl4 : Lg := (Vvl3.sync Vvs3).1
theorem Vvf7 : (Vvl4.append Vvs4 [99] ).1.e = 0 := by decide +kernel
def Vvs5 : St := (Vvl4.append Vvs4 [99]).2
def Vvl5 : Lg := (Vvl4.append Vvs4 [99]).1
def Vvs6 : St := Vvs5.crash 0 []
def Vvl6 : Lg := Vvl5
theorem Vvf8 : ((Vvs6).read [100, 98, 47, 108, 111, 103]).2.1.length ≤ 10000 := by decide +kernel
theorem Vvf9 : (openL [100, 98, 47, 108, 111, 103] Vvs6).2.2.2 = 0 := by decide +kernel
theorem Vvf10 : (openL [100, 98, 47, 108, 111, 103] Vvs6).2.2.1 = [[97], [98]] := by decide +kernel
def Vvs7 : St := (openL [100, 98, 47, 108, 111, 103] Vvs6).2.1
def Vvl7 : Lg := (openL [100, 98, 47, 108, 111, 103] Vvs6).1
theorem Vvf12 : (Vvl7.aside Vvs7 [[120]] ).1.e = 0 := by decide +kernel
def Vvs8 : St := (Vvl7.aside Vvs7 [[120]]).2
def Vvl8 : Lg := (Vvl7.aside Vvs7 [[120]]).1
theorem Vvf13 : (Vvl8.append Vvs8 [121] ).1.e = 0 := by decide +kernel
def Vvs9 : St := (Vvl8.append Vvs8 [121]).2
def Vvl9 : Lg := (Vvl8.append Vvs8 [121]).1
theorem Vvf14 : (Vvl9.sync Vvs9 ).1.e = 0 := by decide +kernel
def Vvs10 : St := (Vvl9.sync Vvs9).2
def Vvl10 : Lg := (Vvl9.sync Vvs9).1
theorem Vvf15 : ((Vvs10).read [100, 98, 47, 108, 111, 103]).2.1.length ≤ 10000 := by decide +kernel
theorem Vvf16 : (openL [100, 98, 47, 108, 111, 103] Vvs10).2.2.2 = 0 := by decide +kernel
theorem Vvf17 : (openL [100, 98, 47, 108, 111, 103] Vvs10).2.2.1 = [[120], [121]] := by decide +kernel
def Vvs11 : St := (openL [100, 98, 47, 108, 111, 103] Vvs10).2.1
def Vvl11 : Lg := (openL [100, 98, 47, 108, 111, 103] Vvs10).1

set_option maxRecDepth 100000 in
set_option maxHeartbeats 4000000 in
theorem lives_any (w : World) : Calls Tryz.prog 12 #[] w fun e w' => e = .returned (.bool true) ∧ Nx w w' := by
  have X0 := Lib.hid (liv_new (w := w) (W := w) 1000 (by decide) (by decide) (Nx.refl w))
  obtain ⟨tb, htb⟩ : ∃ tb, w.heap.size + 2 = tb := ⟨_, rfl⟩
  rw [htb] at X0
  clear htb
  have X1 : Hid (∀ W Z, LivZ w tb Vvs0 0 Z W → Calls Tryz.prog 11 #[.pointer (some ⟨tb, 0, none⟩), .string ⟨#[100, 98, 47, 108, 111, 103]⟩] W fun e w' => ∃ lb A m c Z1, e = .returned (.tuple #[.pointer (some ⟨lb, 0, none⟩), .slice A m c, .int .i64 0]) ∧ Z.Sublist Z1 ∧ LivZ w tb Vvs1 12 ((lb, logO tb Vvl1) :: Z1) w' ∧ StrZ Z1 A m c []) := fun W Z h => by have := lopen_ok h (by decide) [100, 98, 47, 108, 111, 103] (by decide +kernel) Vvf1 Vvf2; rw [Vvf3] at this; exact this
  have X2 : Hid (∀ W lb Z, LivZ w tb Vvs1 12 ((lb, logO tb Vvl1) :: Z) W → Calls Tryz.prog 32 #[.pointer (some ⟨lb, 0, none⟩), .string ⟨#[97]⟩] W fun e w' => e = .returned (.int .i64 0) ∧ LivZ w tb Vvs2 14 ((lb, logO tb Vvl2) :: Z) w') := fun W lb Z h => by have := lappend_any h (by decide) (by decide +kernel) [97] (by decide) (by decide +kernel) (by decide +kernel) (by decide +kernel) (by decide +kernel); rw [Vvf4] at this; exact this
  have X3 : Hid (∀ W lb Z, LivZ w tb Vvs2 14 ((lb, logO tb Vvl2) :: Z) W → Calls Tryz.prog 32 #[.pointer (some ⟨lb, 0, none⟩), .string ⟨#[98]⟩] W fun e w' => e = .returned (.int .i64 0) ∧ LivZ w tb Vvs3 16 ((lb, logO tb Vvl3) :: Z) w') := fun W lb Z h => by have := lappend_any h (by decide) (by decide +kernel) [98] (by decide) (by decide +kernel) (by decide +kernel) (by decide +kernel) (by decide +kernel); rw [Vvf5] at this; exact this
  have X4 : Hid (∀ W lb Z, LivZ w tb Vvs3 16 ((lb, logO tb Vvl3) :: Z) W → Calls Tryz.prog 33 #[.pointer (some ⟨lb, 0, none⟩)] W fun e w' => e = .returned (.int .i64 0) ∧ LivZ w tb Vvs4 18 ((lb, logO tb Vvl4) :: Z) w') := fun W lb Z h => by have := lsync_any h (by decide) (by decide +kernel); rw [Vvf6] at this; exact this
  have X5 : Hid (∀ W lb Z, LivZ w tb Vvs4 18 ((lb, logO tb Vvl4) :: Z) W → Calls Tryz.prog 32 #[.pointer (some ⟨lb, 0, none⟩), .string ⟨#[99]⟩] W fun e w' => e = .returned (.int .i64 0) ∧ LivZ w tb Vvs5 20 ((lb, logO tb Vvl5) :: Z) w') := fun W lb Z h => by have := lappend_any h (by decide) (by decide +kernel) [99] (by decide) (by decide +kernel) (by decide +kernel) (by decide +kernel) (by decide +kernel); rw [Vvf7] at this; exact this
  have X6 : Hid (∀ W Z, LivZ w tb Vvs5 20 Z W → Calls Tryz.prog 36 #[.pointer (some ⟨tb, 0, none⟩), .int .i64 0, .slice none 0 0] W fun e w' => e = .returned (.int .i64 0) ∧ LivZ w tb Vvs6 22 Z w') := fun W Z h => livz_crash h (Nx.refl W) (by decide) 0 (by decide) none 0 0 [] (nums_nil W) (fun j o e => by cases e)
  have X7 : Hid (∀ W Z, LivZ w tb Vvs6 22 Z W → Calls Tryz.prog 11 #[.pointer (some ⟨tb, 0, none⟩), .string ⟨#[100, 98, 47, 108, 111, 103]⟩] W fun e w' => ∃ lb A m c Z1, e = .returned (.tuple #[.pointer (some ⟨lb, 0, none⟩), .slice A m c, .int .i64 0]) ∧ Z.Sublist Z1 ∧ LivZ w tb Vvs7 34 ((lb, logO tb Vvl7) :: Z1) w' ∧ StrZ Z1 A m c [[97], [98]]) := fun W Z h => by have := lopen_ok h (by decide) [100, 98, 47, 108, 111, 103] (by decide +kernel) Vvf8 Vvf9; rw [Vvf10] at this; exact this
  have T11 : Hid (∀ W A c x Z, LivZ w tb Vvs7 34 (x :: Z) W → StrZ Z A 2 c [[97], [98]] → Calls Tryz.prog 13 #[.slice A 2 c, .slice (some ⟨W.heap.size, 0, none⟩) 2 2] (W.alloc (.cells #[.string ⟨#[97]⟩, .string ⟨#[98]⟩] 9)) fun e w' => e = .returned (.bool true) ∧ LivZ w tb Vvs7 34 (x :: Z) w') := fun W A c x Z h hz => by
    have h2 := h.next ((Below.refl _ W).alloc (Nat.le_refl _) (.cells #[.string ⟨#[97]⟩, .string ⟨#[98]⟩] 9))
    have := texts_any (W.alloc (.cells #[.string ⟨#[97]⟩, .string ⟨#[98]⟩] 9)) A (some ⟨W.heap.size, 0, none⟩) 2 c 2 2 [[97], [98]] [[97], [98]] (hz.strs fun z hz => h2.at_ z (List.mem_cons_of_mem _ hz)) (strs_2 W [97] [98])
    rw [decide_eq_true rfl] at this
    exact this.mono fun e w' ⟨e1, m, e2⟩ => ⟨e1, by rw [e2]; exact h2.drewN m⟩
  have X8 : Hid (∀ W lb Z, LivZ w tb Vvs7 34 ((lb, logO tb Vvl7) :: Z) W → Calls Tryz.prog 34 #[.pointer (some ⟨lb, 0, none⟩), .slice (some ⟨W.heap.size, 0, none⟩) 1 1] (W.alloc (.cells #[.string ⟨#[120]⟩] 9)) fun e w' => e = .returned (.int .i64 0) ∧ ∃ Z1, Z.Sublist Z1 ∧ LivZ w tb Vvs8 46 ((lb, logO tb Vvl8) :: Z1) w') := fun W lb Z h => by have := laside_any (h.next ((Below.refl _ W).alloc (Nat.le_refl _) (.cells #[.string ⟨#[120]⟩] 9))) (by decide) (by decide +kernel) (some ⟨W.heap.size, 0, none⟩) 1 1 [[120]] (strs_1 W [120]) (by decide +kernel); rw [Vvf12] at this; exact this
  have X9 : Hid (∀ W lb Z, LivZ w tb Vvs8 46 ((lb, logO tb Vvl8) :: Z) W → Calls Tryz.prog 32 #[.pointer (some ⟨lb, 0, none⟩), .string ⟨#[121]⟩] W fun e w' => e = .returned (.int .i64 0) ∧ LivZ w tb Vvs9 48 ((lb, logO tb Vvl9) :: Z) w') := fun W lb Z h => by have := lappend_any h (by decide) (by decide +kernel) [121] (by decide) (by decide +kernel) (by decide +kernel) (by decide +kernel) (by decide +kernel); rw [Vvf13] at this; exact this
  have X10 : Hid (∀ W lb Z, LivZ w tb Vvs9 48 ((lb, logO tb Vvl9) :: Z) W → Calls Tryz.prog 33 #[.pointer (some ⟨lb, 0, none⟩)] W fun e w' => e = .returned (.int .i64 0) ∧ LivZ w tb Vvs10 50 ((lb, logO tb Vvl10) :: Z) w') := fun W lb Z h => by have := lsync_any h (by decide) (by decide +kernel); rw [Vvf14] at this; exact this
  have X11 : Hid (∀ W Z, LivZ w tb Vvs10 50 Z W → Calls Tryz.prog 11 #[.pointer (some ⟨tb, 0, none⟩), .string ⟨#[100, 98, 47, 108, 111, 103]⟩] W fun e w' => ∃ lb A m c Z1, e = .returned (.tuple #[.pointer (some ⟨lb, 0, none⟩), .slice A m c, .int .i64 0]) ∧ Z.Sublist Z1 ∧ LivZ w tb Vvs11 62 ((lb, logO tb Vvl11) :: Z1) w' ∧ StrZ Z1 A m c [[120], [121]]) := fun W Z h => by have := lopen_ok h (by decide) [100, 98, 47, 108, 111, 103] (by decide +kernel) Vvf15 Vvf16; rw [Vvf17] at this; exact this
  have T18 : Hid (∀ W A c x Z, LivZ w tb Vvs11 62 (x :: Z) W → StrZ Z A 2 c [[120], [121]] → Calls Tryz.prog 13 #[.slice A 2 c, .slice (some ⟨W.heap.size, 0, none⟩) 2 2] (W.alloc (.cells #[.string ⟨#[120]⟩, .string ⟨#[121]⟩] 9)) fun e w' => e = .returned (.bool true) ∧ LivZ w tb Vvs11 62 (x :: Z) w') := fun W A c x Z h hz => by
    have h2 := h.next ((Below.refl _ W).alloc (Nat.le_refl _) (.cells #[.string ⟨#[120]⟩, .string ⟨#[121]⟩] 9))
    have := texts_any (W.alloc (.cells #[.string ⟨#[120]⟩, .string ⟨#[121]⟩] 9)) A (some ⟨W.heap.size, 0, none⟩) 2 c 2 2 [[120], [121]] [[120], [121]] (hz.strs fun z hz => h2.at_ z (List.mem_cons_of_mem _ hz)) (strs_2 W [120] [121])
    rw [decide_eq_true rfl] at this
    exact this.mono fun e w' ⟨e1, m, e2⟩ => ⟨e1, by rw [e2]; exact h2.drewN m⟩
  go_enter Tryz.func12, Tryz.ntmps12
  go_wp2_with fail
  refine X0.out.mono ?_
  rintro e w0 ⟨rfl, hL⟩
  have H0 : Hid (LivZ w tb Vvs0 0 [] w0) := LivZ.of hL
  clear hL X0
  go_wp2_with fail
  refine (X1.out w0 _ H0.out).mono ?_
  rintro e w1 ⟨lb1, A1, m1, c1, Z1, rfl, hsub, hL, hz⟩
  have H1 := Lib.hid hL
  have hz1 := Lib.hid hz
  have hm1 : m1 = 0 := (hz.len (fun z hz => hL.at_ z (List.mem_cons_of_mem _ hz))).symm
  subst hm1
  clear hL hz hsub X1 H0
  go_wp2_with fail
  refine (X2.out w1 _ _ H1.out).mono ?_
  rintro e w2 ⟨rfl, hL⟩
  have H2 := Lib.hid hL
  clear hL X2 H1
  go_wp2_with fail
  refine (X3.out w2 _ _ H2.out).mono ?_
  rintro e w3 ⟨rfl, hL⟩
  have H3 := Lib.hid hL
  clear hL X3 H2
  go_wp2_with fail
  refine (X4.out w3 _ _ H3.out).mono ?_
  rintro e w4 ⟨rfl, hL⟩
  have H4 := Lib.hid hL
  clear hL X4 H3
  go_wp2_with fail
  refine (X5.out w4 _ _ H4.out).mono ?_
  rintro e w5 ⟨rfl, hL⟩
  have H5 := Lib.hid hL
  clear hL X5 H4
  go_wp2_with fail
  refine (X6.out w5 _ H5.out).mono ?_
  rintro e w6 ⟨rfl, hL⟩
  have H6 := Lib.hid hL
  clear hL X6 H5
  go_wp2_with fail
  refine (X7.out w6 _ H6.out).mono ?_
  rintro e w7 ⟨lb7, A7, m7, c7, Z7, rfl, hsub, hL, hz⟩
  have H7 := Lib.hid hL
  have hz7 := Lib.hid hz
  have hm7 : m7 = 2 := (hz.len (fun z hz => hL.at_ z (List.mem_cons_of_mem _ hz))).symm
  subst hm7
  clear hL hz hsub X7 H6
  go_wp2_with fail
  refine (T11.out w7 _ _ _ _ H7.out hz7.out).mono ?_
  rintro e w8 ⟨rfl, hL⟩
  have H8 := Lib.hid hL
  clear hL T11 H7 hz7
  go_wp2_with fail
  refine (X8.out w8 _ _ H8.out).mono ?_
  rintro e w9 ⟨rfl, Zx, hsub, hL⟩
  have H9 := Lib.hid hL
  clear hL X8 H8 hsub
  go_wp2_with fail
  refine (X9.out w9 _ _ H9.out).mono ?_
  rintro e w10 ⟨rfl, hL⟩
  have H10 := Lib.hid hL
  clear hL X9 H9
  go_wp2_with fail
  refine (X10.out w10 _ _ H10.out).mono ?_
  rintro e w11 ⟨rfl, hL⟩
  have H11 := Lib.hid hL
  clear hL X10 H10
  go_wp2_with fail
  refine (X11.out w11 _ H11.out).mono ?_
  rintro e w12 ⟨lb11, A11, m11, c11, Z11, rfl, hsub, hL, hz⟩
  have H12 := Lib.hid hL
  have hz11 := Lib.hid hz
  have hm11 : m11 = 2 := (hz.len (fun z hz => hL.at_ z (List.mem_cons_of_mem _ hz))).symm
  subst hm11
  clear hL hz hsub X11 H11
  go_wp2_with fail
  refine (T18.out w12 _ _ _ _ H12.out hz11.out).mono ?_
  rintro e w13 ⟨rfl, hL⟩
  have H13 := Lib.hid hL
  clear hL T18 H12 hz11
  go_wp2
  go_ret
  exact ⟨rfl, H13.out.nx⟩
end Go.Proofs.YtiikjdjpodmpcaaGreat

/- Slices of strings that a law is handed, copies, or goes through. -/
namespace Go.Proofs.YtiikjdjpodmpcaaGreat
open Go.RowKit Go.Maps
set_option linter.unusedVariables false

structure SArg (w : World) (A : Option Addr) (n c : Nat) (ps : List Str) : Prop where
  len : ps.length = n
  le : n ≤ c
  cap : c ≤ maxLen
  sz : ∀ p ∈ ps, p.length ≤ maxLen
  lies : 0 < n → ∃ j o, A = some ⟨j, o, none⟩ ∧ j < w.heap.size ∧ ∀ i, i < n → w.cell? ⟨j, o + i, none⟩ = some (.string (S (ps.getD i [])))
theorem SArg.nx {w w' : World} {A : Option Addr} {n c : Nat} {ps : List Str} (h : SArg w A n c ps) (k : Nx w w') : SArg w' A n c ps := ⟨h.len, h.le, h.cap, h.sz, fun hn => by
  obtain ⟨j, o, e, hj, hx⟩ := h.lies hn
  exact ⟨j, o, e, Nat.lt_of_lt_of_le hj k.size, fun i hi => (k.cell (p := ⟨j, o + i, none⟩) hj).trans (hx i hi)⟩⟩
theorem sown_form {w : World} {B n : Nat} {v : Value} {xs : List Value} (h : w.ownsRow B 9 1 v n xs) : ∃ A c, v = .slice A n c := by
  rcases h.2 with ⟨hv, h0⟩ | ⟨g, cap, cur, hv, _⟩
  · exact ⟨none, 0, by rw [hv, h0]⟩
  · exact ⟨_, _, hv⟩
theorem str_append_nil (w : World) (ty : TypeId) (B : Nat) (v : Value) (n : Nat) (xs : List Value) (hown : w.ownsRow B 9 1 v n xs) (c : Nat) :
    (Builtin.append_ #[24, 24] ty #[v, .slice none 0 c]).run Tryz.prog w = .ok v w := by
  obtain ⟨i, hi, _, _, _⟩ := info_parts string_info
  rcases hown.2 with ⟨rfl, rfl⟩ | ⟨g, cap, cur, rfl, _, _, hnc, _⟩
  · simp [Builtin.append_, run_underlying Tryz.underlying24, sizeOf, typeInfo, hi, Builtin.lenOf, Builtin.firstCells]
  · simp [Builtin.append_, run_underlying Tryz.underlying24, sizeOf, typeInfo, hi, Builtin.lenOf, Builtin.firstCells, hnc, storeCells]
theorem str_append (w : World) (ty : TypeId) (B : Nat) (v : Value) (n : Nat) (ps : List Str) (hown : w.ownsRow B 9 1 v n (strV ps)) (hB : B ≤ w.heap.size)
    (A' : Option Addr) (m c' : Nat) (l' : List Str) (hr : SArg w A' m c' l') (hm : n + m ≤ 1000000) :
    ∃ v' w', (Builtin.append_ #[24, 24] ty #[v, .slice A' m c']).run Tryz.prog w = .ok v' w' ∧ w'.ownsRow B 9 1 v' (n + m) (strV (ps ++ l')) ∧ w.grownBy w' v.ownBlock := by
  obtain ⟨i, hi, hz, hs, hby⟩ := info_parts string_info
  have hl' := hr.len
  rcases Nat.eq_zero_or_pos m with hm0 | hm0
  · subst hm0
    obtain rfl : l' = [] := List.eq_nil_of_length_eq_zero hl'
    rw [List.append_nil, Nat.add_zero]
    rcases A' with _ | ad
    · exact ⟨v, w, str_append_nil w ty B _ n _ hown c', hown, World.grownBy.refl w _⟩
    · obtain ⟨v', w', hrun, h2, h3, _, h5⟩ := run_append_own_at (P := Tryz.prog) w B 24 ty 9 i (.string ⟨#[]⟩) 1 16 Tryz.underlying24 hi hz hs hby rfl (by decide) _ n _ hown ad 0 c' []
        rfl (by simp) (by simp) (by simp only [maxLen]; omega) (by omega) hB
      rw [List.append_nil] at h2
      exact ⟨v', w', hrun, h2, h3⟩
  · obtain ⟨b, o, rfl, hlt, hc⟩ := hr.lies hm0
    have hget : ∀ j, j < l'.length → (strV l')[j]? = some (.string (S (l'.getD j []))) := fun j hj => by simp [strV, List.getD, hj]
    obtain ⟨v', w', hrun, h2, h3, _, h5⟩ := run_append_own_at (P := Tryz.prog) w B 24 ty 9 i (.string ⟨#[]⟩) 1 16 Tryz.underlying24 hi hz hs hby rfl (by decide) _ n _ hown ⟨b, o, none⟩ m c' (strV l')
      (by simp [strV]; omega) (fun j u hu => by
        have hj : j < l'.length := by have := (List.getElem?_eq_some_iff.1 hu).1; simpa [strV] using this
        rw [add_plain, hc j (by omega), ← hget j hj, hu]) (fun u hu => by
          obtain ⟨x, _, rfl⟩ := List.mem_map.1 hu
          rfl) (by simp only [maxLen]; omega) (by omega) hB
    refine ⟨v', w', hrun, ?_, h3⟩
    have : strV (ps ++ l') = strV ps ++ strV l' := by simp [strV]
    rw [this]
    exact h2
theorem strs_copy (w0 : World) (ty : TypeId) (A' : Option Addr) (m c' : Nat) (l' : List Str) (hr : SArg w0 A' m c' l') (hm : m ≤ 1000000) :
    ∃ A2 c2 w', (Builtin.append_ #[24, 24] ty #[.slice (some ⟨w0.heap.size, 0, none⟩) 0 0, .slice A' m c']).run Tryz.prog (w0.alloc (.cells #[] 9)) = .ok (.slice A2 m c2) w' ∧ StrRow w' w0.heap.size A2 m c2 l' ∧ Nx w0 w' := by
  have b1 : Nx w0 (w0.alloc (.cells #[] 9)) := (Below.refl _ w0).alloc (Nat.le_refl _) _
  have hown := World.ownsRow_lit (e := 9) (size := 1) w0 #[] 0 (Nat.le_refl _) (Nat.zero_le _) rfl
  obtain ⟨v', w', hrun, h2, h3⟩ := str_append _ ty w0.heap.size _ 0 [] hown (by simp) A' m c' l' (hr.nx b1) (by omega)
  rw [Nat.zero_add, List.nil_append] at h2
  obtain ⟨A2, c2, rfl⟩ := sown_form h2
  refine ⟨A2, c2, w', hrun, h2, ?_⟩
  have c1 : Chd (fun j => j = w0.heap.size) w0 w' := (Chd.of_below b1).trans (Chd.of_grown h3)
  exact c1.below (Nat.le_refl _) (fun j hj e => by omega)
/-- append([]string{}, l...). -/
theorem wpList_strs_copy {w0 : World} {ops : Array Oper} {rest : List Oper} {o : Oper} {a : Act} {Q : Exit → Act → World → Prop} (hgd : o.guard = none) (s x : Operand)
    (ho : o.op = .call { callee := .builtin .append, args := #[s, x], argTypes := #[24, 24] })
    (hs : a.eval s = .slice (some ⟨w0.heap.size, 0, none⟩) 0 0)
    (A' : Option Addr) (m c' : Nat) (l' : List Str) (hx : a.eval x = .slice A' m c') (hr : SArg w0 A' m c' l') (hm : m ≤ 1000000)
    (h : ∀ A2 c2 w', StrRow w' w0.heap.size A2 m c2 l' → Nx w0 w' → wpList Tryz.prog ops Q rest (a.put o.dst (.slice A2 m c2)) w') :
    wpList Tryz.prog ops Q (o :: rest) a (w0.alloc (.cells #[] 9)) := by
  refine wpList_plain hgd fun K hK => ?_
  obtain ⟨A2, c2, w', hrun, hN, hx2⟩ := strs_copy w0 o.type A' m c' l' hr hm
  unfold Oper.wp execOp
  simp only [ho, resolve, invoke, builtin, Sem.run_bind, Sem.run_pure, Result.andThen_ok, List.map_toArray, List.map_cons, List.map_nil, hs, hx, hrun]
  exact hK _ _ (h A2 c2 w' hN hx2)

theorem wp_strs_copy {w0 : World} {o : Oper} {a : Act} {K : Act → World → Prop} {Q : Exit → Act → World → Prop} (s x : Operand)
    (ho : o.op = .call { callee := .builtin .append, args := #[s, x], argTypes := #[24, 24] })
    (hs : a.eval s = .slice (some ⟨w0.heap.size, 0, none⟩) 0 0)
    (A' : Option Addr) (m c' : Nat) (l' : List Str) (hx : a.eval x = .slice A' m c') (hr : SArg w0 A' m c' l') (hm : m ≤ 1000000)
    (h : ∀ A2 c2 w', StrRow w' w0.heap.size A2 m c2 l' → Nx w0 w' → K (a.put o.dst (.slice A2 m c2)) w') :
    o.wp Tryz.prog a (w0.alloc (.cells #[] 9)) K Q := by
  obtain ⟨A2, c2, w', hrun, hN, hx2⟩ := strs_copy w0 o.type A' m c' l' hr hm
  unfold Oper.wp execOp
  simp only [ho, resolve, invoke, builtin, Sem.run_bind, Sem.run_pure, Result.andThen_ok, List.map_toArray, List.map_cons, List.map_nil, hs, hx, hrun]
  exact h A2 c2 w' hN hx2

/-! ### LightTexts -/
def sumLen (ps : List Str) : Nat := (ps.map List.length).sum
theorem sumLen_take (ps : List Str) (i : Nat) (p : Str) (h : ps[i]? = some p) : sumLen (ps.take (i + 1)) = sumLen (ps.take i) + p.length := by
  unfold sumLen
  rw [List.take_add_one, h]
  simp
theorem sumLen_take_le (ps : List Str) (i : Nat) : sumLen (ps.take i) ≤ sumLen ps := by
  have : sumLen ps = sumLen (ps.take i) + sumLen (ps.drop i) := by unfold sumLen; rw [← List.sum_append, ← List.map_append, List.take_append_drop]
  omega
/-- What LightTexts returns. -/
def lightB (n most : Nat) (ps : List Str) : Bool := decide (ps.length ≤ n) && decide (sumLen ps ≤ most)
set_option maxRecDepth 100000 in
set_option maxHeartbeats 1000000 in
theorem light_any (w : World) (A : Option Addr) (n c : Nat) (ps : List Str) (h : SArg w A n c ps) :
    Calls Tryz.prog 16 #[.slice A n c, .int .i64 50, .int .i64 3000] w fun e w' => e = .returned (.bool (lightB 50 3000 ps)) ∧ ∃ m, w' = w.drewN m := by
  have hlen := h.len
  have hcap := h.cap
  have hle := h.le
  unfold maxLen at hcap
  have i1 : (n : Int) ≤ 9223372036854775807 := by omega
  have H := Lib.hid h
  have HN := Lib.hid hlen
  clear h hlen hcap hle
  generalize hB : lightB 50 3000 ps = B
  have HB := Lib.hid hB
  clear hB
  go_enter Tryz.func16, Tryz.ntmps16
  go_wp2
  go_loopw [7, 8] (fun y x wr => ∃ i s : Nat, x = .int .i64 i ∧ y = .int .i64 s ∧ i ≤ n ∧ i ≤ 51 ∧ s ≤ 6001 ∧ Hid ((∃ m, wr = w.drewN m) ∧ ((s ≤ 3000 ∧ s = sumLen (ps.take i)) ∨ (3000 < s ∧ 3000 < sumLen (ps.take i))))) (fun _ x _ => n - (intOf x).toNat)
  case atStart => exact ⟨0, 0, rfl, rfl, Nat.zero_le _, Nat.zero_le _, Nat.zero_le _, ⟨0, rfl⟩, .inl ⟨Nat.zero_le _, rfl⟩⟩
  case round =>
    obtain ⟨i, s, rfl, rfl, hi, hi2, hs, hrel⟩ := hrel
    by_cases c1 : i < n
    · by_cases c2 : i ≤ 50
      · by_cases c3 : s ≤ 3000
        · obtain ⟨p, hp⟩ : ∃ p, ps[i]? = some p := ⟨_, List.getElem?_eq_getElem (by rw [HN.out]; exact c1)⟩
          obtain ⟨j, o, rfl, hj, hc⟩ := H.out.lies (by omega)
          obtain ⟨m, hm⟩ := hrel.out.1
          have d1 : wr.cell? ⟨j, o + i, none⟩ = some (.string (S p)) := by
            rw [hm]
            show w.cell? _ = _
            rw [hc i c1]
            simp [List.getD, hp]
          have hst := sumLen_take ps i p hp
          have hsz := S_size p
          have hsp := H.out.sz p (List.mem_of_getElem? hp)
          unfold maxLen at hsp
          generalize S p = sp at *
          have e1 : Hid (p.length = sp.size) := hsz.symm
          have hsp2 : (sp.size : Int) ≤ 9223372036854775807 := by omega
          have HST := Lib.hid hst
          have REL := hrel
          clear hst hsz hsp hp hc hm hrel
          by_cases c4 : sp.size ≤ 3001
          · go_wp2
            go_roundw
            case rel => exact ⟨i + 1, s + sp.size, by go_num, by go_num, by omega, by omega, by omega, REL.out.1, by
              rw [HST.out, e1.out]
              rcases REL.out.2 with ⟨h1, h2⟩ | ⟨h1, h2⟩
              · by_cases h3 : s + sp.size ≤ 3000
                · exact .inl ⟨h3, by omega⟩
                · exact .inr ⟨by omega, by omega⟩
              · omega⟩
            case measure => simp [intOf]; omega
          · go_wp2
            go_roundw
            case rel => exact ⟨i + 1, s + 3001, by go_num, by go_num, by omega, by omega, by omega, REL.out.1, by
              rw [HST.out, e1.out]
              rcases REL.out.2 with ⟨h1, h2⟩ | ⟨h1, h2⟩
              · exact .inr ⟨by omega, by omega⟩
              · omega⟩
            case measure => simp [intOf]; omega
        · have hl := sumLen_take_le ps i
          have hb : B = false := by
            rw [← HB.out]
            unfold lightB
            have : ¬ sumLen ps ≤ 3000 := by
              rcases hrel.out.2 with ⟨h1, h2⟩ | ⟨h1, h2⟩ <;> omega
            simp [this]
          subst hb
          have REL := hrel
          clear hrel hl
          have d6 : decide ((s : Int) ≤ 3000) = false := by simp; omega
          by_cases c5 : n ≤ 50
          · go_wp2
            go_ret
            exact ⟨rfl, REL.out.1⟩
          · go_wp2
            go_ret
            exact ⟨rfl, REL.out.1⟩
      · have hb : B = false := by
          rw [← HB.out]
          unfold lightB
          have : ¬ ps.length ≤ 50 := by rw [HN.out]; omega
          simp [this]
        subst hb
        have REL := hrel
        clear hrel
        have c5 : ¬ n ≤ 50 := by omega
        go_wp2
        go_ret
        exact ⟨rfl, REL.out.1⟩
    · obtain rfl : i = n := by omega
      have ht : ps.take i = ps := List.take_of_length_le (by rw [HN.out]; exact Nat.le_refl _)
      have hb : B = (decide (i ≤ 50) && decide (s ≤ 3000)) := by
        rw [← HB.out]
        unfold lightB
        rw [HN.out]
        congr 1
        have := hrel.out.2
        rw [ht] at this
        rcases this with ⟨h1, h2⟩ | ⟨h1, h2⟩
        · rw [h2]
        · have a : ¬ s ≤ 3000 := by omega
          have b : ¬ sumLen ps ≤ 3000 := by omega
          simp [a, b]
      have REL := hrel
      clear hrel ht
      by_cases c5 : i ≤ 50
      · by_cases c6 : s ≤ 3000
        · rw [decide_eq_true c5, decide_eq_true c6] at hb
          subst hb
          have d6 : decide ((s : Int) ≤ 3000) = true := by simp; omega
          go_wp2
          go_ret
          exact ⟨rfl, REL.out.1⟩
        · rw [decide_eq_true c5, decide_eq_false c6] at hb
          subst hb
          have d6 : decide ((s : Int) ≤ 3000) = false := by simp; omega
          go_wp2
          go_ret
          exact ⟨rfl, REL.out.1⟩
      · rw [decide_eq_false c5] at hb
        simp only [Bool.false_and] at hb
        subst hb
        go_wp2
        go_ret
        exact ⟨rfl, REL.out.1⟩
end Go.Proofs.YtiikjdjpodmpcaaGreat

/- The walk of the law WalNil. -/
namespace Go.Proofs.YtiikjdjpodmpcaaGreat
open Go.RowKit Go.Maps
set_option linter.unusedVariables false

set_option maxRecDepth 100000 in
set_option maxHeartbeats 2000000 in
theorem walNil_any (w : World) (s : ByteArray) (hs : s.size ≤ maxLen) (A : Option Addr) (n c : Nat) (ps : List Str) (h : SArg w A n c ps) :
    Calls Tryz.prog 6 #[.string s, .slice A n c] w fun e w' => e = .returned (.bool true) ∧ Below w.heap.size w w' := by
  have hcap := h.cap
  have hle := h.le
  unfold maxLen at hcap hs
  have i1 : (n : Int) ≤ 9223372036854775807 := by omega
  have i2 : (s.size : Int) ≤ 9223372036854775807 := by omega
  have H := Lib.hid h
  have LV := Lib.hid (lives_any w)
  have LT : Hid (∀ W, Nx w W → Calls Tryz.prog 16 #[.slice A n c, .int .i64 50, .int .i64 3000] W fun e w' => e = .returned (.bool (lightB 50 3000 ps)) ∧ Nx w w') := fun W hW => (light_any W A n c ps (h.nx hW)).mono fun e w' ⟨e1, m, e2⟩ => ⟨e1, by rw [e2]; exact hW.drewN m⟩
  have HN : Hid (lightB 50 3000 ps = true → n ≤ 50) := fun hb => by
    unfold lightB at hb
    simp only [Bool.and_eq_true, decide_eq_true_eq] at hb
    have := h.len
    omega
  clear h hcap hle hs
  generalize lightB 50 3000 ps = B at *
  by_cases c1 : 3000 < s.size
  · go_enter Tryz.func6, Tryz.ntmps6
    go_wp2_with fail
    refine LV.out.mono ?_
    rintro e w1 ⟨rfl, hb⟩
    have H1 := Lib.hid hb
    clear hb LV
    go_wp2
    go_ret
    exact ⟨rfl, H1.out⟩
  · cases B with
    | false =>
      go_enter Tryz.func6, Tryz.ntmps6
      go_wp2_with fail
      refine LV.out.mono ?_
      rintro e w1 ⟨rfl, hb⟩
      have H1 := Lib.hid hb
      clear hb LV
      go_wp2_with fail
      refine (LT.out w1 H1.out).mono ?_
      rintro e w2 ⟨rfl, hb⟩
      have H2 := Lib.hid hb
      clear hb LT
      go_wp2
      go_ret
      exact ⟨rfl, H2.out⟩
    | true =>
      have hn := HN.out rfl
      go_enter Tryz.func6, Tryz.ntmps6
      go_wp2_with fail
      refine LV.out.mono ?_
      rintro e w1 ⟨rfl, hb⟩
      have H1 := Lib.hid hb
      clear hb LV
      go_wp2_with fail
      refine (LT.out w1 H1.out).mono ?_
      rintro e w2 ⟨rfl, hb⟩
      have H2 := Lib.hid hb
      clear hb LT
      go_wp2_with fail
      refine (lappend_nil w2 s).mono ?_
      rintro e w3 ⟨rfl, hb⟩
      have H3 := Lib.hid (H2.out.trans hb)
      clear hb
      go_wp2_with fail
      refine (lsync_nil w3).mono ?_
      rintro e w4 ⟨rfl, hb⟩
      have H4 := Lib.hid (H3.out.trans hb)
      clear hb
      go_wp2_with (at_builtin; refine BigFrame.wpList_want rfl fun K hK => wp_strs_copy (.tmp 27) (.tmp 28) rfl rfl A n c ps rfl (H.out.nx H4.out) (by omega) ?_; intro A5 c5 w5 hr hn5; have H5 := Lib.hid (H4.out.trans hn5); clear hr hn5; refine hK _ _ ?_; clear hK K)
      refine (laside_nil w5 A5 n c5).mono ?_
      rintro e w6 ⟨rfl, hb⟩
      have H6 := Lib.hid (H5.out.trans hb)
      clear hb
      go_wp2_with fail
      refine (lsize_nil w6).mono ?_
      rintro e w7 ⟨rfl, rfl⟩
      go_wp2_with fail
      refine (lcount_nil w6).mono ?_
      rintro e w8 ⟨rfl, rfl⟩
      go_wp2
      go_ret
      exact ⟨rfl, H6.out⟩
end Go.Proofs.YtiikjdjpodmpcaaGreat
