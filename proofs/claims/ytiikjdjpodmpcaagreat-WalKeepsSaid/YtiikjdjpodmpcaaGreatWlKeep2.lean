/- Package wal, as functions of a tree's state: a log that is opened after a crash; the law WalKeeps, of states. No function of the program is named here. -/
import Derived.Test.YtiikjdjpodmpcaaGreatWlKeep
namespace Go.Proofs.YtiikjdjpodmpcaaGreat
open Go.Maps
set_option linter.unusedVariables false

theorem remove_idle {s : St} (hi : Idle s) (p : Str) (hp : okP p = true) {f : Nat} (hl : look s.files p = some f) : s.remove p = ((s.free p).record (.rm p), 0) := by
  unfold St.remove
  rw [find_idle hi p [] (by simpa using hp) hl]
/-- After a crash, without its temporary file. -/
structure Cleaned (s s1 : St) (p : Str) (f : Nat) (X : Str) : Prop where
  clean : cleanS (tmpOf p) s = (s1, 0)
  idle : Idle s1
  files : s1.files = [(p, f)]
  ap : apps s1.chs s1.safe = [(p, f)]
  lt : f < s1.fil.length
  now : (s1.at_ f).now = X
  used : s1.used = (X.length : Int)
  room : s1.room = s.room
theorem post_clean {s : St} {p : Str} {f : Nat} {X : Str} {M : Nat} {room : Int} (hp : LogPath p) (h : Post s p f X M room) : ∃ s1, Cleaned s s1 p f X := by
  rcases h.files with ⟨h1, h2⟩ | ⟨g, h1, h2, h3, h4⟩
  · refine ⟨s, clean_not (by rw [h1]; exact look_one_t p f), h.idle, h1, ?_, h.lt, h.now, h2, rfl⟩
    rw [h.chs, h.safe, h1]; rfl
  · have hl : look s.files (tmpOf p) = some g := by rw [h1]; exact look_two_t p g f
    have hfr : s.free (tmpOf p) = { s with used := s.used - ((s.at_ g).now.length : Int) } := by unfold St.free; rw [hl]
    refine ⟨(s.free (tmpOf p)).record (.rm (tmpOf p)), ?_, ⟨(idle_free h.idle _).off, (idle_free h.idle _).fuse⟩, ?_, ?_, ?_, ?_, ?_, ?_⟩
    · unfold cleanS
      rw [stat_of hl, if_pos rfl, remove_idle h.idle _ hp.okT hl]
    · rw [hfr]
      show era s.files (tmpOf p) = _
      rw [h1, era_t2]
    · rw [hfr]
      show apps (s.chs ++ [.rm (tmpOf p)]) s.safe = _
      rw [h.chs, h.safe, h1]
      show era [(tmpOf p, g), (p, f)] (tmpOf p) = _
      exact era_t2 p g f
    · rw [hfr]; exact h.lt
    · rw [hfr]; exact h.now
    · rw [hfr]
      show s.used - _ = _
      rw [h4]; omega
    · rw [hfr]; rfl
theorem open_post {s : St} {p : Str} {f : Nat} {X t : Str} {M : Nat} {room : Int} {rs : List Str} (hp : LogPath p) (h : Post s p f X M room) (hX : X = fra rs ++ t) (hsc : scan X = (rs, (fra rs).length, 0)) (hroom : (X.length : Int) + (fra rs).length ≤ room) :
    ∃ L5 s5 h5, openL p s = (L5, s5, rs, 0) ∧ L5.path = p ∧ Idle s5 ∧ s5.files = [(p, h5)] ∧ (s5.at_ h5).now = fra rs := by
  have hl : look s.files p = some f := by
    rcases h.files with ⟨h1, _⟩ | ⟨g, h1, _⟩ <;> rw [h1]
    · exact look_one p f
    · exact look_two_p p g f
  have hrd := read_idle h.idle p hp.ok hl
  rw [h.now] at hrd
  obtain ⟨s1, hc⟩ := post_clean hp h
  unfold openL Lg.begin_
  simp only
  rw [stat_of hl, if_pos rfl, hrd]
  simp only
  rw [if_pos trivial, hsc]
  simp only
  rw [if_pos trivial]
  by_cases hlt : (fra rs).length < X.length
  · rw [mend_cut _ _ _ _ _ hlt]
    have htk : X.take (fra rs).length = fra rs := by rw [hX]; exact List.take_left' rfl
    rw [htk]
    have hF : ([(p, f)] : Dir) = [] ∨ ∃ f', ([(p, f)] : Dir) = [(p, f')] ∧ f' < s1.fil.length ∧ ((s1.at_ f').now.length : Int) = s1.used := .inr ⟨f, rfl, hc.lt, by rw [hc.now, hc.used]⟩
    have h0 : ([(p, f)] : Dir) = [] → s1.used = 0 := fun e => by cases e
    have hr : s1.used + ((fra rs).length : Int) ≤ s1.room := by rw [hc.used, hc.room, h.room]; exact hroom
    have hall := repl_all hc.idle hp hc.files hF h0 (fra rs) hr hc.ap
    have hm := R5m hc.idle hp hc.files hF h0 (fra rs) hr hc.ap
    have hds : doS (replS p (fra rs)) s 0 = (R5 p (fra rs) s1, 0) := by
      rw [← hall]
      unfold replS
      have hcn : cleanS (tmpOf p) s1 = (s1, 0) := clean_not (by rw [hc.files]; exact look_one_t p f)
      have hL : doS (cleanS (tmpOf p) :: [fun s => s.make (tmpOf p), fun s => s.write (tmpOf p) (fra rs), fun s => s.sync (tmpOf p), fun s => s.rename (tmpOf p) p, fun s => s.syncPaths]) s 0 = doS [fun s => s.make (tmpOf p), fun s => s.write (tmpOf p) (fra rs), fun s => s.sync (tmpOf p), fun s => s.rename (tmpOf p) p, fun s => s.syncPaths] s1 0 := by
        rw [doS_cons, if_pos rfl, hc.clean]
      have hR : doS (cleanS (tmpOf p) :: [fun s => s.make (tmpOf p), fun s => s.write (tmpOf p) (fra rs), fun s => s.sync (tmpOf p), fun s => s.rename (tmpOf p) p, fun s => s.syncPaths]) s1 0 = doS [fun s => s.make (tmpOf p), fun s => s.write (tmpOf p) (fra rs), fun s => s.sync (tmpOf p), fun s => s.rename (tmpOf p) p, fun s => s.syncPaths] s1 0 := by
        rw [doS_cons, if_pos rfl, hcn]
      exact hL.trans hR.symm
    have hrep := replace_of (L := ⟨p, 0, 0, 0⟩) (s := s) (n := ((rs.length : Nat) : Int)) hds
    rw [hrep]
    exact ⟨_, _, _, rfl, rfl, hm.1.idle, hm.1.files, hm.1.now⟩
  · have ht : X = fra rs := by
      have := congrArg List.length hX
      rw [List.length_append] at this
      have : t = [] := List.eq_nil_of_length_eq_zero (by omega)
      rw [hX, this, List.append_nil]
    rw [mend_eqv _ _ _ _ _ hlt]
    have hcl : doS [cleanS (tmpOf p)] s 0 = (s1, 0) := by rw [doS_cons, if_pos rfl, hc.clean, doS_nil]
    simp only
    rw [hcl]
    exact ⟨_, _, _, rfl, rfl, hc.idle, hc.files, by rw [hc.now]; exact ht⟩
theorem post_read {s : St} {p : Str} {f : Nat} {X : Str} {M : Nat} {room : Int} (hp : LogPath p) (h : Post s p f X M room) : s.read p = (s, X, 0) := by
  have hl : look s.files p = some f := by
    rcases h.files with ⟨h1, _⟩ | ⟨g, h1, _⟩ <;> rw [h1]
    · exact look_one p f
    · exact look_two_p p g f
  have hrd := read_idle h.idle p hp.ok hl
  rw [h.now] at hrd
  exact hrd

/-! ### The law, of states -/
theorem fuse_wt {s : St} (hi : Idle s) (n : Int) : s.fuse_ n = s.wt (max n (-1)) false := by
  unfold St.fuse_ St.wt
  rw [← hi.off]
theorem take_len {α β : Type} (f : α → β) (l : List α) (r : List β) (i : Nat) : (l.map f ++ r).take i = if i ≤ l.length then (l.take i).map f else l.map f ++ r.take (i - l.length) := by
  rw [List.take_append]
  split
  · rename_i h
    rw [List.length_map, show i - l.length = 0 by omega]
    simp [List.map_take]
  · rename_i h
    rw [List.take_of_length_le (by simp; omega), List.length_map]
/-- What a log may be when the power fails: its file as it was, with some records more; or replaced. -/
def Ends (s : St) (p : Str) (a b c : List Str) (whole : Bool) : Prop :=
  ∀ (keep : Int) (parts : List Int), ∃ f X, Post (s.crash keep parts) p f X (fra c).length s.room ∧ ((whole = false ∧ ∃ i n, X = fra a ++ (fra (b.take i)).take n) ∨ X = fra c)
theorem ends_wt {s : St} {p : Str} {a b c : List Str} {w : Bool} (h : Ends s p a b c w) (F : Int) (o : Bool) : Ends (s.wt F o) p a b c w := fun keep parts => by
  rw [crash_wt]
  exact h keep parts
theorem keeps_run {p : Str} (hp : LogPath p) {s : St} {f : Nat} {a b c : List Str} (h : One s p f (fra a) (fra a)) (hroom : ((fra a).length : Int) + (fra b).length + (fra c).length ≤ s.room) (F : Int) (hF : -1 ≤ F) :
    ∃ t e, doS (b.map (apS p) ++ replS p (fra c)) (s.wt F false) 0 = (t, e) ∧ t.room = s.room ∧ Ends t p a b c (decide (e = 0)) := by
  -- what is there after i records
  have hrun : ∀ i, ∃ t, doS ((b.take i).map (apS p)) s 0 = (t, 0) ∧ One t p f (fra a ++ fra (b.take i)) (fra a) ∧ t.room = s.room := fun i => by
    have hle : (fra (b.take i)).length ≤ (fra b).length := by
      have : fra b = fra (b.take i) ++ fra (b.drop i) := by rw [← fra_append, List.take_append_drop]
      rw [this, List.length_append]; omega
    obtain ⟨x1, x2, x3⟩ := one_run hp.ok (b.take i) ⟨p, 0, 0, 0⟩ s f (fra a) (fra a) rfl rfl h (by omega)
    obtain ⟨_, y1, y2⟩ := runA_grow ⟨p, 0, 0, 0⟩ s (b.take i)
    refine ⟨(runA ⟨p, 0, 0, 0⟩ s (b.take i)).2, ?_, x2, x3⟩
    rw [y2]
    refine Prod.ext rfl ?_
    rw [← y1, x1]
  have hall := hrun b.length
  rw [List.take_length] at hall
  obtain ⟨sb, d0, ob, rb⟩ := hall
  have hr : (((fra a ++ fra b).length : Nat) : Int) + ((fra c).length : Int) ≤ sb.room := by rw [rb, List.length_append]; omega
  have hF2 := ob.F
  have h02 : ([(p, f)] : Dir) = [] → sb.used = 0 := fun e => by cases e
  have hr2 : sb.used + ((fra c).length : Int) ≤ sb.room := by rw [ob.used]; exact hr
  have hap : apps sb.chs sb.safe = [(p, f)] := by rw [ob.chs, ob.safe]; rfl
  have m1 := R1m ob.idle hp ob.files hF2
  have m2 := R2m ob.idle hp ob.files hF2 (fra c) hr2
  have m3 := R3m ob.idle hp ob.files hF2 (fra c) hr2
  have m4 := R4m ob.idle hp ob.files hF2 h02 (fra c) hr2
  have m5 := R5m ob.idle hp ob.files hF2 h02 (fra c) hr2 hap
  have e1 := R1e ob.idle hp ob.files hF2
  have e2 := R2e ob.idle hp ob.files hF2 (fra c) hr2
  have e3 := R3e ob.idle hp ob.files hF2 (fra c) hr2
  have e4 := R4e ob.idle hp ob.files hF2 (fra c) hr2
  have e5 := R5e ob.idle hp ob.files hF2 h02 (fra c) hr2
  have ec : cleanS (tmpOf p) sb = (sb, 0) := clean_not (R_look ob.idle hp ob.files hF2)
  have hlift : ∀ op ∈ b.map (apS p) ++ replS p (fra c), Lift op := fun op ho => by
    rcases List.mem_append.1 ho with h1 | h1
    · obtain ⟨r, _, rfl⟩ := List.mem_map.1 h1
      exact lift_append p (frame r)
    · unfold replS at h1
      simp only [List.mem_cons, List.not_mem_nil, or_false] at h1
      rcases h1 with rfl | rfl | rfl | rfl | rfl | rfl
      · exact lift_clean _
      · exact lift_make _
      · exact lift_write _ _
      · exact lift_sync _
      · exact lift_rename _ _
      · exact lift_syncPaths
  -- the states on the way
  have hway : ∀ i, i < (b.map (apS p) ++ replS p (fra c)).length → ∃ t, (doS ((b.map (apS p) ++ replS p (fra c)).take i) s 0).1 = t ∧ t.room = s.room ∧ Ends t p a b c false := fun i hi => by
    have hone : ∀ i t, One t p f (fra a ++ fra (b.take i)) (fra a) → Ends t p a b c false := fun i t ht keep parts => by
      obtain ⟨n, hn⟩ := ht.crash keep parts (fra c).length
      exact ⟨f, _, hn, .inl ⟨rfl, i, n, rfl⟩⟩
    have hmid : ∀ t now sf u F, MidS sb t F [.mk (tmpOf p) sb.fil.length] now sf u → max now.length sf.length ≤ (fra c).length → t.room = s.room ∧ Ends t p a b c false := fun t now sf u F hm hM => by
      refine ⟨hm.room.trans rb, fun keep parts => ?_⟩
      obtain ⟨n, hn⟩ := mid_crash hp ob hm keep parts (fra c).length hM
      exact ⟨f, _, hn, .inl ⟨rfl, b.length, n, by rw [List.take_length]⟩⟩
    rw [take_len]
    split
    · obtain ⟨t, x1, x2, x3⟩ := hrun i
      exact ⟨t, by rw [x1], x3, hone i t x2⟩
    · rename_i hgt
      have hj : i - b.length = 1 ∨ i - b.length = 2 ∨ i - b.length = 3 ∨ i - b.length = 4 ∨ i - b.length = 5 := by
        unfold replS at hi
        simp only [List.length_append, List.length_map, List.length_cons, List.length_nil] at hi
        omega
      rw [doS_append, d0]
      simp only
      rcases hj with hj | hj | hj | hj | hj <;> rw [hj]
      · refine ⟨sb, ?_, rb, ?_⟩
        · show (doS [cleanS (tmpOf p)] sb 0).1 = _
          rw [doS_cons, if_pos rfl, ec, doS_nil]
        · have := hone b.length sb (by rw [List.take_length]; exact ob)
          exact this
      · refine ⟨R1 p sb, ?_, hmid _ _ _ _ _ m1 (by simp)⟩
        show (doS [cleanS (tmpOf p), fun s => s.make (tmpOf p)] sb 0).1 = _
        rw [doS_cons, if_pos rfl, ec, doS_cons, if_pos rfl, e1, doS_nil]
      · refine ⟨R2 p (fra c) sb, ?_, hmid _ _ _ _ _ m2 (by simp)⟩
        show (doS [cleanS (tmpOf p), fun s => s.make (tmpOf p), fun s => s.write (tmpOf p) (fra c)] sb 0).1 = _
        rw [doS_cons, if_pos rfl, ec, doS_cons, if_pos rfl, e1, doS_cons, if_pos rfl, e2, doS_nil]
      · refine ⟨R3 p (fra c) sb, ?_, hmid _ _ _ _ _ m3 (by simp)⟩
        show (doS [cleanS (tmpOf p), fun s => s.make (tmpOf p), fun s => s.write (tmpOf p) (fra c), fun s => s.sync (tmpOf p)] sb 0).1 = _
        rw [doS_cons, if_pos rfl, ec, doS_cons, if_pos rfl, e1, doS_cons, if_pos rfl, e2, doS_cons, if_pos rfl, e3, doS_nil]
      · refine ⟨R4 p (fra c) sb, ?_, m4.room.trans rb, fun keep parts => ?_⟩
        · show (doS [cleanS (tmpOf p), fun s => s.make (tmpOf p), fun s => s.write (tmpOf p) (fra c), fun s => s.sync (tmpOf p), fun s => s.rename (tmpOf p) p] sb 0).1 = _
          rw [doS_cons, if_pos rfl, ec, doS_cons, if_pos rfl, e1, doS_cons, if_pos rfl, e2, doS_cons, if_pos rfl, e3, doS_cons, if_pos rfl, e4, doS_nil]
        · obtain ⟨f', X, hP, hX⟩ := moved_crash hp ob m4 keep parts
          refine ⟨f', X, hP, ?_⟩
          rcases hX with ⟨n, hX⟩ | hX
          · exact .inl ⟨rfl, b.length, n, by rw [List.take_length]; exact hX⟩
          · exact .inr hX
  have hfull : doS (b.map (apS p) ++ replS p (fra c)) s 0 = (R5 p (fra c) sb, 0) := by
    rw [doS_append, d0]
    exact repl_all ob.idle hp ob.files hF2 h02 (fra c) hr2 hap
  rcases doS_lift _ hlift s h.idle F hF with ⟨i, hi, hd⟩ | ⟨F', hF', hd⟩
  · obtain ⟨t, x1, x2, x3⟩ := hway i hi
    rw [x1] at hd
    exact ⟨_, _, hd, x2, ends_wt x3 _ _⟩
  · rw [hfull] at hd
    refine ⟨_, _, hd, m5.2.trans rb, ends_wt (fun keep parts => ?_) _ _⟩
    have ho : One (R5 p (fra c) sb) p sb.fil.length (fra c ++ []) (fra c) := by rw [List.append_nil]; exact m5.1
    obtain ⟨n, hn⟩ := ho.crash keep parts (fra c).length
    refine ⟨_, _, hn, .inr ?_⟩
    simp
/-- What is opened then. -/
theorem keeps_open {p : Str} (hp : LogPath p) {t : St} {a b c : List Str} {w : Bool} (h : Ends t p a b c w) (ha : okR a) (hb : okR b) (hc : okR c) (hroom : 2 * (((fra a).length : Int) + (fra b).length + (fra c).length) ≤ t.room) (keep : Int) (parts : List Int) :
    ∃ L5 s5 L6 rs, openL p (t.crash keep parts) = (L5, s5, rs, 0) ∧ openL p s5 = (L6, s5, rs, 0) ∧ (rs = c ∨ (w = false ∧ ∃ m, m ≤ b.length ∧ rs = a ++ b.take m)) ∧ ((t.crash keep parts).read p).2.1.length ≤ max ((fra a).length + (fra b).length) (fra c).length ∧ (s5.read p).2.1.length ≤ max ((fra a).length + (fra b).length) (fra c).length := by
  obtain ⟨f, X, hP, hX⟩ := h keep parts
  have hrd := post_read hp hP
  have hfin : ∀ (rs : List Str) (t0 : Str), X = fra rs ++ t0 → scan X = (rs, (fra rs).length, 0) → okR rs → (fra rs).length ≤ max ((fra a).length + (fra b).length) (fra c).length → X.length ≤ max ((fra a).length + (fra b).length) (fra c).length → (rs = c ∨ (w = false ∧ ∃ m, m ≤ b.length ∧ rs = a ++ b.take m)) → ∃ L5 s5 L6 rs, openL p (t.crash keep parts) = (L5, s5, rs, 0) ∧ openL p s5 = (L6, s5, rs, 0) ∧ (rs = c ∨ (w = false ∧ ∃ m, m ≤ b.length ∧ rs = a ++ b.take m)) ∧ ((t.crash keep parts).read p).2.1.length ≤ max ((fra a).length + (fra b).length) (fra c).length ∧ (s5.read p).2.1.length ≤ max ((fra a).length + (fra b).length) (fra c).length := fun rs t0 h1 h2 h3 h4 h5 h6 => by
    obtain ⟨L5, s5, h5', o5, p5, i5, f5, n5⟩ := open_post hp hP h1 h2 (by omega)
    have o6 := open_whole i5 hp f5 n5 h3
    have r5 := read_idle i5 p hp.ok (f := h5') (by rw [f5]; exact look_one p h5')
    rw [n5] at r5
    exact ⟨L5, s5, _, rs, o5, o6, h6, by rw [hrd]; exact h5, by rw [r5]; exact h4⟩
  rcases hX with ⟨hw, i, n, hX⟩ | hX
  · have hbi : okR (b.take i) := fun q hq => hb q (List.mem_of_mem_take hq)
    obtain ⟨m, h1, t0, h2, h3⟩ := scan_cut a (b.take i) n ha hbi
    rw [← hX] at h2 h3
    rw [List.take_take] at h2 h3
    have hle : ∀ j, (fra (b.take j)).length ≤ (fra b).length := fun j => by
      have : fra b = fra (b.take j) ++ fra (b.drop j) := by rw [← fra_append, List.take_append_drop]
      rw [this, List.length_append]; omega
    refine hfin _ t0 h2 h3 (fun q hq => ?_) ?_ ?_ (.inr ⟨hw, min m i, ?_, rfl⟩)
    · rcases List.mem_append.1 hq with h | h
      · exact ha q h
      · exact hb q (List.mem_of_mem_take h)
    · rw [fra_append, List.length_append]
      have := hle (min m i)
      omega
    · rw [hX, List.length_append, List.length_take]
      have := hle i
      omega
    · rw [List.length_take] at h1
      omega
  · refine hfin c [] (by rw [hX, List.append_nil]) (by rw [hX]; exact scan_all c hc) hc (by omega) (by rw [hX]; omega) (.inl rfl)
end Go.Proofs.YtiikjdjpodmpcaaGreat
