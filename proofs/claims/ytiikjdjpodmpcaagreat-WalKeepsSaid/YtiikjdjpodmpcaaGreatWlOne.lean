/- Package wal, as functions of a tree's state: logs on a tree that is on, with one file. No function of the program is named here. -/
import Derived.Test.YtiikjdjpodmpcaaGreatWlPure
import Derived.Test.YtiikjdjpodmpcaaGreatAll2
namespace Go.Proofs.YtiikjdjpodmpcaaGreat
open Go.Maps
set_option linter.unusedVariables false
set_option linter.unusedSectionVars false

/-! ### One file, and a temporary one beside it -/
structure LogPath (p : Str) : Prop where
  is : isPath p = true
  ok : okP p = true
  okT : okP (tmpOf p) = true
  bef : bytesBefore (tmpOf p) p = true
theorem tmp_ne (p : Str) : tmpOf p ≠ p := fun e => by
  have := congrArg List.length e
  unfold tmpOf tempL at this
  simp at this
  omega
theorem beq_t (p : Str) : (tmpOf p == p) = false := by simp [tmp_ne p]
theorem beq_p (p : Str) : (p == tmpOf p) = false := by
  have := tmp_ne p
  simp only [beq_eq_false_iff_ne, ne_eq]
  exact fun e => this e.symm
theorem look_one (p : Str) (f : Nat) : look [(p, f)] p = some f := by simp [look]
theorem look_one_t (p : Str) (f : Nat) : look [(p, f)] (tmpOf p) = none := by simp [look, beq_p p]
theorem look_nil (p : Str) : look [] p = none := rfl
theorem look_two_t (p : Str) (g f : Nat) : look [(tmpOf p, g), (p, f)] (tmpOf p) = some g := by simp [look]
theorem look_two_p (p : Str) (g f : Nat) : look [(tmpOf p, g), (p, f)] p = some f := by simp [look, beq_t p]
theorem put_nil (q : Str) (g : Nat) : put [] q g = [(q, g)] := by simp [put, era, insd]
theorem put_one_t {p : Str} (h : LogPath p) (g f : Nat) : put [(p, f)] (tmpOf p) g = [(tmpOf p, g), (p, f)] := by simp [put, era, insd, beq_p p, h.bef]
theorem put_one_p (p : Str) (g f : Nat) : put [(p, f)] p g = [(p, g)] := by simp [put, era, insd]
theorem era_t1 (p : Str) (g : Nat) : era [(tmpOf p, g)] (tmpOf p) = [] := by simp [era]
theorem era_t2 (p : Str) (g f : Nat) : era [(tmpOf p, g), (p, f)] (tmpOf p) = [(p, f)] := by simp [era, beq_p p]

structure One (s : St) (p : Str) (f : Nat) (X Y : Str) : Prop where
  idle : Idle s
  files : s.files = [(p, f)]
  safe : s.safe = [(p, f)]
  chs : s.chs = []
  lt : f < s.fil.length
  now : (s.at_ f).now = X
  sf : (s.at_ f).sf = Y
  used : s.used = (X.length : Int)
section
variable {s : St} {p : Str} {f : Nat} {X Y : Str}
theorem One.append (h : One s p f X Y) (hp : okP p = true) (b : Str) (hr : (X.length : Int) + b.length ≤ s.room) : (s.append_ p b).2 = 0 ∧ One (s.append_ p b).1 p f (X ++ b) Y ∧ (s.append_ p b).1.room = s.room := by
  have e := append_idle h.idle p b hp (f := f) (by rw [h.files]; exact look_one p f) (by unfold St.left_; rw [h.used]; omega)
  rw [e, h.now]
  have hat := fun i => set_at s (s.putB f (X ++ b)) f { s.at_ f with now := X ++ b, st := s.clock + 1 } rfl h.lt i
  refine ⟨rfl, ⟨⟨h.idle.off, h.idle.fuse⟩, h.files, h.safe, h.chs, ?_, ?_, ?_, ?_⟩, rfl⟩
  · show f < (s.fil.set f _).length
    rw [List.length_set]; exact h.lt
  · rw [hat, if_pos rfl]
  · rw [hat, if_pos rfl]; exact h.sf
  · show s.used + (((X ++ b).length : Int) - ((s.at_ f).now.length : Int)) = _
    rw [h.used, h.now]; omega
theorem One.sync (h : One s p f X Y) (hp : okP p = true) : (s.sync p).2 = 0 ∧ One (s.sync p).1 p f X X ∧ (s.sync p).1.room = s.room := by
  have e := sync_idle h.idle p hp (f := f) (by rw [h.files]; exact look_one p f)
  rw [e]
  have hat := fun i => set_at s (s.set_ f { s.at_ f with sf := (s.at_ f).now }) f { s.at_ f with sf := (s.at_ f).now } rfl h.lt i
  refine ⟨rfl, ⟨⟨h.idle.off, h.idle.fuse⟩, h.files, h.safe, h.chs, ?_, ?_, ?_, h.used⟩, rfl⟩
  · show f < (s.fil.set f _).length
    rw [List.length_set]; exact h.lt
  · rw [hat, if_pos rfl]; exact h.now
  · rw [hat, if_pos rfl]; exact h.now
end
theorem stat_of {s : St} {p : Str} {f : Nat} (h : look s.files p = some f) : (s.stat p).2.2 = true := by unfold St.stat; rw [h]
theorem stat_not {s : St} {p : Str} (h : look s.files p = none) : (s.stat p).2.2 = false := by unfold St.stat; rw [h]
theorem clean_not {s : St} {q : Str} (h : look s.files q = none) : cleanS q s = (s, 0) := by unfold cleanS; rw [stat_not h]; rfl

/-! ### Replacing, step by step -/
def R1 (p : Str) (s : St) : St := St.record { s with fil := s.fil ++ [(⟨[], [], s.clock + 1⟩ : Fil)] } (.mk (tmpOf p) s.fil.length)
def R2 (p b : Str) (s : St) : St := (R1 p s).putB s.fil.length b
def R3 (p b : Str) (s : St) : St := (R2 p b s).set_ s.fil.length { (R2 p b s).at_ s.fil.length with sf := ((R2 p b s).at_ s.fil.length).now }
def R4 (p b : Str) (s : St) : St := ((R3 p b s).free p).record (.mv (tmpOf p) p s.fil.length)
def R5 (p b : Str) (s : St) : St := (R4 p b s).settle (R4 p b s).chs.length
/-- A state on the way: s0 with one file more, and these changes. -/
structure MidS (s0 s : St) (F : Dir) (cs : List Chg) (now sf : Str) (used : Int) : Prop where
  idle : Idle s
  files : s.files = F
  safe : s.safe = s0.safe
  chs : s.chs = s0.chs ++ cs
  len : s.fil.length = s0.fil.length + 1
  new : (s.at_ s0.fil.length).now = now ∧ (s.at_ s0.fil.length).sf = sf
  old : ∀ i, i < s0.fil.length → s.at_ i = s0.at_ i
  used : s.used = used
  room : s.room = s0.room
section
variable {s : St} {p : Str} {F : Dir}
theorem mid_set {s0 s s' : St} {F : Dir} {cs : List Chg} {now sf : Str} {u : Int} (h : MidS s0 s F cs now sf u) (x : Fil) (e1 : s'.fil = s.fil.set s0.fil.length x) (e2 : s'.files = s.files) (e3 : s'.safe = s.safe) (e4 : s'.chs = s.chs) (e5 : s'.room = s.room) (e6 : s'.off = s.off) (e7 : s'.fuse = s.fuse) (u' : Int) (e8 : s'.used = u') : MidS s0 s' F cs x.now x.sf u' := by
  have hlt : s0.fil.length < s.fil.length := by rw [h.len]; omega
  have hat := fun i => set_at s s' s0.fil.length x e1 hlt i
  refine ⟨⟨by rw [e6]; exact h.idle.off, by rw [e7]; exact h.idle.fuse⟩, by rw [e2]; exact h.files, by rw [e3]; exact h.safe, by rw [e4]; exact h.chs, by rw [e1, List.length_set]; exact h.len, ?_, fun i hi => ?_, e8, by rw [e5]; exact h.room⟩
  · rw [hat, if_pos rfl]; exact ⟨rfl, rfl⟩
  · rw [hat, if_neg (by omega)]; exact h.old i hi
variable (hi : Idle s) (hp : LogPath p) (hfiles : s.files = F) (hF : F = [] ∨ ∃ f, F = [(p, f)] ∧ f < s.fil.length ∧ ((s.at_ f).now.length : Int) = s.used) (h0 : F = [] → s.used = 0) (b : Str) (hroom : s.used + (b.length : Int) ≤ s.room)
include hi hp hfiles hF
theorem R_look : look s.files (tmpOf p) = none := by
  rw [hfiles]
  rcases hF with h | ⟨f, h, _⟩ <;> rw [h]
  · rfl
  · exact look_one_t p f
theorem R1e : s.make (tmpOf p) = (R1 p s, 0) := make_idle hi (tmpOf p) hp.okT (R_look hi hp hfiles hF)
theorem R1m : MidS s (R1 p s) (put F (tmpOf p) s.fil.length) [.mk (tmpOf p) s.fil.length] [] [] s.used := by
  refine ⟨⟨hi.off, hi.fuse⟩, by show put s.files _ _ = _; rw [hfiles], rfl, rfl, by show (s.fil ++ [_]).length = _; simp, ?_, fun i hi => ?_, rfl, rfl⟩
  · show ((s.fil ++ [_]).getD s.fil.length default).now = _ ∧ ((s.fil ++ [_]).getD s.fil.length default).sf = _
    simp [List.getD]
  · show (s.fil ++ [_]).getD i default = s.fil.getD i default
    simp [List.getD, List.getElem?_append_left hi]
theorem R_look1 : look (put F (tmpOf p) s.fil.length) (tmpOf p) = some s.fil.length := by
  rcases hF with h | ⟨f, h, _⟩ <;> rw [h]
  · rw [put_nil]; exact look_one _ _
  · rw [put_one_t hp]; exact look_two_t p _ _
include hroom
theorem R2e : (R1 p s).write (tmpOf p) b = (R2 p b s, 0) := by
  have m := R1m hi hp hfiles hF
  refine write_idle m.idle (tmpOf p) b hp.okT (f := s.fil.length) (by rw [m.files]; exact R_look1 hi hp hfiles hF) ?_
  unfold St.left_
  rw [m.new.1, m.used, m.room]
  simp only [List.length_nil]
  omega
theorem R2m : MidS s (R2 p b s) (put F (tmpOf p) s.fil.length) [.mk (tmpOf p) s.fil.length] b [] (s.used + b.length) := by
  have m := R1m hi hp hfiles hF
  have hu : (R2 p b s).used = s.used + b.length := by
    show (R1 p s).used + ((b.length : Int) - (((R1 p s).at_ s.fil.length).now.length : Int)) = s.used + b.length
    rw [m.used, m.new.1]
    simp
  have := mid_set m { (R1 p s).at_ s.fil.length with now := b, st := (R1 p s).clock + 1 } (s' := R2 p b s) rfl rfl rfl rfl rfl rfl rfl _ hu
  simp only [m.new.2] at this
  exact this
theorem R3e : (R2 p b s).sync (tmpOf p) = (R3 p b s, 0) := by
  have m := R2m hi hp hfiles hF b hroom
  exact sync_idle m.idle (tmpOf p) hp.okT (f := s.fil.length) (by rw [m.files]; exact R_look1 hi hp hfiles hF)
theorem R3m : MidS s (R3 p b s) (put F (tmpOf p) s.fil.length) [.mk (tmpOf p) s.fil.length] b b (s.used + b.length) := by
  have m := R2m hi hp hfiles hF b hroom
  have := mid_set m { (R2 p b s).at_ s.fil.length with sf := ((R2 p b s).at_ s.fil.length).now } rfl rfl rfl rfl rfl rfl rfl (s' := R3 p b s) _ m.used
  simp only [m.new.1] at this
  exact this
theorem R4e : (R3 p b s).rename (tmpOf p) p = (R4 p b s, 0) := by
  have m := R3m hi hp hfiles hF b hroom
  exact rename_idle m.idle (tmpOf p) p hp.okT hp.ok (f := s.fil.length) (by rw [m.files]; exact R_look1 hi hp hfiles hF) (tmp_ne p)
include h0
theorem R4m : MidS s (R4 p b s) [(p, s.fil.length)] [.mk (tmpOf p) s.fil.length, .mv (tmpOf p) p s.fil.length] b b b.length := by
  have m := R3m hi hp hfiles hF b hroom
  have hfr : (R3 p b s).free p = { R3 p b s with used := (b.length : Int) } := by
    unfold St.free
    rw [m.files]
    rcases hF with h | ⟨f, h, h1, h2⟩
    · have : look (put F (tmpOf p) s.fil.length) p = none := by rw [h, put_nil]; simp [look, beq_t p]
      rw [this]
      simp only
      have hu := m.used
      rw [h0 h, Int.zero_add] at hu
      rw [← hu]
    · have : look (put F (tmpOf p) s.fil.length) p = some f := by rw [h, put_one_t hp]; exact look_two_p p _ _
      rw [this]
      simp only
      have hu : (R3 p b s).used - (((R3 p b s).at_ f).now.length : Int) = (b.length : Int) := by
        rw [m.old f h1, m.used, h2]
        omega
      rw [hu, m.files]
  unfold R4
  rw [hfr]
  have e4 : ∀ i, (St.record { R3 p b s with used := (b.length : Int) } (.mv (tmpOf p) p s.fil.length)).at_ i = (R3 p b s).at_ i := fun i => rfl
  refine ⟨⟨m.idle.off, m.idle.fuse⟩, ?_, m.safe, ?_, m.len, ?_, fun i hi => ?_, rfl, m.room⟩
  · show put (era (R3 p b s).files (tmpOf p)) p s.fil.length = _
    rw [m.files]
    rcases hF with h | ⟨f, h, _⟩ <;> rw [h]
    · rw [put_nil, era_t1, put_nil]
    · rw [put_one_t hp, era_t2, put_one_p]
  · show (R3 p b s).chs ++ _ = _
    rw [m.chs]; simp
  · rw [e4]; exact m.new
  · rw [e4]; exact m.old i hi
theorem R5e : (R4 p b s).syncPaths = (R5 p b s, 0) := syncPaths_idle (R4m hi hp hfiles hF h0 b hroom).idle
theorem R5m (hap : apps s.chs s.safe = F) : One (R5 p b s) p s.fil.length b b ∧ (R5 p b s).room = s.room := by
  have m := R4m hi hp hfiles hF h0 b hroom
  refine ⟨⟨⟨m.idle.off, m.idle.fuse⟩, m.files, ?_, rfl, ?_, m.new.1, m.new.2, m.used⟩, m.room⟩
  · show apps ((R4 p b s).chs.take (R4 p b s).chs.length) (R4 p b s).safe = _
    rw [List.take_length, m.chs, m.safe]
    have : apps (s.chs ++ [.mk (tmpOf p) s.fil.length, .mv (tmpOf p) p s.fil.length]) s.safe = apps [.mk (tmpOf p) s.fil.length, .mv (tmpOf p) p s.fil.length] (apps s.chs s.safe) := by unfold apps; rw [List.foldl_append]
    rw [this, hap]
    show put (era (put F (tmpOf p) s.fil.length) (tmpOf p)) p s.fil.length = _
    rcases hF with h | ⟨f, h, _⟩ <;> rw [h]
    · rw [put_nil, era_t1, put_nil]
    · rw [put_one_t hp, era_t2, put_one_p]
  · show s.fil.length < (R4 p b s).fil.length
    rw [m.len]; omega
/-- The steps behind the cleaning. -/
theorem repl_all (hap : apps s.chs s.safe = F) : doS (replS p b) s 0 = (R5 p b s, 0) := by
  unfold replS
  rw [doS_cons, if_pos rfl, clean_not (R_look hi hp hfiles hF)]
  simp only
  rw [doS_cons, if_pos rfl, R1e hi hp hfiles hF]
  simp only
  rw [doS_cons, if_pos rfl, R2e hi hp hfiles hF b hroom]
  simp only
  rw [doS_cons, if_pos rfl, R3e hi hp hfiles hF b hroom]
  simp only
  rw [doS_cons, if_pos rfl, R4e hi hp hfiles hF b hroom]
  simp only
  rw [doS_cons, if_pos rfl, R5e hi hp hfiles hF h0 b hroom, doS_nil]
end
theorem One.F {s : St} {p : Str} {f : Nat} {X Y : Str} (h : One s p f X Y) : ([(p, f)] : Dir) = [] ∨ ∃ f', ([(p, f)] : Dir) = [(p, f')] ∧ f' < s.fil.length ∧ ((s.at_ f').now.length : Int) = s.used := .inr ⟨f, rfl, h.lt, by rw [h.now, h.used]⟩
/-- A log is replaced, on a tree with its file alone. -/
theorem One.replace {s : St} {p : Str} {f : Nat} {X Y : Str} (h : One s p f X Y) (hp : LogPath p) (b : Str) (hr : (X.length : Int) + b.length ≤ s.room) : ∃ s', doS (replS p b) s 0 = (s', 0) ∧ One s' p s.fil.length b b ∧ s'.room = s.room := by
  have hap : apps s.chs s.safe = [(p, f)] := by rw [h.chs, h.safe]; rfl
  have hroom : s.used + (b.length : Int) ≤ s.room := by rw [h.used]; exact hr
  have h0 : ([(p, f)] : Dir) = [] → s.used = 0 := fun e => by cases e
  exact ⟨_, repl_all h.idle hp h.files h.F h0 b hroom hap, R5m h.idle hp h.files h.F h0 b hroom hap⟩
theorem new_replace (room : Int) (hr : 0 ≤ room) {p : Str} (hp : LogPath p) : ∃ s', doS (replS p []) (St.new room) 0 = (s', 0) ∧ One s' p 0 [] [] ∧ s'.room = room := by
  have hi : Idle (St.new room) := ⟨rfl, rfl⟩
  have hF : ([] : Dir) = [] ∨ ∃ f, ([] : Dir) = [(p, f)] ∧ f < (St.new room).fil.length ∧ (((St.new room).at_ f).now.length : Int) = (St.new room).used := .inl rfl
  exact ⟨_, repl_all hi hp rfl hF (fun _ => rfl) [] (by show (0 : Int) + 0 ≤ room; omega) rfl, R5m hi hp rfl hF (fun _ => rfl) [] (by show (0 : Int) + 0 ≤ room; omega) rfl⟩

/-! ### Calls of a log -/
theorem replace_of {L : Lg} {s s' : St} {b : Str} {n : Int} {e : Int} (h : doS (replS L.path b) s L.e = (s', e)) : L.replace s b n = (if e = 0 then { L with size := b.length, count := n, e := e } else { L with e := e }, s') := by
  unfold Lg.replace
  rw [h]
  simp only
  split <;> rfl
theorem open_new (room : Int) (hr : 0 ≤ room) {p : Str} (hp : LogPath p) : ∃ s', openL p (St.new room) = (⟨p, 0, 0, 0⟩, s', [], 0) ∧ One s' p 0 [] [] ∧ s'.room = room := by
  obtain ⟨s', h1, h2, h3⟩ := new_replace room hr hp
  refine ⟨s', ?_, h2, h3⟩
  have e := replace_of (L := ⟨p, 0, 0, 0⟩) (n := 0) h1
  unfold openL Lg.begin_
  have hst : ((St.new room).stat p).2.2 = false := stat_not rfl
  rw [hst, e]
  rfl
theorem mend_eqv (L : Lg) (s : St) (b : Str) (whole : Nat) (count : Int) (h : ¬ whole < b.length) : L.mend s b whole count = ({ L with size := whole, count := count, e := (doS [cleanS (tmpOf L.path)] s L.e).2 }, (doS [cleanS (tmpOf L.path)] s L.e).1) := by
  unfold Lg.mend
  rw [if_neg h]
theorem mend_cut (L : Lg) (s : St) (b : Str) (whole : Nat) (count : Int) (h : whole < b.length) : L.mend s b whole count = L.replace s (b.take whole) count := by
  unfold Lg.mend
  rw [if_pos h]
/-- Open of a log whose file ends with its last frame, with no temporary file. -/
theorem open_whole {s : St} {p : Str} {f : Nat} {rs : List Str} (hi : Idle s) (hp : LogPath p) (hf : s.files = [(p, f)]) (hn : (s.at_ f).now = fra rs) (hrs : okR rs) : openL p s = (⟨p, ((fra rs).length : Nat), (rs.length : Nat), 0⟩, s, rs, 0) := by
  have hst : (s.stat p).2.2 = true := stat_of (f := f) (by rw [hf]; exact look_one p f)
  have hrd := read_idle hi p hp.ok (f := f) (by rw [hf]; exact look_one p f)
  rw [hn] at hrd
  have hsc := scan_all rs hrs
  unfold openL Lg.begin_
  simp only
  rw [hst, if_pos rfl, hrd]
  simp only
  rw [if_pos trivial, hsc]
  simp only
  rw [if_pos trivial]
  have hm := (mend_eqv (⟨p, 0, 0, 0⟩ : Lg) s (fra rs) (fra rs).length (rs.length : Nat)) (by omega)
  rw [hm]
  have hcl : doS [cleanS (tmpOf p)] s 0 = (s, 0) := by rw [doS_cons, if_pos rfl, clean_not (by rw [hf]; exact look_one_t p f), doS_nil]
  simp only
  rw [hcl]
end Go.Proofs.YtiikjdjpodmpcaaGreat
