/- Package tree, as functions of lists: what a tree is, and what each of its calls does and returns. No function of the program is named here. -/
import Derived.Test.YtodnckflobefpaaPtPure
import Derived.Maps.Ext
import Derived.Sort.KeysCollected
namespace Go.Proofs.Ytodnckflobefpaa
open Go.Maps
set_option linter.unusedVariables false

abbrev Str := List UInt8
/-- Paths, each with the number of its file, by rising path. -/
abbrev Dir := List (Str × Nat)

def look (l : Dir) (p : Str) : Option Nat := (l.find? fun e => e.1 == p).map (·.2)
def era (l : Dir) (p : Str) : Dir := l.filter fun e => !(e.1 == p)
def insd (p : Str) (f : Nat) : Dir → Dir
  | [] => [(p, f)]
  | e :: r => if bytesBefore p e.1 then (p, f) :: e :: r else e :: insd p f r
def put (l : Dir) (p : Str) (f : Nat) : Dir := insd p f (era l p)

structure Fil where
  now : Str
  sf : Str
  st : Nat
instance : Inhabited Fil := ⟨⟨[], [], 0⟩⟩

inductive Chg where
  | mk (p : Str) (f : Nat)
  | mv (p q : Str) (f : Nat)
  | rm (p : Str)
def Chg.app : Chg → Dir → Dir
  | .mk p f, l => put l p f
  | .mv p q f, l => put (era l p) q f
  | .rm p, l => era l p

structure St where
  room : Int
  used : Int
  clock : Nat
  files : Dir
  safe : Dir
  chs : List Chg
  fuse : Int
  off : Bool
  fil : List Fil

def St.new (room : Int) : St := ⟨room, 0, 0, [], [], [], -1, false, []⟩
def St.at_ (s : St) (f : Nat) : Fil := s.fil.getD f default
def St.set_ (s : St) (f : Nat) (x : Fil) : St := { s with fil := s.fil.set f x }

def tempL : List UInt8 := [46, 116, 109, 112, 47]
def tempedR (s : List UInt8) : List UInt8 × Bool := if tempL.isPrefixOf s && isPath (s.drop 5) then (s.drop 5, true) else ([], false)
/-- A path, or that of a temporary file. -/
def okP (p : Str) : Bool := (tempedR p).2 || isPath p

def St.burn (s : St) : St := { s with off := s.off || decide (s.fuse = 0), fuse := max (s.fuse - 1) (-1) }
def St.begin_ (s : St) (ps : List Str) : St × Int :=
  if ps.all okP then (if s.burn.off then (s.burn, 11) else (s.burn, 0)) else (s, 2)
/-- What an operation with a file finds: its number (if the error is 0). -/
def St.find (s : St) (p : Str) (others : List Str) : St × Option Nat × Int :=
  match s.begin_ (others ++ [p]) with
  | (s1, e) => if e = 0 then (match look s1.files p with | none => (s1, none, 6) | some f => (s1, some f, 0)) else (s1, none, e)
def St.left_ (s : St) (used : Int) : Int := max 0 (s.room - used)
def St.record (s : St) (c : Chg) : St := { s with files := c.app s.files, chs := s.chs ++ [c], clock := s.clock + 1 }
def St.putB (s : St) (f : Nat) (b : Str) : St :=
  { s with used := s.used + ((b.length : Int) - ((s.at_ f).now.length : Int)), clock := s.clock + 1, fil := s.fil.set f { s.at_ f with now := b, st := s.clock + 1 } }
def St.free (s : St) (p : Str) : St :=
  match look s.files p with
  | none => s
  | some f => { s with used := s.used - ((s.at_ f).now.length : Int) }

def St.make (s : St) (p : Str) : St × Int :=
  match s.begin_ [p] with
  | (s1, e) => if e = 0 then (match look s1.files p with
      | some _ => (s1, 7)
      | none => (St.record { s1 with fil := s1.fil ++ [(⟨[], [], s1.clock + 1⟩ : Fil)] } (.mk p s1.fil.length), 0)) else (s1, e)
def St.write (s : St) (p b : Str) : St × Int :=
  match s.find p [] with
  | (s1, some f, _) => if (b.length : Int) > s1.left_ (s1.used - ((s1.at_ f).now.length : Int)) then (s1, 10) else (s1.putB f b, 0)
  | (s1, none, e) => (s1, e)
def St.append_ (s : St) (p b : Str) : St × Int :=
  match s.find p [] with
  | (s1, some f, _) => if (b.length : Int) > s1.left_ s1.used then (s1, 10) else (s1.putB f ((s1.at_ f).now ++ b), 0)
  | (s1, none, e) => (s1, e)
def St.sync (s : St) (p : Str) : St × Int :=
  match s.find p [] with
  | (s1, some f, _) => (s1.set_ f { s1.at_ f with sf := (s1.at_ f).now }, 0)
  | (s1, none, e) => (s1, e)
def St.settle (s : St) (n : Nat) : St := { s with safe := (s.chs.take n).foldl (fun l c => c.app l) s.safe, chs := [] }
def St.syncPaths (s : St) : St × Int :=
  match s.begin_ [] with
  | (s1, e) => if e = 0 then (s1.settle s1.chs.length, 0) else (s1, e)
def St.rename (s : St) (p q : Str) : St × Int :=
  match s.find p [q] with
  | (s1, some f, _) => if p = q then (s1, 0) else ((s1.free q).record (.mv p q f), 0)
  | (s1, none, e) => (s1, e)
def St.remove (s : St) (p : Str) : St × Int :=
  match s.find p [] with
  | (s1, some f, _) => ((s1.free p).record (.rm p), 0)
  | (s1, none, e) => (s1, e)
def St.read (s : St) (p : Str) : St × Str × Int :=
  match s.find p [] with
  | (s1, some f, _) => (s1, (s1.at_ f).now, 0)
  | (s1, none, e) => (s1, [], e)
def St.stat (s : St) (p : Str) : Int × Nat × Bool :=
  match look s.files p with
  | some f => (((s.at_ f).now.length : Int), (s.at_ f).st, true)
  | none => (0, 0, false)
def St.paths (s : St) (within : Str) : List Str := (s.files.map (·.1)).filter fun p => within.isPrefixOf p
def St.fuse_ (s : St) (n : Int) : St := { s with fuse := max n (-1) }

def upTo (n most : Int) : Int := max 0 n % (most + 1)
def Fil.rem (x : Fil) (part : Int) : Str :=
  if x.sf.isPrefixOf x.now then x.now.take (x.sf.length + (upTo part ((x.now.length : Int) - (x.sf.length : Int))).toNat) else x.sf
/-- One file of a crash: 'was': what the path had before. -/
def St.restore (s : St) (p : Str) (f : Nat) (was : Option Nat) (part : Int) : St :=
  let x := s.at_ f
  let b := x.rem part
  if was = some f ∧ b = x.now then { s with used := s.used + (b.length : Int), fil := s.fil.set f ⟨b, b, x.st⟩ }
  else { s with used := s.used + (b.length : Int), clock := s.clock + 1, fil := s.fil.set f ⟨b, b, s.clock + 1⟩ }
def partAt (parts : List Int) (i : Nat) : Int := parts.getD i 0
def St.restores (before : Dir) (parts : List Int) : Nat → Dir → St → St
  | _, [], s => s
  | i, (p, f) :: r, s => St.restores before parts (i + 1) r (s.restore p f (look before p) (partAt parts i))
def St.crash (s : St) (keep : Int) (parts : List Int) : St :=
  let s1 := St.settle { s with clock := s.clock + 1 } (upTo keep (s.chs.length : Int)).toNat
  let s2 : St := { s1 with files := s1.safe, used := 0 }
  { (St.restores s.files parts 0 s2.files s2) with fuse := -1, off := false }

/-! ### Maps as data -/
/-- The datum of a map of paths to files: the file's block in the file's place. -/
def ent (blk : Nat → Nat) (e : Str × Nat) : Lit × DataW Unit := (.string e.1, .lit (.int .i64 (blk e.2 : Nat)))
def dat (blk : Nat → Nat) (l : Dir) : DataW Unit := .map (l.map (ent blk))

theorem dat_look (blk : Nat → Nat) (l : Dir) (p : Str) (z : DataW Unit) :
    (dat blk l).atKey (.string p) z = match look l p with | some f => .lit (.int .i64 (blk f : Nat)) | none => z := by
  unfold dat DataW.atKey look
  simp only [List.find?_map]
  have : (fun e : Str × Nat => ((fun q : Lit × DataW Unit => q.1.sameKey (.string p)) ∘ ent blk) e) = fun e => e.1 == p := rfl
  have h2 : ((fun q : Lit × DataW Unit => q.1.sameKey (.string p)) ∘ ent blk) = fun e => e.1 == p := rfl
  rw [h2]
  cases l.find? (fun e => e.1 == p) <;> rfl
theorem dat_era (blk : Nat → Nat) (l : Dir) (p : Str) : (dat blk l).del (.string p) = dat blk (era l p) := by
  unfold dat DataW.del era
  simp only [List.filter_map]
  rfl
theorem dat_insd (blk : Nat → Nat) (p : Str) (f : Nat) : ∀ l : Dir, DataW.insert (ent blk (p, f)) (l.map (ent blk)) = (insd p f l).map (ent blk)
  | [] => rfl
  | e :: r => by
    simp only [List.map_cons, DataW.insert, insd]
    have : (ent blk (p, f)).1.before (ent blk e).1 = bytesBefore p e.1 := rfl
    rw [this]
    split
    · rfl
    · rw [dat_insd blk p f r]; rfl
theorem dat_put (blk : Nat → Nat) (l : Dir) (p : Str) (f : Nat) : (dat blk l).put (.string p) (.lit (.int .i64 (blk f : Nat))) = dat blk (put l p f) := by
  have h := dat_era blk l p
  unfold put
  unfold dat DataW.put DataW.del at *
  simp only at h ⊢
  rw [DataW.map.inj h]
  exact congrArg DataW.map (dat_insd blk p f (era l p))
theorem era_length (l : Dir) (p : Str) : (era l p).length ≤ l.length := List.length_filter_le _ _
theorem insd_length (p : Str) (f : Nat) : ∀ l : Dir, (insd p f l).length = l.length + 1
  | [] => rfl
  | e :: r => by unfold insd; split <;> simp [insd_length p f r]
theorem put_length (l : Dir) (p : Str) (f : Nat) : (put l p f).length ≤ l.length + 1 := by
  unfold put; rw [insd_length]; have := era_length l p; omega
theorem dat_congr {blk blk' : Nat → Nat} {l : Dir} {n : Nat} (hl : ∀ e ∈ l, e.2 < n) (h : ∀ i, i < n → blk' i = blk i) : dat blk' l = dat blk l := by
  unfold dat
  refine congrArg DataW.map (List.map_congr_left fun e he => ?_)
  unfold ent
  rw [h e.2 (hl e he)]
theorem look_mem {l : Dir} {p : Str} {f : Nat} (h : look l p = some f) : (p, f) ∈ l := by
  unfold look at h
  cases e : l.find? (fun e => e.1 == p) with
  | none => rw [e] at h; cases h
  | some q =>
    rw [e] at h
    have h1 := List.find?_some e
    have h2 := List.mem_of_find?_eq_some e
    simp at h h1
    obtain ⟨a, b⟩ := q
    simp at h h1
    subst h h1
    exact h2
theorem mem_insd {p : Str} {f : Nat} {x : Str × Nat} : ∀ {l : Dir}, x ∈ insd p f l ↔ x = (p, f) ∨ x ∈ l
  | [] => by simp [insd]
  | e :: r => by
    unfold insd
    split
    · simp
    · simp only [List.mem_cons, mem_insd (l := r)]
      constructor
      · rintro (h | h | h)
        · exact .inr (.inl h)
        · exact .inl h
        · exact .inr (.inr h)
      · rintro (h | h | h)
        · exact .inr (.inl h)
        · exact .inl h
        · exact .inr (.inr h)
theorem mem_era {l : Dir} {p : Str} {x : Str × Nat} : x ∈ era l p ↔ x ∈ l ∧ x.1 ≠ p := by simp [era]
theorem mem_put {l : Dir} {p : Str} {f : Nat} {x : Str × Nat} : x ∈ put l p f ↔ x = (p, f) ∨ (x ∈ l ∧ x.1 ≠ p) := by
  unfold put; rw [mem_insd, mem_era]
/-- The entry that a change makes. -/
def Chg.new : Chg → Option (Str × Nat)
  | .mk p f => some (p, f)
  | .mv _ q f => some (q, f)
  | .rm _ => none
theorem mem_app {c : Chg} {l : Dir} {x : Str × Nat} (h : x ∈ c.app l) : x ∈ l ∨ c.new = some x := by
  cases c with
  | mk p f =>
    rcases mem_put.1 h with h | h
    · exact .inr (congrArg some h.symm)
    · exact .inl h.1
  | mv p q f =>
    rcases mem_put.1 h with h | h
    · exact .inr (congrArg some h.symm)
    · exact .inl (mem_era.1 h.1).1
  | rm p => exact .inl (mem_era.1 h).1
end Go.Proofs.Ytodnckflobefpaa
