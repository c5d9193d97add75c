/- Package wal, as functions of a tree's state: what a log is, and what each of its calls does and returns. No function of the program is named here. -/
import Derived.Test.YtiikjdjpodmpcaaGreatWlScan
namespace Go.Proofs.YtiikjdjpodmpcaaGreat
set_option linter.unusedVariables false

/-- A log: its path, what it knows of its file, the error that broke it. -/
structure Lg where
  path : Str
  size : Int
  count : Int
  e : Int
def tmpOf (p : Str) : Str := tempL ++ p

/-- Steps, executed up to the first error. -/
abbrev Stp := St → St × Int
def doS : List Stp → St → Int → St × Int
  | [], s, e => (s, e)
  | f :: r, s, e => if e = 0 then doS r (f s).1 (f s).2 else doS r s e
theorem doS_cons (f : Stp) (r : List Stp) (s : St) (e : Int) : doS (f :: r) s e = if e = 0 then doS r (f s).1 (f s).2 else doS r s e := rfl
theorem doS_nil (s : St) (e : Int) : doS [] s e = (s, e) := rfl
theorem doS_err : ∀ (l : List Stp) (s : St) (e : Int), e ≠ 0 → doS l s e = (s, e)
  | [], _, _, _ => rfl
  | f :: r, s, e, h => by rw [doS_cons, if_neg h]; exact doS_err r s e h
theorem doS_append : ∀ (l r : List Stp) (s : St) (e : Int), doS (l ++ r) s e = doS r (doS l s e).1 (doS l s e).2
  | [], _, _, _ => rfl
  | f :: l, r, s, e => by
    show doS (f :: (l ++ r)) s e = _
    by_cases h : e = 0
    · rw [doS_cons, doS_cons, if_pos h, if_pos h, doS_append l r]
    · rw [doS_err _ s e h, doS_err _ s e h, doS_err _ s e h]
theorem doS_take (l : List Stp) (i : Nat) (f : Stp) (h : l[i]? = some f) (s : St) (e : Int) : doS (l.take (i + 1)) s e = if (doS (l.take i) s e).2 = 0 then f (doS (l.take i) s e).1 else doS (l.take i) s e := by
  rw [List.take_add_one, h, doS_append]
  show doS [f] _ _ = _
  rw [doS_cons]
  by_cases h0 : (doS (l.take i) s e).2 = 0
  · rw [if_pos h0, if_pos h0]; rfl
  · rw [if_neg h0, if_neg h0]; rfl

def cleanS (tp : Str) : Stp := fun s => if (s.stat tp).2.2 then s.remove tp else (s, 0)
def replS (p : Str) (b : Str) : List Stp := [cleanS (tmpOf p), fun s => s.make (tmpOf p), fun s => s.write (tmpOf p) b, fun s => s.sync (tmpOf p), fun s => s.rename (tmpOf p) p, fun s => s.syncPaths]

/-- A call of a log: what it leaves of the log, and of the tree; its error is the second component's. -/
def Lg.replace (L : Lg) (s : St) (b : Str) (count : Int) : Lg × St :=
  match doS (replS L.path b) s L.e with
  | (s', e) => if e = 0 then ({ L with size := b.length, count := count, e := e }, s') else ({ L with e := e }, s')
def Lg.append (L : Lg) (s : St) (r : Str) : Lg × St :=
  match doS [fun s => s.append_ L.path (frame r)] s L.e with
  | (s', e) => if e = 0 then ({ L with size := L.size + (frame r).length, count := L.count + 1, e := e }, s') else ({ L with e := e }, s')
def Lg.sync (L : Lg) (s : St) : Lg × St :=
  match doS [fun s => s.sync L.path] s L.e with
  | (s', e) => ({ L with e := e }, s')
def Lg.mend (L : Lg) (s : St) (b : Str) (whole : Nat) (count : Int) : Lg × St :=
  if whole < b.length then L.replace s (b.take whole) count
  else match doS [cleanS (tmpOf L.path)] s L.e with
    | (s', e) => ({ L with size := whole, count := count, e := e }, s')
/-- A log that is being opened: the log, the tree, the records, the error. -/
def Lg.begin_ (L : Lg) (s : St) : Lg × St × List Str × Int :=
  if (s.stat L.path).2.2 then
    match s.read L.path with
    | (s1, b, e) =>
      if e = 0 then
        (if (scan b).2.2 = 0 then ((L.mend s1 b (scan b).2.1 ((scan b).1.length : Nat)).1, (L.mend s1 b (scan b).2.1 ((scan b).1.length : Nat)).2, (scan b).1, (L.mend s1 b (scan b).2.1 ((scan b).1.length : Nat)).1.e)
         else (L, s1, [], ((scan b).2.2 : Nat)))
      else (L, s1, [], e)
  else ((L.replace s [] 0).1, (L.replace s [] 0).2, [], (L.replace s [] 0).1.e)
/-- A log that is opened: the log, the tree, the records, the error. -/
def openL (p : Str) (s : St) : Lg × St × List Str × Int := Lg.begin_ ⟨p, 0, 0, 0⟩ s
theorem replace_path (L : Lg) (s : St) (b : Str) (n : Int) : (L.replace s b n).1.path = L.path := by
  unfold Lg.replace
  generalize doS (replS L.path b) s L.e = r
  obtain ⟨s', e⟩ := r
  simp only
  split <;> rfl
theorem append_path (L : Lg) (s : St) (r : Str) : (L.append s r).1.path = L.path := by
  unfold Lg.append
  generalize doS _ s L.e = r
  obtain ⟨s', e⟩ := r
  simp only
  split <;> rfl
end Go.Proofs.YtiikjdjpodmpcaaGreat
