/- Texts of one proof, laid together: TrPure, TrMem, TrPath, TrA, TrB, TrC, TrD, TrOk, TrE, TrF, TrG, TrH, TrI, TrJ, TrK, TrL, TrM, TrN, TrO, TrQ, TrR. -/
import Derived.Test.YtiikjdjpodmpcaaGreatPtPure
import Derived.Maps.Ext
import Derived.Sort.KeysCollected
import Derived.Test.YtiikjdjpodmpcaaGreatMem
import Derived.Maps.OwnSet
import Derived.Test.YtiikjdjpodmpcaaGreatPtShelf
import Derived.Deep.QuietTactic
import Derived.BigQuiet
import Derived.Deep.AppendLies
import Derived.BigRegion
import Derived.Deep.RegionHeld3

/- Package tree, as functions of lists: what a tree is, and what each of its calls does and returns. No function of the program is named here. -/
namespace Go.Proofs.YtiikjdjpodmpcaaGreat
open Go.Maps
set_option linter.unusedVariables false

abbrev Str := List UInt8
/-- Paths, each with the number of its file, by rising path. -/
abbrev Dir := List (Str × Nat)

def look (l : Dir) (p : Str) : Option Nat := (l.find? fun e => e.1 == p).map (·.2)
def era (l : Dir) (p : Str) : Dir := l.filter fun e => !(e.1 == p)
def insd (p : Str) (f : Nat) : Dir → Dir
  | [] => [(p, f)]
  | e :: r => if bytesBefore p e.1 then (p, f) :: e :: r else e :: insd p f r
def put (l : Dir) (p : Str) (f : Nat) : Dir := insd p f (era l p)

structure Fil where
  now : Str
  sf : Str
  st : Nat
instance : Inhabited Fil := ⟨⟨[], [], 0⟩⟩

inductive Chg where
  | mk (p : Str) (f : Nat)
  | mv (p q : Str) (f : Nat)
  | rm (p : Str)
def Chg.app : Chg → Dir → Dir
  | .mk p f, l => put l p f
  | .mv p q f, l => put (era l p) q f
  | .rm p, l => era l p

structure St where
  room : Int
  used : Int
  clock : Nat
  files : Dir
  safe : Dir
  chs : List Chg
  fuse : Int
  off : Bool
  fil : List Fil

def St.new (room : Int) : St := ⟨room, 0, 0, [], [], [], -1, false, []⟩
def St.at_ (s : St) (f : Nat) : Fil := s.fil.getD f default
def St.set_ (s : St) (f : Nat) (x : Fil) : St := { s with fil := s.fil.set f x }

def tempL : List UInt8 := [46, 116, 109, 112, 47]
def tempedR (s : List UInt8) : List UInt8 × Bool := if tempL.isPrefixOf s && isPath (s.drop 5) then (s.drop 5, true) else ([], false)
/-- A path, or that of a temporary file. -/
def okP (p : Str) : Bool := (tempedR p).2 || isPath p

def St.burn (s : St) : St := { s with off := s.off || decide (s.fuse = 0), fuse := max (s.fuse - 1) (-1) }
def St.begin_ (s : St) (ps : List Str) : St × Int :=
  if ps.all okP then (if s.burn.off then (s.burn, 11) else (s.burn, 0)) else (s, 2)
/-- What an operation with a file finds: its number (if the error is 0). -/
def St.find (s : St) (p : Str) (others : List Str) : St × Option Nat × Int :=
  match s.begin_ (others ++ [p]) with
  | (s1, e) => if e = 0 then (match look s1.files p with | none => (s1, none, 6) | some f => (s1, some f, 0)) else (s1, none, e)
def St.left_ (s : St) (used : Int) : Int := max 0 (s.room - used)
def St.record (s : St) (c : Chg) : St := { s with files := c.app s.files, chs := s.chs ++ [c], clock := s.clock + 1 }
def St.putB (s : St) (f : Nat) (b : Str) : St :=
  { s with used := s.used + ((b.length : Int) - ((s.at_ f).now.length : Int)), clock := s.clock + 1, fil := s.fil.set f { s.at_ f with now := b, st := s.clock + 1 } }
def St.free (s : St) (p : Str) : St :=
  match look s.files p with
  | none => s
  | some f => { s with used := s.used - ((s.at_ f).now.length : Int) }

def St.make (s : St) (p : Str) : St × Int :=
  match s.begin_ [p] with
  | (s1, e) => if e = 0 then (match look s1.files p with
      | some _ => (s1, 7)
      | none => (St.record { s1 with fil := s1.fil ++ [(⟨[], [], s1.clock + 1⟩ : Fil)] } (.mk p s1.fil.length), 0)) else (s1, e)
def St.write (s : St) (p b : Str) : St × Int :=
  match s.find p [] with
  | (s1, some f, _) => if (b.length : Int) > s1.left_ (s1.used - ((s1.at_ f).now.length : Int)) then (s1, 10) else (s1.putB f b, 0)
  | (s1, none, e) => (s1, e)
def St.append_ (s : St) (p b : Str) : St × Int :=
  match s.find p [] with
  | (s1, some f, _) => if (b.length : Int) > s1.left_ s1.used then (s1, 10) else (s1.putB f ((s1.at_ f).now ++ b), 0)
  | (s1, none, e) => (s1, e)
def St.sync (s : St) (p : Str) : St × Int :=
  match s.find p [] with
  | (s1, some f, _) => (s1.set_ f { s1.at_ f with sf := (s1.at_ f).now }, 0)
  | (s1, none, e) => (s1, e)
def St.settle (s : St) (n : Nat) : St := { s with safe := (s.chs.take n).foldl (fun l c => c.app l) s.safe, chs := [] }
def St.syncPaths (s : St) : St × Int :=
  match s.begin_ [] with
  | (s1, e) => if e = 0 then (s1.settle s1.chs.length, 0) else (s1, e)
def St.rename (s : St) (p q : Str) : St × Int :=
  match s.find p [q] with
  | (s1, some f, _) => if p = q then (s1, 0) else ((s1.free q).record (.mv p q f), 0)
  | (s1, none, e) => (s1, e)
def St.remove (s : St) (p : Str) : St × Int :=
  match s.find p [] with
  | (s1, some f, _) => ((s1.free p).record (.rm p), 0)
  | (s1, none, e) => (s1, e)
def St.read (s : St) (p : Str) : St × Str × Int :=
  match s.find p [] with
  | (s1, some f, _) => (s1, (s1.at_ f).now, 0)
  | (s1, none, e) => (s1, [], e)
def St.stat (s : St) (p : Str) : Int × Nat × Bool :=
  match look s.files p with
  | some f => (((s.at_ f).now.length : Int), (s.at_ f).st, true)
  | none => (0, 0, false)
def St.paths (s : St) (within : Str) : List Str := (s.files.map (·.1)).filter fun p => within.isPrefixOf p
def St.fuse_ (s : St) (n : Int) : St := { s with fuse := max n (-1) }

def upTo (n most : Int) : Int := max 0 n % (most + 1)
def Fil.rem (x : Fil) (part : Int) : Str :=
  if x.sf.isPrefixOf x.now then x.now.take (x.sf.length + (upTo part ((x.now.length : Int) - (x.sf.length : Int))).toNat) else x.sf
/-- One file of a crash: 'was': what the path had before. -/
def St.restore (s : St) (p : Str) (f : Nat) (was : Option Nat) (part : Int) : St :=
  let x := s.at_ f
  let b := x.rem part
  if was = some f ∧ b = x.now then { s with used := s.used + (b.length : Int), fil := s.fil.set f ⟨b, b, x.st⟩ }
  else { s with used := s.used + (b.length : Int), clock := s.clock + 1, fil := s.fil.set f ⟨b, b, s.clock + 1⟩ }
def partAt (parts : List Int) (i : Nat) : Int := parts.getD i 0
def St.restores (before : Dir) (parts : List Int) : Nat → Dir → St → St
  | _, [], s => s
  | i, (p, f) :: r, s => St.restores before parts (i + 1) r (s.restore p f (look before p) (partAt parts i))
def St.crash (s : St) (keep : Int) (parts : List Int) : St :=
  let s1 := St.settle { s with clock := s.clock + 1 } (upTo keep (s.chs.length : Int)).toNat
  let s2 : St := { s1 with files := s1.safe, used := 0 }
  { (St.restores s.files parts 0 s2.files s2) with fuse := -1, off := false }

/-! ### Maps as data -/
/-- The datum of a map of paths to files: the file's block in the file's place. -/
def ent (blk : Nat → Nat) (e : Str × Nat) : Lit × DataW Unit := (.string e.1, .lit (.int .i64 (blk e.2 : Nat)))
def dat (blk : Nat → Nat) (l : Dir) : DataW Unit := .map (l.map (ent blk))

theorem dat_look (blk : Nat → Nat) (l : Dir) (p : Str) (z : DataW Unit) :
    (dat blk l).atKey (.string p) z = match look l p with | some f => .lit (.int .i64 (blk f : Nat)) | none => z := by
  unfold dat DataW.atKey look
  simp only [List.find?_map]
  have : (fun e : Str × Nat => ((fun q : Lit × DataW Unit => q.1.sameKey (.string p)) ∘ ent blk) e) = fun e => e.1 == p := rfl
  have h2 : ((fun q : Lit × DataW Unit => q.1.sameKey (.string p)) ∘ ent blk) = fun e => e.1 == p := rfl
  rw [h2]
  cases l.find? (fun e => e.1 == p) <;> rfl
theorem dat_era (blk : Nat → Nat) (l : Dir) (p : Str) : (dat blk l).del (.string p) = dat blk (era l p) := by
  unfold dat DataW.del era
  simp only [List.filter_map]
  rfl
theorem dat_insd (blk : Nat → Nat) (p : Str) (f : Nat) : ∀ l : Dir, DataW.insert (ent blk (p, f)) (l.map (ent blk)) = (insd p f l).map (ent blk)
  | [] => rfl
  | e :: r => by
    simp only [List.map_cons, DataW.insert, insd]
    have : (ent blk (p, f)).1.before (ent blk e).1 = bytesBefore p e.1 := rfl
    rw [this]
    split
    · rfl
    · rw [dat_insd blk p f r]; rfl
theorem dat_put (blk : Nat → Nat) (l : Dir) (p : Str) (f : Nat) : (dat blk l).put (.string p) (.lit (.int .i64 (blk f : Nat))) = dat blk (put l p f) := by
  have h := dat_era blk l p
  unfold put
  unfold dat DataW.put DataW.del at *
  simp only at h ⊢
  rw [DataW.map.inj h]
  exact congrArg DataW.map (dat_insd blk p f (era l p))
theorem era_length (l : Dir) (p : Str) : (era l p).length ≤ l.length := List.length_filter_le _ _
theorem insd_length (p : Str) (f : Nat) : ∀ l : Dir, (insd p f l).length = l.length + 1
  | [] => rfl
  | e :: r => by unfold insd; split <;> simp [insd_length p f r]
theorem put_length (l : Dir) (p : Str) (f : Nat) : (put l p f).length ≤ l.length + 1 := by
  unfold put; rw [insd_length]; have := era_length l p; omega
theorem dat_congr {blk blk' : Nat → Nat} {l : Dir} {n : Nat} (hl : ∀ e ∈ l, e.2 < n) (h : ∀ i, i < n → blk' i = blk i) : dat blk' l = dat blk l := by
  unfold dat
  refine congrArg DataW.map (List.map_congr_left fun e he => ?_)
  unfold ent
  rw [h e.2 (hl e he)]
theorem look_mem {l : Dir} {p : Str} {f : Nat} (h : look l p = some f) : (p, f) ∈ l := by
  unfold look at h
  cases e : l.find? (fun e => e.1 == p) with
  | none => rw [e] at h; cases h
  | some q =>
    rw [e] at h
    have h1 := List.find?_some e
    have h2 := List.mem_of_find?_eq_some e
    simp at h h1
    obtain ⟨a, b⟩ := q
    simp at h h1
    subst h h1
    exact h2
theorem mem_insd {p : Str} {f : Nat} {x : Str × Nat} : ∀ {l : Dir}, x ∈ insd p f l ↔ x = (p, f) ∨ x ∈ l
  | [] => by simp [insd]
  | e :: r => by
    unfold insd
    split
    · simp
    · simp only [List.mem_cons, mem_insd (l := r)]
      constructor
      · rintro (h | h | h)
        · exact .inr (.inl h)
        · exact .inl h
        · exact .inr (.inr h)
      · rintro (h | h | h)
        · exact .inr (.inl h)
        · exact .inl h
        · exact .inr (.inr h)
theorem mem_era {l : Dir} {p : Str} {x : Str × Nat} : x ∈ era l p ↔ x ∈ l ∧ x.1 ≠ p := by simp [era]
theorem mem_put {l : Dir} {p : Str} {f : Nat} {x : Str × Nat} : x ∈ put l p f ↔ x = (p, f) ∨ (x ∈ l ∧ x.1 ≠ p) := by
  unfold put; rw [mem_insd, mem_era]
/-- The entry that a change makes. -/
def Chg.new : Chg → Option (Str × Nat)
  | .mk p f => some (p, f)
  | .mv _ q f => some (q, f)
  | .rm _ => none
theorem mem_app {c : Chg} {l : Dir} {x : Str × Nat} (h : x ∈ c.app l) : x ∈ l ∨ c.new = some x := by
  cases c with
  | mk p f =>
    rcases mem_put.1 h with h | h
    · exact .inr (congrArg some h.symm)
    · exact .inl h.1
  | mv p q f =>
    rcases mem_put.1 h with h | h
    · exact .inr (congrArg some h.symm)
    · exact .inl (mem_era.1 h.1).1
  | rm p => exact .inl (mem_era.1 h).1
end Go.Proofs.YtiikjdjpodmpcaaGreat

/- A tree in memory: which blocks are its own, what each holds, and what keeps that. No walk. -/
namespace Go.Proofs.YtiikjdjpodmpcaaGreat
open Go.RowKit Go.Maps
set_option linter.unusedVariables false

/-! ### Worlds in which only some blocks have turned -/
structure Chd (M : Nat → Prop) (w w' : World) : Prop where
  os : w'.os = w.os
  tape : w'.tape = w.tape
  output : w'.output = w.output
  size : w.heap.size ≤ w'.heap.size
  block : ∀ j, j < w.heap.size → ¬ M j → w'.heap[j]? = w.heap[j]?
section
variable {M M' : Nat → Prop} {w w' w'' : World}
theorem Chd.refl (w : World) : Chd M w w := ⟨rfl, rfl, rfl, Nat.le_refl _, fun _ _ _ => rfl⟩
theorem Chd.trans (h : Chd M w w') (k : Chd M w' w'') : Chd M w w'' :=
  ⟨k.os.trans h.os, k.tape.trans h.tape, k.output.trans h.output, Nat.le_trans h.size k.size, fun j hj hm => (k.block j (Nat.lt_of_lt_of_le hj h.size) hm).trans (h.block j hj hm)⟩
/-- What turns beyond the first world's blocks is no matter. -/
theorem Chd.then_ (h : Chd M w w') (k : Chd M' w' w'') (hm : ∀ j, j < w.heap.size → M' j → M j) : Chd M w w'' :=
  ⟨k.os.trans h.os, k.tape.trans h.tape, k.output.trans h.output, Nat.le_trans h.size k.size, fun j hj hn => (k.block j (Nat.lt_of_lt_of_le hj h.size) (fun e => hn (hm j hj e))).trans (h.block j hj hn)⟩
theorem Chd.mono (h : Chd M w w') (hm : ∀ j, j < w.heap.size → M j → M' j) : Chd M' w w' := ⟨h.os, h.tape, h.output, h.size, fun j hj hn => h.block j hj fun e => hn (hm j hj e)⟩
theorem Chd.of_below (h : Below w.heap.size w w') : Chd M w w' := ⟨h.os, h.tape, h.output, h.size, fun j hj _ => h.block j hj⟩
theorem Chd.below (h : Chd M w w') {B : Nat} (hB : B ≤ w.heap.size) (hm : ∀ j, j < B → ¬ M j) : Below B w w' := ⟨h.os, h.tape, h.output, h.size, fun j hj => h.block j (Nat.lt_of_lt_of_le hj hB) (hm j hj)⟩
theorem Chd.of_grown {b : Nat} (h : w.grownBy w' (some b)) : Chd (fun j => j = b) w w' := ⟨h.os, h.tape, h.output, h.size, fun j hj hn => h.block j hj (fun e => hn (by simpa using e))⟩
theorem Chd.of_grown_none (h : w.grownBy w' none) : Chd M w w' := ⟨h.os, h.tape, h.output, h.size, fun j hj _ => h.block j hj (fun e => by cases e)⟩
theorem grown_set (w : World) (g i : Nat) (u : Value) : w.grownBy (w.setCell ⟨g, i, none⟩ u) (some g) :=
  ⟨rfl, rfl, rfl, by simp, fun k hk hne => heap_setCell_other w ⟨g, i, none⟩ k u (fun e => hne (by simp [e]))⟩
theorem Chd.set (w : World) (g i : Nat) (u : Value) : Chd (fun j => j = g) w (w.setCell ⟨g, i, none⟩ u) := Chd.of_grown (grown_set w g i u)
theorem Chd.drew (h : Chd M w w') : Chd M w w'.drew := ⟨h.os, h.tape, h.output, h.size, h.block⟩
theorem Chd.drewN (h : Chd M w w') (n : Nat) : Chd M w (w'.drewN n) := ⟨h.os, h.tape, h.output, h.size, h.block⟩
end

/-! ### A block of cells -/
def BlkIs (w : World) (g : Nat) (t : TypeId) (cs : Array Value) : Prop := w.heap[g]? = some (.cells cs t (0, 0))
section
variable {w w' : World} {g : Nat} {t : TypeId} {cs : Array Value} {M : Nat → Prop}
theorem BlkIs.lt (h : BlkIs w g t cs) : g < w.heap.size := (Array.getElem?_eq_some_iff.1 h).1
theorem BlkIs.cell (h : BlkIs w g t cs) (i : Nat) : w.cell? ⟨g, i, none⟩ = cs[i]? := cell_of_row w g i cs t (0, 0) h
theorem BlkIs.frozen (h : BlkIs w g t cs) (i : Nat) : w.frozen? ⟨g, i, none⟩ = false := frozen_of_row w g i cs t h
theorem BlkIs.new (w : World) (t : TypeId) (cs : Array Value) : BlkIs (w.alloc (.cells cs t)) w.heap.size t cs := heap_alloc_new w _
theorem BlkIs.set (h : BlkIs w g t cs) (i : Nat) (u : Value) : BlkIs (w.setCell ⟨g, i, none⟩ u) g t (cs.setIfInBounds i u) := heap_setCell_same w g i cs t u h
theorem BlkIs.chd (h : BlkIs w g t cs) (hc : Chd M w w') (hm : ¬ M g) : BlkIs w' g t cs := (hc.block g h.lt hm).trans h
theorem BlkIs.drew (h : BlkIs w g t cs) : BlkIs w.drew g t cs := h
end
theorem own_chd {w w' : World} {M : Nat → Prop} {B n c : Nat} {A : Option Addr} {l : List UInt8} (h : Own w B A n c l) (hc : Chd M w w') (hm : ∀ g, A = some ⟨g, 0, none⟩ → ¬ M g) : Own w' B A n c l := by
  refine ⟨h.1, ?_⟩
  rcases h.2 with hv | ⟨g, cap, cur, hv, hbb, hg, r⟩
  · exact .inl hv
  · have hA : A = some ⟨g, 0, none⟩ := by simp only [Value.slice.injEq] at hv; exact hv.1
    exact .inr ⟨g, cap, cur, hv, hbb, (hc.block g (Array.getElem?_eq_some_iff.1 hg).1 (hm g hA)).trans hg, r⟩
theorem row_chd {w w' : World} {M : Nat → Prop} {B n : Nat} {e : TypeId} {v : Value} {l : List Value} (h : w.ownsRow B e 1 v n l) (hc : Chd M w w') (hm : ∀ g, v.ownBlock = some g → ¬ M g) : w'.ownsRow B e 1 v n l := by
  refine ⟨h.1, ?_⟩
  rcases h.2 with hv | ⟨g, cap, cur, hv, hbb, hg, r⟩
  · exact .inl hv
  · have hA : v.ownBlock = some g := by rw [hv]; rfl
    exact .inr ⟨g, cap, cur, hv, hbb, (hc.block g (Array.getElem?_eq_some_iff.1 hg).1 (hm g hA)).trans hg, r⟩

/-! ### Maps of files -/
def ptrE : Value → Option (DataW Unit × List MemPlace)
  | .pointer none => some (.nil, [])
  | .pointer (some ⟨b, 0, none⟩) => some (.lit (.int .i64 (b : Nat)), [])
  | _ => none
theorem ptrE_nil {v : Value} {ps : List MemPlace} (h : ptrE v = some (.nil, ps)) : v = .pointer none := by
  unfold ptrE at h
  split at h
  · rfl
  · simp at h
  · cases h
theorem ptrE_ptr {v : Value} {ps : List MemPlace} {b : Nat} (h : ptrE v = some (.lit (.int .i64 (b : Nat)), ps)) : v = .pointer (some ⟨b, 0, none⟩) := by
  unfold ptrE at h
  split at h
  · simp at h
  · rename_i b'
    have h := (Option.some.inj h)
    have h := congrArg Prod.fst h
    simp only [DataW.lit.injEq, Lit.int.injEq, true_and] at h
    rw [show b' = b from by omega]
  · cases h
def fptr (b : Nat) : Value := .pointer (some ⟨b, 0, none⟩)
def MapAt (w : World) (b : Nat) (blk : Nat → Nat) (l : Dir) : Prop := w.ownsMap Tryz.prog 9 ptrE b l.length (dat blk l)
theorem strK : Keyed Tryz.prog 9 := string_keyed Tryz.underlying9
theorem zeroF (w : World) : (zeroValue 102).run Tryz.prog w = .ok (.pointer none) w := by kernel_rfl
section
variable {w w' : World} {b : Nat} {blk : Nat → Nat} {l : Dir} {M : Nat → Prop}
theorem MapAt.lt (h : MapAt w b blk l) : b < w.heap.size := World.ownsMap.lt h
theorem MapAt.chd (h : MapAt w b blk l) (hc : Chd M w w') (hm : ¬ M b) : MapAt w' b blk l := by
  have hlt := h.lt
  obtain ⟨es, clock, hb, F, hs, hD⟩ := h
  exact ⟨es, clock, (hc.block b hlt hm).trans hb, F, hs, hD⟩
theorem MapAt.size {n : Nat} (h : w.ownsMap Tryz.prog 9 ptrE b n (dat blk l)) : MapAt w b blk l := by
  obtain ⟨es, clock, hb, F, hs, hD⟩ := h
  refine ⟨es, clock, hb, F, ?_, hD⟩
  have h1 := congrArg (fun d : DataW Unit => match d with | .map es => es.length | _ => 0) hD
  simp only [dat, List.length_map] at h1
  rw [h1, length_read]
  exact Nat.le_refl _
theorem MapAt.congr (h : MapAt w b blk l) {blk' : Nat → Nat} {n : Nat} (hl : ∀ e ∈ l, e.2 < n) (hb : ∀ i, i < n → blk' i = blk i) : MapAt w b blk' l := by
  unfold MapAt at *
  rw [dat_congr hl hb]
  exact h
theorem MapAt.found (h : MapAt w b blk l) (p : Str) (hp : p.length ≤ maxLen) :
    (Instr.lookup 77 (.map (some b)) (.string ⟨p.toArray⟩) false).run Tryz.prog w = .ok (match look l p with | some f => fptr (blk f) | none => .pointer none) w := by
  have hkey : keyOf Tryz.prog 9 (.string ⟨p.toArray⟩) = some (.string p) := WideMaps.keyOf_string_mk (s := ⟨p.toArray⟩) Tryz.underlying9 (by show p.toArray.size ≤ maxLen; simpa using hp)
  obtain ⟨v, ps, hrun, hv⟩ := World.ownsMap.lookup h strK Tryz.underlying77 (zeroF w) (show ptrE (.pointer none) = some (.nil, []) from rfl) hkey
  rw [hrun]
  rw [dat_look] at hv
  cases e : look l p with
  | none => rw [e] at hv; rw [ptrE_nil hv]
  | some f => rw [e] at hv; rw [ptrE_ptr hv]; rfl
theorem MapAt.store (h : MapAt w b blk l) (p : Str) (f : Nat) (hp : p.length ≤ maxLen) (hl : l.length < maxLen) :
    ∃ w', (Instr.mapUpdate 77 (.map (some b)) (.string ⟨p.toArray⟩) (fptr (blk f))).run Tryz.prog w = .ok () w' ∧ MapAt w' b blk (put l p f) ∧ w.grownBy w' (some b) := by
  have hkey : keyOf Tryz.prog 9 (.string ⟨p.toArray⟩) = some (.string p) := WideMaps.keyOf_string_mk (s := ⟨p.toArray⟩) Tryz.underlying9 (by show p.toArray.size ≤ maxLen; simpa using hp)
  obtain ⟨w', hrun, h1, h2⟩ := World.ownsMap.update h strK Tryz.underlying77 hl hkey (show ptrE (fptr (blk f)) = some (.lit (.int .i64 (blk f : Nat)), []) from rfl)
  rw [dat_put] at h1
  exact ⟨w', hrun, MapAt.size h1, h2⟩
theorem MapAt.drop (h : MapAt w b blk l) (p : Str) (hp : p.length ≤ maxLen) (ty : TypeId) :
    ∃ w', (Builtin.delete_ #[77, 9] ty #[.map (some b), .string ⟨p.toArray⟩]).run Tryz.prog w = .ok (.tuple #[]) w' ∧ MapAt w' b blk (era l p) ∧ w.grownBy w' (some b) := by
  have hkey : keyOf Tryz.prog 9 (.string ⟨p.toArray⟩) = some (.string p) := WideMaps.keyOf_string_mk (s := ⟨p.toArray⟩) Tryz.underlying9 (by show p.toArray.size ≤ maxLen; simpa using hp)
  obtain ⟨w', hrun, h1, h2⟩ := World.ownsMap.drop h strK Tryz.underlying77 hkey ty
  rw [dat_era] at h1
  exact ⟨w', hrun, MapAt.size h1, h2.grown⟩
end
theorem MapAt.made (w : World) (blk : Nat → Nat) : MapAt (w.alloc (.map #[] 0)) w.heap.size blk [] := World.ownsMap_made w _ _ _

/-! ### Files, changes, trees -/
/-- A slice's block, if it has one, bears the tag. -/
def Tg (tag : Nat → Nat) (A : Option Addr) (t : Nat) : Prop := ∀ g, A = some ⟨g, 0, none⟩ → tag g = t
structure FileAt (w : World) (tag : Nat → Nat) (fb i : Nat) (x : Fil) : Prop where
  ex : ∃ A n c A2 n2 c2, BlkIs w fb 101 #[.slice A n c, .slice A2 n2 c2, .int .u64 (x.st : Int)] ∧ Own w 0 A n c x.now ∧ Own w 0 A2 n2 c2 x.sf ∧ (A2 = A → n2 ≤ n) ∧ Tg tag A (11 + 2 * i) ∧ Tg tag A2 (11 + 2 * i)
  tg : tag fb = 10 + 2 * i
structure Gh where
  mf : Nat
  ms : Nat
  cv : Value
  vs : List Value
  blk : Nat → Nat
  tag : Nat → Nat
def boxP (b : Nat) : Value := .pointer (some ⟨b, 0, none⟩)
def StrBox (w : World) (tag : Nat → Nat) (b : Nat) (p : Str) : Prop := BlkIs w b 9 #[.string ⟨p.toArray⟩] ∧ tag b = 5
def PtrBox (w : World) (tag : Nat → Nat) (b fb : Nat) : Prop := BlkIs w b 102 #[fptr fb] ∧ tag b = 5
def ChAt (w : World) (tag : Nat → Nat) (blk : Nat → Nat) : Value → Chg → Prop
  | v, .mk p f => ∃ b1 b2, v = .func (.func 134) #[] #[boxP b1, boxP b2] ∧ PtrBox w tag b1 (blk f) ∧ StrBox w tag b2 p
  | v, .mv p q f => ∃ b1 b2 b3, v = .func (.func 136) #[] #[boxP b1, boxP b2, boxP b3] ∧ StrBox w tag b1 p ∧ PtrBox w tag b2 (blk f) ∧ StrBox w tag b3 q
  | v, .rm p => ∃ b1, v = .func (.func 149) #[] #[boxP b1] ∧ StrBox w tag b1 p
def ChsAt (w : World) (tag : Nat → Nat) (blk : Nat → Nat) (vs : List Value) (cs : List Chg) : Prop := ∀ (i : Nat) (c : Chg), cs[i]? = some c → ∃ v, vs[i]? = some v ∧ ChAt w tag blk v c
def treeC (s : St) (g : Gh) : Array Value := #[.int .i64 s.room, .int .i64 s.used, .int .u64 (s.clock : Int), .map (some g.mf), .map (some g.ms), g.cv, .int .i64 s.fuse, .bool s.off]
structure TreeAt (w : World) (tb : Nat) (s : St) (g : Gh) : Prop where
  top : BlkIs w tb 81 (treeC s g)
  topT : g.tag tb = 1
  mfT : g.tag g.mf = 2
  msT : g.tag g.ms = 3
  mfA : MapAt w g.mf g.blk s.files
  msA : MapAt w g.ms g.blk s.safe
  row : w.ownsRow 0 140 1 g.cv s.chs.length g.vs
  rowT : ∀ b, g.cv.ownBlock = some b → g.tag b = 4
  chs : ChsAt w g.tag g.blk g.vs s.chs
  fil : ∀ i, i < s.fil.length → FileAt w g.tag (g.blk i) i (s.at_ i)
  dom : ∀ j, g.tag j ≠ 0 → j < w.heap.size
  apart : g.mf ≠ g.ms

section
variable {w w' : World} {tag : Nat → Nat} {blk : Nat → Nat} {M : Nat → Prop}
theorem StrBox.chd {b : Nat} {p : Str} (h : StrBox w tag b p) (hc : Chd M w w') (hm : ∀ j, M j → tag j ≠ 5) : StrBox w' tag b p := ⟨h.1.chd hc (fun e => hm b e h.2), h.2⟩
theorem PtrBox.chd {b fb : Nat} (h : PtrBox w tag b fb) (hc : Chd M w w') (hm : ∀ j, M j → tag j ≠ 5) : PtrBox w' tag b fb := ⟨h.1.chd hc (fun e => hm b e h.2), h.2⟩
theorem ChAt.chd {v : Value} {c : Chg} (h : ChAt w tag blk v c) (hc : Chd M w w') (hm : ∀ j, M j → tag j ≠ 5) : ChAt w' tag blk v c := by
  cases c with
  | mk p f => obtain ⟨b1, b2, e, h1, h2⟩ := h; exact ⟨b1, b2, e, h1.chd hc hm, h2.chd hc hm⟩
  | mv p q f => obtain ⟨b1, b2, b3, e, h1, h2, h3⟩ := h; exact ⟨b1, b2, b3, e, h1.chd hc hm, h2.chd hc hm, h3.chd hc hm⟩
  | rm p => obtain ⟨b1, e, h1⟩ := h; exact ⟨b1, e, h1.chd hc hm⟩
theorem chs_chd {vs : List Value} {cs : List Chg} (h : ChsAt w tag blk vs cs) (hc : Chd M w w') (hm : ∀ j, M j → tag j ≠ 5) : ChsAt w' tag blk vs cs := fun i c hi => by
  obtain ⟨v, hv, ha⟩ := h i c hi
  exact ⟨v, hv, ha.chd hc hm⟩
theorem FileAt.chd {fb i : Nat} {x : Fil} (h : FileAt w tag fb i x) (hc : Chd M w w') (hm : ∀ j, M j → tag j ≠ 10 + 2 * i ∧ tag j ≠ 11 + 2 * i) : FileAt w' tag fb i x := by
  obtain ⟨A, n, c, A2, n2, c2, hb, h1, h2, h3, t1, t2⟩ := h.ex
  exact ⟨⟨A, n, c, A2, n2, c2, hb.chd hc (fun e => (hm fb e).1 h.tg), own_chd h1 hc (fun g hg e => (hm g e).2 (t1 g hg)), own_chd h2 hc (fun g hg e => (hm g e).2 (t2 g hg)), h3, t1, t2⟩, h.tg⟩
end

/-- The tree is what it was while other blocks turn. -/
theorem TreeAt.chd {w w' : World} {tb : Nat} {s : St} {g : Gh} {M : Nat → Prop} (h : TreeAt w tb s g) (hc : Chd M w w') (hm : ∀ j, M j → g.tag j = 0) : TreeAt w' tb s g :=
  { top := h.top.chd hc (fun e => by have := hm _ e; rw [h.topT] at this; omega)
    topT := h.topT, mfT := h.mfT, msT := h.msT
    mfA := h.mfA.chd hc (fun e => by have := hm _ e; rw [h.mfT] at this; omega)
    msA := h.msA.chd hc (fun e => by have := hm _ e; rw [h.msT] at this; omega)
    row := row_chd h.row hc (fun b hb e => by have := hm _ e; rw [h.rowT b hb] at this; omega)
    rowT := h.rowT
    chs := chs_chd h.chs hc (fun j e => by have := hm _ e; omega)
    fil := fun i hi => (h.fil i hi).chd hc (fun j e => by have := hm _ e; omega)
    dom := fun j hj => Nat.lt_of_lt_of_le (h.dom j hj) hc.size
    apart := h.apart }
theorem TreeAt.nx {w w' : World} {tb : Nat} {s : St} {g : Gh} (h : TreeAt w tb s g) (hb : Below w.heap.size w w') : TreeAt w' tb s g :=
  h.chd (M := fun _ => False) (Chd.of_below hb) (fun _ e => e.elim)
/-- What a call on the tree may turn: the tree's own blocks. -/
def Mine (g : Gh) (j : Nat) : Prop := g.tag j ≠ 0
/-- The tree's blocks are those that it had, and new ones. -/
def Gh.le (w : World) (g g' : Gh) : Prop := ∀ j, g'.tag j ≠ 0 → g.tag j ≠ 0 ∨ w.heap.size ≤ j
theorem Gh.le_refl (w : World) (g : Gh) : Gh.le w g g := fun j h => .inl h
theorem Gh.le_trans {w w' : World} {g g' g'' : Gh} (h : Gh.le w g g') (k : Gh.le w' g' g'') (hs : w.heap.size ≤ w'.heap.size) : Gh.le w g g'' := fun j hj => by
  rcases k j hj with h1 | h1
  · exact h j h1
  · exact .inr (Nat.le_trans hs h1)
end Go.Proofs.YtiikjdjpodmpcaaGreat

/- Package path's names at this program: what isNoPath's parts return, of strings as lists of bytes. -/
namespace Go.Proofs.YtiikjdjpodmpcaaGreat
open Go.RowKit
open Go.Lib (decDigits)
set_option linter.unusedVariables false

/-- A string of those bytes. -/
def S (l : List UInt8) : ByteArray := ⟨l.toArray⟩
theorem S_of (s : ByteArray) : S s.data.toList = s := Lib.mk_data s
theorem S_list (l : List UInt8) : (S l).data.toList = l := rfl
theorem S_toList (l : List UInt8) : (S l).toList = l := by rw [Lib.toList_data]; rfl
theorem S_size (l : List UInt8) : (S l).size = l.length := by rw [Lib.size_eq]; rfl
theorem S_extract (l : List UInt8) (a b : Nat) : (S l).extract a b = S ((l.drop a).take (b - a)) := Lib.extract_eq (S l) a b
theorem S_append (a b : List UInt8) : S a ++ S b = S (a ++ b) := by
  unfold S
  apply ByteArray.ext
  simp
theorem S_nil : S [] = ⟨#[]⟩ := rfl
theorem S_inj {a b : List UInt8} : S a = S b ↔ a = b := ⟨fun h => congrArg (fun s : ByteArray => s.data.toList) h, fun h => h ▸ rfl⟩

def firstPos (c : UInt8) (l : List UInt8) : Int := match cutF c l with | some p => (p.1.length : Int) | none => -1
def lastPos (c : UInt8) (l : List UInt8) : Int := match cutL c l with | some p => (p.1.length : Int) | none => -1
theorem indexByte_first (c : UInt8) : ∀ l : List UInt8, Lib.indexByte l c = firstPos c l
  | [] => rfl
  | x :: l => by
    have ih := indexByte_first c l
    unfold Lib.indexByte firstPos cutF
    by_cases h : x = c
    · simp [h]
    · have hb : (x == c) = false := by simp [h]
      rw [hb, if_neg h, ih]
      unfold firstPos
      cases cutF c l with
      | none => rfl
      | some p =>
        simp
theorem firstPos_cases (c : UInt8) (l : List UInt8) : (firstPos c l = -1 ∧ cutF c l = none) ∨ (∃ a b, cutF c l = some (a, b) ∧ l = a ++ c :: b ∧ c ∉ a ∧ firstPos c l = (a.length : Int)) := by
  unfold firstPos
  cases e : cutF c l with
  | none => exact .inl ⟨rfl, rfl⟩
  | some p => exact .inr ⟨p.1, p.2, rfl, (cutF_some.1 e).1, (cutF_some.1 e).2, rfl⟩
theorem lastPos_cases (c : UInt8) (l : List UInt8) : (lastPos c l = -1 ∧ cutL c l = none) ∨ (∃ a b, cutL c l = some (a, b) ∧ l = a ++ c :: b ∧ c ∉ b ∧ lastPos c l = (a.length : Int)) := by
  unfold lastPos
  cases e : cutL c l with
  | none => exact .inl ⟨rfl, rfl⟩
  | some p => exact .inr ⟨p.1, p.2, rfl, (cutL_some.1 e).1, (cutL_some.1 e).2, rfl⟩

/-- What was there is as it was. -/
def Nx (w w' : World) : Prop := Below w.heap.size w w'
theorem Nx.refl (w : World) : Nx w w := Below.refl _ _
theorem Nx.trans {a b c : World} (h : Nx a b) (k : Nx b c) : Nx a c := Below.trans h (Below.mono k h.size)
theorem Nx.drew {a b : World} (h : Nx a b) : Nx a b.drew := Below.drew h
theorem Nx.drewN {a b : World} (h : Nx a b) (n : Nat) : Nx a (b.drewN n) := ⟨h.os, h.tape, h.output, h.size, h.block⟩
theorem Nx.alloc {a b : World} (h : Nx a b) (o : Obj) : Nx a (b.alloc o) := Below.alloc h h.size o
theorem Nx.of_below {w w' : World} (h : Below w.heap.size w w') : Nx w w' := h
/-- What strings.Cut returns at one byte. -/
def IsCut (c : UInt8) (l a b : List UInt8) (t : Bool) : Prop := (cutF c l = some (a, b) ∧ t = true) ∨ (cutF c l = none ∧ a = l ∧ b = [] ∧ t = false)
theorem isCut_ex (c : UInt8) (l : List UInt8) : ∃ a b t, IsCut c l a b t := by
  cases e : cutF c l with
  | none => exact ⟨l, [], false, .inr ⟨e, rfl, rfl, rfl⟩⟩
  | some p => exact ⟨p.1, p.2, true, .inl ⟨e, rfl⟩⟩
/-- internal/stringslite.Cut at one byte. -/
theorem cut1_any (w : World) (l : List UInt8) (c : UInt8) (hl : l.length ≤ 1000000000000) (a b : List UInt8) (t : Bool) (h : IsCut c l a b t) :
    Calls Tryz.prog 150 #[.string (S l), .string ⟨#[c]⟩] w fun e w' => e = .returned (.tuple #[.string (S a), .string (S b), .bool t]) ∧ Nx w w' := by
  have H := Tryz.stringslite_Index_one (S l) c w
  rw [S_list, indexByte_first] at H
  have hsz := S_size l
  rcases h with ⟨h, rfl⟩ | ⟨h, rfl, rfl, rfl⟩
  · obtain ⟨h1, h2⟩ := cutF_some.1 h
    have hp : firstPos c l = (a.length : Int) := by unfold firstPos; rw [h]
    have e1 : (S l).extract 0 a.length = S a := by rw [S_extract, h1]; simp
    have e2 : (S l).extract (a.length + 1) (S l).size = S b := by
      rw [S_extract, S_size, h1]
      congr 1
      rw [List.drop_append, List.take_of_length_le (by simp; omega)]
      simp
    have hlen : a.length + 1 ≤ l.length := by rw [h1]; simp
    rw [hp] at H
    rw [hsz] at e2
    generalize a.length = n at *
    have X := Lib.hid H
    have E1 := Lib.hid e1
    have E2 := Lib.hid e2
    have i1 : (n : Int) ≤ (l.length : Int) := by omega
    have i2 : (n : Int) + 1 ≤ (l.length : Int) := by omega
    clear H e1 e2 h1 h2 h hp
    generalize S l = s at *
    generalize l.length = m at *
    go_enter Tryz.func150, Tryz.ntmps150
    go_wp2_with fail
    refine X.out.mono ?_
    rintro e w' ⟨rfl, rfl⟩
    go_wp2_with fail
    go_quiet (fail)
    go_wp2
    go_ret3
    rw [← E1.out, ← E2.out]
    exact ⟨rfl, (Nx.refl _).drewN _⟩
  · have hp : firstPos c a = -1 := by unfold firstPos; rw [h]
    rw [hp] at H
    have X := Lib.hid H
    clear H h hp hsz
    generalize S a = s at *
    go_enter Tryz.func150, Tryz.ntmps150
    go_wp2_with fail
    refine X.out.mono ?_
    rintro e w' ⟨rfl, rfl⟩
    go_wp2
    go_ret3
    exact ⟨rfl, Nx.refl _⟩
theorem cut_any (w : World) (l : List UInt8) (c : UInt8) (hl : l.length ≤ 1000000000000) (a b : List UInt8) (t : Bool) (h : IsCut c l a b t) :
    Calls Tryz.prog 139 #[.string (S l), .string ⟨#[c]⟩] w fun e w' => e = .returned (.tuple #[.string (S a), .string (S b), .bool t]) ∧ Nx w w' := by
  have X := Lib.hid (cut1_any w l c hl a b t h)
  clear h
  go_enter Tryz.func139, Tryz.ntmps139
  go_wp2_with fail
  refine X.out.mono ?_
  rintro e w' ⟨rfl, hb⟩
  have Hb := Lib.hid hb
  clear hb X
  go_wp2
  go_ret3
  exact ⟨rfl, Hb.out⟩

theorem clone_any (w : World) (s : ByteArray) (hl : s.size ≤ 1000000000000) :
    Calls Tryz.prog 39 #[.string s] w fun e w' => e = .returned (.string s) ∧ Nx w w' := by
  have X := Lib.hid (Tryz.stringslite_Clone s w (by omega))
  go_enter Tryz.func39, Tryz.ntmps39
  go_wp2_with fail
  refine X.out.mono ?_
  rintro e w' ⟨rfl, hb⟩
  have Hb := Lib.hid hb
  clear hb X
  go_wp2
  go_ret
  exact ⟨rfl, Hb.out⟩
theorem own_any (w : World) (s : ByteArray) (hl : s.size ≤ 1000000000000) :
    Calls Tryz.prog 168 #[.string s] w fun e w' => e = .returned (.string s) ∧ Nx w w' := by
  have X := Lib.hid (clone_any w s hl)
  go_enter Tryz.func168, Tryz.ntmps168
  go_wp2_with fail
  refine X.out.mono ?_
  rintro e w' ⟨rfl, hb⟩
  have Hb := Lib.hid hb
  clear hb X
  go_wp2
  go_ret
  exact ⟨rfl, Hb.out⟩

theorem run_bytes_of_text (w : World) (l : List UInt8) (hs : l.length ≤ maxLen) :
    ∃ c w', (convert 147 22 (.string (S l))).run Tryz.prog w = .ok (.slice (some ⟨w.heap.size, 0, none⟩) l.length c) w' ∧
      (∀ j, j < l.length → w'.cell? ⟨w.heap.size, j, none⟩ = some (.int .u8 (nth l j))) ∧ l.length ≤ c ∧ Nx w w' := by
  have hs' : (S l).size ≤ maxLen := by rw [S_size]; exact hs
  refine ⟨_, _, (by rw [← S_size]; exact Lib.run_convert_string_bytes w _ _ _ (S l) Tryz.underlying147 Tryz.underlying22 Tryz.underlying5), ?_, ?_, ?_⟩
  · intro j hj
    rw [Lib.bytesWorld_cell _ _ _ _ (by rw [S_size]; exact hj)]
    rfl
  · rw [← S_size]
    exact grownCap_ge _ _ _ _
  · exact ⟨rfl, rfl, rfl, by rw [Lib.bytesWorld_size]; omega, fun k hk => Lib.bytesWorld_at_old _ _ _ _ hk⟩
theorem run_index_text (w : World) (l : List UInt8) (j : Nat) (hj : j < l.length) : (Instr.index 147 (.string (S l)) (.int .i64 (j : Int))).run Tryz.prog w = .ok (.int .u8 (nth l j)) w := by
  have hb : l[j]? = some l[j] := List.getElem?_eq_getElem hj
  have hg : (⟨l.toArray⟩ : ByteArray)[j]? = some l[j] := by
    have h2 : j < (⟨l.toArray⟩ : ByteArray).size := hj
    rw [ByteArray.getElem?_lt' _ _ h2]
    have := (List.getElem?_eq_some_iff.1 hb).2
    exact congrArg some this
  have h0 : (0 : Int) ≤ (j : Int) := by omega
  rw [nth_eq l j hj]
  unfold S
  simp [Instr.index, asIntOf, Sem.run_bind, run_underlying Tryz.underlying147 w, h0, hg]

def lettersL : List UInt8 := [97, 98, 99, 100, 101, 102, 103, 104, 105, 106, 107, 108, 109, 110, 111, 112, 113, 114, 115, 116, 117, 118, 119, 120, 121, 122, 48, 49, 50, 51, 52, 53, 54, 55, 56, 57, 45, 95, 46]
def letPos (x : UInt8) : Int := Lib.indexByte lettersL x
theorem letPos_ok (x : UInt8) : (letPos x < 0) = (okCh x = false) := by
  have : ∀ j : Fin 256, decide (letPos (UInt8.ofNat j.val) < 0) = !okCh (UInt8.ofNat j.val) := by decide +kernel
  have h := this ⟨x.toNat, x.toNat_lt⟩
  simp only [UInt8.ofNat_toNat] at h
  rw [eq_iff_iff]
  constructor
  · intro h1
    rw [decide_eq_true h1] at h
    simpa using h.symm
  · intro h1
    rw [h1] at h
    simpa using h
theorem letters_any (w : World) (x : UInt8) (n : Int) (hn : n = (x.toNat : Int)) :
    Calls Tryz.prog 151 #[.string ⟨#[97, 98, 99, 100, 101, 102, 103, 104, 105, 106, 107, 108, 109, 110, 111, 112, 113, 114, 115, 116, 117, 118, 119, 120, 121, 122, 48, 49, 50, 51, 52, 53, 54, 55, 56, 57, 45, 95, 46]⟩, .int .u8 n] w fun e w' => e = .returned (.int .i64 (letPos x)) ∧ w = w' := by
  have H := Tryz.strings_IndexByte ⟨#[97, 98, 99, 100, 101, 102, 103, 104, 105, 106, 107, 108, 109, 110, 111, 112, 113, 114, 115, 116, 117, 118, 119, 120, 121, 122, 48, 49, 50, 51, 52, 53, 54, 55, 56, 57, 45, 95, 46]⟩ n w
  have e : n.toNat.toUInt8 = x := by subst hn; simp
  rw [e] at H
  refine H.mono ?_
  rintro e w' ⟨h1, h2⟩
  exact ⟨h1, h2.symm⟩

def okTo (l : List UInt8) (i : Nat) : Prop := ∀ j, j < i → okCh (l.getD j 0) = true
theorem okTo_all {l : List UInt8} (h : okTo l l.length) : l.all okCh = true := by
  rw [List.all_eq_true]
  intro x hx
  obtain ⟨j, hj, rfl⟩ := List.getElem_of_mem hx
  have := h j hj
  simpa [List.getD, hj] using this
theorem okTo_not {l : List UInt8} {i : Nat} (hi : i < l.length) (h : okCh (l.getD i 0) = false) : l.all okCh = false := by
  rw [List.all_eq_false]
  refine ⟨l[i], List.getElem_mem hi, ?_⟩
  simpa [List.getD, hi] using h

set_option maxRecDepth 100000 in
theorem isName_any (w : World) (l : List UInt8) (hl : l.length ≤ 1000000000000) :
    Calls Tryz.prog 140 #[.string (S l)] w fun e w' => e = .returned (.bool (isName l)) ∧ Nx w w' := by
  have hsz := S_size l
  by_cases h0 : l = []
  · subst h0
    rw [name_nil, S_nil]
    clear hsz
    go_enter Tryz.func140, Tryz.ntmps140
    go_wp2
    go_ret
    exact ⟨rfl, Nx.refl _⟩
  have hpos : 1 ≤ l.length := List.length_pos_iff.2 h0
  by_cases h24 : 24 < l.length
  · have hn : isName l = false := by simp [isName, Nat.not_le.2 h24]
    rw [hn]
    have i1 : (24 : Int) < (l.length : Int) := by omega
    have i2 : (1 : Int) ≤ (l.length : Int) := by omega
    generalize S l = s at *
    generalize l.length = n at *
    clear h0 hn
    go_enter Tryz.func140, Tryz.ntmps140
    go_wp2
    go_ret
    exact ⟨rfl, Nx.refl _⟩
  have hx0 := fun W => run_index_text W l 0 hpos
  have hhead : l.head? = some (l.getD 0 0) := by cases l with
    | nil => exact absurd rfl h0
    | cons a l => rfl
  by_cases h46 : l.getD 0 0 = 46
  · have hn : isName l = false := by
      unfold isName
      rw [hhead, h46]
      simp
    rw [hn]
    have e0 : nth l 0 = 46 := by unfold nth; rw [h46]; rfl
    rw [e0] at hx0
    simp only [Int.natCast_zero] at hx0
    have i1 : ¬ (24 : Int) < (l.length : Int) := by omega
    have i2 : (1 : Int) ≤ (l.length : Int) := by omega
    generalize S l = s at *
    generalize l.length = n at *
    clear h0 hn hhead h46 e0
    go_enter Tryz.func140, Tryz.ntmps140
    go_wp2
    go_ret
    exact ⟨rfl, Nx.refl _⟩
  have e46 : (nth l 0 == (46 : Int)) = false := by
    unfold nth
    simp only [beq_eq_false_iff_ne, ne_eq]
    intro h
    apply h46
    have : (l.getD 0 0).toNat = 46 := by omega
    rw [← UInt8.toNat_inj, this]
    rfl
  have hn : isName l = l.all okCh := by
    unfold isName
    rw [hhead]
    have e1 : (some (l.getD 0 0) != some 46) = true := by simpa [bne_iff_ne] using h46
    rw [e1, decide_eq_true hpos, decide_eq_true (show l.length ≤ 24 by omega)]
    rfl
  simp only [Int.natCast_zero] at hx0
  rw [hn]
  obtain ⟨c, w1, hrun, hcell, hc, hnx⟩ := run_bytes_of_text w l (by unfold maxLen; omega)
  have Hcell := Lib.hid hcell
  have Hnx := Lib.hid hnx
  have Hall : Hid (okTo l l.length → l.all okCh = true) := okTo_all
  have Hnot : Hid (∀ i, i < l.length → okCh (l.getD i 0) = false → l.all okCh = false) := fun i => okTo_not
  have i1 : ¬ (24 : Int) < (l.length : Int) := by omega
  have i2 : (1 : Int) ≤ (l.length : Int) := by omega
  have hl24 : l.length ≤ 24 := by omega
  generalize S l = s at *
  generalize nth l 0 = x0 at *
  generalize hN : l.length = n at *
  clear h0 hn hhead h46 hcell hnx
  generalize l.all okCh = R at *
  go_enter Tryz.func140, Tryz.ntmps140
  go_wp2
  have HN := Lib.hid hN
  clear hN hrun hx0
  go_loopw [21] (fun x wr => ∃ i : Nat, x = .int .i64 i ∧ i ≤ n ∧ wr = w1 ∧ Hid (okTo l i)) (fun x _ => n - (intOf x).toNat)
  case atStart => exact ⟨0, rfl, Nat.zero_le _, rfl, fun j hj => absurd hj (by omega)⟩
  case round =>
    obtain ⟨i, rfl, hi, rfl, hok⟩ := hrel
    by_cases hlt : i < n
    · have hcell := Hcell.out i hlt
      have hnth : nth l i = ((l.getD i 0).toNat : Int) := rfl
      have hlast : okCh (l.getD i 0) = false → R = false := Hnot.out i hlt
      have hgood : okCh (l.getD i 0) = true → okTo l (i + 1) := fun h j hj => by
        by_cases e : j = i
        · rw [e]; exact h
        · exact hok.out j (by omega)
      have hlet := letPos_ok (l.getD i 0)
      have hlo := nth_lo l i
      have hhi := nth_hi l i
      generalize nth l i = v at *
      generalize l.getD i 0 = y at *
      have X := Lib.hid (fun W => letters_any W y v hnth)
      have Hlast := Lib.hid hlast
      have Hgood := Lib.hid hgood
      have Hlet := Lib.hid hlet
      clear hnth hlast hgood hlet hok
      go_wp2_with fail
      refine (X.out wr).mono ?_
      rintro e w' ⟨rfl, rfl⟩
      by_cases hneg : letPos y < 0
      · have hR := Hlast.out (Hlet.out ▸ hneg)
        subst hR
        have hd : decide (letPos y < 0) = true := by simpa using hneg
        clear Hlast Hgood Hlet X
        generalize letPos y = p at *
        go_wp2
        go_ret
        exact ⟨rfl, Hnx.out⟩
      · have hd : decide (letPos y < 0) = false := by simpa using hneg
        have hg := Hgood.out (by
          cases e : okCh y with
          | true => rfl
          | false => exact absurd (Hlet.out.symm ▸ e) hneg)
        have Hg := Lib.hid hg
        clear Hlast Hgood Hlet X hg
        generalize letPos y = p at *
        go_wp2
        go_roundw
        case rel => exact ⟨i + 1, by go_num, hlt, by first | trivial | rfl, Hg.out⟩
        case measure => simp [intOf]; omega
    · obtain rfl : i = n := by omega
      have hR := Hall.out hok.out
      subst hR
      clear hok
      go_wp2
      go_ret
      exact ⟨rfl, Hnx.out⟩

def isNamesK (k : Nat) (l : List UInt8) : Bool := decide ((names l).length ≤ k) && (names l).all isName
theorem names_cut {c a b : List UInt8} (h : cutF 47 c = some (a, b)) : names c = a :: names b := by
  obtain ⟨h1, h2⟩ := cutF_some.1 h
  rw [h1, names_append, names_none h2]
  rfl
theorem isNamesK_zero (l : List UInt8) : isNamesK 0 l = false := by
  unfold isNamesK
  have : ¬ (names l).length ≤ 0 := by
    have := List.length_pos_iff.2 (names_ne l)
    omega
  rw [decide_eq_false this]
  rfl
theorem isNamesK_cut {k : Nat} {c a b : List UInt8} (h : cutF 47 c = some (a, b)) : isNamesK (k + 1) c = (isName a && isNamesK k b) := by
  unfold isNamesK
  rw [names_cut h, List.length_cons, List.all_cons]
  have : decide ((names b).length + 1 ≤ k + 1) = decide ((names b).length ≤ k) := by simp
  rw [this]
  cases isName a <;> cases decide ((names b).length ≤ k) <;> rfl
theorem isNamesK_one {k : Nat} {c : List UInt8} (h : cutF 47 c = none) : isNamesK (k + 1) c = isName c := by
  unfold isNamesK
  rw [names_none (cutF_none.1 h)]
  simp
theorem isPath_K (l : List UInt8) : isPath l = (decide (l.length ≤ 64) && isNamesK 4 l) := by
  unfold isPath isNamesK
  rw [Bool.and_assoc]

set_option maxRecDepth 100000 in
theorem isNames_any (w : World) (l : List UInt8) (hl : l.length ≤ 1000000000000) :
    Calls Tryz.prog 115 #[.string (S l)] w fun e w' => e = .returned (.bool (isNamesK 4 l)) ∧ Nx w w' := by
  generalize hR : isNamesK 4 l = R
  have HR := Lib.hid hR
  have Hl := Lib.hid hl
  clear hR hl
  generalize hs : S l = s
  have Hs := Lib.hid hs
  clear hs
  go_enter Tryz.func115, Tryz.ntmps115
  go_wp2
  go_loopw [3, 8] (fun y x wr => ∃ (i : Nat) (r : List UInt8), x = .int .i64 i ∧ y = .string (S r) ∧ i ≤ 4 ∧ Nx w wr ∧ Hid (isNamesK (4 - i) r = R ∧ r.length ≤ 1000000000000)) (fun _ x _ => 4 - (intOf x).toNat)
  case atStart => exact ⟨0, l, rfl, by rw [Hs.out], Nat.zero_le _, Nx.refl _, HR.out, Hl.out⟩
  case round =>
    obtain ⟨i, r, rfl, rfl, hi, hnx, hr⟩ := hrel
    have Hnx := Lib.hid hnx
    clear hnx
    by_cases hlt : i < 4
    · obtain ⟨a, b, t, hcut⟩ := isCut_ex 47 r
      have hla : a.length ≤ 1000000000000 ∧ b.length ≤ 1000000000000 := by
        have := hr.out.2
        rcases hcut with ⟨h, _⟩ | ⟨_, h1, h2, _⟩
        · have := congrArg List.length (cutF_some.1 h).1
          simp at this
          omega
        · subst h1 h2
          simp
          omega
      have X := Lib.hid (fun W => cut_any W r 47 hr.out.2 a b t hcut)
      have Y := Lib.hid (fun W => isName_any W a hla.1)
      have hstep : isNamesK (4 - i) r = (if t then (isName a && isNamesK (4 - (i + 1)) b) else isName a) := by
        obtain ⟨k, hk⟩ : ∃ k, 4 - i = k + 1 := ⟨3 - i, by omega⟩
        have hk2 : 4 - (i + 1) = k := by omega
        rw [hk, hk2]
        rcases hcut with ⟨h, rfl⟩ | ⟨h, rfl, rfl, rfl⟩
        · rw [isNamesK_cut h]
          rfl
        · rw [isNamesK_one h]
          rfl
      rw [hr.out.1] at hstep
      have Hstep := Lib.hid hstep
      have Hla := Lib.hid hla
      clear hstep hla hr hcut
      go_wp2_with fail
      refine (X.out wr).mono ?_
      rintro e w2 ⟨rfl, hb⟩
      have Hb := Lib.hid (Nx.trans Hnx.out hb)
      clear hb X
      go_wp2_with fail
      refine (Y.out w2).mono ?_
      rintro e w3 ⟨rfl, hb⟩
      have Hb3 := Lib.hid (Nx.trans Hb.out hb)
      clear hb Y Hb Hnx
      cases hn : isName a with
      | false =>
        have hRf : R = false := by have := Hstep.out; rw [hn] at this; cases t <;> simpa using this
        subst hRf
        clear hn
        go_wp2
        go_ret
        exact ⟨rfl, Hb3.out⟩
      | true =>
        cases t with
        | false =>
          have hRt : R = true := by have := Hstep.out; rw [hn] at this; simpa using this
          subst hRt
          clear hn
          go_wp2
          go_ret
          exact ⟨rfl, Hb3.out⟩
        | true =>
          have hnext : isNamesK (4 - (i + 1)) b = R := by have := Hstep.out; rw [hn] at this; simpa using this.symm
          have Hnext := Lib.hid hnext
          clear hn hnext Hstep
          go_wp2
          go_roundw
          case rel => exact ⟨i + 1, b, by go_num, rfl, by omega, Hb3.out, Hnext.out, Hla.out.2⟩
          case measure => simp [intOf]; omega
    · obtain rfl : i = 4 := by omega
      have hRf : R = false := by rw [← hr.out.1]; exact isNamesK_zero r
      subst hRf
      clear hr
      go_wp2
      go_ret
      exact ⟨rfl, Hnx.out⟩

theorem check_any (w : World) (l : List UInt8) :
    Calls Tryz.prog 73 #[.string (S l)] w fun e w' => e = .returned (.int .i64 (chk l)) ∧ Nx w w' := by
  have hsz := S_size l
  by_cases h : 64 < l.length
  · have hc : chk l = 3 := by unfold chk; rw [if_pos h]
    rw [hc]
    have i1 : (64 : Int) < (l.length : Int) := by omega
    clear hc
    generalize S l = s at *
    generalize l.length = n at *
    go_enter Tryz.func73, Tryz.ntmps73
    go_wp2
    go_ret
    exact ⟨rfl, Nx.refl _⟩
  · have hc : chk l = if isNamesK 4 l then 0 else 2 := by
      unfold chk
      rw [if_neg h, isPath_K, decide_eq_true (show l.length ≤ 64 by omega)]
      rfl
    rw [hc]
    have X := Lib.hid (isNames_any w l (by omega))
    have i1 : ¬ (64 : Int) < (l.length : Int) := by omega
    clear hc
    generalize S l = s at *
    generalize l.length = n at *
    cases e : isNamesK 4 l with
    | true =>
      rw [e] at X
      clear e
      go_enter Tryz.func73, Tryz.ntmps73
      go_wp2_with fail
      refine X.out.mono ?_
      rintro e w2 ⟨rfl, hb⟩
      have Hb := Lib.hid hb
      clear hb X
      go_wp2
      go_ret
      exact ⟨rfl, Hb.out⟩
    | false =>
      rw [e] at X
      clear e
      go_enter Tryz.func73, Tryz.ntmps73
      go_wp2_with fail
      refine X.out.mono ?_
      rintro e w2 ⟨rfl, hb⟩
      have Hb := Lib.hid hb
      clear hb X
      go_wp2
      go_ret
      exact ⟨rfl, Hb.out⟩
theorem chk_bne {l : List UInt8} (h : isPath l = false) : ((chk l) != 0) = true := by
  rw [bne_iff_ne]
  intro h2
  rw [chk_zero.1 h2] at h
  exact absurd h (by decide)
theorem temped_any (w : World) (l : List UInt8) :
    Calls Tryz.prog 153 #[.string (S l)] w fun e w' => e = .returned (.tuple #[.string (S (tempedR l).1), .bool (tempedR l).2]) ∧ Nx w w' := by
  have X := Lib.hid (Tryz.strings_CutPrefix (S l) ⟨#[46, 116, 109, 112, 47]⟩ w)
  have hp : Lib.hasPrefix (S l).data.toList (⟨#[46, 116, 109, 112, 47]⟩ : ByteArray).data.toList = tempL.isPrefixOf l := rfl
  have ht : Lib.trimPrefix (S l).data.toList (⟨#[46, 116, 109, 112, 47]⟩ : ByteArray).data.toList = if tempL.isPrefixOf l then l.drop 5 else l := rfl
  rw [hp, ht] at X
  unfold tempedR
  clear hp ht
  cases e1 : tempL.isPrefixOf l with
  | false =>
    rw [e1] at X
    rw [if_neg (by decide)] at X
    rw [Bool.false_and, if_neg (by decide)]
    simp only
    rw [S_nil]
    clear e1
    have hS : (⟨l.toArray⟩ : ByteArray) = S l := rfl
    rw [hS] at X
    clear hS
    generalize S l = s at *
    go_enter Tryz.func153, Tryz.ntmps153
    go_wp2_with fail
    refine X.out.mono ?_
    rintro e w1 ⟨rfl, rfl⟩
    clear X
    go_wp2
    go_ret2
    exact ⟨rfl, Nx.refl _⟩
  | true =>
    rw [e1] at X
    rw [if_pos rfl] at X
    rw [Bool.true_and]
    clear e1
    have hS : (⟨(l.drop 5).toArray⟩ : ByteArray) = S (l.drop 5) := rfl
    rw [hS] at X
    clear hS
    generalize l.drop 5 = p at *
    have Y := Lib.hid (fun W => check_any W p)
    cases e2 : isPath p with
    | false =>
      have hb := chk_bne e2
      rw [if_neg (by decide)]
      simp only
      rw [S_nil]
      clear e2
      generalize chk p = v at *
      generalize S p = q at *
      generalize S l = s at *
      go_enter Tryz.func153, Tryz.ntmps153
      go_wp2_with fail
      refine X.out.mono ?_
      rintro e w1 ⟨rfl, rfl⟩
      clear X
      go_wp2_with fail
      refine (Y.out w1).mono ?_
      rintro e w2 ⟨rfl, hb1⟩
      have H1 := Lib.hid hb1
      clear hb1 Y
      go_wp2
      go_ret2
      exact ⟨rfl, H1.out⟩
    | true =>
      have h0 : chk p = 0 := chk_zero.2 e2
      rw [h0] at Y
      rw [if_pos rfl]
      simp only
      have hl := (path_parts e2).len
      have O := Lib.hid (fun W => own_any W (S p) (by rw [S_size]; omega))
      clear e2 h0 hl
      generalize S p = q at *
      generalize S l = s at *
      go_enter Tryz.func153, Tryz.ntmps153
      go_wp2_with fail
      refine X.out.mono ?_
      rintro e w1 ⟨rfl, rfl⟩
      clear X
      go_wp2_with fail
      refine (Y.out w1).mono ?_
      rintro e w2 ⟨rfl, hb1⟩
      have H1 := Lib.hid hb1
      clear hb1 Y
      go_wp2_with fail
      refine (O.out w2).mono ?_
      rintro e w3 ⟨rfl, hb1⟩
      have H2 := Lib.hid (Nx.trans H1.out hb1)
      clear hb1 O H1
      go_wp2
      go_ret2
      exact ⟨rfl, H2.out⟩
end Go.Proofs.YtiikjdjpodmpcaaGreat

/- Package tree: what a call asks first: whether its paths are paths, whether the tree is one that New returned, and whether it is on. -/
namespace Go.Proofs.YtiikjdjpodmpcaaGreat
open Go.RowKit Go.Maps
set_option linter.unusedVariables false

theorem isNoPath_any (w : World) (l : Str) :
    Calls Tryz.prog 143 #[.string (S l)] w fun e w' => e = .returned (.bool (!okP l)) ∧ Nx w w' := by
  have X := Lib.hid (fun W => temped_any W l)
  have Y := Lib.hid (fun W => check_any W l)
  have hz := @chk_zero l
  unfold okP
  generalize S (tempedR l).1 = u at *
  generalize (tempedR l).2 = t at *
  generalize S l = s at *
  cases t with
  | true =>
    clear hz Y
    go_enter Tryz.func143, Tryz.ntmps143
    go_wp2_with fail
    refine (X.out w).mono ?_
    rintro e w1 ⟨rfl, hb⟩
    have H1 := Lib.hid hb
    clear hb X
    go_wp2
    go_ret
    exact ⟨rfl, H1.out⟩
  | false =>
    cases hp : isPath l with
    | true =>
      rw [hz.2 hp] at Y
      clear hz hp
      go_enter Tryz.func143, Tryz.ntmps143
      go_wp2_with fail
      refine (X.out w).mono ?_
      rintro e w1 ⟨rfl, hb⟩
      have H1 := Lib.hid hb
      clear hb X
      go_wp2_with fail
      refine (Y.out w1).mono ?_
      rintro e w2 ⟨rfl, hb⟩
      have H2 := Lib.hid (Nx.trans H1.out hb)
      clear hb Y H1
      go_wp2
      go_ret
      exact ⟨rfl, H2.out⟩
    | false =>
      have hb := chk_bne hp
      clear hz hp
      generalize chk l = v at *
      go_enter Tryz.func143, Tryz.ntmps143
      go_wp2_with fail
      refine (X.out w).mono ?_
      rintro e w1 ⟨rfl, hb⟩
      have H1 := Lib.hid hb
      clear hb X
      go_wp2_with fail
      refine (Y.out w1).mono ?_
      rintro e w2 ⟨rfl, hb⟩
      have H2 := Lib.hid (Nx.trans H1.out hb)
      clear hb Y H1
      go_wp2
      go_ret
      exact ⟨rfl, H2.out⟩

/-! ### A slice of strings -/
structure Strs (w : World) (A : Option Addr) (n : Nat) (ps : List Str) : Prop where
  len : ps.length = n
  le : n ≤ 1000000
  at_ : 0 < n → ∃ b, A = some ⟨b, 0, none⟩ ∧ b < w.heap.size ∧ ∀ j, j < n → w.cell? ⟨b, j, none⟩ = some (.string (S (ps.getD j [])))
theorem Strs.nx {w w' : World} {A : Option Addr} {n : Nat} {ps : List Str} (h : Strs w A n ps) (k : Nx w w') : Strs w' A n ps := ⟨h.len, h.le, fun hn => by
  obtain ⟨b, e, hb, hc⟩ := h.at_ hn
  exact ⟨b, e, Nat.lt_of_lt_of_le hb k.size, fun j hj => (k.cell hb).trans (hc j hj)⟩⟩
theorem all_take_succ (ps : List Str) (i : Nat) (hi : i < ps.length) (h : (ps.take i).all okP = true) (h2 : okP (ps.getD i []) = true) : (ps.take (i + 1)).all okP = true := by
  rw [List.take_add_one, List.all_append, h]
  simp only [List.getD, List.getElem?_eq_getElem hi, Option.getD_some] at h2
  simp [List.getElem?_eq_getElem hi, h2]
theorem all_not (ps : List Str) (i : Nat) (hi : i < ps.length) (h2 : okP (ps.getD i []) = false) : ps.all okP = false := by
  simp only [List.getD, List.getElem?_eq_getElem hi, Option.getD_some] at h2
  rw [← Bool.not_eq_true, List.all_eq_true]
  intro h
  rw [h _ (List.getElem_mem hi)] at h2
  cases h2

theorem indexFunc_any (w : World) (A : Option Addr) (n c : Nat) (ps : List Str) (h : Strs w A n ps) :
    Calls Tryz.prog 152 #[.slice A n c, .func (.func 143) #[] #[]] w fun e w' => ∃ k : Int, e = .returned (.int .i64 k) ∧ (0 ≤ k ↔ ps.all okP = false) ∧ -1 ≤ k ∧ Nx w w' := by
  have hl := h.len
  have hle := h.le
  have H := Lib.hid h
  go_enter Tryz.func152, Tryz.ntmps152
  have HL := Lib.hid hl
  clear h hl
  go_wp2
  go_loopw [8] (fun x wr => ∃ i : Nat, x = .int .i64 i ∧ i ≤ n ∧ Nx w wr ∧ Hid ((ps.take i).all okP = true)) (fun x _ => n - (intOf x).toNat)
  case atStart => exact ⟨0, rfl, Nat.zero_le _, Nx.refl _, rfl⟩
  case round =>
    obtain ⟨i, rfl, hi, hnx, hall⟩ := hrel
    have Hnx := Lib.hid hnx
    by_cases hlt : i < n
    · have H2 := H.out.nx hnx
      obtain ⟨b, rfl, hb, hc⟩ := H2.at_ (by omega)
      have hcell := hc i hlt
      have X := Lib.hid (fun W => isNoPath_any W (ps.getD i []))
      have Hgood := Lib.hid (all_take_succ ps i (by rw [HL.out]; exact hlt) hall.out)
      have Hbad := Lib.hid (all_not ps i (by rw [HL.out]; exact hlt))
      clear hnx H2 hc hall
      generalize hok : okP (ps.getD i []) = ok at *
      generalize S (ps.getD i []) = s at *
      go_wp2_with fail
      refine (X.out wr).mono ?_
      rintro e w2 ⟨rfl, hb2⟩
      have H3 := Lib.hid (Nx.trans Hnx.out hb2)
      clear hb2 X Hnx hcell
      cases ok with
      | true =>
        go_wp2
        go_roundw
        case rel => exact ⟨i + 1, by go_num, by omega, H3.out, Hgood.out trivial⟩
        case measure => simp [intOf]; omega
      | false =>
        go_wp2
        go_ret
        exact ⟨(i : Int), rfl, ⟨fun _ => Hbad.out trivial, fun _ => by omega⟩, by omega, H3.out⟩
    · obtain rfl : i = n := by omega
      have hps : ps.all okP = true := by have := hall.out; rwa [List.take_of_length_le (by rw [HL.out]; omega)] at this
      have Hps := Lib.hid hps
      clear hps hall hnx
      go_wp2
      go_ret
      exact ⟨-1, rfl, ⟨fun h => absurd h (by omega), fun h => by rw [Hps.out] at h; cases h⟩, by omega, Hnx.out⟩

theorem containsFunc_any (w : World) (A : Option Addr) (n c : Nat) (ps : List Str) (h : Strs w A n ps) :
    Calls Tryz.prog 142 #[.slice A n c, .func (.func 143) #[] #[]] w fun e w' => e = .returned (.bool (!ps.all okP)) ∧ Nx w w' := by
  have X := Lib.hid (indexFunc_any w A n c ps h)
  clear h
  go_enter Tryz.func142, Tryz.ntmps142
  go_wp2_with fail
  refine X.out.mono ?_
  rintro e w' ⟨k, rfl, hk, hk1, hb⟩
  have H1 := Lib.hid hb
  have HK := Lib.hid hk
  clear hb X hk
  go_wp2
  go_ret
  refine ⟨?_, H1.out⟩
  have : decide (0 ≤ k) = !ps.all okP := by
    cases e : ps.all okP with
    | true => simp only [Bool.not_true, decide_eq_false_iff_not]; intro h; rw [HK.out.1 h] at e; cases e
    | false => simp only [Bool.not_false, decide_eq_true_eq]; exact HK.out.2 e
  rw [this]
  rfl
end Go.Proofs.YtiikjdjpodmpcaaGreat

/- Package tree: the fuse, the beginning of an operation, the room, and numbers taken modulo. -/
namespace Go.Proofs.YtiikjdjpodmpcaaGreat
open Go.RowKit Go.Maps
set_option linter.unusedVariables false

/-- The cells of a tree's block, as the walk asks for them. -/
structure Top (w : World) (tb : Nat) (s : St) (g : Gh) : Prop where
  c0 : w.cell? ⟨tb, 0, none⟩ = some (.int .i64 s.room)
  c1 : w.cell? ⟨tb, 1, none⟩ = some (.int .i64 s.used)
  c2 : w.cell? ⟨tb, 2, none⟩ = some (.int .u64 (s.clock : Int))
  c3 : w.cell? ⟨tb, 3, none⟩ = some (.map (some g.mf))
  c4 : w.cell? ⟨tb, 4, none⟩ = some (.map (some g.ms))
  c5 : w.cell? ⟨tb, 5, none⟩ = some g.cv
  c6 : w.cell? ⟨tb, 6, none⟩ = some (.int .i64 s.fuse)
  c7 : w.cell? ⟨tb, 7, none⟩ = some (.bool s.off)
theorem top_of {w : World} {tb : Nat} {s : St} {g : Gh} (h : BlkIs w tb 81 (treeC s g)) : Top w tb s g :=
  ⟨by rw [h.cell]; rfl, by rw [h.cell]; rfl, by rw [h.cell]; rfl, by rw [h.cell]; rfl, by rw [h.cell]; rfl, by rw [h.cell]; rfl, by rw [h.cell]; rfl, by rw [h.cell]; rfl⟩

theorem run_neq_map (w : World) (p : Nat) : (binOp .neq 77 (.map (some p)) (.map none)).run Tryz.prog w = .ok (.bool true) w := by
  simp only [binOp]
  simp [Op.equal, Op.maxDepth, run_equalIn_map_nil_sl w 9999 77 _ _ (some p) Tryz.underlying77]
set_option maxRecDepth 100000 in
theorem valid_any (w : World) (tb mf : Nat) (h : w.cell? ⟨tb, 3, none⟩ = some (.map (some mf))) :
    Calls Tryz.prog 51 #[.pointer (some ⟨tb, 0, none⟩)] w fun e w' => e = .returned (.bool true) ∧ w = w' := by
  have hneq := run_neq_map w mf
  go_enter Tryz.func51, Tryz.ntmps51
  go_wp2
  go_ret
  exact ⟨rfl, rfl⟩
theorem valid_nil (w : World) :
    Calls Tryz.prog 51 #[.pointer none] w fun e w' => e = .returned (.bool false) ∧ w = w' := by
  go_enter Tryz.func51, Tryz.ntmps51
  go_wp2
  go_ret
  exact ⟨rfl, rfl⟩

theorem burn_any (w : World) (tb : Nat) (s : St) (g : Gh) (h : BlkIs w tb 81 (treeC s g)) (h1 : -1 ≤ s.fuse) (h2 : s.fuse ≤ 9223372036854775807) :
    Calls Tryz.prog 144 #[.pointer (some ⟨tb, 0, none⟩)] w fun e w' => e = .returned (.tuple #[]) ∧ BlkIs w' tb 81 (treeC s.burn g) ∧ Chd (fun j => j = tb) w w' := by
  have c6 := (top_of h).c6
  have c7 := (top_of h).c7
  have f6 := h.frozen 6
  have f7 := h.frozen 7
  have H := Lib.hid h
  have HG : Hid (∀ b : Bool, BlkIs (w.setCell ⟨tb, 7, none⟩ (.bool b)) tb 81 (treeC { s with off := b } g)) := fun b => h.set 7 (.bool b)
  by_cases hz : s.fuse = 0
  · have e1 : s.burn = { s with off := true, fuse := -1 } := by simp [St.burn, hz]
    rw [e1]
    have E : BlkIs ((w.setCell ⟨tb, 7, none⟩ (.bool true)).setCell ⟨tb, 6, none⟩ (.int .i64 (-1))) tb 81 (treeC { s with off := true, fuse := -1 } g) := (h.set 7 (.bool true)).set 6 (.int .i64 (-1))
    have C : Chd (fun j => j = tb) w ((w.setCell ⟨tb, 7, none⟩ (.bool true)).setCell ⟨tb, 6, none⟩ (.int .i64 (-1))) := (Chd.set w tb 7 _).trans (Chd.set _ tb 6 _)
    have E' := Lib.hid E
    have C' := Lib.hid C
    clear E C
    rw [hz] at c6
    clear h h1 h2 hz e1 H HG
    go_enter Tryz.func144, Tryz.ntmps144
    go_wp2
    refine bodyPost_end (results_none rfl _ _ _) rfl ?_
    exact ⟨rfl, E'.out, C'.out⟩
  · have e1 : s.burn = { s with fuse := max (s.fuse - 1) (-1) } := by simp [St.burn, hz]
    rw [e1]
    have E : BlkIs (w.setCell ⟨tb, 6, none⟩ (.int .i64 (max (s.fuse - 1) (-1)))) tb 81 (treeC { s with fuse := max (s.fuse - 1) (-1) } g) := h.set 6 (.int .i64 _)
    have C : Chd (fun j => j = tb) w (w.setCell ⟨tb, 6, none⟩ (.int .i64 (max (s.fuse - 1) (-1)))) := Chd.set w tb 6 _
    have E' := Lib.hid E
    have C' := Lib.hid C
    clear E C
    have hz' : (s.fuse == 0) = false := by simpa using hz
    generalize s.fuse = fu at *
    clear h hz e1 H HG
    go_enter Tryz.func144, Tryz.ntmps144
    go_wp2
    refine bodyPost_end (results_none rfl _ _ _) rfl ?_
    exact ⟨rfl, E'.out, C'.out⟩

theorem left_any (w : World) (tb : Nat) (s : St) (g : Gh) (h : BlkIs w tb 81 (treeC s g)) (u : Int) (h0 : 0 ≤ s.room) (h1 : s.room ≤ 67108864) (h2 : -1000000000000000000 ≤ u) (h3 : u ≤ 1000000000000000000) :
    Calls Tryz.prog 54 #[.pointer (some ⟨tb, 0, none⟩), .int .i64 u] w fun e w' => e = .returned (.int .i64 (s.left_ u)) ∧ w = w' := by
  have c0 := (top_of h).c0
  clear h
  unfold St.left_
  generalize s.room = r at *
  go_enter Tryz.func54, Tryz.ntmps54
  go_wp2
  go_ret
  exact ⟨rfl, rfl⟩
theorem upTo_any (w : World) (n m : Int) (h0 : 0 ≤ m) (h1 : m ≤ 1000000000000000000) (hn : n ≤ 9223372036854775807) :
    Calls Tryz.prog 66 #[.int .i64 n, .int .i64 m] w fun e w' => e = .returned (.int .i64 (upTo n m)) ∧ w = w' := by
  unfold upTo
  go_enter Tryz.func66, Tryz.ntmps66
  go_wp2
  go_ret
  exact ⟨rfl, rfl⟩
end Go.Proofs.YtiikjdjpodmpcaaGreat

/- Package tree: how an operation begins, and what file it finds. -/
namespace Go.Proofs.YtiikjdjpodmpcaaGreat
open Go.RowKit Go.Maps
set_option linter.unusedVariables false

theorem BlkIs.nx {w w' : World} {g : Nat} {t : TypeId} {cs : Array Value} (h : BlkIs w g t cs) (k : Nx w w') : BlkIs w' g t cs := h.chd (M := fun _ => False) (Chd.of_below k) (fun e => e)
theorem Nx.chd {M : Nat → Prop} {w w' : World} (h : Nx w w') : Chd M w w' := Chd.of_below h

theorem begin_any (w : World) (tb : Nat) (s : St) (g : Gh) (h : BlkIs w tb 81 (treeC s g)) (h1 : -1 ≤ s.fuse) (h2 : s.fuse ≤ 9223372036854775807)
    (A : Option Addr) (n c : Nat) (ps : List Str) (hs : Strs w A n ps) :
    Calls Tryz.prog 127 #[.pointer (some ⟨tb, 0, none⟩), .slice A n c] w fun e w' => e = .returned (.int .i64 (s.begin_ ps).2) ∧ BlkIs w' tb 81 (treeC (s.begin_ ps).1 g) ∧ Chd (fun j => j = tb) w w' := by
  have V := Lib.hid (valid_any w tb g.mf (top_of h).c3)
  have X := Lib.hid (containsFunc_any w A n c ps hs)
  have H := Lib.hid h
  have B := Lib.hid (fun W hW => burn_any W tb s g hW h1 h2)
  clear h hs h1 h2
  unfold St.begin_
  cases hok : ps.all okP with
  | false =>
    rw [hok] at X
    rw [if_neg (by simp)]
    clear hok B
    go_enter Tryz.func127, Tryz.ntmps127
    go_wp2_with fail
    refine V.out.mono ?_
    rintro e w' ⟨rfl, rfl⟩
    go_wp2_with fail
    refine X.out.mono ?_
    rintro e w2 ⟨rfl, hb⟩
    have H2 := Lib.hid hb
    clear hb X V
    go_wp2
    go_ret
    exact ⟨rfl, H.out.nx H2.out, H2.out.chd⟩
  | true =>
    rw [hok] at X
    rw [if_pos rfl]
    clear hok
    generalize hs1 : s.burn = s1 at *
    clear hs1
    obtain ⟨r, hr⟩ : ∃ r, (if s1.off = true then (s1, (11 : Int)) else (s1, 0)) = r := ⟨_, rfl⟩
    rw [hr]
    have hr1 : r = (s1, if s1.off = true then 11 else 0) := by rw [← hr]; split <;> rfl
    obtain ⟨r1, r2⟩ := r
    simp only [Prod.mk.injEq] at hr1
    obtain ⟨hr1, hr2⟩ := hr1
    subst hr1
    clear hr
    have R := Lib.hid hr2
    clear hr2
    go_enter Tryz.func127, Tryz.ntmps127
    go_wp2_with fail
    refine V.out.mono ?_
    rintro e w' ⟨rfl, rfl⟩
    go_wp2_with fail
    refine X.out.mono ?_
    rintro e w2 ⟨rfl, hb⟩
    have H2 := Lib.hid hb
    clear hb X V
    go_wp2_with fail
    refine (B.out w2 (H.out.nx H2.out)).mono ?_
    rintro e w3 ⟨rfl, hb, hc⟩
    have c7 := (top_of hb).c7
    have H3 := Lib.hid hb
    have C3 := Lib.hid (Chd.trans (Nx.chd H2.out) hc)
    clear hb hc B H H2
    cases hoff : r1.off with
    | true =>
      rw [hoff] at c7
      have R2 : r2 = 11 := by rw [R.out, hoff]; rfl
      subst R2
      clear hoff R
      go_wp2
      go_ret
      exact ⟨rfl, H3.out, C3.out⟩
    | false =>
      rw [hoff] at c7
      have R2 : r2 = 0 := by rw [R.out, hoff]; rfl
      subst R2
      clear hoff R
      go_wp2
      go_ret
      exact ⟨rfl, H3.out, C3.out⟩
end Go.Proofs.YtiikjdjpodmpcaaGreat

/- Package tree: the file that an operation is on. -/
namespace Go.Proofs.YtiikjdjpodmpcaaGreat
open Go.RowKit Go.Maps
set_option linter.unusedVariables false

theorem TreeAt.retop {w w' : World} {tb : Nat} {s s' : St} {g : Gh} {M : Nat → Prop} (h : TreeAt w tb s g) (hc : Chd M w w') (hm : ∀ j, M j → j = tb ∨ g.tag j = 0)
    (hb : BlkIs w' tb 81 (treeC s' g)) (e1 : s'.files = s.files) (e2 : s'.safe = s.safe) (e3 : s'.chs = s.chs) (e4 : s'.fil = s.fil) : TreeAt w' tb s' g := by
  have tg : ∀ j, M j → g.tag j = 1 ∨ g.tag j = 0 := fun j hj => by
    rcases hm j hj with e | e
    · rw [e]; exact .inl h.topT
    · exact .inr e
  exact { top := hb, topT := h.topT, mfT := h.mfT, msT := h.msT
          mfA := by rw [e1]; exact h.mfA.chd hc (fun e => by have := tg _ e; rw [h.mfT] at this; omega)
          msA := by rw [e2]; exact h.msA.chd hc (fun e => by have := tg _ e; rw [h.msT] at this; omega)
          row := by rw [e3]; exact row_chd h.row hc (fun b hb e => by have := tg _ e; rw [h.rowT b hb] at this; omega)
          rowT := h.rowT
          chs := by rw [e3]; exact chs_chd h.chs hc (fun j e => by have := tg _ e; omega)
          fil := fun i hi => by
            unfold St.at_
            rw [e4] at hi ⊢
            exact (h.fil i hi).chd hc (fun j e => by have := tg _ e; omega)
          dom := fun j hj => Nat.lt_of_lt_of_le (h.dom j hj) hc.size
          apart := h.apart }

theorem begin_same (s : St) (ps : List Str) : (s.begin_ ps).1.files = s.files ∧ (s.begin_ ps).1.safe = s.safe ∧ (s.begin_ ps).1.chs = s.chs ∧ (s.begin_ ps).1.fil = s.fil ∧
    (s.begin_ ps).1.room = s.room ∧ (s.begin_ ps).1.used = s.used ∧ (s.begin_ ps).1.clock = s.clock := by
  unfold St.begin_
  split
  · split <;> exact ⟨rfl, rfl, rfl, rfl, rfl, rfl, rfl⟩
  · exact ⟨rfl, rfl, rfl, rfl, rfl, rfl, rfl⟩
def foundE : Option Nat → Int
  | some _ => 0
  | none => 6
theorem find_eq (s : St) (p : Str) (o : List Str) : s.find p o =
    ((s.begin_ (o ++ [p])).1, if (s.begin_ (o ++ [p])).2 = 0 then look s.files p else none, if (s.begin_ (o ++ [p])).2 = 0 then foundE (look s.files p) else (s.begin_ (o ++ [p])).2) := by
  unfold St.find
  have := (begin_same s (o ++ [p])).1
  generalize s.begin_ (o ++ [p]) = r at *
  obtain ⟨s1, e⟩ := r
  simp only at this ⊢
  rw [this]
  split
  · cases look s.files p <;> simp [foundE]
  · rfl
theorem Chd.of_grownBy {w w' : World} {row : Option Nat} (h : w.grownBy w' row) : Chd (fun j => row = some j) w w' := ⟨h.os, h.tape, h.output, h.size, fun j hj hn => h.block j hj (fun e => hn e.symm)⟩
def optP (g : Gh) : Option Nat → Value
  | some f => fptr (g.blk f)
  | none => .pointer none

def strV (ps : List Str) : List Value := ps.map fun q => .string (S q)
theorem string_info : (Tryz.prog.info? 9).map (fun i => (i.zero, i.size, i.bytes)) = some (some (.string ⟨#[]⟩), 1, 16) := by kernel_rfl
theorem strs_of_row {w : World} {A : Option Addr} {n c : Nat} {ps : List Str} (h : w.ownsRow 0 9 1 (.slice A n c) n (strV ps)) (hn : n ≤ 1000000) : Strs w A n ps := by
  have hl : ps.length = n := by have := h.1; simp [strV] at this; exact this
  refine ⟨hl, hn, fun h0 => ?_⟩
  rcases h.2 with ⟨_, e⟩ | ⟨b, cap, cur, hv, _, hb, _⟩
  · omega
  · simp only [Value.slice.injEq] at hv
    refine ⟨b, hv.1, (Array.getElem?_eq_some_iff.1 hb).1, fun j hj => ?_⟩
    have := World.ownsRow.cells (w := w) h (g := b) (by rw [hv.1]; rfl) j (.string (S (ps.getD j []))) (by simp [strV, List.getD, List.getElem?_eq_getElem (show j < ps.length by omega)])
    rwa [add_plain, Nat.zero_add] at this

set_option maxRecDepth 100000 in
theorem find_any (w : World) (tb : Nat) (s : St) (g : Gh) (h : TreeAt w tb s g) (h1 : -1 ≤ s.fuse) (h2 : s.fuse ≤ 9223372036854775807)
    (p : Str) (hp : p.length ≤ 1000000000000) (A : Option Addr) (n c : Nat) (others : List Str) (hn : n ≤ 1000) (hown : w.ownsRow 0 9 1 (.slice A n c) n (strV others)) (hA : ∀ b, (Value.slice A n c).ownBlock = some b → g.tag b = 0) :
    Calls Tryz.prog 93 #[.pointer (some ⟨tb, 0, none⟩), .string (S p), .slice A n c] w fun e w' =>
      e = .returned (.tuple #[optP g (s.find p others).2.1, .int .i64 (s.find p others).2.2]) ∧ TreeAt w' tb (s.find p others).1 g ∧ Chd (fun j => j = tb ∨ (Value.slice A n c).ownBlock = some j) w w' := by
  rw [find_eq]
  obtain ⟨i0, hi, hz0, hz1, hz2⟩ := info_parts string_info
  have hsame := begin_same s (others ++ [p])
  have B := Lib.hid (fun W hW A n c hs => begin_any W tb s g hW h1 h2 A n c (others ++ [p]) hs)
  have H := Lib.hid h
  have hlook := fun W (hW : MapAt W g.mf g.blk s.files) => hW.found p (by unfold maxLen; omega)
  have HL : Hid (∀ W, MapAt W g.mf g.blk s.files → (Instr.lookup 77 (.map (some g.mf)) (.string (S p)) false).run Tryz.prog W = .ok (optP g (look s.files p)) W) := fun W hW => by
    have := hlook W hW
    rw [show (⟨List.toArray p⟩ : ByteArray) = S p from rfl] at this
    rw [this]
    cases look s.files p <;> rfl
  have HA := Lib.hid hA
  have HO := Lib.hid hown
  have HT := Lib.hid h.dom
  have HS := Lib.hid hsame
  clear hsame h h1 h2 hlook hA hown
  obtain ⟨se, hse⟩ : ∃ se, s.begin_ (others ++ [p]) = se := ⟨_, rfl⟩
  rw [hse] at B HS ⊢
  clear hse
  obtain ⟨s1, er⟩ := se
  simp only at B HS ⊢
  have halloc : (w.alloc (.cells #[.string (S p)] 9)).ownsRow 0 9 1 (.slice A n c) n (strV others) := row_chd (M := fun _ => False) HO.out ((Chd.refl w).then_ (Chd.of_below ((Below.refl _ w).alloc (Nat.le_refl _) _)) (fun _ _ e => e)) (fun _ _ e => e)
  have Hal := Lib.hid halloc
  clear halloc
  generalize hsp : S p = sp at *
  have Hsp := Lib.hid hsp
  clear hsp
  generalize hr1 : (if er = 0 then look s.files p else none) = r1
  generalize hr2 : (if er = 0 then foundE (look s.files p) else er) = r2
  have HR1 := Lib.hid hr1
  have HR2 := Lib.hid hr2
  clear hr1 hr2
  go_enter Tryz.func93, Tryz.ntmps93
  go_wp2_with (at_builtin; refine wpList_append_lies _ rfl _ _ 24 rfl 0 9 i0 (.string ⟨#[]⟩) 1 16 Tryz.underlying24 hi hz0 hz1 hz2 rfl (by decide) (.slice A n c) n (strV others) rfl Hal.out ⟨w.heap.size, 0, none⟩ 1 1 [.string sp] rfl rfl (cell_one_new _ _ _) (by simp [Value.oneCell']) (by decide) (by unfold maxLen; omega) (by omega) (Nat.zero_le _) _ rfl ?_; intro gb cap w2 hown2 hgrow hat hlt)
  have C2 : Chd (fun j => (Value.slice A n c).ownBlock = some j) w w2 := (Chd.of_below ((Below.refl _ w).alloc (Nat.le_refl _) _)).trans (Chd.of_grownBy hgrow)
  have T2 := H.out.chd C2 HA.out
  have hst : Strs w2 (some ⟨gb, 0, none⟩) (n + 1) (others ++ [p]) := strs_of_row (c := cap) (by
    have : strV (others ++ [p]) = strV others ++ [.string sp] := by simp [strV, Hsp.out]
    rw [this]
    exact hown2) (by omega)
  have X := Lib.hid (B.out w2 T2.top (some ⟨gb, 0, none⟩) (n + 1) cap hst)
  have HC2 := Lib.hid C2
  have HT2 := Lib.hid T2
  clear C2 T2 hst hown2 hgrow hat hlt B HO Hal HT
  go_wp2_with fail
  refine X.out.mono ?_
  rintro e w3 ⟨rfl, hb3, hc3⟩
  have T3 : TreeAt w3 tb s1 g := HT2.out.retop hc3 (fun j hj => .inl hj) hb3 HS.out.1 HS.out.2.1 HS.out.2.2.1 HS.out.2.2.2.1
  have C3 : Chd (fun j => j = tb ∨ (Value.slice A n c).ownBlock = some j) w w3 := (HC2.out.mono (fun _ _ e => .inr e)).trans (hc3.mono (fun _ _ e => .inl e))
  have hlk := HL.out w3 (by have := T3.mfA; rw [HS.out.1] at this; exact this)
  have c3 := (top_of hb3).c3
  have HC3 := Lib.hid C3
  have HT3 := Lib.hid T3
  clear C3 T3 hb3 hc3 X HC2 HT2 HS HL H HA
  by_cases he : er = 0
  · have hr1 : look s.files p = r1 := by have := HR1.out; rwa [if_pos he] at this
    have hr2 : foundE r1 = r2 := by have := HR2.out; rw [if_pos he, hr1] at this; exact this
    rw [hr1] at hlk
    subst he
    clear hr1 HR1 HR2
    cases r1 with
    | none =>
      obtain rfl : r2 = 6 := hr2.symm
      clear hr2
      unfold optP at hlk
      simp only at hlk
      go_wp2
      go_ret2
      exact ⟨rfl, HT3.out, HC3.out⟩
    | some f =>
      obtain rfl : r2 = 0 := hr2.symm
      clear hr2
      unfold optP fptr at hlk
      simp only at hlk
      go_wp2
      go_ret2
      exact ⟨rfl, HT3.out, HC3.out⟩
  · obtain rfl : r1 = none := by have := HR1.out; rw [if_neg he] at this; exact this.symm
    obtain rfl : r2 = er := by have := HR2.out; rw [if_neg he] at this; exact this.symm
    have hne : (r2 != 0) = true := by simpa using he
    clear hlk he HR1 HR2
    go_wp2
    go_ret2
    exact ⟨rfl, HT3.out, HC3.out⟩
end Go.Proofs.YtiikjdjpodmpcaaGreat

/- Package tree: the bounds that k calls keep. -/
namespace Go.Proofs.YtiikjdjpodmpcaaGreat
open Go.Maps
set_option linter.unusedVariables false

def Chg.small (n : Nat) : Chg → Prop
  | .mk p f => p.length ≤ 10000 ∧ f < n
  | .mv p q f => p.length ≤ 10000 ∧ q.length ≤ 10000 ∧ f < n
  | .rm p => p.length ≤ 10000
structure Ok (k : Nat) (s : St) : Prop where
  fs : ∀ e ∈ s.files, e.2 < s.fil.length
  ss : ∀ e ∈ s.safe, e.2 < s.fil.length
  cs : ∀ c ∈ s.chs, c.small s.fil.length
  r0 : 0 ≤ s.room
  r1 : s.room ≤ 67108864
  u0 : -(10000000000 * (k : Int)) ≤ s.used
  u1 : s.used ≤ 10000000000 * (k : Int)
  ck : s.clock ≤ 10000 * k
  f0 : -1 ≤ s.fuse
  f1 : s.fuse ≤ 9223372036854775807
  nf : s.fil.length ≤ k
  lf : s.files.length ≤ k
  ls : s.safe.length + s.chs.length ≤ k
  sz : ∀ i, (s.at_ i).now.length ≤ 10000 * k
  sy : ∀ i, (s.at_ i).sf.length ≤ 10000 * k
theorem Ok.burn {k : Nat} {s : St} (h : Ok k s) : Ok k s.burn :=
  ⟨h.fs, h.ss, h.cs, h.r0, h.r1, h.u0, h.u1, h.ck, by show -1 ≤ max (s.fuse - 1) (-1); omega, by have := h.f0; have := h.f1; show max (s.fuse - 1) (-1) ≤ _; omega, h.nf, h.lf, h.ls, h.sz, h.sy⟩
theorem Ok.begin {k : Nat} {s : St} (h : Ok k s) (ps : List Str) : Ok k (s.begin_ ps).1 := by
  unfold St.begin_
  split
  · split <;> exact h.burn
  · exact h
theorem Ok.find {k : Nat} {s : St} (h : Ok k s) (p : Str) (o : List Str) : Ok k (s.find p o).1 := by
  have := h.begin (o ++ [p])
  unfold St.find
  generalize s.begin_ (o ++ [p]) = r at *
  obtain ⟨s1, e⟩ := r
  simp only at this ⊢
  split
  · split <;> exact this
  · exact this
theorem Ok.more {k : Nat} {s : St} (h : Ok k s) : Ok (k + 1) s :=
  ⟨h.fs, h.ss, h.cs, h.r0, h.r1, by have := h.u0; omega, by have := h.u1; omega, by have := h.ck; omega, h.f0, h.f1, by have := h.nf; omega, by have := h.lf; omega, by have := h.ls; omega, fun i => by have := h.sz i; omega, fun i => by have := h.sy i; omega⟩
theorem Ok.free {k : Nat} {s : St} (h : Ok k s) (hk : k ≤ 1000) (p : Str) : Ok (k + 1) (s.free p) := by
  unfold St.free
  split
  · exact h.more
  · rename_i f _
    have hz := h.sz f
    exact ⟨h.fs, h.ss, h.cs, h.r0, h.r1, by have := h.u0; show _ ≤ s.used - _; omega, by have := h.u1; show s.used - _ ≤ _; omega, by have := h.ck; show s.clock ≤ _; omega, h.f0, h.f1, by have := h.nf; show s.fil.length ≤ _; omega,
      by have := h.lf; show s.files.length ≤ _; omega, by have := h.ls; show s.safe.length + s.chs.length ≤ _; omega, fun i => by have := h.sz i; show (s.at_ i).now.length ≤ _; omega, fun i => by have := h.sy i; show (s.at_ i).sf.length ≤ _; omega⟩
theorem free_same (s : St) (p : Str) : (s.free p).files = s.files ∧ (s.free p).fil = s.fil ∧ (s.free p).clock = s.clock ∧ (s.free p).chs = s.chs ∧ (s.free p).safe = s.safe := by
  unfold St.free
  split <;> exact ⟨rfl, rfl, rfl, rfl, rfl⟩
end Go.Proofs.YtiikjdjpodmpcaaGreat

/- Package tree: the room that a file gives back, the bytes that it is given. -/
namespace Go.Proofs.YtiikjdjpodmpcaaGreat
open Go.RowKit Go.Maps
set_option linter.unusedVariables false

theorem TreeAt.file {w : World} {tb : Nat} {s : St} {g : Gh} (h : TreeAt w tb s g) {p : Str} {f : Nat} (hl : look s.files p = some f) (hf : ∀ e ∈ s.files, e.2 < s.fil.length) : FileAt w g.tag (g.blk f) f (s.at_ f) := h.fil f (hf _ (look_mem hl))
theorem lookup_in {w : World} {b : Nat} {blk : Nat → Nat} {l : Dir} (h : MapAt w b blk l) (p : Str) (hp : p.length ≤ 1000000000000) (g : Gh) (hg : g.blk = blk) :
    (Instr.lookup 77 (.map (some b)) (.string (S p)) false).run Tryz.prog w = .ok (optP g (look l p)) w := by
  subst hg
  have := h.found p (by unfold maxLen; omega)
  rw [show (⟨List.toArray p⟩ : ByteArray) = S p from rfl] at this
  rw [this]
  cases look l p <;> rfl

set_option maxRecDepth 100000 in
theorem free_any (w : World) (tb : Nat) (s : St) (g : Gh) {k : Nat} (hk : k ≤ 1000) (h : TreeAt w tb s g) (ok : Ok k s)
    (p : Str) (hp : p.length ≤ 1000000000000) :
    Calls Tryz.prog 135 #[.pointer (some ⟨tb, 0, none⟩), .string (S p)] w fun e w' => e = .returned (.tuple #[]) ∧ TreeAt w' tb (s.free p) g ∧ Chd (fun j => j = tb) w w' := by
  have c3 := (top_of h.top).c3
  have hlk := lookup_in h.mfA p hp g rfl
  have H := Lib.hid h
  have h1 : -10000000000000 ≤ s.used := by have := ok.u0; omega
  have h2 : s.used ≤ 10000000000000 := by have := ok.u1; omega
  have hf := ok.fs
  have hsz := ok.sz
  clear ok
  cases hl : look s.files p with
  | none =>
    have e1 : s.free p = s := by unfold St.free; rw [hl]
    rw [hl] at hlk
    rw [e1]
    unfold optP at hlk
    simp only at hlk
    generalize S p = sp at *
    clear h hl hf hsz h1 h2 e1 hp
    go_enter Tryz.func135, Tryz.ntmps135
    go_wp2
    refine bodyPost_end (results_none rfl _ _ _) rfl ?_
    exact ⟨rfl, H.out, Chd.refl _⟩
  | some f =>
    have e1 : s.free p = { s with used := s.used - ((s.at_ f).now.length : Int) } := by unfold St.free; rw [hl]
    obtain ⟨A, n, c, A2, n2, c2, hb, ho, _⟩ := (h.file hl hf).ex
    have hlen : (s.at_ f).now.length = n := ho.len
    have hn : n ≤ 10000000 := by have := hsz f; omega
    rw [hl] at hlk
    rw [e1, hlen]
    unfold optP fptr at hlk
    simp only at hlk
    have d0 : w.cell? ⟨g.blk f, 0, none⟩ = some (.slice A n c) := by rw [hb.cell]; rfl
    have c1 := (top_of h.top).c1
    have f1 := h.top.frozen 1
    have E : BlkIs (w.setCell ⟨tb, 1, none⟩ (.int .i64 (s.used - (n : Int)))) tb 81 (treeC { s with used := s.used - (n : Int) } g) := h.top.set 1 _
    have E' := Lib.hid E
    clear h hl hf hsz e1 hp hb ho hlen E
    generalize S p = sp at *
    generalize g.blk f = fb at *
    generalize hu : s.used = u at *
    have Hu := Lib.hid hu
    clear hu
    go_enter Tryz.func135, Tryz.ntmps135
    go_wp2
    go_region
    go_wp2
    refine bodyPost_end (results_none rfl _ _ _) rfl ?_
    exact ⟨rfl, H.out.retop (Chd.set w tb 1 _).drew (fun j hj => .inl hj) E'.out rfl rfl rfl rfl, (Chd.set w tb 1 _).drew⟩
end Go.Proofs.YtiikjdjpodmpcaaGreat

/- Package tree: other bytes for a file. -/
namespace Go.Proofs.YtiikjdjpodmpcaaGreat
open Go.RowKit Go.Maps
set_option linter.unusedVariables false

theorem FileAt.retag {w : World} {tag tag' : Nat → Nat} {fb i : Nat} {x : Fil} (h : FileAt w tag fb i x) (ht : ∀ j, tag j ≠ 0 → tag' j = tag j) : FileAt w tag' fb i x := by
  obtain ⟨A, n, c, A2, n2, c2, hb, h1, h2, h3, t1, t2⟩ := h.ex
  have T : ∀ j t, tag j = t + 1 → tag' j = t + 1 := fun j t e => by rw [ht j (by omega), e]
  exact ⟨⟨A, n, c, A2, n2, c2, hb, h1, h2, h3, fun g hg => by have := T g (10 + 2 * i) (by rw [t1 g hg]; omega); omega, fun g hg => by have := T g (10 + 2 * i) (by rw [t2 g hg]; omega); omega⟩,
    by have := T fb (9 + 2 * i) (by rw [h.tg]; omega); omega⟩
theorem ChAt.retag {w : World} {tag tag' : Nat → Nat} {blk : Nat → Nat} {v : Value} {c : Chg} (h : ChAt w tag blk v c) (ht : ∀ j, tag j ≠ 0 → tag' j = tag j) : ChAt w tag' blk v c := by
  have S : ∀ b p, StrBox w tag b p → StrBox w tag' b p := fun b p h => ⟨h.1, by rw [ht b (by rw [h.2]; omega), h.2]⟩
  have P : ∀ b fb, PtrBox w tag b fb → PtrBox w tag' b fb := fun b p h => ⟨h.1, by rw [ht b (by rw [h.2]; omega), h.2]⟩
  cases c with
  | mk p f => obtain ⟨b1, b2, e, h1, h2⟩ := h; exact ⟨b1, b2, e, P _ _ h1, S _ _ h2⟩
  | mv p q f => obtain ⟨b1, b2, b3, e, h1, h2, h3⟩ := h; exact ⟨b1, b2, b3, e, S _ _ h1, P _ _ h2, S _ _ h3⟩
  | rm p => obtain ⟨b1, e, h1⟩ := h; exact ⟨b1, e, S _ _ h1⟩
theorem TreeAt.retag {w : World} {tb : Nat} {s : St} {g : Gh} {tag' : Nat → Nat} (h : TreeAt w tb s g) (ht : ∀ j, g.tag j ≠ 0 → tag' j = g.tag j) (hd : ∀ j, tag' j ≠ 0 → j < w.heap.size) : TreeAt w tb s { g with tag := tag' } :=
  { top := h.top
    topT := by show tag' tb = 1; rw [ht tb (by rw [h.topT]; omega), h.topT]
    mfT := by show tag' g.mf = 2; rw [ht _ (by rw [h.mfT]; omega), h.mfT]
    msT := by show tag' g.ms = 3; rw [ht _ (by rw [h.msT]; omega), h.msT]
    mfA := h.mfA, msA := h.msA, row := h.row
    rowT := fun b hb => by show tag' b = 4; rw [ht b (by rw [h.rowT b hb]; omega), h.rowT b hb]
    chs := fun i c hi => by
      obtain ⟨v, hv, ha⟩ := h.chs i c hi
      exact ⟨v, hv, ha.retag ht⟩
    fil := fun i hi => (h.fil i hi).retag ht
    dom := hd, apart := h.apart }
theorem at_set (s : St) (f i : Nat) (x : Fil) (hf : f < s.fil.length) : ({ s with fil := s.fil.set f x } : St).at_ i = if i = f then x else s.at_ i := by
  unfold St.at_
  simp only [List.getD]
  by_cases e : i = f
  · subst e
    rw [if_pos rfl, List.getElem?_set_self hf]
    rfl
  · rw [if_neg e, List.getElem?_set_ne (fun h => e h.symm)]
/-- A file's own blocks turn, and the tree's. -/
theorem TreeAt.refile {w w' : World} {tb : Nat} {s s' : St} {g : Gh} {M : Nat → Prop} {f : Nat} {x : Fil} (h : TreeAt w tb s g) (hc : Chd M w w') (hm : ∀ j, M j → j = tb ∨ g.tag j = 0 ∨ g.tag j = 10 + 2 * f ∨ g.tag j = 11 + 2 * f)
    (hf : f < s.fil.length) (hx : FileAt w' g.tag (g.blk f) f x)
    (hb : BlkIs w' tb 81 (treeC s' g)) (e1 : s'.files = s.files) (e2 : s'.safe = s.safe) (e3 : s'.chs = s.chs) (e4 : s'.fil = s.fil.set f x) : TreeAt w' tb s' g := by
  have tg : ∀ j, M j → g.tag j = 1 ∨ g.tag j = 0 ∨ g.tag j = 10 + 2 * f ∨ g.tag j = 11 + 2 * f := fun j hj => by
    rcases hm j hj with e | e
    · rw [e]; exact .inl h.topT
    · exact .inr e
  exact { top := hb, topT := h.topT, mfT := h.mfT, msT := h.msT
          mfA := by rw [e1]; exact h.mfA.chd hc (fun e => by have := tg _ e; rw [h.mfT] at this; omega)
          msA := by rw [e2]; exact h.msA.chd hc (fun e => by have := tg _ e; rw [h.msT] at this; omega)
          row := by rw [e3]; exact row_chd h.row hc (fun b hb e => by have := tg _ e; rw [h.rowT b hb] at this; omega)
          rowT := h.rowT
          chs := by rw [e3]; exact chs_chd h.chs hc (fun j e => by have := tg _ e; omega)
          fil := fun i hi => by
            have hi2 : i < s.fil.length := by rw [e4, List.length_set] at hi; exact hi
            have ha : s'.at_ i = if i = f then x else s.at_ i := by
              rw [← at_set s f i x hf]
              unfold St.at_
              rw [e4]
            rw [ha]
            by_cases e : i = f
            · rw [if_pos e, e]; exact hx
            · rw [if_neg e]
              exact (h.fil i hi2).chd hc (fun j hj => by have := tg _ hj; omega)
          dom := fun j hj => Nat.lt_of_lt_of_le (h.dom j hj) hc.size
          apart := h.apart }

/-- A slice of bytes that a file may take. -/
structure Fits (w : World) (g : Gh) (f : Nat) (A : Option Addr) (n c : Nat) (b : Str) : Prop where
  own : Own w 0 A n c b
  tg : ∀ j, A = some ⟨j, 0, none⟩ → j < w.heap.size ∧ (g.tag j = 0 ∨ g.tag j = 11 + 2 * f)
  safe : ∀ A2 n2 c2, w.cell? ⟨g.blk f, 1, none⟩ = some (.slice A2 n2 c2) → A2 = A → n2 ≤ n
def Gh.take (g : Gh) (A : Option Addr) (t : Nat) : Gh := { g with tag := fun j => if A = some ⟨j, 0, none⟩ then t else g.tag j }
theorem blk_ne {w : World} {tb : Nat} {s : St} {g : Gh} (h : TreeAt w tb s g) {f : Nat} (hf : f < s.fil.length) : g.blk f ≠ tb := fun e => by
  have h1 := (h.fil f hf).tg
  rw [e, h.topT] at h1
  omega

set_option maxRecDepth 100000 in
theorem put_any (w : World) (tb : Nat) (s : St) (g : Gh) {k : Nat} (hk : k ≤ 1000) (h : TreeAt w tb s g) (ok : Ok k s) (f : Nat) (hf : f < s.fil.length)
    (A : Option Addr) (n c : Nat) (b : Str) (hfit : Fits w g f A n c b) (hbl : b.length ≤ 100000000) :
    Calls Tryz.prog 94 #[.pointer (some ⟨tb, 0, none⟩), fptr (g.blk f), .slice A n c] w fun e w' =>
      e = .returned (.tuple #[]) ∧ TreeAt w' tb (s.putB f b) (g.take A (11 + 2 * f)) ∧ Chd (fun j => j = tb ∨ j = g.blk f) w w' := by
  obtain ⟨A1, n1, c1', A2, n2, c2', hb, ho1, ho2, hal, t1, t2⟩ := (h.fil f hf).ex
  have hlen : (s.at_ f).now.length = n1 := ho1.len
  have hn1 : n1 ≤ 10000000 := by have := ok.sz f; omega
  have hbn : b.length = n := hfit.own.len
  have u0 : -10000000000000 ≤ s.used := by have := ok.u0; omega
  have u1 : s.used ≤ 10000000000000 := by have := ok.u1; omega
  have k1 : (s.clock : Int) ≤ 10000000 := by have := ok.ck; omega
  have hn : n ≤ 100000000 := by omega
  have d0 : w.cell? ⟨g.blk f, 0, none⟩ = some (.slice A1 n1 c1') := by rw [hb.cell]; rfl
  have d2 : w.cell? ⟨g.blk f, 2, none⟩ = some (.int .u64 ((s.at_ f).st : Int)) := by rw [hb.cell]; rfl
  have g0 := hb.frozen 0
  have g2 := hb.frozen 2
  have c1 := (top_of h.top).c1
  have c2 := (top_of h.top).c2
  have f1 := h.top.frozen 1
  have f2 := h.top.frozen 2
  have hne := blk_ne h hf
  obtain ⟨w1, hw1⟩ : ∃ w1, (w.setCell ⟨tb, 1, none⟩ (.int .i64 (s.used + ((n : Int) - (n1 : Int))))) = w1 := ⟨_, rfl⟩
  obtain ⟨w2, hw2⟩ : ∃ w2, (w1.setCell ⟨tb, 2, none⟩ (.int .u64 ((s.clock : Int) + 1))) = w2 := ⟨_, rfl⟩
  obtain ⟨w3, hw3⟩ : ∃ w3, (w2.setCell ⟨g.blk f, 0, none⟩ (.slice A n c)) = w3 := ⟨_, rfl⟩
  obtain ⟨w4, hw4⟩ : ∃ w4, (w3.setCell ⟨g.blk f, 2, none⟩ (.int .u64 ((s.clock : Int) + 1))) = w4 := ⟨_, rfl⟩
  have T1 : BlkIs w1 tb 81 (treeC { s with used := s.used + ((n : Int) - (n1 : Int)) } g) := by subst hw1; exact h.top.set 1 _
  have T2 : BlkIs w2 tb 81 (treeC { s with used := s.used + ((n : Int) - (n1 : Int)), clock := s.clock + 1 } g) := by subst hw2; exact T1.set 2 _
  have C2 : Chd (fun j => j = tb) w w2 := by subst hw2 hw1; exact (Chd.set w tb 1 _).trans (Chd.set _ tb 2 _)
  have D2 := hb.chd C2 hne
  have D4 : BlkIs w4 (g.blk f) 101 #[.slice A n c, .slice A2 n2 c2', .int .u64 ((s.clock + 1 : Nat) : Int)] := by subst hw4 hw3; exact (D2.set 0 _).set 2 _
  have C4 : Chd (fun j => j = g.blk f) w2 w4 := by subst hw4 hw3; exact (Chd.set w2 _ 0 _).trans (Chd.set _ _ 2 _)
  have T4 : BlkIs w4 tb 81 (treeC (s.putB f b) g) := by
    have := T2.chd C4 (fun e => hne e.symm)
    unfold St.putB
    rw [hlen, hbn]
    exact this
  have C : Chd (fun j => j = tb ∨ j = g.blk f) w w4 := (C2.mono fun _ _ e => .inl e).trans (C4.mono fun _ _ e => .inr e)
  have tgb := (h.fil f hf).tg
  have R : TreeAt w4 tb (s.putB f b) (g.take A (11 + 2 * f)) := by
    have h' : TreeAt w tb s (g.take A (11 + 2 * f)) := h.retag (fun j hj => by
        show (if A = some ⟨j, 0, none⟩ then 11 + 2 * f else g.tag j) = g.tag j
        split
        · rename_i e
          rcases (hfit.tg j e).2 with e2 | e2
          · exact absurd e2 hj
          · exact e2.symm
        · rfl) (fun j hj => by
        have hj' : (if A = some ⟨j, 0, none⟩ then 11 + 2 * f else g.tag j) ≠ 0 := hj
        split at hj'
        · rename_i e
          exact (hfit.tg j e).1
        · exact h.dom j hj')
    have nt : ∀ j, A = some ⟨j, 0, none⟩ → ¬ (j = tb ∨ j = g.blk f) := fun j e hj => by
      have := (hfit.tg j e).2
      rcases hj with rfl | rfl
      · rw [h.topT] at this; omega
      · rw [tgb] at this; omega
    have nt2 : ∀ j, A2 = some ⟨j, 0, none⟩ → ¬ (j = tb ∨ j = g.blk f) := fun j e hj => by
      have := t2 j e
      rcases hj with rfl | rfl
      · rw [h.topT] at this; omega
      · rw [tgb] at this; omega
    have tb' : (g.take A (11 + 2 * f)).tag (g.blk f) = 10 + 2 * f := (h'.fil f hf).tg
    refine h'.refile (f := f) (x := { s.at_ f with now := b, st := s.clock + 1 }) C (fun j hj => ?_) hf ?_ T4 rfl rfl rfl rfl
    · rcases hj with e | e
      · exact .inl e
      · rw [e]; exact .inr (.inr (.inl tb'))
    · refine ⟨⟨A, n, c, A2, n2, c2', D4, own_chd hfit.own C nt, own_chd ho2 C nt2, ?_, fun j e => if_pos e, fun j e => ?_⟩, tb'⟩
      · exact hfit.safe A2 n2 c2' (by rw [hb.cell]; rfl)
      · show (if A = some ⟨j, 0, none⟩ then 11 + 2 * f else g.tag j) = 11 + 2 * f
        split
        · rfl
        · exact t2 j e
  have R' := Lib.hid R
  have C' := Lib.hid C
  have W1 := Lib.hid hw1
  have W2 := Lib.hid hw2
  have W3 := Lib.hid hw3
  have W4 := Lib.hid hw4
  have hne2 : tb ≠ g.blk f := fun e => hne e.symm
  clear R C T4 C4 D4 D2 C2 T2 T1 hw1 hw2 hw3 hw4 h ok hfit hb ho1 ho2 hal t1 t2 hlen hbn hbl hf tgb
  generalize hfb : g.blk f = fb at *
  have HF := Lib.hid hfb
  clear hfb
  generalize (s.at_ f).st = st at *
  generalize hu : s.used = u at *
  generalize hck : s.clock = ck at *
  have HU := Lib.hid hu
  have HC := Lib.hid hck
  clear hu hck
  unfold fptr
  go_enter Tryz.func94, Tryz.ntmps94
  go_wp2
  go_region
  go_wp2
  refine bodyPost_end (results_none rfl _ _ _) rfl ?_
  rw [W1.out, W2.out, W3.out, W4.out]
  exact ⟨rfl, R'.out.nx (Below.drew (Below.refl _ _)), C'.out.drew⟩
end Go.Proofs.YtiikjdjpodmpcaaGreat

/- Package tree: changes of paths, done to the files of a map. -/
namespace Go.Proofs.YtiikjdjpodmpcaaGreat
open Go.RowKit Go.Maps
set_option linter.unusedVariables false

/-- What a change is to the program: a function with what it has captured. -/
def chArgs : Value → Array Value
  | .func _ _ caps => caps
  | _ => #[]
theorem make1_any (w : World) (tag : Nat → Nat) (blk : Nat → Nat) (b b1 b2 : Nat) (l : Dir) (hm : MapAt w b blk l) (hl : l.length ≤ 100000) (p : Str) (f : Nat) (hp : p.length ≤ 10000) (h1 : PtrBox w tag b1 (blk f)) (h2 : StrBox w tag b2 p) :
    Calls Tryz.prog 134 #[.map (some b), boxP b1, boxP b2] w fun e w' => e = .returned (.tuple #[]) ∧ MapAt w' b blk (put l p f) ∧ Chd (fun j => j = b) w w' := by
  obtain ⟨w', hrun, hm', hg⟩ := hm.store p f (by unfold maxLen; omega) (by unfold maxLen; omega)
  have d1 : w.cell? ⟨b1, 0, none⟩ = some (fptr (blk f)) := by rw [h1.1.cell]; rfl
  have d2 : w.cell? ⟨b2, 0, none⟩ = some (.string ⟨p.toArray⟩) := by rw [h2.1.cell]; rfl
  have HM := Lib.hid hm'
  have HG := Lib.hid hg
  clear hm' hg hm h1 h2
  unfold fptr at *
  unfold boxP
  generalize (⟨p.toArray⟩ : ByteArray) = sp at *
  go_enter Tryz.func134, Tryz.ntmps134
  go_wp2
  refine bodyPost_end (results_none rfl _ _ _) rfl ?_
  exact ⟨rfl, HM.out, Chd.of_grown HG.out⟩
theorem remove1_any (w : World) (tag : Nat → Nat) (blk : Nat → Nat) (b b1 : Nat) (l : Dir) (hm : MapAt w b blk l) (p : Str) (hp : p.length ≤ 10000) (h2 : StrBox w tag b1 p) :
    Calls Tryz.prog 149 #[.map (some b), boxP b1] w fun e w' => e = .returned (.tuple #[]) ∧ MapAt w' b blk (era l p) ∧ Chd (fun j => j = b) w w' := by
  have hdrop := fun ty => hm.drop p (by unfold maxLen; omega) ty
  have d2 : w.cell? ⟨b1, 0, none⟩ = some (.string ⟨p.toArray⟩) := by rw [h2.1.cell]; rfl
  obtain ⟨w', hrun, hm', hg⟩ := hdrop 0
  have HM := Lib.hid hm'
  have HG := Lib.hid hg
  clear hm' hg hm h2
  unfold boxP
  generalize (⟨p.toArray⟩ : ByteArray) = sp at *
  go_enter Tryz.func149, Tryz.ntmps149
  go_wp2
  refine bodyPost_end (results_none rfl _ _ _) rfl ?_
  exact ⟨rfl, HM.out, Chd.of_grown HG.out⟩
theorem rename1_any (w : World) (tag : Nat → Nat) (blk : Nat → Nat) (b b1 b2 b3 : Nat) (l : Dir) (hm : MapAt w b blk l) (hl : l.length ≤ 100000) (p q : Str) (f : Nat) (hp : p.length ≤ 10000) (hq : q.length ≤ 10000)
    (h1 : StrBox w tag b1 p) (h2 : PtrBox w tag b2 (blk f)) (h3 : StrBox w tag b3 q) (n2 : b ≠ b2) (n3 : b ≠ b3) :
    Calls Tryz.prog 136 #[.map (some b), boxP b1, boxP b2, boxP b3] w fun e w' => e = .returned (.tuple #[]) ∧ MapAt w' b blk (put (era l p) q f) ∧ Chd (fun j => j = b) w w' := by
  obtain ⟨w', hrun, hm', hg⟩ := hm.drop p (by unfold maxLen; omega) 0
  have hl2 := era_length l p
  obtain ⟨w'', hrun2, hm'', hg'⟩ := hm'.store q f (by unfold maxLen; omega) (by unfold maxLen; omega)
  have k2 := h2.1.chd (Chd.of_grown hg) (fun e => n2 e.symm)
  have k3 := h3.1.chd (Chd.of_grown hg) (fun e => n3 e.symm)
  have d1 : w.cell? ⟨b1, 0, none⟩ = some (.string ⟨p.toArray⟩) := by rw [h1.1.cell]; rfl
  have d2 : w'.cell? ⟨b2, 0, none⟩ = some (fptr (blk f)) := by rw [k2.cell]; rfl
  have d3 : w'.cell? ⟨b3, 0, none⟩ = some (.string ⟨q.toArray⟩) := by rw [k3.cell]; rfl
  have HM := Lib.hid hm''
  have HG := Lib.hid ((Chd.of_grown hg).trans (Chd.of_grown hg'))
  clear hm' hg hm h1 h2 h3 k2 k3 hm'' hg'
  unfold fptr at *
  unfold boxP
  generalize (⟨p.toArray⟩ : ByteArray) = sp at *
  generalize (⟨q.toArray⟩ : ByteArray) = sq at *
  go_enter Tryz.func136, Tryz.ntmps136
  go_wp2
  refine bodyPost_end (results_none rfl _ _ _) rfl ?_
  exact ⟨rfl, HM.out, HG.out⟩
end Go.Proofs.YtiikjdjpodmpcaaGreat

/- Package tree: a change of paths is done, and kept for what is safe. -/
namespace Go.Proofs.YtiikjdjpodmpcaaGreat
open Go.RowKit Go.Maps
set_option linter.unusedVariables false

theorem change_info : (Tryz.prog.info? 140).map (fun i => (i.zero, i.size, i.bytes)) = some (some .nilFunc, 1, 8) := by kernel_rfl
theorem ChAt.one {w : World} {tag : Nat → Nat} {blk : Nat → Nat} {v : Value} {c : Chg} (h : ChAt w tag blk v c) : v.oneCell' = true := by
  cases c with
  | mk p f => obtain ⟨b1, b2, e, _⟩ := h; subst e; rfl
  | mv p q f => obtain ⟨b1, b2, b3, e, _⟩ := h; subst e; rfl
  | rm p => obtain ⟨b1, e, _⟩ := h; subst e; rfl
/-- A change, called with a map of files. -/
def Runs (w : World) (blk : Nat → Nat) (v : Value) (c : Chg) (b : Nat) (l : Dir) : Prop :=
  ∃ fn caps, v = .func (.func fn) #[] caps ∧ (fn = 134 ∨ fn = 136 ∨ fn = 149) ∧ Calls Tryz.prog fn (#[.map (some b)] ++ caps) w fun e w' => e = .returned (.tuple #[]) ∧ MapAt w' b blk (c.app l) ∧ Chd (fun j => j = b) w w'
theorem ChAt.runs {w : World} {tag : Nat → Nat} {blk : Nat → Nat} {v : Value} {c : Chg} (h : ChAt w tag blk v c) {n : Nat} (hc : c.small n) {b : Nat} {l : Dir} (hm : MapAt w b blk l) (hl : l.length ≤ 100000) (hb : tag b ≠ 5) : Runs w blk v c b l := by
  cases c with
  | mk p f =>
    obtain ⟨b1, b2, e, h1, h2⟩ := h
    exact ⟨_, _, e, .inl rfl, make1_any w tag blk b b1 b2 l hm hl p f hc.1 h1 h2⟩
  | mv p q f =>
    obtain ⟨b1, b2, b3, e, h1, h2, h3⟩ := h
    exact ⟨_, _, e, .inr (.inl rfl), rename1_any w tag blk b b1 b2 b3 l hm hl p q f hc.1 hc.2.1 h1 h2 h3 (fun e => hb (by rw [e]; exact h2.2)) (fun e => hb (by rw [e]; exact h3.2))⟩
  | rm p =>
    obtain ⟨b1, e, h1⟩ := h
    exact ⟨_, _, e, .inr (.inr rfl), remove1_any w tag blk b b1 l hm p hc h1⟩
def Gh.more (g : Gh) (cv v : Value) : Gh := { g with cv := cv, vs := g.vs ++ [v], tag := fun j => if cv.ownBlock = some j then 4 else g.tag j }

theorem record_end {w w1 w3 : World} {tb : Nat} {s : St} {g : Gh} {c : Chg} {v : Value} {gb cap : Nat} {cs : Array Value} (H : TreeAt w tb s g) (hv : ChAt w g.tag g.blk v c) (hm1 : MapAt w1 g.mf g.blk (c.app s.files))
    (hc1 : Chd (fun j => j = g.mf) w w1) (hown2 : w3.ownsRow 0 140 1 (.slice (some ⟨gb, 0, none⟩) (s.chs.length + 1) cap) (s.chs.length + 1) (g.vs ++ [v]))
    (hgrow : (w1.alloc (.cells cs 140)).grownBy w3 g.cv.ownBlock) (hat : g.cv.ownBlock = some gb ∨ gb = w1.heap.size + 1) :
    TreeAt ((w3.setCell ⟨tb, 5, none⟩ (.slice (some ⟨gb, 0, none⟩) (s.chs.length + 1) cap)).setCell ⟨tb, 2, none⟩ (.int .u64 ((s.clock : Int) + 1))) tb (s.record c) (g.more (.slice (some ⟨gb, 0, none⟩) (s.chs.length + 1) cap) v) ∧
      (g.cv.ownBlock = some gb ∨ ∃ j, some gb = some j ∧ w.heap.size ≤ j) ∧
      Chd (fun j => j = tb ∨ j = g.mf ∨ g.cv.ownBlock = some j) w ((w3.setCell ⟨tb, 5, none⟩ (.slice (some ⟨gb, 0, none⟩) (s.chs.length + 1) cap)).setCell ⟨tb, 2, none⟩ (.int .u64 ((s.clock : Int) + 1))) := by
  have hmt : tb ≠ g.mf := fun e => by have := H.mfT; rw [← e, H.topT] at this; omega
  have hct : g.cv.ownBlock ≠ some tb := fun e => by have := H.rowT tb e; rw [H.topT] at this; omega
  have hcm : g.cv.ownBlock ≠ some g.mf := fun e => by have := H.rowT _ e; rw [H.mfT] at this; omega
  have C13 : Chd (fun j => g.cv.ownBlock = some j) w1 w3 := (Chd.of_below ((Below.refl _ w1).alloc (Nat.le_refl _) _)).trans (Chd.of_grownBy hgrow)
  have C3 : Chd (fun j => j = g.mf ∨ g.cv.ownBlock = some j) w w3 := (hc1.mono fun _ _ e => .inl e).trans (C13.mono fun _ _ e => .inr e)
  have T3 := H.top.chd C3 (fun e => by
    rcases e with e | e
    · exact hmt e
    · exact hct e)
  obtain ⟨w4, hw4⟩ : ∃ w4, (w3.setCell ⟨tb, 5, none⟩ (.slice (some ⟨gb, 0, none⟩) (s.chs.length + 1) cap)) = w4 := ⟨_, rfl⟩
  obtain ⟨w5, hw5⟩ : ∃ w5, (w4.setCell ⟨tb, 2, none⟩ (.int .u64 ((s.clock : Int) + 1))) = w5 := ⟨_, rfl⟩
  rw [hw4, hw5]
  have C35 : Chd (fun j => j = tb) w3 w5 := by subst hw5 hw4; exact (Chd.set _ tb 5 _).trans (Chd.set _ tb 2 _)
  have T5 : BlkIs w5 tb 81 (treeC (s.record c) (g.more (.slice (some ⟨gb, 0, none⟩) (s.chs.length + 1) cap) v)) := by subst hw5 hw4; exact (T3.set 5 _).set 2 _
  have C : Chd (fun j => j = tb ∨ j = g.mf ∨ g.cv.ownBlock = some j) w w5 := (C3.mono fun _ _ e => .inr e).trans (C35.mono fun _ _ e => .inl e)
  have C15 : Chd (fun j => j = tb ∨ g.cv.ownBlock = some j) w1 w5 := (C13.mono fun _ _ e => .inr e).trans (C35.mono fun _ _ e => .inl e)
  have tg : ∀ j, (j = tb ∨ j = g.mf ∨ g.cv.ownBlock = some j) → g.tag j = 1 ∨ g.tag j = 2 ∨ g.tag j = 4 := fun j hj => by
    rcases hj with rfl | rfl | e
    · exact .inl H.topT
    · exact .inr (.inl H.mfT)
    · exact .inr (.inr (H.rowT j e))
  have hgb : gb < w3.heap.size := by
    rcases hown2.2 with ⟨e, _⟩ | ⟨b, cp, cur, hv, _, hb, _⟩
    · cases e
    · simp only [Value.slice.injEq, Option.some.injEq, Addr.mk.injEq] at hv
      rw [hv.1.1]
      exact (Array.getElem?_eq_some_iff.1 hb).1
  have hgt : gb ≠ tb := fun e => by
    rcases hat with h | h
    · rw [e] at h; exact hct h
    · have := H.top.lt; have := hc1.size; omega
  obtain ⟨cv, hcv⟩ : ∃ cv, Value.slice (some ⟨gb, 0, none⟩) (s.chs.length + 1) cap = cv := ⟨_, rfl⟩
  have hob : cv.ownBlock = some gb := by rw [← hcv]; rfl
  rw [hcv] at hown2 T5 ⊢
  have hnew : g.cv.ownBlock = some gb ∨ w.heap.size ≤ gb := hat.imp id fun e => by have := hc1.size; omega
  have ht : ∀ j, g.tag j ≠ 0 → (g.more cv v).tag j = g.tag j := fun j hj => by
    show (if cv.ownBlock = some j then 4 else g.tag j) = g.tag j
    split
    · rename_i e
      rw [hob, Option.some.injEq] at e
      subst e
      rcases hnew with e | e
      · exact (H.rowT _ e).symm
      · have := H.dom _ hj; omega
    · rfl
  refine ⟨?_, hnew.imp id fun e => ⟨gb, rfl, e⟩, C⟩
  exact { top := T5
          topT := by rw [ht tb (by rw [H.topT]; omega), H.topT]
          mfT := by show (g.more cv v).tag g.mf = 2; rw [ht _ (by rw [H.mfT]; omega), H.mfT]
          msT := by show (g.more cv v).tag g.ms = 3; rw [ht _ (by rw [H.msT]; omega), H.msT]
          mfA := hm1.chd C15 (fun e => by
            rcases e with e | e
            · exact hmt e.symm
            · exact hcm e)
          msA := H.msA.chd C (fun e => by have := tg _ e; rw [H.msT] at this; omega)
          row := by
            show w5.ownsRow 0 140 1 cv (s.chs ++ [c]).length (g.vs ++ [v])
            rw [List.length_append, List.length_singleton]
            exact row_chd hown2 C35 (fun b hb e => hgt (by rw [hob, Option.some.injEq] at hb; rw [hb]; exact e))
          rowT := fun b hb => by
            show (if cv.ownBlock = some b then 4 else g.tag b) = 4
            exact if_pos hb
          chs := fun i c' hi => by
            have hl : g.vs.length = s.chs.length := by have := H.row.1; omega
            have hi' : (s.chs ++ [c])[i]? = some c' := hi
            show ∃ v', (g.vs ++ [v])[i]? = some v' ∧ ChAt w5 (g.more cv v).tag g.blk v' c'
            by_cases hlt : i < s.chs.length
            · rw [List.getElem?_append_left hlt] at hi'
              obtain ⟨v', e, ha⟩ := H.chs i c' hi'
              exact ⟨v', by rw [List.getElem?_append_left (by omega)]; exact e, (ha.chd C (fun j e => by have := tg _ e; omega)).retag ht⟩
            · rw [List.getElem?_append_right (by omega)] at hi'
              have hi0 : i = s.chs.length := by
                have := (List.getElem?_eq_some_iff.1 hi').1
                simp at this
                omega
              subst hi0
              simp at hi'
              subst hi'
              exact ⟨v, by rw [List.getElem?_append_right (by omega)]; simp [hl], (hv.chd C (fun j e => by have := tg _ e; omega)).retag ht⟩
          fil := fun i hi => ((H.fil i hi).chd C (fun j e => by have := tg _ e; omega)).retag ht
          dom := fun j hj => by
            have hj' : (if cv.ownBlock = some j then 4 else g.tag j) ≠ 0 := hj
            split at hj'
            · rename_i e
              rw [hob, Option.some.injEq] at e
              subst e
              exact Nat.lt_of_lt_of_le hgb C35.size
            · exact Nat.lt_of_lt_of_le (H.dom j hj') C.size
          apart := H.apart }

set_option maxRecDepth 100000 in
theorem record_any (w : World) (tb : Nat) (s : St) (g : Gh) {k : Nat} (hk : k ≤ 1000) (h : TreeAt w tb s g) (ok : Ok k s) (v : Value) (c : Chg) (hc : c.small s.fil.length) (hv : ChAt w g.tag g.blk v c) :
    Calls Tryz.prog 133 #[.pointer (some ⟨tb, 0, none⟩), v] w fun e w' =>
      e = .returned (.tuple #[]) ∧ (∃ cv, TreeAt w' tb (s.record c) (g.more cv v) ∧ (g.cv.ownBlock = cv.ownBlock ∨ ∃ j, cv.ownBlock = some j ∧ w.heap.size ≤ j)) ∧ Chd (fun j => j = tb ∨ j = g.mf ∨ g.cv.ownBlock = some j) w w' := by
  obtain ⟨i0, hi, hz0, hz1, hz2⟩ := info_parts change_info
  have hone := hv.one
  obtain ⟨fn, caps, hve, hfn, hrun⟩ := hv.runs hc h.mfA (by have := ok.lf; omega) (by rw [h.mfT]; omega)
  have c3 := (top_of h.top).c3
  have hlen : s.chs.length ≤ 1000 := by have := ok.ls; omega
  have k1 : (s.clock : Int) ≤ 10000000 := by have := ok.ck; omega
  have hmt : g.mf ≠ tb := fun e => by have := h.mfT; rw [e, h.topT] at this; omega
  obtain ⟨args, hargs⟩ : ∃ args, #[Value.map (some g.mf)] ++ caps = args := ⟨_, rfl⟩
  rw [hargs] at hrun
  have H := Lib.hid h
  have HV := Lib.hid hv
  have HR := Lib.hid hrun
  have HE := Lib.hid hve
  have hvf : v = .func (.func fn) #[] caps := hve
  clear h hv hrun ok hc hve
  have step1 : ∀ w1, MapAt w1 g.mf g.blk (c.app s.files) → Chd (fun j => j = g.mf) w w1 → w1.cell? ⟨tb, 5, none⟩ = some g.cv ∧ w1.frozen? ⟨tb, 5, none⟩ = false ∧
      ∀ cs, (w1.alloc (.cells cs 140)).ownsRow 0 140 1 g.cv s.chs.length g.vs := fun w1 hm1 hc1 => by
    have T1 := H.out.top.chd hc1 (fun e => hmt e.symm)
    have r1 := row_chd H.out.row hc1 (fun b hb e => by have := H.out.rowT b hb; rw [e, H.out.mfT] at this; omega)
    exact ⟨(top_of T1).c5, T1.frozen 5, fun cs => row_chd (M := fun _ => False) r1 (Chd.of_below ((Below.refl _ w1).alloc (Nat.le_refl _) _)) (fun _ _ e => e)⟩
  have S1 := Lib.hid step1
  clear step1
  rcases hfn with rfl | rfl | rfl <;> (
    subst hvf
    go_enter Tryz.func133, Tryz.ntmps133
    go_wp2_with fail
    refine HR.out.mono ?_
    rintro e w1 ⟨rfl, hm1, hc1⟩
    obtain ⟨c5, f5, r1⟩ := S1.out w1 hm1 hc1
    have r1' := Lib.hid r1
    have S2 : Hid (∀ cs w3, (w1.alloc (.cells cs 140)).grownBy w3 g.cv.ownBlock → Chd (fun j => j = g.mf ∨ g.cv.ownBlock = some j) w w3 ∧ BlkIs w3 tb 81 (treeC s g) ∧
        w3.cell? ⟨tb, 5, none⟩ = some g.cv ∧ w3.frozen? ⟨tb, 5, none⟩ = false ∧ w3.cell? ⟨tb, 2, none⟩ = some (.int .u64 (s.clock : Int)) ∧ w3.frozen? ⟨tb, 2, none⟩ = false) := fun cs w3 hgrow => by
      have C3 : Chd (fun j => j = g.mf ∨ g.cv.ownBlock = some j) w w3 := ((hc1.trans (Chd.of_below ((Below.refl _ w1).alloc (Nat.le_refl _) _))).mono fun _ _ e => .inl e).trans ((Chd.of_grownBy hgrow).mono fun _ _ e => .inr e)
      have T3 := H.out.top.chd C3 (fun e => by
        rcases e with e | e
        · exact hmt e.symm
        · have := H.out.rowT tb e; rw [H.out.topT] at this; omega)
      exact ⟨C3, T3, (top_of T3).c5, T3.frozen 5, (top_of T3).c2, T3.frozen 2⟩
    have HM := Lib.hid hm1
    have HC := Lib.hid hc1
    clear hm1 hc1 HR S1 r1 hargs
    go_wp2_with (at_builtin; refine wpList_append_lies _ rfl _ _ 79 rfl 0 140 i0 .nilFunc 1 8 Tryz.underlying79 hi hz0 hz1 hz2 rfl (by decide) g.cv s.chs.length g.vs rfl (r1'.out _) ⟨w1.heap.size, 0, none⟩ 1 1 [_] rfl rfl (cell_one_new _ _ _) (by simpa using hone) (by decide) (by unfold maxLen; omega) (by omega) (Nat.zero_le _) _ rfl ?_; intro gb cap w3 hown2 hgrow hat hlt; obtain ⟨C3, T3, c5', f5', c2', f2'⟩ := S2.out _ w3 hgrow)
    refine bodyPost_end (results_none rfl _ _ _) rfl ?_
    have R := record_end H.out HV.out HM.out HC.out hown2 hgrow (hat.imp id fun e => by rw [e]; simp)
    exact ⟨rfl, ⟨_, R.1, R.2.1⟩, R.2.2⟩)
end Go.Proofs.YtiikjdjpodmpcaaGreat

/- Package tree: a file is made. -/
namespace Go.Proofs.YtiikjdjpodmpcaaGreat
open Go.RowKit Go.Maps
set_option linter.unusedVariables false

theorem ChAt.reblk {w : World} {tag blk blk' : Nat → Nat} {v : Value} {c : Chg} {n : Nat} (h : ChAt w tag blk v c) (hc : c.small n) (hb : ∀ i, i < n → blk' i = blk i) : ChAt w tag blk' v c := by
  cases c with
  | mk p f => obtain ⟨b1, b2, e, h1, h2⟩ := h; exact ⟨b1, b2, e, by rw [hb f hc.2]; exact h1, h2⟩
  | mv p q f => obtain ⟨b1, b2, b3, e, h1, h2, h3⟩ := h; exact ⟨b1, b2, b3, e, h1, by rw [hb f hc.2.2]; exact h2, h3⟩
  | rm p => obtain ⟨b1, e, h1⟩ := h; exact ⟨b1, e, h1⟩
def Gh.file (g : Gh) (n fb b1 b2 : Nat) : Gh := { g with blk := fun i => if i = n then fb else g.blk i, tag := fun j => if j = fb then 10 + 2 * n else if j = b1 ∨ j = b2 then 5 else g.tag j }
def St.addF (s : St) (x : Fil) : St := { s with fil := s.fil ++ [x] }
theorem at_addF (s : St) (x : Fil) (i : Nat) (hi : i ≤ s.fil.length) : (s.addF x).at_ i = if i = s.fil.length then x else s.at_ i := by
  unfold St.addF St.at_
  simp only [List.getD]
  by_cases e : i = s.fil.length
  · subst e; simp
  · rw [if_neg e, List.getElem?_append_left (by omega)]
theorem tg0 (tag : Nat → Nat) (t : Nat) : Tg tag none t := fun _ e => nomatch e
theorem TreeAt.addF {w' : World} {tb : Nat} {s : St} {g : Gh} {k : Nat} (H : TreeAt w' tb s g) (ok : Ok k s) {fb b1 b2 : Nat} (hfb : g.tag fb = 0) (hb1 : g.tag b1 = 0) (hb2 : g.tag b2 = 0)
    (hb : BlkIs w' fb 101 #[.slice none 0 0, .slice none 0 0, .int .u64 0]) (l1 : b1 < w'.heap.size) (l2 : b2 < w'.heap.size) : TreeAt w' tb (s.addF ⟨[], [], 0⟩) (g.file s.fil.length fb b1 b2) := by
  have ht : ∀ j, g.tag j ≠ 0 → (g.file s.fil.length fb b1 b2).tag j = g.tag j := fun j hj => by
    show (if j = fb then _ else if j = b1 ∨ j = b2 then 5 else g.tag j) = g.tag j
    rw [if_neg (fun e => hj (by rw [e]; exact hfb)), if_neg (fun e => hj (by rcases e with e | e <;> (rw [e]; assumption)))]
  have hk : ∀ i, i < s.fil.length → (g.file s.fil.length fb b1 b2).blk i = g.blk i := fun i hi => if_neg (by omega)
  exact { top := H.top
          topT := by rw [ht tb (by rw [H.topT]; omega), H.topT]
          mfT := by show (g.file s.fil.length fb b1 b2).tag g.mf = 2; rw [ht _ (by rw [H.mfT]; omega), H.mfT]
          msT := by show (g.file s.fil.length fb b1 b2).tag g.ms = 3; rw [ht _ (by rw [H.msT]; omega), H.msT]
          mfA := H.mfA.congr ok.fs hk
          msA := H.msA.congr ok.ss hk
          row := H.row
          rowT := fun b hb => by rw [ht _ (by rw [H.rowT b hb]; omega), H.rowT b hb]
          chs := fun i c hi => by
            obtain ⟨v, hv, ha⟩ := H.chs i c hi
            exact ⟨v, hv, (ha.reblk (ok.cs c (List.mem_of_getElem? hi)) hk).retag ht⟩
          fil := fun i hi => by
            have hi2 : i ≤ s.fil.length := by unfold St.addF at hi; simp at hi; omega
            rw [at_addF s _ i hi2]
            by_cases e : i = s.fil.length
            · subst e
              rw [if_pos rfl]
              have e1 : (g.file s.fil.length fb b1 b2).blk s.fil.length = fb := if_pos rfl
              rw [e1]
              have own0 : Own w' 0 none 0 0 [] := ⟨rfl, .inl ⟨rfl, rfl⟩⟩
              exact ⟨⟨none, 0, 0, none, 0, 0, hb, own0, own0, fun _ => Nat.le_refl _, tg0 _ _, tg0 _ _⟩, if_pos rfl⟩
            · rw [if_neg e, hk i (by omega)]
              exact (H.fil i (by omega)).retag ht
          dom := fun j hj => by
            have hj' : (if j = fb then 10 + 2 * s.fil.length else if j = b1 ∨ j = b2 then 5 else g.tag j) ≠ 0 := hj
            by_cases e1 : j = fb
            · rw [e1]; exact hb.lt
            · rw [if_neg e1] at hj'
              by_cases e2 : j = b1 ∨ j = b2
              · rcases e2 with e | e <;> (rw [e]; assumption)
              · rw [if_neg e2] at hj'
                exact H.dom j hj'
          apart := H.apart }
theorem addF_set (s : St) (x y : Fil) : (s.fil ++ [x]).set s.fil.length y = s.fil ++ [y] := by
  rw [List.set_append_right _ _ (Nat.le_refl _)]
  simp
theorem make_eq (s : St) (p : Str) : s.make p = if (s.begin_ [p]).2 = 0 then (match look s.files p with | some _ => ((s.begin_ [p]).1, 7) | none => (({ (s.begin_ [p]).1.addF ⟨[], [], s.clock + 1⟩ with } : St).record (.mk p s.fil.length), 0)) else s.begin_ [p] := by
  unfold St.make
  obtain ⟨h1, _, _, h4, _, _, h7⟩ := begin_same s [p]
  generalize s.begin_ [p] = r at *
  obtain ⟨s1, e⟩ := r
  simp only at h1 h4 h7 ⊢
  rw [← h1, ← h4, ← h7]
  split
  · cases look s1.files p <;> rfl
  · rfl
theorem Ok.addF {k : Nat} {s : St} (h : Ok k s) (x : Nat) : Ok (k + 1) (s.addF ⟨[], [], x⟩) := by
  have hl : (s.addF ⟨[], [], x⟩).fil.length = s.fil.length + 1 := by unfold St.addF; simp
  have ha : ∀ i, ((s.addF ⟨[], [], x⟩).at_ i).now.length ≤ 10000 * k ∧ ((s.addF ⟨[], [], x⟩).at_ i).sf.length ≤ 10000 * k := fun i => by
    by_cases hi : i ≤ s.fil.length
    · rw [at_addF s _ i hi]
      split
      · exact ⟨Nat.zero_le _, Nat.zero_le _⟩
      · exact ⟨h.sz i, h.sy i⟩
    · unfold St.addF St.at_
      simp only [List.getD]
      rw [List.getElem?_eq_none (by simp; omega)]
      exact ⟨Nat.zero_le _, Nat.zero_le _⟩
  exact { fs := fun e he => by rw [hl]; have := h.fs e he; omega
          ss := fun e he => by rw [hl]; have := h.ss e he; omega
          cs := fun c hc => by
            rw [hl]
            have := h.cs c hc
            cases c with
            | mk p f => exact ⟨this.1, by have := this.2; omega⟩
            | mv p q f => exact ⟨this.1, this.2.1, by have := this.2.2; omega⟩
            | rm p => exact this
          r0 := h.r0, r1 := h.r1
          u0 := by have := h.u0; show _ ≤ s.used; omega
          u1 := by have := h.u1; show s.used ≤ _; omega
          ck := by have := h.ck; show s.clock ≤ _; omega
          f0 := h.f0, f1 := h.f1
          nf := by rw [hl]; have := h.nf; omega
          lf := by have := h.lf; show s.files.length ≤ _; omega
          ls := by have := h.ls; show s.safe.length + s.chs.length ≤ _; omega
          sz := fun i => by have := (ha i).1; omega
          sy := fun i => by have := (ha i).2; omega }
/-- The file that was made gets its stamp. -/
theorem stamp_end {w5 : World} {tb : Nat} {s1 : St} {g5 : Gh} {c : Chg} {fb ck : Nat} (h : TreeAt w5 tb ((s1.addF ⟨[], [], 0⟩).record c) g5) (hb : g5.blk s1.fil.length = fb) :
    TreeAt (w5.setCell ⟨fb, 2, none⟩ (.int .u64 ((ck : Nat) : Int))) tb ((s1.addF ⟨[], [], ck⟩).record c) g5 := by
  have hl : s1.fil.length < ((s1.addF ⟨[], [], 0⟩).record c).fil.length := by unfold St.record St.addF; simp
  have ha : ((s1.addF ⟨[], [], 0⟩).record c).at_ s1.fil.length = ⟨[], [], 0⟩ := by
    have := at_addF s1 ⟨[], [], 0⟩ s1.fil.length (Nat.le_refl _)
    rw [if_pos rfl] at this
    exact this
  have hf := h.fil _ hl
  rw [ha, hb] at hf
  obtain ⟨A, n, c1, A2, n2, c2, hbk, o1, o2, hal, t1, t2⟩ := hf.ex
  have C := Chd.set w5 fb 2 (.int .u64 ((ck : Nat) : Int))
  have nt : ∀ A', Tg g5.tag A' (11 + 2 * s1.fil.length) → ∀ j, A' = some ⟨j, 0, none⟩ → ¬ j = fb := fun A' t j e e2 => by
    have h1 := t j e
    have h2 := hf.tg
    rw [e2] at h1
    omega
  refine h.refile (f := s1.fil.length) (x := ⟨[], [], ck⟩) C (fun j e => ?_) hl ?_ (h.top.chd C (fun e => ?_)) rfl rfl rfl ?_
  · rw [e]; exact .inr (.inr (.inl hf.tg))
  · rw [hb]
    exact ⟨⟨A, n, c1, A2, n2, c2, hbk.set 2 _, own_chd o1 C (nt A t1), own_chd o2 C (nt A2 t2), hal, t1, t2⟩, hf.tg⟩
  · have h2 := hf.tg
    rw [← e, h.topT] at h2
    omega
  · exact (addF_set s1 _ _).symm
end Go.Proofs.YtiikjdjpodmpcaaGreat

/- Package tree: Make. -/
namespace Go.Proofs.YtiikjdjpodmpcaaGreat
open Go.RowKit Go.Maps
set_option linter.unusedVariables false

theorem begin_at {tb : Nat} {s : St} {g : Gh} (h1 : -1 ≤ s.fuse) (h2 : s.fuse ≤ 9223372036854775807) (W : World) (h : TreeAt W tb s g) (A : Option Addr) (n c : Nat) (ps : List Str) (hs : Strs W A n ps) :
    Calls Tryz.prog 127 #[.pointer (some ⟨tb, 0, none⟩), .slice A n c] W fun e w' => e = .returned (.int .i64 (s.begin_ ps).2) ∧ TreeAt w' tb (s.begin_ ps).1 g ∧ Chd (fun j => j = tb) W w' :=
  (begin_any W tb s g h.top h1 h2 A n c ps hs).mono fun e w' ⟨a, b, c⟩ => ⟨a, h.retop c (fun j hj => .inl hj) b (begin_same s ps).1 (begin_same s ps).2.1 (begin_same s ps).2.2.1 (begin_same s ps).2.2.2.1, c⟩
theorem strs_one {w : World} {b : Nat} {p : Str} (h : w.cell? ⟨b, 0, none⟩ = some (.string (S p))) (hb : b < w.heap.size) : Strs w (some ⟨b, 0, none⟩) 1 [p] :=
  ⟨rfl, by decide, fun _ => ⟨b, rfl, hb, fun j hj => by
    obtain rfl : j = 0 := by omega
    exact h⟩⟩

set_option maxRecDepth 100000 in
theorem make_any (w : World) (tb : Nat) (s : St) (g : Gh) {k : Nat} (hk : k + 1 ≤ 1000) (h : TreeAt w tb s g) (ok : Ok k s) (p : Str) (hp : p.length ≤ 10000) :
    Calls Tryz.prog 103 #[.pointer (some ⟨tb, 0, none⟩), .string (S p)] w fun e w' => e = .returned (.int .i64 (s.make p).2) ∧ ∃ g', TreeAt w' tb (s.make p).1 g' ∧ Chd (Mine g) w w' ∧ Gh.le w g g' := by
  rw [make_eq]
  have B := Lib.hid (begin_at (tb := tb) (g := g) ok.f0 ok.f1)
  have okb := Lib.hid (ok.begin [p])
  have hsame := begin_same s [p]
  have HTB : Hid (tb < w.heap.size) := h.top.lt
  have H := Lib.hid h
  have OK := Lib.hid ok
  have HP := Lib.hid hp
  clear h ok hp
  generalize hr : s.begin_ [p] = r at *
  obtain ⟨s1, er⟩ := r
  have HB : Hid (∀ W, TreeAt W tb s g → ∀ b, W.cell? ⟨b, 0, none⟩ = some (.string (S p)) → b < W.heap.size → Calls Tryz.prog 127 #[.pointer (some ⟨tb, 0, none⟩), .slice (some ⟨b, 0, none⟩) 1 1] W fun e w' => e = .returned (.int .i64 er) ∧ TreeAt w' tb s1 g ∧ Chd (fun j => j = tb) W w') := fun W hW b hb hl => by
    have := B.out W hW (some ⟨b, 0, none⟩) 1 1 [p] (strs_one hb hl)
    rw [hr] at this
    exact this
  have HS := Lib.hid hsame
  clear B hsame hr
  simp only
  generalize hR : (if er = 0 then (match look s.files p with | some _ => (s1, (7 : Int)) | none => (({ s1.addF ⟨[], [], s.clock + 1⟩ with } : St).record (.mk p s.fil.length), 0)) else (s1, er)) = R
  have HR := Lib.hid hR
  clear hR
  generalize hsp : S p = sp at *
  have Hsp := Lib.hid hsp
  clear hsp
  go_enter Tryz.func103, Tryz.ntmps103
  go_wp2_with fail
  have hb1 : Below w.heap.size w ((w.alloc (.cells #[.string sp] 9)).alloc (.cells #[.string sp] 9)) := ((Below.refl _ w).alloc (Nat.le_refl _) _).alloc (by simp) _
  have hbox : BlkIs ((w.alloc (.cells #[.string sp] 9)).alloc (.cells #[.string sp] 9)) w.heap.size 9 #[.string sp] := (BlkIs.new w _ _).chd (M := fun _ => False) (Chd.of_below ((Below.refl _ _).alloc (Nat.le_refl _) _)) (fun e => e)
  have T1 := H.out.nx hb1
  have C1 : Chd (fun j => j = tb) w _ := Chd.of_below hb1
  refine (HB.out _ T1 (w.heap.size + 1) ?_ ?_).mono ?_
  · have := (BlkIs.new (w.alloc (.cells #[.string sp] 9)) 9 #[.string sp]).cell 0
    rw [World.size_alloc] at this
    exact this
  · simp
  rintro e w2 ⟨rfl, ht2, hc2⟩
  have hbox2 := hbox.chd hc2 (by have := HTB.out; omega)
  have C2 := Lib.hid (C1.trans hc2)
  have T2 := Lib.hid ht2
  have HX2 := Lib.hid hbox2
  clear hb1 hbox T1 C1 HB ht2 hc2 hbox2
  by_cases he : er = 0
  · have hlk := fun W (hW : MapAt W g.mf g.blk s.files) => lookup_in hW p (by have := HP.out; omega) g rfl
    rw [Hsp.out] at hlk
    have hl2 : MapAt w2 g.mf g.blk s.files := by have := T2.out.mfA; rwa [HS.out.1] at this
    have hlk1 := hlk w2 hl2
    have hlk2 := fun n => hlk (w2.drewN n) hl2
    have c3 := (top_of T2.out.top).c3
    have c2 := (top_of T2.out.top).c2
    have f2 := T2.out.top.frozen 2
    have bx0 := HX2.out.cell 0
    simp only [List.getElem?_toArray, List.getElem?_cons_zero] at bx0
    have fx0 := HX2.out.frozen 0
    clear hlk hl2
    have hR := HR.out
    rw [if_pos he] at hR
    subst he
    cases hl : look s.files p with
    | some f =>
      rw [hl] at hlk1 hlk2 hR
      unfold optP fptr at hlk1 hlk2
      simp only at hlk1 hlk2 hR
      subst hR
      clear hl HR
      go_wp2
      go_quiet (fail)
      go_wp2
      go_ret
      exact ⟨rfl, g, T2.out.nx (Nx.drewN (Nx.refl _) _), (C2.out.mono (fun j _ e => by rw [e]; show g.tag tb ≠ 0; rw [T2.out.topT]; omega)).drewN _, Gh.le_refl _ _⟩
    | none =>
      rw [hl] at hlk1 hlk2 hR
      unfold optP at hlk1 hlk2
      simp only at hlk1 hlk2 hR
      subst hR
      clear hl HR
      go_wp2
      go_quiet (fail)
      go_wp2_with fail
      have CL := clone_any (w2.drewN nq) sp (by rw [← Hsp.out, S_size]; have := HP.out; omega)
      refine CL.mono ?_
      rintro e w3 ⟨rfl, hb⟩
      have hb3 : Nx w2 w3 := Nx.trans (Nx.drewN (Nx.refl _) _) hb
      have T3 := Lib.hid (T2.out.nx hb3)
      have C3 := Lib.hid (C2.out.trans (Nx.chd hb3))
      have hbox3 := HX2.out.nx hb3
      have bx3 := hbox3.cell 0
      simp only [List.getElem?_toArray, List.getElem?_cons_zero] at bx3
      have fx3 := hbox3.frozen 0
      have HX3 := Lib.hid hbox3
      have L3 : Hid (w2.heap.size ≤ w3.heap.size) := hb3.size
      have HX2L : Hid (w.heap.size < w2.heap.size) := HX2.out.lt
      clear CL hb hb3 hbox3 bx0 fx0 c3 c2 f2 hlk1 hlk2 T2 C2 HX2
      go_wp2_with fail
      have hw0 : w.heap.size < w2.heap.size := HX2L.out
      have hL3 := L3.out
      have tz : ∀ j, w.heap.size ≤ j → g.tag j = 0 := fun j hj => by
        rcases Nat.eq_zero_or_pos (g.tag j) with e | e
        · exact e
        · have := H.out.dom j (by omega); omega
      obtain ⟨w4, hw4⟩ : ∃ w4, ((w3.setCell ⟨w.heap.size, 0, none⟩ (.string sp)).alloc (.cells #[.slice none 0 0, .slice none 0 0, .int .u64 0] 101)).alloc (.cells #[.pointer (some ⟨w3.heap.size, 0, none⟩)] 102) = w4 := ⟨_, rfl⟩
      have hs3 : (w3.setCell ⟨w.heap.size, 0, none⟩ (.string sp)).heap.size = w3.heap.size := by simp
      have C34 : Chd (fun j => j = w.heap.size) w3 w4 := by
        subst hw4
        exact (Chd.set w3 w.heap.size 0 _).trans (Chd.of_below (((Below.refl _ _).alloc (Nat.le_refl _) _).alloc (by simp) _))
      have X0 : BlkIs w4 w.heap.size 9 #[.string sp] := by
        subst hw4
        have := (HX3.out.set 0 (.string sp)).chd (M := fun _ => False) (Chd.of_below (((Below.refl _ (w3.setCell ⟨w.heap.size, 0, none⟩ (.string sp))).alloc (Nat.le_refl _) (.cells #[.slice none 0 0, .slice none 0 0, .int .u64 0] 101)).alloc (by simp) (.cells #[.pointer (some ⟨w3.heap.size, 0, none⟩)] 102))) (fun e => e)
        exact this
      have X1 : BlkIs w4 w3.heap.size 101 #[.slice none 0 0, .slice none 0 0, .int .u64 0] := by
        subst hw4
        have h1 := BlkIs.new (w3.setCell ⟨w.heap.size, 0, none⟩ (.string sp)) 101 #[.slice none 0 0, .slice none 0 0, .int .u64 0]
        rw [hs3] at h1
        exact h1.chd (M := fun _ => False) (Chd.of_below ((Below.refl _ _).alloc (Nat.le_refl _) _)) (fun e => e)
      have X2 : BlkIs w4 (w3.heap.size + 1) 102 #[fptr w3.heap.size] := by
        subst hw4
        have h1 := BlkIs.new ((w3.setCell ⟨w.heap.size, 0, none⟩ (.string sp)).alloc (.cells #[.slice none 0 0, .slice none 0 0, .int .u64 0] 101)) 102 #[fptr w3.heap.size]
        have h2 : ((w3.setCell ⟨w.heap.size, 0, none⟩ (.string sp)).alloc (.cells #[.slice none 0 0, .slice none 0 0, .int .u64 0] 101)).heap.size = w3.heap.size + 1 := by simp
        rw [h2] at h1
        exact h1
      have T4 : TreeAt w4 tb s1 g := T3.out.chd C34 (fun j e => by rw [e]; exact tz _ (Nat.le_refl _))
      have T4' := T4.addF okb.out (fb := w3.heap.size) (b1 := w3.heap.size + 1) (b2 := w.heap.size) (tz _ (by omega)) (tz _ (by omega)) (tz _ (Nat.le_refl _)) X1 X2.lt X0.lt
      have hv : ChAt w4 (g.file s1.fil.length w3.heap.size (w3.heap.size + 1) w.heap.size).tag (g.file s1.fil.length w3.heap.size (w3.heap.size + 1) w.heap.size).blk (.func (.func 134) #[] #[.pointer (some ⟨w3.heap.size + 1, 0, none⟩), .pointer (some ⟨w.heap.size, 0, none⟩)]) (.mk p s1.fil.length) := by
        refine ⟨w3.heap.size + 1, w.heap.size, rfl, ⟨?_, ?_⟩, ⟨?_, ?_⟩⟩
        · have : (g.file s1.fil.length w3.heap.size (w3.heap.size + 1) w.heap.size).blk s1.fil.length = w3.heap.size := if_pos rfl
          rw [this]; exact X2
        · show (if w3.heap.size + 1 = w3.heap.size then _ else if w3.heap.size + 1 = w3.heap.size + 1 ∨ _ then 5 else _) = 5
          rw [if_neg (by omega), if_pos (.inl rfl)]
        · rw [show (⟨p.toArray⟩ : ByteArray) = sp from Hsp.out]; exact X0
        · show (if w.heap.size = w3.heap.size then _ else if _ ∨ w.heap.size = w.heap.size then 5 else _) = 5
          rw [if_neg (by omega), if_pos (.inr rfl)]
      have ok4 := okb.out.addF 0
      have RC := record_any w4 tb _ _ hk T4' ok4 _ (.mk p s1.fil.length) ⟨HP.out, by unfold St.addF; simp⟩ hv
      rw [hw4]
      refine RC.mono ?_
      rintro e w5 ⟨rfl, ⟨cv, T5, hcv⟩, C5⟩
      have ct2 : w5.cell? ⟨tb, 2, none⟩ = some (.int .u64 ((s1.clock + 1 : Nat) : Int)) := (top_of T5.top).c2
      have nM : ∀ j, w.heap.size ≤ j → ¬ (j = tb ∨ j = (g.file s1.fil.length w3.heap.size (w3.heap.size + 1) w.heap.size).mf ∨ (g.file s1.fil.length w3.heap.size (w3.heap.size + 1) w.heap.size).cv.ownBlock = some j) := fun j hj e => by
        have t0 := tz j hj
        rcases e with e | e | e
        · rw [e, H.out.topT] at t0; omega
        · rw [e] at t0; have : g.tag g.mf = 0 := t0; rw [H.out.mfT] at this; omega
        · rw [H.out.rowT j e] at t0; omega
      have X1' := X1.chd C5 (nM _ (by omega))
      have X2' := X2.chd C5 (nM _ (by omega))
      have d1 : w5.cell? ⟨w3.heap.size + 1, 0, none⟩ = some (.pointer (some ⟨w3.heap.size, 0, none⟩)) := by rw [X2'.cell]; rfl
      have d2 : w5.cell? ⟨w3.heap.size, 2, none⟩ = some (.int .u64 0) := by rw [X1'.cell]; rfl
      have d3 := X1'.frozen 2
      have hblk : ((g.file s1.fil.length w3.heap.size (w3.heap.size + 1) w.heap.size).more cv (.func (.func 134) #[] #[.pointer (some ⟨w3.heap.size + 1, 0, none⟩), .pointer (some ⟨w.heap.size, 0, none⟩)])).blk s1.fil.length = w3.heap.size := if_pos rfl
      have T6 := stamp_end (ck := s1.clock + 1) T5 hblk
      have hck : s1.clock = s.clock := HS.out.2.2.2.2.2.2
      have hfl : s1.fil.length = s.fil.length := by rw [HS.out.2.2.2.1]
      have hle : Gh.le w g ((g.file s1.fil.length w3.heap.size (w3.heap.size + 1) w.heap.size).more cv (.func (.func 134) #[] #[.pointer (some ⟨w3.heap.size + 1, 0, none⟩), .pointer (some ⟨w.heap.size, 0, none⟩)])) := fun j hj => by
        by_cases hlt : w.heap.size ≤ j
        · exact .inr hlt
        · left
          have hj' : (if cv.ownBlock = some j then 4 else if j = w3.heap.size then 10 + 2 * s1.fil.length else if j = w3.heap.size + 1 ∨ j = w.heap.size then 5 else g.tag j) ≠ 0 := hj
          split at hj'
          · rename_i e
            rcases hcv with e2 | ⟨i, e2, hi⟩
            · have : g.tag j = 4 := H.out.rowT j (by rw [e2.symm] at e; exact e)
              omega
            · rw [e2, Option.some.injEq] at e
              have := C34.size
              omega
          · rw [if_neg (by omega), if_neg (by omega)] at hj'
            exact hj'
      have CF : Chd (Mine g) w (w5.setCell ⟨w3.heap.size, 2, none⟩ (.int .u64 ((s1.clock + 1 : Nat) : Int))) := by
        have a1 : Chd (Mine g) w w3 := C3.out.mono fun j _ e => by rw [e]; show g.tag tb ≠ 0; rw [H.out.topT]; omega
        have a2 := a1.then_ C34 (fun j hj e => by omega)
        have a3 := a2.then_ C5 (fun j hj e => by
          rcases e with e | e | e
          · rw [e]; show g.tag tb ≠ 0; rw [H.out.topT]; omega
          · rw [e]; show g.tag g.mf ≠ 0; rw [H.out.mfT]; omega
          · show g.tag j ≠ 0; rw [H.out.rowT j e]; omega)
        exact a3.then_ (Chd.set w5 w3.heap.size 2 _) (fun j hj e => by omega)
      have T6' := Lib.hid T6
      have CF' := Lib.hid CF
      have HLE := Lib.hid hle
      have HCK := Lib.hid hck
      have HFL := Lib.hid hfl
      have bck : ((s1.clock + 1 : Nat) : Int) ≤ 100000000 := by have := okb.out.ck; omega
      clear T6 CF hle hck hfl nM X1' X2' T5 C5 RC ok4 hv T4 T4' X0 X1 X2 C34 hs3 tz hw4 hcv hblk HX2L hw0 hL3 L3 bx3 fx3
      obtain ⟨ck, hckk⟩ : ∃ ck, s1.clock + 1 = ck := ⟨_, rfl⟩
      rw [hckk] at T6' CF' ct2 bck
      have HCKK := Lib.hid hckk
      clear hckk
      generalize w3.heap.size = fb at *
      go_wp2
      go_region
      go_wp2
      go_ret
      refine ⟨rfl, _, ?_, CF'.out.drew, HLE.out⟩
      have := T6'.out.nx (w' := (w5.setCell ⟨fb, 2, none⟩ (.int .u64 (ck : Int))).drew) (Below.drew (Below.refl _ _))
      rw [← HCKK.out, HCK.out, HFL.out] at this ⊢
      exact this
  · have hR : (s1, er) = R := by have := HR.out; rwa [if_neg he] at this
    subst hR
    have hne : (er != 0) = true := by simpa using he
    clear he HR
    go_wp2
    go_ret
    exact ⟨rfl, g, T2.out, C2.out.mono (fun j _ e => by rw [e]; show g.tag tb ≠ 0; rw [T2.out.topT]; omega), Gh.le_refl _ _⟩
end Go.Proofs.YtiikjdjpodmpcaaGreat

/- Package tree: Remove. -/
namespace Go.Proofs.YtiikjdjpodmpcaaGreat
open Go.RowKit Go.Maps
set_option linter.unusedVariables false

/-- What an operation with a file finds. -/
structure Found (s : St) (p : Str) (o : List Str) (s1 : St) (r : Option Nat) (e : Int) : Prop where
  eq : s.find p o = (s1, r, e)
  yes : ∀ f, r = some f → e = 0 ∧ look s1.files p = some f
  no : r = none → e ≠ 0
theorem found (s : St) (p : Str) (o : List Str) : ∃ s1 r e, Found s p o s1 r e := by
  refine ⟨_, _, _, find_eq s p o, fun f hf => ?_, fun hn => ?_⟩
  · split at hf
    · rename_i h0
      rw [if_pos h0, (begin_same s _).1, hf]
      exact ⟨rfl, rfl⟩
    · cases hf
  · split at hn
    · rename_i h0
      rw [if_pos h0, hn]
      decide
    · rename_i h0
      rw [if_neg h0]
      exact h0
theorem find_at {tb : Nat} {s : St} {g : Gh} {k : Nat} (ok : Ok k s) (p : Str) (hp : p.length ≤ 10000) {s1 : St} {r : Option Nat} {er : Int} (hf : Found s p [] s1 r er) (W : World) (h : TreeAt W tb s g) :
    Calls Tryz.prog 93 #[.pointer (some ⟨tb, 0, none⟩), .string (S p), .slice none 0 0] W fun e w' => e = .returned (.tuple #[optP g r, .int .i64 er]) ∧ TreeAt w' tb s1 g ∧ Chd (fun j => j = tb) W w' := by
  have X := find_any W tb s g h ok.f0 ok.f1 p (by omega) none 0 0 [] (by decide) ⟨rfl, .inl ⟨rfl, rfl⟩⟩ (fun b hb => by cases hb)
  rw [hf.eq] at X
  exact X.mono fun e w' ⟨a, b, c⟩ => ⟨a, b, c.mono fun j _ hj => hj.elim id (fun e => by cases e)⟩
def Gh.boxes (g : Gh) (l : List Nat) : Gh := { g with tag := fun j => if j ∈ l then 5 else g.tag j }
theorem TreeAt.boxes {w : World} {tb : Nat} {s : St} {g : Gh} (h : TreeAt w tb s g) (l : List Nat) (hl : ∀ j ∈ l, g.tag j = 0 ∧ j < w.heap.size) : TreeAt w tb s (g.boxes l) :=
  h.retag (fun j hj => by
    show (if j ∈ l then 5 else g.tag j) = g.tag j
    rw [if_neg (fun e => hj (hl j e).1)]) (fun j hj => by
    have hj' : (if j ∈ l then 5 else g.tag j) ≠ 0 := hj
    split at hj'
    · rename_i e; exact (hl j e).2
    · exact h.dom j hj')
theorem BlkIs.alloc {w : World} {g : Nat} {t : TypeId} {cs : Array Value} (h : BlkIs w g t cs) (o : Obj) : BlkIs (w.alloc o) g t cs := h.chd (M := fun _ => False) (Chd.of_below ((Below.refl _ _).alloc (Nat.le_refl _) _)) (fun e => e)
def removeR (s1 : St) (p : Str) (er : Int) : Option Nat → St × Int
  | some _ => ((s1.free p).record (.rm p), 0)
  | none => (s1, er)
theorem remove_eq (s : St) (p : Str) {s1 : St} {r : Option Nat} {er : Int} (h : Found s p [] s1 r er) : s.remove p = removeR s1 p er r := by
  unfold St.remove
  rw [h.eq]
  cases r <;> rfl
theorem mine_cv {w : World} {tb : Nat} {s : St} {g : Gh} (H : TreeAt w tb s g) : g.tag tb ≠ 0 ∧ g.tag g.mf ≠ 0 ∧ g.tag g.ms ≠ 0 ∧ ∀ j, g.cv.ownBlock = some j → g.tag j ≠ 0 :=
  ⟨by rw [H.topT]; omega, by rw [H.mfT]; omega, by rw [H.msT]; omega, fun j e => by rw [H.rowT j e]; omega⟩
theorem new_zero {w : World} {tb : Nat} {s : St} {g : Gh} (H : TreeAt w tb s g) {j : Nat} (hj : w.heap.size ≤ j) : g.tag j = 0 := by
  rcases Nat.eq_zero_or_pos (g.tag j) with e | e
  · exact e
  · have := H.dom j (by omega); omega

set_option maxRecDepth 100000 in
theorem remove_any (w : World) (tb : Nat) (s : St) (g : Gh) {k : Nat} (hk : k + 1 ≤ 1000) (h : TreeAt w tb s g) (ok : Ok k s) (p : Str) (hp : p.length ≤ 10000) :
    Calls Tryz.prog 132 #[.pointer (some ⟨tb, 0, none⟩), .string (S p)] w fun e w' => e = .returned (.int .i64 (s.remove p).2) ∧ ∃ g', TreeAt w' tb (s.remove p).1 g' ∧ Chd (Mine g) w w' ∧ Gh.le w g g' := by
  obtain ⟨s1, r, er, hf⟩ := found s p []
  rw [remove_eq s p hf]
  have FA := Lib.hid (fun W hW => find_at (tb := tb) (g := g) ok p hp hf W hW)
  have ok1 : Ok k s1 := by have := ok.find p []; rwa [hf.eq] at this
  have FR := Lib.hid (fun W hW => free_any W tb s1 g (by omega) hW ok1 p (by omega))
  have okf := Lib.hid (ok1.free (by omega) p)
  have HF := Lib.hid hf
  have H := Lib.hid h
  have HP := Lib.hid hp
  have hsz : (S p).size ≤ 1000000000000 := by rw [S_size]; omega
  have CL := Lib.hid (fun W => clone_any W (S p) hsz)
  have T1 := Lib.hid (h.nx ((Below.refl _ w).alloc (Nat.le_refl _) (.cells #[.string (S p)] 9)))
  have X1 := Lib.hid (BlkIs.new w 9 #[.string (S p)])
  clear hf h hp hsz ok ok1
  generalize hsp : S p = sp at *
  have HSP := Lib.hid hsp
  clear hsp
  generalize hR : removeR s1 p er r = R
  have HR := Lib.hid hR
  clear hR
  go_enter Tryz.func132, Tryz.ntmps132
  go_wp2_with fail
  refine (FA.out _ T1.out).mono ?_
  rintro e w2 ⟨rfl, ht2, hc2⟩
  have hb0 : w.heap.size ≠ tb := by have := H.out.top.lt; omega
  have T2 := Lib.hid ht2
  have C2 := Lib.hid ((Chd.of_below ((Below.refl _ w).alloc (Nat.le_refl _) (.cells #[.string sp] 9)) : Chd (fun j => j = tb) w _).trans hc2)
  have X2 := Lib.hid (X1.out.chd hc2 hb0)
  clear ht2 hc2 T1 X1 FA
  cases r with
  | none =>
    have hR : (s1, er) = R := HR.out
    subst hR
    have hne : (er != 0) = true := by have := HF.out.no rfl; simpa using this
    clear HR HF
    unfold optP
    go_wp2
    go_ret
    exact ⟨rfl, g, T2.out, C2.out.mono (fun j _ e => by rw [e]; exact (mine_cv H.out).1), Gh.le_refl _ _⟩
  | some f =>
    have hR : ((s1.free p).record (.rm p), (0 : Int)) = R := HR.out
    subst hR
    obtain rfl : er = 0 := (HF.out.yes f rfl).1
    have d0 := X2.out.cell 0
    simp only [List.getElem?_toArray, List.getElem?_cons_zero] at d0
    unfold optP fptr
    clear HR HF
    go_wp2_with fail
    refine (FR.out w2 T2.out).mono ?_
    rintro e w3 ⟨rfl, ht3, hc3⟩
    have T3 := Lib.hid ht3
    have C3 := Lib.hid (C2.out.trans hc3)
    have x3 := X2.out.chd hc3 hb0
    have d0 := x3.cell 0
    simp only [List.getElem?_toArray, List.getElem?_cons_zero] at d0
    have X3 := Lib.hid x3
    clear ht3 hc3 x3 FR T2 C2 X2
    go_wp2_with fail
    refine (CL.out w3).mono ?_
    rintro e w4 ⟨rfl, hb4⟩
    have T4 := Lib.hid (T3.out.nx hb4)
    have C4 := Lib.hid (C3.out.trans (Nx.chd hb4))
    have x4 := X3.out.nx hb4
    have d4 := x4.cell 0
    simp only [List.getElem?_toArray, List.getElem?_cons_zero] at d4
    have f4 := x4.frozen 0
    have X4 := Lib.hid x4
    clear hb4 x4 d0 T3 C3 X3 CL
    go_wp2_with fail
    have C5 := Chd.set w4 w.heap.size 0 (.string sp)
    have X5 : BlkIs (w4.setCell ⟨w.heap.size, 0, none⟩ (.string sp)) w.heap.size 9 #[.string sp] := X4.out.set 0 _
    have T5 := (T4.out.chd C5 (fun j e => by rw [e]; exact new_zero H.out (Nat.le_refl _))).boxes [w.heap.size] (fun j e => by
      rw [List.mem_singleton.1 e]; exact ⟨new_zero H.out (Nat.le_refl _), X5.lt⟩)
    have hv : ChAt (w4.setCell ⟨w.heap.size, 0, none⟩ (.string sp)) (g.boxes [w.heap.size]).tag (g.boxes [w.heap.size]).blk (.func (.func 149) #[] #[.pointer (some ⟨w.heap.size, 0, none⟩)]) (.rm p) :=
      ⟨w.heap.size, rfl, by rw [show (⟨p.toArray⟩ : ByteArray) = sp from HSP.out]; exact X5, by show (if w.heap.size ∈ [w.heap.size] then 5 else _) = 5; simp⟩
    have RC := record_any _ tb _ _ hk T5 okf.out _ (.rm p) HP.out hv
    refine RC.mono ?_
    rintro e w6 ⟨rfl, ⟨cv, T6, hcv⟩, C6⟩
    have CF : Chd (Mine g) w w6 := by
      have a1 : Chd (Mine g) w w4 := C4.out.mono fun j _ e => by rw [e]; exact (mine_cv H.out).1
      have a2 := a1.then_ C5 (fun j hj e => by omega)
      exact a2.then_ C6 (fun j hj e => by
        rcases e with e | e | e
        · rw [e]; exact (mine_cv H.out).1
        · rw [e]; exact (mine_cv H.out).2.1
        · exact (mine_cv H.out).2.2.2 j e)
    have hle : Gh.le w g ((g.boxes [w.heap.size]).more cv (.func (.func 149) #[] #[.pointer (some ⟨w.heap.size, 0, none⟩)])) := fun j hj => by
      have hj' : (if cv.ownBlock = some j then 4 else if j ∈ [w.heap.size] then 5 else g.tag j) ≠ 0 := hj
      split at hj'
      · rename_i e
        rcases hcv with e2 | ⟨i, e2, hi⟩
        · exact .inl ((mine_cv H.out).2.2.2 j (by rw [e2.symm] at e; exact e))
        · rw [e2, Option.some.injEq] at e
          have := C4.out.size
          simp only [World.setCell] at hi
          right
          have h2 : w4.heap.size ≤ i := by simpa using hi
          omega
      · split at hj'
        · rename_i e
          rw [List.mem_singleton.1 e]
          exact .inr (Nat.le_refl _)
        · exact .inl hj'
    have T6' := Lib.hid T6
    have CF' := Lib.hid CF
    have HLE := Lib.hid hle
    clear T6 CF hle C6 hcv RC hv T5 X5 C5
    go_wp2
    go_ret
    exact ⟨rfl, _, T6'.out, CF'.out, HLE.out⟩
end Go.Proofs.YtiikjdjpodmpcaaGreat

/- Package tree: Rename. -/
namespace Go.Proofs.YtiikjdjpodmpcaaGreat
open Go.RowKit Go.Maps
set_option linter.unusedVariables false

theorem find_at2 {tb : Nat} {s : St} {g : Gh} {k : Nat} (ok : Ok k s) (p q : Str) (hp : p.length ≤ 10000) {s1 : St} {r : Option Nat} {er : Int} (hf : Found s p [q] s1 r er) (W : World) (h : TreeAt W tb s g) (b : Nat) (hb : BlkIs W b 9 #[.string (S q)]) (h0 : g.tag b = 0) :
    Calls Tryz.prog 93 #[.pointer (some ⟨tb, 0, none⟩), .string (S p), .slice (some ⟨b, 0, none⟩) 1 1] W fun e w' => e = .returned (.tuple #[optP g r, .int .i64 er]) ∧ TreeAt w' tb s1 g ∧ Chd (fun j => j = tb ∨ j = b) W w' := by
  have X := find_any W tb s g h ok.f0 ok.f1 p (by omega) (some ⟨b, 0, none⟩) 1 1 [q] (by decide) ⟨rfl, .inr ⟨b, 1, _, rfl, Nat.zero_le _, hb, Nat.le_refl _, by decide, rfl, rfl⟩⟩ (fun j hj => by
    have : some b = some j := hj
    rw [Option.some.injEq] at this
    rw [← this]; exact h0)
  rw [hf.eq] at X
  exact X.mono fun e w' ⟨a, b, c⟩ => ⟨a, b, c.mono fun j _ hj => hj.imp id (fun e => by
    have : some _ = some j := e
    rw [Option.some.injEq] at this
    exact this.symm)⟩
def renameR (s1 : St) (p q : Str) (er : Int) : Option Nat → St × Int
  | some f => if p = q then (s1, 0) else ((s1.free q).record (.mv p q f), 0)
  | none => (s1, er)
theorem rename_eq (s : St) (p q : Str) {s1 : St} {r : Option Nat} {er : Int} (h : Found s p [q] s1 r er) : s.rename p q = renameR s1 p q er r := by
  unfold St.rename
  rw [h.eq]
  cases r <;> rfl

set_option maxRecDepth 100000 in
theorem rename_any (w : World) (tb : Nat) (s : St) (g : Gh) {k : Nat} (hk : k + 1 ≤ 1000) (h : TreeAt w tb s g) (ok : Ok k s) (p q : Str) (hp : p.length ≤ 10000) (hq : q.length ≤ 10000) :
    Calls Tryz.prog 108 #[.pointer (some ⟨tb, 0, none⟩), .string (S p), .string (S q)] w fun e w' => e = .returned (.int .i64 (s.rename p q).2) ∧ ∃ g', TreeAt w' tb (s.rename p q).1 g' ∧ Chd (Mine g) w w' ∧ Gh.le w g g' := by
  obtain ⟨s1, r, er, hf⟩ := found s p [q]
  rw [rename_eq s p q hf]
  have FA := Lib.hid (fun W hW b hb h0 => find_at2 (tb := tb) (g := g) ok p q hp hf W hW b hb h0)
  have ok1 : Ok k s1 := by have := ok.find p [q]; rwa [hf.eq] at this
  have FR := Lib.hid (fun W hW => free_any W tb s1 g (by omega) hW ok1 q (by omega))
  have okf := Lib.hid (ok1.free (by omega) q)
  have hfid : Hid (∀ f, r = some f → f < (s1.free q).fil.length) := fun f e => by
    rw [(free_same s1 q).2.1]
    exact ok1.fs _ (look_mem (hf.yes f e).2)
  have HF := Lib.hid hf
  have H := Lib.hid h
  have HP := Lib.hid hp
  have HQ := Lib.hid hq
  have hsz : (S p).size ≤ 1000000000000 := by rw [S_size]; omega
  have hsz2 : (S q).size ≤ 1000000000000 := by rw [S_size]; omega
  have CL1 := Lib.hid (fun W => clone_any W (S p) hsz)
  have CL2 := Lib.hid (fun W => clone_any W (S q) hsz2)
  have bl : Below w.heap.size w (((w.alloc (.cells #[.string (S p)] 9)).alloc (.cells #[.string (S q)] 9)).alloc (.cells #[.string (S q)] 9)) := (((Below.refl _ w).alloc (Nat.le_refl _) _).alloc (by simp) _).alloc (by simp; omega) _
  have T1 := Lib.hid (h.nx bl)
  have X1 := Lib.hid (((BlkIs.new w 9 #[.string (S p)]).alloc (.cells #[.string (S q)] 9)).alloc (.cells #[.string (S q)] 9))
  have Y1 : Hid (BlkIs (((w.alloc (.cells #[.string (S p)] 9)).alloc (.cells #[.string (S q)] 9)).alloc (.cells #[.string (S q)] 9)) (w.heap.size + 1) 9 #[.string (S q)]) := by
    have := (BlkIs.new (w.alloc (.cells #[.string (S p)] 9)) 9 #[.string (S q)]).alloc (.cells #[.string (S q)] 9)
    rw [World.size_alloc] at this
    exact this
  have Z1 : Hid (BlkIs (((w.alloc (.cells #[.string (S p)] 9)).alloc (.cells #[.string (S q)] 9)).alloc (.cells #[.string (S q)] 9)) (w.heap.size + 2) 9 #[.string (S q)]) := by
    have := (BlkIs.new ((w.alloc (.cells #[.string (S p)] 9)).alloc (.cells #[.string (S q)] 9)) 9 #[.string (S q)])
    rw [World.size_alloc, World.size_alloc] at this
    exact this
  have CB := Lib.hid (Chd.of_below bl : Chd (fun j => j = tb) w _)
  have hpq : Hid ((S p = S q) ↔ p = q) := S_inj
  clear hf h hp hq hsz hsz2 ok ok1 bl
  generalize hsp : S p = sp at *
  generalize hsq : S q = sq at *
  have HSP := Lib.hid hsp
  have HSQ := Lib.hid hsq
  clear hsp hsq
  generalize hR : renameR s1 p q er r = R
  have HR := Lib.hid hR
  clear hR
  go_enter Tryz.func108, Tryz.ntmps108
  go_wp2_with fail
  refine (FA.out _ T1.out (w.heap.size + 2) Z1.out (new_zero H.out (by omega))).mono ?_
  rintro e w2 ⟨rfl, ht2, hc2⟩
  have htb := H.out.top.lt
  have hb0 : ¬ (w.heap.size = tb ∨ w.heap.size = w.heap.size + 2) := by omega
  have hb1 : ¬ (w.heap.size + 1 = tb ∨ w.heap.size + 1 = w.heap.size + 2) := by omega
  have T2 := Lib.hid ht2
  have C2 := Lib.hid ((CB.out.mono fun _ _ e => .inl e).trans hc2)
  have x2 := X1.out.chd hc2 hb0
  have y2 := Y1.out.chd hc2 hb1
  have dx2 : ∀ o, (w2.alloc o).cell? ⟨w.heap.size, 0, none⟩ = some (.string sp) := fun o => by rw [(x2.alloc o).cell]; rfl
  have dy2 : ∀ o, (w2.alloc o).cell? ⟨w.heap.size + 1, 0, none⟩ = some (.string sq) := fun o => by rw [(y2.alloc o).cell]; rfl
  have X2 := Lib.hid x2
  have Y2 := Lib.hid y2
  have HTB := Lib.hid htb
  clear ht2 hc2 T1 X1 Y1 Z1 FA CB x2 y2 hb0 hb1 htb
  cases r with
  | none =>
    have hR : (s1, er) = R := HR.out
    subst hR
    have hne : (er != 0) = true := by have := HF.out.no rfl; simpa using this
    clear HR HF
    unfold optP
    go_wp2
    go_ret
    refine ⟨rfl, g, T2.out.nx ((Below.refl _ w2).alloc (Nat.le_refl _) _), ?_, Gh.le_refl _ _⟩
    have a1 : Chd (Mine g) w w2 := C2.out.mono (fun j hj e => by
      rcases e with e | e
      · rw [e]; exact (mine_cv H.out).1
      · omega)
    exact a1.trans (Chd.of_below ((Below.refl _ w2).alloc (Nat.le_refl _) _))
  | some f =>
    obtain rfl : er = 0 := (HF.out.yes f rfl).1
    have HFL : Hid (f < (s1.free q).fil.length) := hfid.out f rfl
    unfold optP fptr
    by_cases hq : p = q
    · have hR : (s1, (0 : Int)) = R := by have := HR.out; simp only [renameR, if_pos hq] at this; exact this
      subst hR
      have hs : (sp.toList == sq.toList) = true := by rw [hpq.out.2 hq]; simp
      clear HR HF hfid hq
      go_wp2
      go_ret
      refine ⟨rfl, g, T2.out.nx ((Below.refl _ w2).alloc (Nat.le_refl _) _), ?_, Gh.le_refl _ _⟩
      have a1 : Chd (Mine g) w w2 := C2.out.mono (fun j hj e => by
        rcases e with e | e
        · rw [e]; exact (mine_cv H.out).1
        · omega)
      exact a1.trans (Chd.of_below ((Below.refl _ w2).alloc (Nat.le_refl _) _))
    have hR : ((s1.free q).record (.mv p q f), (0 : Int)) = R := by have := HR.out; simp only [renameR, if_neg hq] at this; exact this
    subst hR
    have hs : (sp.toList == sq.toList) = false := by
      have h1 : sp.toList = p := by rw [← HSP.out, S_toList]
      have h2 : sq.toList = q := by rw [← HSQ.out, S_toList]
      rw [h1, h2]
      simpa using hq
    clear HR HF hfid
    go_wp2_with fail
    refine (FR.out _ (T2.out.nx ((Below.refl _ w2).alloc (Nat.le_refl _) _))).mono ?_
    rintro e w3 ⟨rfl, ht3, hc3⟩
    have C3 := Lib.hid ((C2.out.trans (Chd.of_below ((Below.refl _ w2).alloc (Nat.le_refl _) (.cells #[fptr (g.blk f)] 102)))).trans (hc3.mono fun _ _ e => .inl e))
    have htb := HTB.out
    have x3 := (X2.out.alloc (.cells #[fptr (g.blk f)] 102)).chd hc3 (by omega)
    have y3 := (Y2.out.alloc (.cells #[fptr (g.blk f)] 102)).chd hc3 (by omega)
    have z3 := (BlkIs.new w2 102 #[fptr (g.blk f)]).chd hc3 (by have := X2.out.lt; omega)
    have hlt : Hid (w.heap.size + 1 < w2.heap.size) := Y2.out.lt
    have T3 := Lib.hid ht3
    have dx3 := x3.cell 0
    have dy3 := y3.cell 0
    simp only [List.getElem?_toArray, List.getElem?_cons_zero] at dx3 dy3
    have d3 := And.intro dx3 dy3
    have l3 := Lib.hid (And.intro x3.lt y3.lt)
    have X3 := Lib.hid x3
    have Y3 := Lib.hid y3
    have Z3 := Lib.hid z3
    clear ht3 hc3 x3 y3 z3 T2 C2 X2 Y2 dx2 dy2 dx3 dy3 FR htb
    go_upto_region 5 with fail
    refine wp_region_held_drew (S := (fun W => W.cell? ⟨w.heap.size, 0, none⟩ = some (.string sp) ∧ W.cell? ⟨w.heap.size + 1, 0, none⟩ = some (.string sq))) (by kernel_rfl) ⟨d3.1, d3.2⟩ (fun hHeld => ?_)
    change wpAnyH _ _ _ _ _ 6 (Array.replicate 6 false) _ _
    refine wpAnyH_take (i := 0) (oi := { dst := some 28, op := Op.load 9 (Operand.tmp 4), type := 9, pos := "operation.go:78", after := #[], guard := none }) (v := ?va0) rfl (by kernel_rfl) (by kernel_rfl) (by kernel_rfl) (fun _ _ _ h => h) (Or.inl ⟨by rfl, ?hya0⟩) hHeld ?resta0
    case hya0 =>
      intro W hSw
      have s1 := hSw.1
      have s2 := hSw.2
      go_simp
      try with_reducible rfl
    try simp only [Act.put, List.setIfInBounds_toArray, List.set_cons_zero, List.set_cons_succ]
    refine wpAnyH_take (i := 2) (oi := { dst := some 30, op := Op.load 9 (Operand.tmp 5), type := 9, pos := "operation.go:78", after := #[], guard := none }) (v := ?va2) rfl (by kernel_rfl) (by kernel_rfl) (by kernel_rfl) (fun _ _ _ h => h) (Or.inl ⟨by rfl, ?hya2⟩) hHeld ?resta2
    case hya2 =>
      intro W hSw
      have s1 := hSw.1
      have s2 := hSw.2
      go_simp
      try with_reducible rfl
    try simp only [Act.put, List.setIfInBounds_toArray, List.set_cons_zero, List.set_cons_succ]
    refine wpAnyH_ready (rs := [1]) (by kernel_rfl) (by simp) ?_
    refine AllReadyH.cons (o := { dst := some 29, op := Op.call { callee := Callee.value (Operand.func 39), args := #[Operand.tmp 28], argTypes := #[9] }, type := 9, pos := "operation.go:78", after := #[{ on := 0, ground := Ground.data }], guard := none }) rfl (fun K' hK => ?_) AllReadyH.nil
    go_simp
    refine (CL1.out w3.drew).mono ?_
    rintro e w4 ⟨rfl, hb⟩
    have B4 := Lib.hid (Nx.trans (Nx.drew (Nx.refl w3)) hb)
    clear hb
    show K' _ w4
    refine hK.out _ _ ⟨(B4.out.cell (l3.out.1)).trans d3.1, (B4.out.cell (l3.out.2)).trans d3.2⟩ (fun hHeld => ?_)
    clear hK K'
    try simp only [Act.put, List.setIfInBounds_toArray, List.set_cons_zero, List.set_cons_succ]
    refine wpAnyH_ready (rs := [3]) (by kernel_rfl) (by simp) ?_
    refine AllReadyH.cons (o := { dst := some 31, op := Op.call { callee := Callee.value (Operand.func 39), args := #[Operand.tmp 30], argTypes := #[9] }, type := 9, pos := "operation.go:78", after := #[{ on := 2, ground := Ground.data }, { on := 1, ground := Ground.chain }], guard := none }) rfl (fun K' hK => ?_) AllReadyH.nil
    go_simp
    refine (CL2.out w4).mono ?_
    rintro e w5 ⟨rfl, hb⟩
    have B5 := Lib.hid (Nx.trans B4.out hb)
    have x5 := X3.out.nx B5.out
    have y5 := Y3.out.nx B5.out
    have z5 := Z3.out.nx B5.out
    have X5 := Lib.hid x5
    have Y5 := Lib.hid y5
    have Z5 := Lib.hid z5
    have dx5 := x5.cell 0
    have fx5 := x5.frozen 0
    have dy5 := y5.cell 0
    have fy5 := y5.frozen 0
    simp only [List.getElem?_toArray, List.getElem?_cons_zero] at dx5 dy5
    clear hb x5 y5 z5
    show K' _ w5
    refine hK.out _ _ ⟨dx5, dy5⟩ (fun hHeld => ?_)
    clear hK K'
    try simp only [Act.put, List.setIfInBounds_toArray, List.set_cons_zero, List.set_cons_succ]
    refine wpAnyH_ready (rs := [4]) (by kernel_rfl) (by simp) ?_
    refine AllReadyH.cons (o := { dst := none, op := Op.store 9 (Operand.tmp 4) (Operand.tmp 29), type := 0, pos := "operation.go:78", after := #[{ on := 1, ground := Ground.data }, { on := 3, ground := Ground.chain }, { on := 0, ground := Ground.phase }, { on := 1, ground := Ground.phase }, { on := 2, ground := Ground.textOnly Departure.inlinedCapture }, { on := 3, ground := Ground.textOnly Departure.lateStoresUnsure }], guard := none }) rfl (fun K' hK => ?_) AllReadyH.nil
    go_simp
    refine hK.out _ _ ⟨by rw [show (w5.setCell ⟨w.heap.size, 0, none⟩ (.string sp)).cell? ⟨w.heap.size, 0, none⟩ = (#[Value.string sp])[0]? from (X5.out.set 0 (.string sp)).cell 0]; rfl, by rw [(Y5.out.chd (Chd.set w5 w.heap.size 0 (.string sp)) (by omega)).cell 0]; rfl⟩ (fun hHeld => ?_)
    clear hK K'
    try simp only [Act.put, List.setIfInBounds_toArray, List.set_cons_zero, List.set_cons_succ]
    have X7 := Lib.hid ((X5.out.set 0 (.string sp)).chd (Chd.set _ (w.heap.size + 1) 0 (.string sq)) (by omega))
    have Y7 := Lib.hid ((Y5.out.chd (Chd.set w5 w.heap.size 0 (.string sp)) (by omega)).set 0 (.string sq))
    refine wpAnyH_ready (rs := [5]) (by kernel_rfl) (by simp) ?_
    refine AllReadyH.cons (o := { dst := none, op := Op.store 9 (Operand.tmp 5) (Operand.tmp 31), type := 0, pos := "operation.go:78", after := #[{ on := 3, ground := Ground.data }, { on := 4, ground := Ground.chain }, { on := 0, ground := Ground.phase }, { on := 1, ground := Ground.phase }, { on := 2, ground := Ground.phase }, { on := 3, ground := Ground.phase }, { on := 4, ground := Ground.phase }], guard := none }) rfl (fun K' hK => ?_) AllReadyH.nil
    go_simp
    refine hK.out _ _ ⟨by rw [X7.out.cell 0]; rfl, by rw [Y7.out.cell 0]; rfl⟩ (fun hHeld => ?_)
    clear hK K'
    try simp only [Act.put]
    refine wpAnyH_done (by kernel_rfl) ?_ _
    go_wp2_with fail
    have hlt' := hlt.out
    have l3' := Z3.out.lt
    have hsz5 := B5.out.size
    obtain ⟨w7, hw7⟩ : ∃ w7, (w5.setCell ⟨w.heap.size, 0, none⟩ (.string sp)).setCell ⟨w.heap.size + 1, 0, none⟩ (.string sq) = w7 := ⟨_, rfl⟩
    have C57 : Chd (fun j => j = w.heap.size ∨ j = w.heap.size + 1) w5 w7 := by
      subst hw7
      exact ((Chd.set w5 w.heap.size 0 _).mono fun _ _ e => .inl e).trans ((Chd.set _ (w.heap.size + 1) 0 _).mono fun _ _ e => .inr e)
    have x7 := X7.out
    have y7 := Y7.out
    have z7 : BlkIs w7 w2.heap.size 102 #[fptr (g.blk f)] := Z5.out.chd C57 (by omega)
    rw [hw7] at x7 y7
    rw [hw7]
    have tz : ∀ j, w.heap.size ≤ j → g.tag j = 0 := fun j hj => new_zero H.out hj
    have T7 := ((T3.out.nx B5.out).chd C57 (fun j e => tz j (by omega))).boxes [w.heap.size, w2.heap.size, w.heap.size + 1] (fun j e => by
      simp only [List.mem_cons, List.not_mem_nil, or_false] at e
      rcases e with e | e | e <;> subst e
      · exact ⟨tz _ (Nat.le_refl _), x7.lt⟩
      · exact ⟨tz _ (by omega), z7.lt⟩
      · exact ⟨tz _ (by omega), y7.lt⟩)
    have tb5 : ∀ j, (j = w.heap.size ∨ j = w2.heap.size ∨ j = w.heap.size + 1) → (g.boxes [w.heap.size, w2.heap.size, w.heap.size + 1]).tag j = 5 := fun j e => if_pos (by simpa using e)
    have hv : ChAt w7 (g.boxes [w.heap.size, w2.heap.size, w.heap.size + 1]).tag (g.boxes [w.heap.size, w2.heap.size, w.heap.size + 1]).blk (.func (.func 136) #[] #[.pointer (some ⟨w.heap.size, 0, none⟩), .pointer (some ⟨w2.heap.size, 0, none⟩), .pointer (some ⟨w.heap.size + 1, 0, none⟩)]) (.mv p q f) :=
      ⟨w.heap.size, w2.heap.size, w.heap.size + 1, rfl, ⟨by rw [show (⟨p.toArray⟩ : ByteArray) = sp from HSP.out]; exact x7, tb5 _ (.inl rfl)⟩, ⟨z7, tb5 _ (.inr (.inl rfl))⟩, ⟨by rw [show (⟨q.toArray⟩ : ByteArray) = sq from HSQ.out]; exact y7, tb5 _ (.inr (.inr rfl))⟩⟩
    have RC := record_any _ tb _ _ hk T7 okf.out _ (.mv p q f) ⟨HP.out, HQ.out, HFL.out⟩ hv
    refine RC.mono ?_
    rintro e w8 ⟨rfl, ⟨cv, T8, hcv⟩, C8⟩
    have hC7 := C57.size
    have hC3 := C3.out.size
    have CF : Chd (Mine g) w w8 := by
      have a1 : Chd (Mine g) w w3 := C3.out.mono (fun j hj e => by
        rcases e with e | e
        · rw [e]; exact (mine_cv H.out).1
        · omega)
      have a2 : Chd (Mine g) w w7 := (a1.trans (Nx.chd B5.out)).then_ C57 (fun j hj e => by omega)
      exact a2.then_ C8 (fun j hj e => by
        rcases e with e | e | e
        · rw [e]; exact (mine_cv H.out).1
        · rw [e]; exact (mine_cv H.out).2.1
        · exact (mine_cv H.out).2.2.2 j e)
    have hle : Gh.le w g ((g.boxes [w.heap.size, w2.heap.size, w.heap.size + 1]).more cv (.func (.func 136) #[] #[.pointer (some ⟨w.heap.size, 0, none⟩), .pointer (some ⟨w2.heap.size, 0, none⟩), .pointer (some ⟨w.heap.size + 1, 0, none⟩)])) := fun j hj => by
      have hj' : (if cv.ownBlock = some j then 4 else if j ∈ [w.heap.size, w2.heap.size, w.heap.size + 1] then 5 else g.tag j) ≠ 0 := hj
      split at hj'
      · rename_i e
        rcases hcv with e2 | ⟨i, e2, hi⟩
        · exact .inl ((mine_cv H.out).2.2.2 j (by rw [e2.symm] at e; exact e))
        · rw [e2, Option.some.injEq] at e
          right
          omega
      · split at hj'
        · rename_i e
          simp only [List.mem_cons, List.not_mem_nil, or_false] at e
          right
          omega
        · exact .inl hj'
    have T8' := Lib.hid T8
    have CF' := Lib.hid CF
    have HLE := Lib.hid hle
    clear T8 CF hle C8 hcv RC hv T7 tb5 tz x7 y7 z7 C57 hw7 hC7 hC3 hsz5 l3' hlt' hHeld
    go_wp2
    go_ret
    exact ⟨rfl, _, T8'.out, CF'.out, HLE.out⟩
end Go.Proofs.YtiikjdjpodmpcaaGreat

/- Package tree: changes of paths are made safe. -/
namespace Go.Proofs.YtiikjdjpodmpcaaGreat
open Go.RowKit Go.Maps
set_option linter.unusedVariables false

theorem app_length (c : Chg) (l : Dir) : (c.app l).length ≤ l.length + 1 := by
  cases c with
  | mk p f => exact put_length l p f
  | mv p q f => have := put_length (era l p) q f; have := era_length l p; show (put (era l p) q f).length ≤ _; omega
  | rm p => have := era_length l p; show (era l p).length ≤ _; omega
def apps (cs : List Chg) (l : Dir) : Dir := cs.foldl (fun l c => c.app l) l
theorem apps_length (cs : List Chg) : ∀ l : Dir, (apps cs l).length ≤ l.length + cs.length := by
  induction cs with
  | nil => intro l; exact Nat.le_refl _
  | cons c cs ih => intro l; have := ih (c.app l); have := app_length c l; show (apps cs (c.app l)).length ≤ _; simp only [List.length_cons]; omega
theorem apps_take_succ (cs : List Chg) (l : Dir) (i : Nat) (c : Chg) (h : cs[i]? = some c) : apps (cs.take (i + 1)) l = c.app (apps (cs.take i) l) := by
  unfold apps
  rw [List.take_add_one, List.foldl_append, h]
  rfl
def Gh.clean (g : Gh) : Gh := { g with cv := .slice none 0 0, vs := [] }
theorem settle_end {w w' : World} {tb : Nat} {s : St} {g : Gh} {n : Nat} (h : TreeAt w tb s g) (hm : MapAt w' g.ms g.blk (apps (s.chs.take n) s.safe)) (hc : Chd (fun j => j = g.ms) w w') :
    TreeAt (w'.setCell ⟨tb, 5, none⟩ (.slice none 0 0)) tb (s.settle n) g.clean ∧ Chd (fun j => j = tb ∨ j = g.ms) w (w'.setCell ⟨tb, 5, none⟩ (.slice none 0 0)) := by
  have hst : tb ≠ g.ms := fun e => by have := h.msT; rw [← e, h.topT] at this; omega
  have T := (h.top.chd hc hst).set 5 (.slice none 0 0)
  have C5 := Chd.set w' tb 5 (.slice none 0 0)
  have C : Chd (fun j => j = tb ∨ j = g.ms) w (w'.setCell ⟨tb, 5, none⟩ (.slice none 0 0)) := (hc.mono fun _ _ e => .inr e).trans (C5.mono fun _ _ e => .inl e)
  have tg : ∀ j, (j = tb ∨ j = g.ms) → g.tag j = 1 ∨ g.tag j = 3 := fun j hj => by
    rcases hj with rfl | rfl
    · exact .inl h.topT
    · exact .inr h.msT
  refine ⟨?_, C⟩
  exact { top := T, topT := h.topT, mfT := h.mfT, msT := h.msT
          mfA := h.mfA.chd C (fun e => by have := tg _ e; rw [h.mfT] at this; omega)
          msA := hm.chd C5 (fun e => hst e.symm)
          row := ⟨rfl, .inl ⟨rfl, rfl⟩⟩
          rowT := fun b hb => by cases hb
          chs := fun i c hi => by simp [St.settle] at hi
          fil := fun i hi => (h.fil i hi).chd C (fun j e => by have := tg _ e; omega)
          dom := fun j hj => Nat.lt_of_lt_of_le (h.dom j hj) C.size
          apart := h.apart }

set_option maxRecDepth 100000 in
theorem settle_any (w : World) (tb : Nat) (s : St) (g : Gh) {k : Nat} (hk : k ≤ 1000) (h : TreeAt w tb s g) (ok : Ok k s) (n : Nat) (hn : n ≤ s.chs.length) :
    Calls Tryz.prog 65 #[.pointer (some ⟨tb, 0, none⟩), .int .i64 (n : Int)] w fun e w' => e = .returned (.tuple #[]) ∧ TreeAt w' tb (s.settle n) g.clean ∧ Chd (fun j => j = tb ∨ j = g.ms) w w' := by
  have hvl : g.vs.length = s.chs.length := by have := h.row.1; omega
  have hL : s.chs.length ≤ 1000 := by have := ok.ls; omega
  have c5 := (top_of h.top).c5
  have hst : tb ≠ g.ms := fun e => by have := h.msT; rw [← e, h.topT] at this; omega
  obtain ⟨A, L, c, hcv, hcell, hLc⟩ : ∃ A L c, g.cv = .slice A L c ∧ L = s.chs.length ∧ L ≤ c ∧ c ≤ maxLen ∧ ∀ i v, i < n → g.vs[i]? = some v → ∃ gb, A = some ⟨gb, 0, none⟩ ∧ gb ≠ g.ms ∧ gb < w.heap.size ∧ w.cell? ⟨gb, i, none⟩ = some v := by
    rcases h.row.2 with ⟨hv, h0⟩ | ⟨gb, cap, cur, hv, _, hb, hle, hcap, _⟩
    · exact ⟨none, 0, 0, hv, h0.symm, Nat.le_refl _, Nat.zero_le _, fun i v hi _ => by omega⟩
    · refine ⟨_, _, _, hv, rfl, hle, hcap, fun i v hi hv' => ⟨gb, rfl, fun e => ?_, (Array.getElem?_eq_some_iff.1 hb).1, ?_⟩⟩
      · have := h.rowT gb (by rw [hv]; rfl)
        rw [e, h.msT] at this
        omega
      · have hr := h.row
        rw [hv] at hr
        have := World.ownsRow.cells (w := w) hr (g := gb) rfl i v hv'
        rwa [add_plain, Nat.zero_add] at this
  obtain ⟨hLc, hcm, hcells⟩ := hLc
  have i1 : (n : Int) ≤ (L : Int) := by omega
  have i2 : (n : Int) ≤ (c : Int) := by omega
  have i3 : (c : Int) ≤ 9223372036854775807 := by unfold maxLen at hcm; omega
  rw [hcv] at c5
  have H := Lib.hid h
  have OK := Lib.hid ok
  have HC := Lib.hid hcells
  have HN := Lib.hid hn
  clear h ok hcells hcv hcell hn hcm
  go_enter Tryz.func65, Tryz.ntmps65
  go_wp2
  go_loopw [13] (fun x wr => ∃ i : Nat, x = .int .i64 i ∧ i ≤ n ∧ Hid (MapAt wr g.ms g.blk (apps (s.chs.take i) s.safe) ∧ Chd (fun j => j = g.ms) w wr)) (fun x _ => n - (intOf x).toNat)
  case atStart => exact ⟨0, rfl, Nat.zero_le _, H.out.msA, Chd.refl _⟩
  case round =>
    obtain ⟨i, rfl, hi, hm⟩ := hrel
    by_cases hlt : i < n
    · have hn := HN.out
      obtain ⟨c0, hc0⟩ : ∃ c0, s.chs[i]? = some c0 := ⟨_, List.getElem?_eq_getElem (show i < s.chs.length by omega)⟩
      obtain ⟨v, hv, ha⟩ := H.out.chs i c0 hc0
      obtain ⟨gb, rfl, hgm, hgl, hgc⟩ := HC.out i v hlt hv
      have hgc' : wr.cell? ⟨gb, i, none⟩ = some v := by rw [World.cell?_of_block (hm.out.2.block gb hgl hgm)]; exact hgc
      have hl := apps_length (s.chs.take i) s.safe
      have hls := OK.out.ls
      rw [List.length_take] at hl
      have c4 := (top_of (H.out.top.chd hm.out.2 hst)).c4
      have hstep := apps_take_succ s.chs s.safe i c0 hc0
      obtain ⟨fn, caps, hve, hfn, hrun⟩ := (ha.chd hm.out.2 (fun j e => by rw [e, H.out.msT]; omega)).runs (OK.out.cs c0 (List.mem_of_getElem? hc0)) hm.out.1 (by omega) (by rw [H.out.msT]; omega)
      rw [← hstep] at hrun
      obtain ⟨args, hargs⟩ : ∃ args, #[Value.map (some g.ms)] ++ caps = args := ⟨_, rfl⟩
      rw [hargs] at hrun
      have HR := Lib.hid hrun
      have HM := hm
      clear hrun hl hls hstep hgc ha hv hc0 hm hn
      rcases hfn with rfl | rfl | rfl <;> (
        subst hve
        go_wp2_with fail
        refine HR.out.mono ?_
        rintro e w2 ⟨rfl, hm2, hc2⟩
        have HM2 := Lib.hid (And.intro hm2 (HM.out.2.trans hc2))
        clear hm2 hc2 HR HM hargs
        go_wp2
        go_roundw
        case rel => exact ⟨i + 1, by go_num, by omega, HM2.out⟩
        case measure => simp [intOf]; omega)
    · obtain rfl : i = n := by omega
      have hT := H.out.top.chd hm.out.2 hst
      have c5' := (top_of hT).c5
      have f5' := hT.frozen 5
      have E := settle_end H.out hm.out.1 hm.out.2
      have E' := Lib.hid E
      clear E hT hm
      go_wp2
      refine bodyPost_end (results_none rfl _ _ _) rfl ?_
      exact ⟨rfl, E'.out⟩

def syncR (s1 : St) (e : Int) : St × Int := if e = 0 then (s1.settle s1.chs.length, 0) else (s1, e)
theorem syncPaths_eq (s : St) : s.syncPaths = syncR (s.begin_ []).1 (s.begin_ []).2 := by
  unfold St.syncPaths syncR
  generalize s.begin_ [] = r
  obtain ⟨s1, e⟩ := r
  rfl
set_option maxRecDepth 100000 in
theorem syncPaths_any (w : World) (tb : Nat) (s : St) (g : Gh) {k : Nat} (hk : k ≤ 1000) (h : TreeAt w tb s g) (ok : Ok k s) :
    Calls Tryz.prog 109 #[.pointer (some ⟨tb, 0, none⟩)] w fun e w' => e = .returned (.int .i64 s.syncPaths.2) ∧ ∃ g', TreeAt w' tb s.syncPaths.1 g' ∧ Chd (Mine g) w w' ∧ Gh.le w g g' := by
  rw [syncPaths_eq]
  have B := Lib.hid (begin_at (tb := tb) (g := g) ok.f0 ok.f1 w h none 0 0 [] ⟨rfl, Nat.zero_le _, fun e => by omega⟩)
  have ok1 := ok.begin []
  generalize s.begin_ [] = r at *
  obtain ⟨s1, er⟩ := r
  simp only at B ok1 ⊢
  have ST := Lib.hid (fun W hW => settle_any W tb s1 g hk hW ok1 s1.chs.length (Nat.le_refl _))
  have H := Lib.hid h
  have hl : s1.chs.length ≤ 1000 := by have := ok1.ls; omega
  clear h ok ok1
  generalize hR : syncR s1 er = R
  have HR := Lib.hid hR
  clear hR
  go_enter Tryz.func109, Tryz.ntmps109
  go_wp2_with fail
  refine B.out.mono ?_
  rintro e w2 ⟨rfl, ht2, hc2⟩
  by_cases he : er = 0
  · have hR : (s1.settle s1.chs.length, (0 : Int)) = R := by have := HR.out; simp only [syncR, if_pos he] at this; exact this
    subst hR he
    obtain ⟨A, c, hcv⟩ : ∃ A c, g.cv = .slice A s1.chs.length c := by
      rcases ht2.row.2 with ⟨hv, h0⟩ | ⟨gb, cap, cur, hv, _⟩
      · exact ⟨none, 0, by rw [hv, h0]⟩
      · exact ⟨_, _, hv⟩
    have c5 := (top_of ht2.top).c5
    rw [hcv] at c5
    have T2 := Lib.hid ht2
    have C2 := Lib.hid hc2
    clear ht2 hc2 hcv B HR
    go_wp2_with fail
    refine (ST.out w2 T2.out).mono ?_
    rintro e w3 ⟨rfl, ht3, hc3⟩
    have T3 := Lib.hid ht3
    have CF : Chd (Mine g) w w3 := (C2.out.mono (fun j _ e => by rw [e]; exact (mine_cv H.out).1)).trans (hc3.mono (fun j _ e => by
      rcases e with e | e
      · rw [e]; exact (mine_cv H.out).1
      · rw [e]; exact (mine_cv H.out).2.2.1))
    have CF' := Lib.hid CF
    clear ht3 hc3 CF ST
    go_wp2
    go_ret
    exact ⟨rfl, _, T3.out, CF'.out, fun j hj => .inl hj⟩
  · have hR : (s1, er) = R := by have := HR.out; simp only [syncR, if_neg he] at this; exact this
    subst hR
    have hne : (er == 0) = false := by simpa using he
    have T2 := Lib.hid ht2
    have CF' := Lib.hid (hc2.mono (M' := Mine g) (fun j _ e => by rw [e]; exact (mine_cv H.out).1))
    clear ht2 hc2 he HR ST B
    go_wp2
    go_ret
    exact ⟨rfl, g, T2.out, CF'.out, Gh.le_refl _ _⟩
end Go.Proofs.YtiikjdjpodmpcaaGreat

/- Package tree: Sync, Write, Append, Read. -/
namespace Go.Proofs.YtiikjdjpodmpcaaGreat
open Go.RowKit Go.Maps
set_option linter.unusedVariables false

/-- Bytes that come as an argument. -/
structure Arg (w : World) (A : Option Addr) (n c : Nat) (b : Str) : Prop where
  len : b.length = n
  le : n ≤ c
  cap : c ≤ maxLen
  lies : 0 < n → ∃ j o, A = some ⟨j, o, none⟩ ∧ j < w.heap.size ∧ ∀ i, i < n → w.cell? ⟨j, o + i, none⟩ = some (.int .u8 (nth b i))
theorem Arg.chd {w w' : World} {M : Nat → Prop} {A : Option Addr} {n c : Nat} {b : Str} (h : Arg w A n c b) (hc : Chd M w w') (hm : ∀ j o, A = some ⟨j, o, none⟩ → ¬ M j) : Arg w' A n c b := ⟨h.len, h.le, h.cap, fun hn => by
  obtain ⟨j, o, e, hj, hx⟩ := h.lies hn
  exact ⟨j, o, e, Nat.lt_of_lt_of_le hj hc.size, fun i hi => by rw [World.cell?_of_block (hc.block j hj (hm j o e))]; exact hx i hi⟩⟩
theorem Arg.nx {w w' : World} {A : Option Addr} {n c : Nat} {b : Str} (h : Arg w A n c b) (k : Nx w w') : Arg w' A n c b := h.chd (M := fun _ => False) (Chd.of_below k) (fun _ _ _ e => e)
theorem Arg.byt {w : World} {A : Option Addr} {n c : Nat} {b : Str} (h : Arg w A n c b) : Byt w w.heap.size A n c b := ⟨h.len, h.le, h.cap, h.lies⟩
theorem Arg.of_byt {w : World} {B n c : Nat} {A : Option Addr} {b : Str} (h : Byt w B A n c b) (hB : B ≤ w.heap.size) : Arg w A n c b := ⟨h.len, h.le, h.cap, fun hn => by
  obtain ⟨j, o, e, hj, hx⟩ := h.lies hn
  exact ⟨j, o, e, by omega, hx⟩⟩
theorem Arg.none_eq {w : World} {n c : Nat} {b : Str} (h : Arg w none n c b) : n = 0 ∧ b = [] := by
  have h0 : n = 0 := by
    rcases Nat.eq_zero_or_pos n with e | e
    · exact e
    · obtain ⟨_, _, e, _⟩ := h.lies e; cases e
  exact ⟨h0, List.eq_nil_of_length_eq_zero (by rw [h.len, h0])⟩

theorem run_eqIn_slice (w : World) (d : Nat) (A : Option Addr) (n c : Nat) : (Op.equalIn (d + 1) 22 (.slice A n c) (.slice none 0 0)).run Tryz.prog w = .ok A.isNone w := by
  cases A <;> simp [Op.equalIn, run_underlying Tryz.underlying22]
theorem run_eq_slice (w : World) (A : Option Addr) (n c : Nat) : (binOp .eql 22 (.slice A n c) (.slice none 0 0)).run Tryz.prog w = .ok (.bool A.isNone) w := by
  simp only [binOp]
  simp [show Op.equal 22 (.slice A n c) (.slice none 0 0) = Op.equalIn (9999 + 1) 22 (.slice A n c) (.slice none 0 0) from rfl, run_eqIn_slice w 9999 A n c]
set_option maxRecDepth 100000 in
theorem bclone_any (w : World) (A : Option Addr) (n c : Nat) (b : Str) (h : Arg w A n c b) (hn : n ≤ 100000000) (hnil : A = none → c = 0) :
    Calls Tryz.prog 57 #[.slice A n c] w fun e w' => ∃ A2 c2, e = .returned (.slice A2 n c2) ∧ Own w' w.heap.size A2 n c2 b ∧ Nx w w' := by
  cases A with
  | none =>
    obtain ⟨rfl, rfl⟩ := h.none_eq
    obtain rfl := hnil rfl
    have he := run_eq_slice w none 0 0
    clear h hn hnil
    go_enter Tryz.func57, Tryz.ntmps57
    go_wp2
    go_ret
    exact ⟨none, 0, rfl, ⟨rfl, .inl ⟨rfl, rfl⟩⟩, Nx.refl _⟩
  | some ad =>
    have b1 : Below w.heap.size w (w.alloc (.cells #[] 5)) := (Below.refl _ w).alloc (Nat.le_refl _) _
    have ho : Own (w.alloc (.cells #[] 5)) w.heap.size (some ⟨w.heap.size, 0, none⟩) 0 0 [] := Own.lit w #[] [] rfl (by simp [maxLen])
    have ha := (h.nx b1).byt
    have HO := Lib.hid ho
    have HA := Lib.hid ha
    have HB := Lib.hid b1
    have he := run_eq_slice w (some ad) n c
    clear h ho ha b1 hnil
    go_enter Tryz.func57, Tryz.ntmps57
    go_wp2_with (at_builtin; refine wpList_byte_append rfl _ _ rfl w.heap.size (some ⟨w.heap.size, 0, none⟩) 0 0 [] rfl HO.out _ (some ad) n c b rfl HA.out (by omega) (by simp) ?_; intro A2 c2 w2 ho2 hg2 _)
    go_ret
    refine ⟨A2, c2, ?_, ?_, ?_⟩
    · simp
    · simpa using ho2
    · have c1 : Chd (fun j => j = w.heap.size) w w2 := (Chd.of_below HB.out).trans (Chd.of_grown hg2)
      exact c1.below (Nat.le_refl _) (fun j hj e => by omega)
end Go.Proofs.YtiikjdjpodmpcaaGreat

/- Package tree: Sync and Read. -/
namespace Go.Proofs.YtiikjdjpodmpcaaGreat
open Go.RowKit Go.Maps
set_option linter.unusedVariables false

def syncFR (s1 : St) (er : Int) : Option Nat → St × Int
  | some f => (s1.set_ f { s1.at_ f with sf := (s1.at_ f).now }, 0)
  | none => (s1, er)
theorem sync_eq (s : St) (p : Str) {s1 : St} {r : Option Nat} {er : Int} (h : Found s p [] s1 r er) : s.sync p = syncFR s1 er r := by
  unfold St.sync
  rw [h.eq]
  cases r <;> rfl
theorem Found.lt {s s1 : St} {p : Str} {o : List Str} {r : Option Nat} {er : Int} {k : Nat} (hf : Found s p o s1 r er) (ok : Ok k s) (f : Nat) (e : r = some f) : f < s1.fil.length := by
  have ok1 : Ok k s1 := by have := ok.find p o; rwa [hf.eq] at this
  exact ok1.fs _ (look_mem (hf.yes f e).2)
theorem Found.ok {s s1 : St} {p : Str} {o : List Str} {r : Option Nat} {er : Int} {k : Nat} (hf : Found s p o s1 r er) (ok : Ok k s) : Ok k s1 := by have := ok.find p o; rwa [hf.eq] at this

set_option maxRecDepth 100000 in
theorem sync_any (w : World) (tb : Nat) (s : St) (g : Gh) {k : Nat} (hk : k ≤ 1000) (h : TreeAt w tb s g) (ok : Ok k s) (p : Str) (hp : p.length ≤ 10000) :
    Calls Tryz.prog 62 #[.pointer (some ⟨tb, 0, none⟩), .string (S p)] w fun e w' => e = .returned (.int .i64 (s.sync p).2) ∧ ∃ g', TreeAt w' tb (s.sync p).1 g' ∧ Chd (Mine g) w w' ∧ Gh.le w g g' := by
  obtain ⟨s1, r, er, hf⟩ := found s p []
  rw [sync_eq s p hf]
  have FA := Lib.hid (find_at (tb := tb) (g := g) ok p hp hf w h)
  have hfid := Lib.hid (fun f e => hf.lt ok f e)
  have HF := Lib.hid hf
  have H := Lib.hid h
  clear hf h hp ok
  generalize hR : syncFR s1 er r = R
  have HR := Lib.hid hR
  clear hR
  generalize S p = sp at *
  go_enter Tryz.func62, Tryz.ntmps62
  go_wp2_with fail
  refine FA.out.mono ?_
  rintro e w2 ⟨rfl, ht2, hc2⟩
  cases r with
  | none =>
    have hR : (s1, er) = R := HR.out
    subst hR
    have hne : (er == 0) = false := by have := HF.out.no rfl; simpa using this
    have T2 := Lib.hid ht2
    have CF' := Lib.hid (hc2.mono (M' := Mine g) (fun j _ e => by rw [e]; exact (mine_cv H.out).1))
    clear HR HF ht2 hc2 FA
    unfold optP
    go_wp2
    go_ret
    exact ⟨rfl, g, T2.out, CF'.out, Gh.le_refl _ _⟩
  | some f =>
    have hR : (s1.set_ f { s1.at_ f with sf := (s1.at_ f).now }, (0 : Int)) = R := HR.out
    subst hR
    obtain rfl : er = 0 := (HF.out.yes f rfl).1
    have hlt := hfid.out f rfl
    have hfa := ht2.fil f hlt
    obtain ⟨A, n, c, A2, n2, c2, hb, o1, o2, hal, t1, t2⟩ := hfa.ex
    have d0 : w2.cell? ⟨g.blk f, 0, none⟩ = some (.slice A n c) := by rw [hb.cell]; rfl
    have d1 : w2.cell? ⟨g.blk f, 1, none⟩ = some (.slice A2 n2 c2) := by rw [hb.cell]; rfl
    have d2 := hb.frozen 1
    have C3 := Chd.set w2 (g.blk f) 1 (.slice A n c)
    have nt : ∀ j, A = some ⟨j, 0, none⟩ → ¬ j = g.blk f := fun j e e2 => by
      have h1 := t1 j e
      have h2 := hfa.tg
      rw [e2] at h1
      omega
    have hne := blk_ne ht2 hlt
    have T3 : TreeAt (w2.setCell ⟨g.blk f, 1, none⟩ (.slice A n c)) tb (s1.set_ f { s1.at_ f with sf := (s1.at_ f).now }) g :=
      ht2.refile (f := f) (x := { s1.at_ f with sf := (s1.at_ f).now }) C3 (fun j e => by rw [e]; exact .inr (.inr (.inl hfa.tg))) hlt
        ⟨⟨A, n, c, A, n, c, hb.set 1 _, own_chd o1 C3 nt, own_chd o1 C3 nt, fun _ => Nat.le_refl _, t1, t1⟩, hfa.tg⟩ (ht2.top.chd C3 (fun e => hne e.symm)) rfl rfl rfl rfl
    have CF : Chd (Mine g) w (w2.setCell ⟨g.blk f, 1, none⟩ (.slice A n c)) := (hc2.mono (M' := Mine g) (fun j _ e => by rw [e]; exact (mine_cv H.out).1)).trans (C3.mono fun j _ e => by rw [e]; show g.tag _ ≠ 0; rw [hfa.tg]; omega)
    have T3' := Lib.hid T3
    have CF' := Lib.hid CF
    clear HR HF ht2 hc2 FA T3 CF C3 nt hfa hb o1 o2 hal t1 t2 hne hlt
    unfold optP fptr
    go_wp2
    go_ret
    exact ⟨rfl, g, T3'.out, CF'.out, Gh.le_refl _ _⟩

def readR (s1 : St) (er : Int) : Option Nat → St × Str × Int
  | some f => (s1, (s1.at_ f).now, 0)
  | none => (s1, [], er)
theorem read_eq (s : St) (p : Str) {s1 : St} {r : Option Nat} {er : Int} (h : Found s p [] s1 r er) : s.read p = readR s1 er r := by
  unfold St.read
  rw [h.eq]
  cases r <;> rfl
theorem Own.arg {w : World} {B n c : Nat} {A : Option Addr} {b : Str} (h : Own w B A n c b) : Arg w A n c b := Arg.of_byt h.byt (Nat.le_refl _)
theorem Own.nil_cap {w : World} {B n c : Nat} {b : Str} (h : Own w B none n c b) : c = 0 := by
  rcases h.2 with ⟨hv, _⟩ | ⟨g, cap, cur, hv, _⟩
  · simp only [Value.slice.injEq] at hv
    exact hv.2.2
  · cases hv

set_option maxRecDepth 100000 in
theorem read_any (w : World) (tb : Nat) (s : St) (g : Gh) {k : Nat} (hk : k ≤ 1000) (h : TreeAt w tb s g) (ok : Ok k s) (p : Str) (hp : p.length ≤ 10000) :
    Calls Tryz.prog 72 #[.pointer (some ⟨tb, 0, none⟩), .string (S p)] w fun e w' => ∃ A n c, e = .returned (.tuple #[.slice A n c, .int .i64 (s.read p).2.2]) ∧ Own w' w.heap.size A n c (s.read p).2.1 ∧ TreeAt w' tb (s.read p).1 g ∧ Chd (fun j => j = tb) w w' := by
  obtain ⟨s1, r, er, hf⟩ := found s p []
  rw [read_eq s p hf]
  have FA := Lib.hid (find_at (tb := tb) (g := g) ok p hp hf w h)
  have hfid := Lib.hid (fun f e => hf.lt ok f e)
  have OK1 := Lib.hid (hf.ok ok)
  have HF := Lib.hid hf
  have H := Lib.hid h
  clear hf h hp ok
  generalize hR : readR s1 er r = R
  have HR := Lib.hid hR
  clear hR
  generalize S p = sp at *
  go_enter Tryz.func72, Tryz.ntmps72
  go_wp2_with fail
  refine FA.out.mono ?_
  rintro e w2 ⟨rfl, ht2, hc2⟩
  cases r with
  | none =>
    have hR : (s1, ([] : Str), er) = R := HR.out
    subst hR
    have hne : (er != 0) = true := by have := HF.out.no rfl; simpa using this
    have T2 := Lib.hid ht2
    have C2 := Lib.hid hc2
    clear HR HF ht2 hc2 FA
    unfold optP
    go_wp2
    go_ret2
    exact ⟨none, 0, 0, rfl, ⟨rfl, .inl ⟨rfl, rfl⟩⟩, T2.out, C2.out⟩
  | some f =>
    have hR : (s1, (s1.at_ f).now, (0 : Int)) = R := HR.out
    subst hR
    obtain rfl : er = 0 := (HF.out.yes f rfl).1
    have hlt := hfid.out f rfl
    have hfa := ht2.fil f hlt
    obtain ⟨A, n, c, A2, n2, c2, hb, o1, o2, hal, t1, t2⟩ := hfa.ex
    have d0 : w2.cell? ⟨g.blk f, 0, none⟩ = some (.slice A n c) := by rw [hb.cell]; rfl
    have hn : n ≤ 100000000 := by have h1 := OK1.out.sz f; have h2 := o1.len; omega
    have BC := Lib.hid (bclone_any w2 A n c _ o1.arg hn (fun e => by subst e; exact o1.nil_cap))
    have T2 := Lib.hid ht2
    have C2 := Lib.hid hc2
    clear HR HF ht2 hc2 FA hfa hb o1 o2 hal t1 t2 hlt
    unfold optP fptr
    go_wp2_with fail
    refine BC.out.mono ?_
    rintro e w3 ⟨A3, c3, rfl, ho3, hb3⟩
    have HO := Lib.hid ho3
    have HB := Lib.hid hb3
    clear ho3 hb3 BC
    go_wp2
    go_ret2
    exact ⟨A3, n, c3, rfl, HO.out.more (C2.out.size), T2.out.nx HB.out, C2.out.trans (Nx.chd HB.out)⟩
end Go.Proofs.YtiikjdjpodmpcaaGreat

/- Package tree: bytes appended to those of a file. -/
namespace Go.Proofs.YtiikjdjpodmpcaaGreat
open Go.RowKit Go.Maps
set_option linter.unusedVariables false

theorem Own.at_ {w : World} {B n c j : Nat} {b : Str} (h : Own w B (some ⟨j, 0, none⟩) n c b) : B ≤ j ∧ j < w.heap.size := by
  rcases h.2 with ⟨hv, _⟩ | ⟨g, cap, cur, hv, hB, hg, _⟩
  · cases hv
  · simp only [Value.slice.injEq, Option.some.injEq, Addr.mk.injEq] at hv
    rw [hv.1.1]
    exact ⟨hB, (Array.getElem?_eq_some_iff.1 hg).1⟩
theorem Own.form {w : World} {B n c : Nat} {A : Option Addr} {b : Str} (h : Own w B A n c b) : (A = none ∧ n = 0 ∧ c = 0) ∨ ∃ j, A = some ⟨j, 0, none⟩ := by
  rcases h.2 with ⟨hv, h0⟩ | ⟨g, cap, cur, hv, _⟩
  · simp only [Value.slice.injEq] at hv
    exact .inl ⟨hv.1, h0, hv.2.2⟩
  · simp only [Value.slice.injEq] at hv
    exact .inr ⟨g, hv.1⟩
/-- Two slices of one block. -/
theorem Own.same {w w' : World} {B B' j n c n2 c2 N : Nat} {l l2 L : Str} (h : Own w B (some ⟨j, 0, none⟩) n c l) (h2 : Own w B' (some ⟨j, 0, none⟩) n2 c2 l2) (hn : n2 ≤ n) (hN : Own w' B (some ⟨j, 0, none⟩) N c L) (hle : n ≤ N) (hL : L.take n = l) : Own w' B' (some ⟨j, 0, none⟩) n2 c2 l2 := by
  rcases h.2 with ⟨hv, _⟩ | ⟨g, cap, cur, hv, hB, hg, h3, h4, h5, h6⟩
  · cases hv
  rcases h2.2 with ⟨hv2, _⟩ | ⟨g2, cap2, cur2, hv2, hB2, hg2, k3, k4, k5, k6⟩
  · cases hv2
  rcases hN.2 with ⟨hv3, _⟩ | ⟨g3, cap3, cur3, hv3, hB3, hg3, m3, m4, m5, m6⟩
  · cases hv3
  simp only [Value.slice.injEq, Option.some.injEq, Addr.mk.injEq, and_true, true_and] at hv hv2 hv3
  obtain ⟨e1, e2⟩ := hv
  obtain ⟨e3, e4⟩ := hv2
  obtain ⟨e5, e6⟩ := hv3
  subst e1 e2 e3 e4 e5 e6
  rw [hg] at hg2
  simp only [Option.some.injEq, Obj.cells.injEq, and_true] at hg2
  have hcur : cur = cur2 := hg2
  subst hcur
  have hcap : c2 = c := by simp only [Nat.mul_one] at h5 k5; omega
  refine ⟨h2.1, .inr ⟨j, c2, cur3, rfl, hB2, hg3, k3, k4, by rw [m5, hcap], ?_⟩⟩
  rw [← k6]
  have e7 : l2 = l.take n2 := bvs_inj (by rw [← k6]; unfold bvs; rw [List.map_take]; have : l.map (fun b : UInt8 => Value.int .u8 (b.toNat : Int)) = bvs l := rfl; rw [this, ← h6, List.take_take]; congr 1; omega)
  have e8 : cur3.toList.take (n2 * 1) = bvs (L.take n2) := by
    have : bvs (L.take n2) = (bvs L).take n2 := by unfold bvs; rw [List.map_take]
    rw [this, ← m6, List.take_take]
    congr 1
    omega
  rw [e8, k6, e7, ← hL, List.take_take]
  congr 2
  omega
theorem byte_append2 (w : World) (ty : TypeId) (A : Option Addr) (n c : Nat) (l : Str) (hown : Own w 0 A n c l) (A' : Option Addr) (m c' : Nat) (l' : Str) (hr : Arg w A' m c' l') (hb : n + m ≤ 1000000000) :
    ∃ A2 c2 w', (Builtin.append_ #[22, 22] ty #[.slice A n c, .slice A' m c']).run Tryz.prog w = .ok (.slice A2 (n + m) c2) w' ∧ Own w' 0 A2 (n + m) c2 (l ++ l') ∧
      ((A2 = A ∧ c2 = c ∧ w.grownBy w' (Value.slice A n c).ownBlock) ∨ (A2 = some ⟨w.heap.size, 0, none⟩ ∧ w.grownBy w' none)) := by
  obtain ⟨i, hi, hz, hs, hby⟩ := info_parts byte_info
  have hl' := hr.len
  obtain ⟨A2, c2, w', hrun, ho, hg, h5⟩ := byte_append w ty 0 A n c l hown _ A' m c' l' hr.byt (by omega) (Nat.zero_le _)
  rcases hown.form with ⟨rfl, rfl, rfl⟩ | ⟨j, rfl⟩
  · refine ⟨A2, c2, w', hrun, ho, ?_⟩
    rcases ho.form with ⟨rfl, _, rfl⟩ | ⟨j2, rfl⟩
    · exact .inl ⟨rfl, rfl, hg⟩
    · right
      rcases h5 with h5 | h5
      · cases h5
      · have : j2 = w.heap.size := by simpa [Value.ownBlock] using h5
        subst this
        exact ⟨rfl, hg⟩
  · have hjl := hown.at_.2
    rcases A' with _ | ad
    · obtain ⟨rfl, rfl⟩ := hr.none_eq
      have e := byte_append_nil w ty 0 _ n _ hown c'
      exact ⟨_, _, _, e, by simpa using hown, .inl ⟨rfl, rfl, World.grownBy.refl w _⟩⟩
    · obtain ⟨news, hnl, hnews, hone⟩ : ∃ news : List Value, news.length = m * i.size ∧ (∀ q u, news[q]? = some u → w.cell? (ad.add q) = some u) ∧ (∀ u ∈ news, u.oneCell' = true) := by
        rw [hs]
        rcases Nat.eq_zero_or_pos m with hm | hm
        · subst hm
          exact ⟨[], rfl, fun q u h => by simp at h, fun u h => by cases h⟩
        · obtain ⟨b, o, e, _, hc⟩ := hr.lies hm
          simp only [Option.some.injEq] at e
          subst e
          refine ⟨bvs l', by rw [bvs_length]; omega, fun q u hu => ?_, bvs_one l'⟩
          have hj : q < l'.length := by rw [← bvs_length]; exact (List.getElem?_eq_some_iff.1 hu).1
          rw [add_plain, hc q (by omega), ← bvs_get l' q hj, hu]
      rcases hown.2 with ⟨hv, _⟩ | ⟨g, cap, cur, hv, hB, hgc, h3, h4, h5', h6⟩
      · cases hv
      simp only [Value.slice.injEq, Option.some.injEq, Addr.mk.injEq, and_true, true_and] at hv
      obtain ⟨e1, e2⟩ := hv
      subst e1 e2
      by_cases hroom : n + m ≤ c
      · have e := run_append_room (P := Tryz.prog) w 22 ty 5 i Tryz.underlying22 hi j n c cur hgc ad m c' news hnl hnews hone hroom (by rw [hnl, hs, h5']; omega)
        rw [e] at hrun
        simp only [Result.ok.injEq, Value.slice.injEq] at hrun
        obtain ⟨⟨e1, _, e2⟩, e3⟩ := hrun
        subst e1 e2 e3
        exact ⟨_, _, _, e, ho, .inl ⟨rfl, rfl, hg⟩⟩
      · have e := run_append_grow (P := Tryz.prog) w 22 ty 5 i (.int .u8 0) Tryz.underlying22 hi hz ⟨j, 0, none⟩ n c (bvs l) (by rw [bvs_length, hs]; have := hown.len; omega)
          (World.ownsRow.cells (w := w) hown (g := j) rfl) ad m c' news hnl hnews (by omega) (by omega) (by rw [hby]; have := growslice_fits (need := n + m) (old := c) (bytes := 1) (by omega) (by omega); simpa using this)
        rw [e] at hrun
        simp only [Result.ok.injEq, Value.slice.injEq] at hrun
        obtain ⟨⟨e1, _, e2⟩, e3⟩ := hrun
        subst e1 e2 e3
        exact ⟨_, _, _, e, ho, .inr ⟨rfl, ⟨rfl, rfl, rfl, by simp, fun k hk _ => heap_alloc_old w.drew _ k hk⟩⟩⟩
theorem wpList_byte_append2 {w : World} {ops : Array Oper} {rest : List Oper} {o : Oper} {a : Act} {Q : Exit → Act → World → Prop} (hgd : o.guard = none) (s x : Operand)
    (ho : o.op = .call { callee := .builtin .append, args := #[s, x], argTypes := #[22, 22] })
    (A : Option Addr) (n c : Nat) (l : Str) (hs : a.eval s = .slice A n c) (hown : Own w 0 A n c l) (A' : Option Addr) (m c' : Nat) (l' : Str) (hx : a.eval x = .slice A' m c') (hr : Arg w A' m c' l') (hb : n + m ≤ 1000000000)
    (h : ∀ A2 c2 w', Own w' 0 A2 (n + m) c2 (l ++ l') → ((A2 = A ∧ c2 = c ∧ w.grownBy w' (Value.slice A n c).ownBlock) ∨ (A2 = some ⟨w.heap.size, 0, none⟩ ∧ w.grownBy w' none)) → wpList Tryz.prog ops Q rest (a.put o.dst (.slice A2 (n + m) c2)) w') :
    wpList Tryz.prog ops Q (o :: rest) a w := by
  refine wpList_plain hgd fun K hK => ?_
  obtain ⟨A2, c2, w', hr, h2, h3⟩ := byte_append2 w o.type A n c l hown A' m c' l' hr hb
  unfold Oper.wp execOp
  simp only [ho, resolve, invoke, builtin, Sem.run_bind, Sem.run_pure, Result.andThen_ok, List.map_toArray, List.map_cons, List.map_nil, hs, hx, hr]
  exact hK _ _ (h A2 c2 w' h2 h3)
end Go.Proofs.YtiikjdjpodmpcaaGreat

/- Package tree: Write and Append. -/
namespace Go.Proofs.YtiikjdjpodmpcaaGreat
open Go.RowKit Go.Maps
set_option linter.unusedVariables false

def writeR (s1 : St) (b : Str) (er : Int) : Option Nat → St × Int
  | some f => if (b.length : Int) > s1.left_ (s1.used - ((s1.at_ f).now.length : Int)) then (s1, 10) else (s1.putB f b, 0)
  | none => (s1, er)
theorem write_eq (s : St) (p b : Str) {s1 : St} {r : Option Nat} {er : Int} (h : Found s p [] s1 r er) : s.write p b = writeR s1 b er r := by
  unfold St.write
  rw [h.eq]
  cases r <;> rfl
def appendR (s1 : St) (b : Str) (er : Int) : Option Nat → St × Int
  | some f => if (b.length : Int) > s1.left_ s1.used then (s1, 10) else (s1.putB f ((s1.at_ f).now ++ b), 0)
  | none => (s1, er)
theorem append_eq (s : St) (p b : Str) {s1 : St} {r : Option Nat} {er : Int} (h : Found s p [] s1 r er) : s.append_ p b = appendR s1 b er r := by
  unfold St.append_
  rw [h.eq]
  cases r <;> rfl
theorem take_le {w : World} {g : Gh} {A : Option Addr} {f : Nat} (hA : ∀ j, A = some ⟨j, 0, none⟩ → g.tag j ≠ 0 ∨ w.heap.size ≤ j) : Gh.le w g (g.take A (11 + 2 * f)) := fun j hj => by
  have hj' : (if A = some ⟨j, 0, none⟩ then 11 + 2 * f else g.tag j) ≠ 0 := hj
  split at hj'
  · rename_i e; exact hA j e
  · exact .inl hj'
theorem fits_new {w0 w : World} {tb : Nat} {s : St} {g : Gh} {f : Nat} (h : TreeAt w0 tb s g) (h' : TreeAt w tb s g) (hf : f < s.fil.length) {A : Option Addr} {n c : Nat} {b : Str} (ho : Own w w0.heap.size A n c b) : Fits w g f A n c b := by
  refine ⟨ho.more (Nat.zero_le _), fun j e => ?_, fun A2 n2 c2 hc e => ?_⟩
  · subst e
    exact ⟨ho.at_.2, .inl (new_zero h ho.at_.1)⟩
  · obtain ⟨A1, n1, c1, A3, n3, c3, hb, o1, o2, hal, t1, t2⟩ := (h'.fil f hf).ex
    rw [hb.cell] at hc
    simp only [List.getElem?_toArray, List.getElem?_cons_succ, List.getElem?_cons_zero, Option.some.injEq, Value.slice.injEq] at hc
    obtain ⟨e1, e2, _⟩ := hc
    subst e1 e2
    rcases o2.form with ⟨e3, e4, _⟩ | ⟨j, e3⟩
    · omega
    · have k1 := t2 j e3
      rw [e] at e3
      subst e3
      have := new_zero h ho.at_.1
      omega

set_option maxRecDepth 100000 in
theorem write_any (w : World) (tb : Nat) (s : St) (g : Gh) {k : Nat} (hk : k ≤ 1000) (h : TreeAt w tb s g) (ok : Ok k s) (p : Str) (hp : p.length ≤ 10000)
    (A : Option Addr) (n c : Nat) (b : Str) (hb : Arg w A n c b) (hbl : b.length ≤ 10000) (hnil : A = none → c = 0) (hA : ∀ j o, A = some ⟨j, o, none⟩ → g.tag j = 0) :
    Calls Tryz.prog 105 #[.pointer (some ⟨tb, 0, none⟩), .string (S p), .slice A n c] w fun e w' => e = .returned (.int .i64 (s.write p b).2) ∧ ∃ g', TreeAt w' tb (s.write p b).1 g' ∧ Chd (Mine g) w w' ∧ Gh.le w g g' := by
  obtain ⟨s1, r, er, hf⟩ := found s p []
  rw [write_eq s p b hf]
  have FA := Lib.hid (find_at (tb := tb) (g := g) ok p hp hf w h)
  have hfid := Lib.hid (fun f e => hf.lt ok f e)
  have OK1 := Lib.hid (hf.ok ok)
  have HF := Lib.hid hf
  have H := Lib.hid h
  have HB := Lib.hid hb
  have HBL := Lib.hid hbl
  have hlen := hb.len
  have hn : n ≤ 10000 := by omega
  have HNIL := Lib.hid hnil
  have HA : Hid (∀ j o, A = some ⟨j, o, none⟩ → ¬ j = tb) := fun j o e e2 => by have := hA j o e; rw [e2, h.topT] at this; omega
  have HLEN := Lib.hid hlen
  clear hf h hp ok hb hbl hnil hA hlen
  generalize hR : writeR s1 b er r = R
  have HR := Lib.hid hR
  clear hR
  generalize S p = sp at *
  go_enter Tryz.func105, Tryz.ntmps105
  go_wp2_with fail
  refine FA.out.mono ?_
  rintro e w2 ⟨rfl, ht2, hc2⟩
  cases r with
  | none =>
    have hR : (s1, er) = R := HR.out
    subst hR
    have hne : (er != 0) = true := by have := HF.out.no rfl; simpa using this
    have T2 := Lib.hid ht2
    have CF' := Lib.hid (hc2.mono (M' := Mine g) (fun j _ e => by rw [e]; exact (mine_cv H.out).1))
    clear HR HF ht2 hc2 FA
    unfold optP
    go_wp2
    go_ret
    exact ⟨rfl, g, T2.out, CF'.out, Gh.le_refl _ _⟩
  | some f =>
    obtain rfl : er = 0 := (HF.out.yes f rfl).1
    have hlt := hfid.out f rfl
    have hfa := ht2.fil f hlt
    obtain ⟨A1, n1, c1, A2, n2, c2, hbk, o1, o2, hal, t1, t2⟩ := hfa.ex
    have hn1 : (s1.at_ f).now.length = n1 := o1.len
    have hz1 : n1 ≤ 10000000 := by have := OK1.out.sz f; omega
    have u0 : -10000000000000 ≤ s1.used := by have := OK1.out.u0; omega
    have u1 : s1.used ≤ 10000000000000 := by have := OK1.out.u1; omega
    have hR : (if (b.length : Int) > s1.left_ (s1.used - ((s1.at_ f).now.length : Int)) then (s1, 10) else (s1.putB f b, 0)) = R := HR.out
    rw [hn1, HLEN.out] at hR
    have hwr : Hid (IntKind.i64.wrap (s1.used - (n1 : Int)) = s1.used - (n1 : Int)) := by show IntKind.i64.wrap (s1.used - (n1 : Int)) = s1.used - (n1 : Int); rw [IntKind.wrap_i64]; omega
    have LF : Hid (∀ m, Calls Tryz.prog 54 #[.pointer (some ⟨tb, 0, none⟩), .int .i64 (s1.used - (n1 : Int))] (w2.drewN m) fun e w' => e = .returned (.int .i64 (s1.left_ (s1.used - (n1 : Int)))) ∧ w' = w2.drewN m) := fun m =>
      (left_any (w2.drewN m) tb s1 g ht2.top (s1.used - (n1 : Int)) OK1.out.r0 OK1.out.r1 (by omega) (by omega)).mono fun _ _ h => ⟨h.1, h.2.symm⟩
    have PF := Lib.hid (fun W (hW : TreeAt W tb s1 g) A3 n3 c3 b3 hfit hb3 => put_any W tb s1 g hk hW OK1.out f hlt A3 n3 c3 b3 hfit hb3)
    have d0 : w2.cell? ⟨g.blk f, 0, none⟩ = some (.slice A1 n1 c1) := by rw [hbk.cell]; rfl
    have cc1 := (top_of ht2.top).c1
    have T2 := Lib.hid ht2
    have C2 := Lib.hid hc2
    have HLT := Lib.hid hlt
    have HRR := Lib.hid hR
    clear HR HF ht2 hc2 FA hfa hbk o1 o2 hal t1 t2 hlt hn1 hR
    generalize hlv : s1.left_ (s1.used - (n1 : Int)) = lv at *
    have HLV := Lib.hid hlv
    clear hlv
    unfold optP fptr
    by_cases hbig : (n : Int) > lv
    · have hR : (s1, (10 : Int)) = R := by have := HRR.out; rwa [if_pos hbig] at this
      subst hR
      go_wp2_with fail
      go_quiet ((go_at_call 54; exact Calls.quiet_of_same (LF.out _)))
      clear LF PF
      go_wp2
      go_ret
      exact ⟨rfl, g, T2.out.nx (Nx.drewN (Nx.refl _) _), (C2.out.mono (M' := Mine g) (fun j _ e => by rw [e]; exact (mine_cv H.out).1)).drewN _, Gh.le_refl _ _⟩
    · have hR : (s1.putB f b, (0 : Int)) = R := by have := HRR.out; rwa [if_neg hbig] at this
      subst hR
      have BC : Hid (∀ m, Calls Tryz.prog 57 #[.slice A n c] (w2.drewN m) fun e w' => ∃ A2 c2, e = .returned (.slice A2 n c2) ∧ Own w' (w2.drewN m).heap.size A2 n c2 b ∧ Nx (w2.drewN m) w') := fun m =>
        bclone_any (w2.drewN m) A n c b ((HB.out.chd C2.out HA.out).nx (Nx.drewN (Nx.refl _) _)) (by omega) HNIL.out
      go_wp2_with fail
      go_quiet ((go_at_call 54; exact Calls.quiet_of_same (LF.out _)))
      clear LF cc1 d0
      go_wp2_with fail
      refine (BC.out _).mono ?_
      rintro e w3 ⟨A3, c3, rfl, ho3, hb3⟩
      have hb3' : Nx w2 w3 := Nx.trans (Nx.drewN (Nx.refl _) _) hb3
      have T3 := T2.out.nx hb3'
      have X := PF.out w3 T3 A3 n c3 b (fits_new T2.out T3 HLT.out ho3) (by have := HBL.out; omega)
      have XX := Lib.hid X
      have CF := Lib.hid ((C2.out.mono (M' := Mine g) (fun j _ e => by rw [e]; exact (mine_cv H.out).1)).trans (Nx.chd hb3'))
      have HO := Lib.hid ho3
      have TG := Lib.hid ((T3.fil f HLT.out).tg)
      clear BC PF ho3 hb3 hb3' T3 X
      go_wp2_with fail
      refine XX.out.mono ?_
      rintro e w4 ⟨rfl, ht4, hc4⟩
      have T4 := Lib.hid ht4
      have CG := Lib.hid (CF.out.trans (hc4.mono (M' := Mine g) (fun j _ e => by
        rcases e with e | e
        · rw [e]; exact (mine_cv H.out).1
        · rw [e]; show g.tag _ ≠ 0; rw [TG.out]; omega)))
      clear ht4 hc4 XX CF
      go_wp2
      go_ret
      exact ⟨rfl, _, T4.out, CG.out, take_le fun j e => .inr (by have h1 := HO.out; rw [e] at h1; exact Nat.le_trans C2.out.size h1.at_.1)⟩

theorem fits_app {w w3 : World} {tb : Nat} {s : St} {g : Gh} {f : Nat} (h : TreeAt w tb s g) (hf : f < s.fil.length) {A1 A : Option Addr} {n1 c1 m c : Nat} {b : Str} {A2 : Option Addr} {n2 c2 : Nat}
    (hb : BlkIs w (g.blk f) 101 #[.slice A1 n1 c1, .slice A2 n2 c2, .int .u64 ((s.at_ f).st : Int)]) (o1 : Own w 0 A1 n1 c1 (s.at_ f).now) (o2 : Own w 0 A2 n2 c2 (s.at_ f).sf) (hal : A2 = A1 → n2 ≤ n1) (t1 : Tg g.tag A1 (11 + 2 * f)) (t2 : Tg g.tag A2 (11 + 2 * f))
    (ho : Own w3 0 A (n1 + m) c ((s.at_ f).now ++ b)) (hc : (A = A1 ∧ c = c1 ∧ w.grownBy w3 (Value.slice A1 n1 c1).ownBlock) ∨ (A = some ⟨w.heap.size, 0, none⟩ ∧ w.grownBy w3 none)) :
    TreeAt w3 tb s g ∧ Fits w3 g f A (n1 + m) c ((s.at_ f).now ++ b) ∧ Chd (fun j => j ≠ tb ∧ g.tag j = 11 + 2 * f) w w3 ∧ (∀ j, A = some ⟨j, 0, none⟩ → g.tag j ≠ 0 ∨ w.heap.size ≤ j) := by
  have htb := h.topT
  have hset : s.fil = s.fil.set f (s.at_ f) := by
    unfold St.at_
    simp only [List.getD, List.getElem?_eq_getElem hf, Option.getD_some]
    exact (List.set_getElem_self hf).symm
  have hlen := o1.len
  have cell1 : ∀ {w' : World} {M : Nat → Prop}, Chd M w w' → ¬ M (g.blk f) → ∀ A' n' c', w'.cell? ⟨g.blk f, 1, none⟩ = some (.slice A' n' c') → A' = A2 ∧ n' = n2 := fun hcc hm A' n' c' hx => by
    rw [(hb.chd hcc hm).cell] at hx
    simp only [List.getElem?_toArray, List.getElem?_cons_succ, List.getElem?_cons_zero, Option.some.injEq, Value.slice.injEq] at hx
    exact ⟨hx.1.symm, hx.2.1.symm⟩
  rcases hc with ⟨rfl, rfl, hg⟩ | ⟨rfl, hg⟩
  · rcases o1.form with ⟨rfl, rfl, rfl⟩ | ⟨j, rfl⟩
    · have hC : Chd (fun j => j ≠ tb ∧ g.tag j = 11 + 2 * f) w w3 := Chd.of_grown_none hg
      have T3 := h.chd (M := fun _ => False) (Chd.of_grown_none hg) (fun _ e => e.elim)
      refine ⟨T3, ⟨ho, fun j e => (by cases e), fun A' n' c' hx e => ?_⟩, hC, fun j e => (by cases e)⟩
      obtain ⟨e1, e2⟩ := cell1 (M := fun _ => False) (Chd.of_grown_none hg) (fun e => e) A' n' c' hx
      have := hal (e1.symm.trans e)
      omega
    · have tj : g.tag j = 11 + 2 * f := t1 j rfl
      have C := Chd.of_grown (b := j) hg
      have hjb : ¬ g.blk f = j := fun e => by have := (h.fil f hf).tg; rw [e, tj] at this; omega
      have hC : Chd (fun j => j ≠ tb ∧ g.tag j = 11 + 2 * f) w w3 := C.mono fun i _ e => by subst e; exact ⟨fun e => by rw [e, htb] at tj; omega, tj⟩
      have own1 : Own w3 0 (some ⟨j, 0, none⟩) n1 c (s.at_ f).now := o1.same o1 (Nat.le_refl _) ho (by omega) (by rw [List.take_append_of_le_length (by omega), List.take_of_length_le (by omega)])
      have own2 : Own w3 0 A2 n2 c2 (s.at_ f).sf := by
        by_cases e : A2 = some ⟨j, 0, none⟩
        · subst e
          exact o1.same o2 (hal rfl) ho (by omega) (by rw [List.take_append_of_le_length (by omega), List.take_of_length_le (by omega)])
        · exact own_chd o2 C (fun g' hg' e2 => e (by rw [hg', e2]))
      have T3 : TreeAt w3 tb s g := h.refile (f := f) (x := s.at_ f) C (fun i e => by subst e; exact .inr (.inr (.inr tj))) hf ⟨⟨_, n1, c, A2, n2, c2, hb.chd C hjb, own1, own2, hal, t1, t2⟩, (h.fil f hf).tg⟩
        (h.top.chd C (fun e => by rw [← e, htb] at tj; omega)) rfl rfl rfl hset
      refine ⟨T3, ⟨ho, fun i e => ?_, fun A' n' c' hx e => ?_⟩, hC, fun i e => ?_⟩
      · simp only [Option.some.injEq, Addr.mk.injEq, and_true] at e
        subst e
        exact ⟨ho.at_.2, .inr tj⟩
      · obtain ⟨e1, e2⟩ := cell1 C hjb A' n' c' hx
        have := hal (e1.symm.trans e)
        omega
      · simp only [Option.some.injEq, Addr.mk.injEq, and_true] at e
        subst e
        left; omega
  · have hC : Chd (fun j => j ≠ tb ∧ g.tag j = 11 + 2 * f) w w3 := Chd.of_grown_none hg
    have T3 := h.chd (M := fun _ => False) (Chd.of_grown_none hg) (fun _ e => e.elim)
    refine ⟨T3, ⟨ho, fun i e => ?_, fun A' n' c' hx e => ?_⟩, hC, fun i e => ?_⟩
    · simp only [Option.some.injEq, Addr.mk.injEq, and_true] at e
      subst e
      exact ⟨ho.at_.2, .inl (new_zero h (Nat.le_refl _))⟩
    · obtain ⟨e1, e2⟩ := cell1 (M := fun _ => False) (Chd.of_grown_none hg) (fun e => e) A' n' c' hx
      have h1 := t2 w.heap.size (by rw [← e1, e])
      have h2 := new_zero h (Nat.le_refl w.heap.size)
      omega
    · simp only [Option.some.injEq, Addr.mk.injEq, and_true] at e
      subst e
      exact .inr (Nat.le_refl _)

set_option maxRecDepth 100000 in
theorem append_any (w : World) (tb : Nat) (s : St) (g : Gh) {k : Nat} (hk : k ≤ 1000) (h : TreeAt w tb s g) (ok : Ok k s) (p : Str) (hp : p.length ≤ 10000)
    (A : Option Addr) (n c : Nat) (b : Str) (hb : Arg w A n c b) (hbl : b.length ≤ 10000) (hA : ∀ j o, A = some ⟨j, o, none⟩ → g.tag j = 0) :
    Calls Tryz.prog 50 #[.pointer (some ⟨tb, 0, none⟩), .string (S p), .slice A n c] w fun e w' => e = .returned (.int .i64 (s.append_ p b).2) ∧ ∃ g', TreeAt w' tb (s.append_ p b).1 g' ∧ Chd (Mine g) w w' ∧ Gh.le w g g' := by
  obtain ⟨s1, r, er, hf⟩ := found s p []
  rw [append_eq s p b hf]
  have FA := Lib.hid (find_at (tb := tb) (g := g) ok p hp hf w h)
  have hfid := Lib.hid (fun f e => hf.lt ok f e)
  have OK1 := Lib.hid (hf.ok ok)
  have HF := Lib.hid hf
  have H := Lib.hid h
  have HB := Lib.hid hb
  have HBL := Lib.hid hbl
  have hlen := hb.len
  have hn : n ≤ 10000 := by omega
  have HA : Hid (∀ j o, A = some ⟨j, o, none⟩ → ¬ j = tb) := fun j o e e2 => by have := hA j o e; rw [e2, h.topT] at this; omega
  have HLEN := Lib.hid hlen
  clear hf h hp ok hb hbl hA hlen
  generalize hR : appendR s1 b er r = R
  have HR := Lib.hid hR
  clear hR
  generalize S p = sp at *
  go_enter Tryz.func50, Tryz.ntmps50
  go_wp2_with fail
  refine FA.out.mono ?_
  rintro e w2 ⟨rfl, ht2, hc2⟩
  cases r with
  | none =>
    have hR : (s1, er) = R := HR.out
    subst hR
    have hne : (er != 0) = true := by have := HF.out.no rfl; simpa using this
    have T2 := Lib.hid ht2
    have CF' := Lib.hid (hc2.mono (M' := Mine g) (fun j _ e => by rw [e]; exact (mine_cv H.out).1))
    clear HR HF ht2 hc2 FA
    unfold optP
    go_wp2
    go_ret
    exact ⟨rfl, g, T2.out, CF'.out, Gh.le_refl _ _⟩
  | some f =>
    obtain rfl : er = 0 := (HF.out.yes f rfl).1
    have hlt := hfid.out f rfl
    have hfa := ht2.fil f hlt
    obtain ⟨A1, n1, c1, A2, n2, c2, hbk, o1, o2, hal, t1, t2⟩ := hfa.ex
    have hn1 : (s1.at_ f).now.length = n1 := o1.len
    have hz1 : n1 ≤ 10000000 := by have := OK1.out.sz f; omega
    have u0 : -10000000000000 ≤ s1.used := by have := OK1.out.u0; omega
    have u1 : s1.used ≤ 10000000000000 := by have := OK1.out.u1; omega
    have hR : (if (b.length : Int) > s1.left_ s1.used then (s1, 10) else (s1.putB f ((s1.at_ f).now ++ b), 0)) = R := HR.out
    rw [HLEN.out] at hR
    have LF := Lib.hid (left_any w2 tb s1 g ht2.top s1.used OK1.out.r0 OK1.out.r1 (by omega) (by omega))
    have d0 : w2.cell? ⟨g.blk f, 0, none⟩ = some (.slice A1 n1 c1) := by rw [hbk.cell]; rfl
    have cc1 := (top_of ht2.top).c1
    have HRR := Lib.hid hR
    clear HR hR
    generalize hlv : s1.left_ s1.used = lv at *
    clear hlv
    unfold optP fptr
    by_cases hbig : (n : Int) > lv
    · have hR : (s1, (10 : Int)) = R := by have := HRR.out; rwa [if_pos hbig] at this
      subst hR
      have T2 := Lib.hid ht2
      have C2 := Lib.hid hc2
      clear HF ht2 hc2 FA hfa hbk o1 o2 hal t1 t2 hlt hn1 HRR
      go_wp2_with fail
      refine LF.out.mono ?_
      rintro e w' ⟨rfl, rfl⟩
      go_wp2
      go_ret
      exact ⟨rfl, g, T2.out, C2.out.mono (M' := Mine g) (fun j _ e => by rw [e]; exact (mine_cv H.out).1), Gh.le_refl _ _⟩
    · have hR : (s1.putB f ((s1.at_ f).now ++ b), (0 : Int)) = R := by have := HRR.out; rwa [if_neg hbig] at this
      subst hR
      have O1 := Lib.hid o1
      have AB := Lib.hid (HB.out.chd hc2 HA.out)
      have hnb : n1 + n ≤ 1000000000 := by omega
      have FT : Hid (∀ A3 c3 w3, Own w3 0 A3 (n1 + n) c3 ((s1.at_ f).now ++ b) → ((A3 = A1 ∧ c3 = c1 ∧ w2.grownBy w3 (Value.slice A1 n1 c1).ownBlock) ∨ (A3 = some ⟨w2.heap.size, 0, none⟩ ∧ w2.grownBy w3 none)) →
          TreeAt w3 tb s1 g ∧ Fits w3 g f A3 (n1 + n) c3 ((s1.at_ f).now ++ b) ∧ Chd (fun j => j ≠ tb ∧ g.tag j = 11 + 2 * f) w2 w3 ∧ (∀ j, A3 = some ⟨j, 0, none⟩ → g.tag j ≠ 0 ∨ w2.heap.size ≤ j)) := fun A3 c3 w3 ho hc =>
        fits_app ht2 hlt hbk o1 o2 hal t1 t2 ho hc
      have PF := Lib.hid (fun W (hW : TreeAt W tb s1 g) A3 n3 c3 b3 hfit hb3 => put_any W tb s1 g hk hW OK1.out f hlt A3 n3 c3 b3 hfit hb3)
      have TG := Lib.hid hfa.tg
      have C2 := Lib.hid hc2
      have HN1 := Lib.hid hn1
      clear HF ht2 hc2 FA hfa hbk o1 o2 hal t1 t2 hlt hn1 HRR
      go_wp2_with fail
      refine LF.out.mono ?_
      rintro e w' ⟨rfl, rfl⟩
      go_wp2_with (at_builtin; refine wpList_byte_append2 rfl _ _ rfl A1 n1 c1 (s1.at_ f).now rfl O1.out A n c b rfl AB.out hnb ?_; intro A3 c3 w3 ho3 hc3)
      obtain ⟨T3, F3, C3, hle⟩ := FT.out A3 c3 w3 ho3 hc3
      have X := Lib.hid (PF.out w3 T3 A3 (n1 + n) c3 _ F3 (by rw [List.length_append, HN1.out, HLEN.out]; omega))
      have CF := Lib.hid ((C2.out.mono (M' := Mine g) (fun j _ e => by rw [e]; exact (mine_cv H.out).1)).trans (C3.mono (M' := Mine g) fun j _ e => by show g.tag j ≠ 0; omega))
      have HLE := Lib.hid hle
      clear T3 F3 C3 hle ho3 hc3 FT PF AB O1
      refine X.out.mono ?_
      rintro e w4 ⟨rfl, ht4, hc4⟩
      have T4 := Lib.hid ht4
      have CG := Lib.hid (CF.out.trans (hc4.mono (M' := Mine g) (fun j _ e => by
        rcases e with e | e
        · rw [e]; exact (mine_cv H.out).1
        · rw [e]; show g.tag _ ≠ 0; rw [TG.out]; omega)))
      clear ht4 hc4 X CF
      go_wp2
      go_ret
      exact ⟨rfl, _, T4.out, CG.out, take_le fun j e => (HLE.out j e).imp id fun e => by have := C2.out.size; omega⟩
end Go.Proofs.YtiikjdjpodmpcaaGreat
