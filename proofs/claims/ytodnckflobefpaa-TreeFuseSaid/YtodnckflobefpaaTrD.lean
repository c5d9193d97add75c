/- Package tree: the file that an operation is on. -/
import Derived.Test.YtodnckflobefpaaTrC
import Derived.Deep.AppendLies
namespace Go.Proofs.Ytodnckflobefpaa
open Go.RowKit Go.Maps
set_option linter.unusedVariables false

theorem TreeAt.retop {w w' : World} {tb : Nat} {s s' : St} {g : Gh} {M : Nat → Prop} (h : TreeAt w tb s g) (hc : Chd M w w') (hm : ∀ j, M j → j = tb ∨ g.tag j = 0)
    (hb : BlkIs w' tb 64 (treeC s' g)) (e1 : s'.files = s.files) (e2 : s'.safe = s.safe) (e3 : s'.chs = s.chs) (e4 : s'.fil = s.fil) : TreeAt w' tb s' g := by
  have tg : ∀ j, M j → g.tag j = 1 ∨ g.tag j = 0 := fun j hj => by
    rcases hm j hj with e | e
    · rw [e]; exact .inl h.topT
    · exact .inr e
  exact { top := hb, topT := h.topT, mfT := h.mfT, msT := h.msT
          mfA := by rw [e1]; exact h.mfA.chd hc (fun e => by have := tg _ e; rw [h.mfT] at this; omega)
          msA := by rw [e2]; exact h.msA.chd hc (fun e => by have := tg _ e; rw [h.msT] at this; omega)
          row := by rw [e3]; exact row_chd h.row hc (fun b hb e => by have := tg _ e; rw [h.rowT b hb] at this; omega)
          rowT := h.rowT
          chs := by rw [e3]; exact chs_chd h.chs hc (fun j e => by have := tg _ e; omega)
          fil := fun i hi => by
            unfold St.at_
            rw [e4] at hi ⊢
            exact (h.fil i hi).chd hc (fun j e => by have := tg _ e; omega)
          dom := fun j hj => Nat.lt_of_lt_of_le (h.dom j hj) hc.size
          apart := h.apart }

theorem begin_same (s : St) (ps : List Str) : (s.begin_ ps).1.files = s.files ∧ (s.begin_ ps).1.safe = s.safe ∧ (s.begin_ ps).1.chs = s.chs ∧ (s.begin_ ps).1.fil = s.fil ∧
    (s.begin_ ps).1.room = s.room ∧ (s.begin_ ps).1.used = s.used ∧ (s.begin_ ps).1.clock = s.clock := by
  unfold St.begin_
  split
  · split <;> exact ⟨rfl, rfl, rfl, rfl, rfl, rfl, rfl⟩
  · exact ⟨rfl, rfl, rfl, rfl, rfl, rfl, rfl⟩
def foundE : Option Nat → Int
  | some _ => 0
  | none => 6
theorem find_eq (s : St) (p : Str) (o : List Str) : s.find p o =
    ((s.begin_ (o ++ [p])).1, if (s.begin_ (o ++ [p])).2 = 0 then look s.files p else none, if (s.begin_ (o ++ [p])).2 = 0 then foundE (look s.files p) else (s.begin_ (o ++ [p])).2) := by
  unfold St.find
  have := (begin_same s (o ++ [p])).1
  generalize s.begin_ (o ++ [p]) = r at *
  obtain ⟨s1, e⟩ := r
  simp only at this ⊢
  rw [this]
  split
  · cases look s.files p <;> simp [foundE]
  · rfl
theorem Chd.of_grownBy {w w' : World} {row : Option Nat} (h : w.grownBy w' row) : Chd (fun j => row = some j) w w' := ⟨h.os, h.tape, h.output, h.size, fun j hj hn => h.block j hj (fun e => hn e.symm)⟩
def optP (g : Gh) : Option Nat → Value
  | some f => fptr (g.blk f)
  | none => .pointer none

def strV (ps : List Str) : List Value := ps.map fun q => .string (S q)
theorem string_info : (Try.prog.info? 9).map (fun i => (i.zero, i.size, i.bytes)) = some (some (.string ⟨#[]⟩), 1, 16) := by kernel_rfl
theorem strs_of_row {w : World} {A : Option Addr} {n c : Nat} {ps : List Str} (h : w.ownsRow 0 9 1 (.slice A n c) n (strV ps)) (hn : n ≤ 1000000) : Strs w A n ps := by
  have hl : ps.length = n := by have := h.1; simp [strV] at this; exact this
  refine ⟨hl, hn, fun h0 => ?_⟩
  rcases h.2 with ⟨_, e⟩ | ⟨b, cap, cur, hv, _, hb, _⟩
  · omega
  · simp only [Value.slice.injEq] at hv
    refine ⟨b, hv.1, (Array.getElem?_eq_some_iff.1 hb).1, fun j hj => ?_⟩
    have := World.ownsRow.cells (w := w) h (g := b) (by rw [hv.1]; rfl) j (.string (S (ps.getD j []))) (by simp [strV, List.getD, List.getElem?_eq_getElem (show j < ps.length by omega)])
    rwa [add_plain, Nat.zero_add] at this

set_option maxRecDepth 100000 in
theorem find_any (w : World) (tb : Nat) (s : St) (g : Gh) (h : TreeAt w tb s g) (h1 : -1 ≤ s.fuse) (h2 : s.fuse ≤ 9223372036854775807)
    (p : Str) (hp : p.length ≤ 1000000000000) (A : Option Addr) (n c : Nat) (others : List Str) (hn : n ≤ 1000) (hown : w.ownsRow 0 9 1 (.slice A n c) n (strV others)) (hA : ∀ b, (Value.slice A n c).ownBlock = some b → g.tag b = 0) :
    Calls Try.prog 35 #[.pointer (some ⟨tb, 0, none⟩), .string (S p), .slice A n c] w fun e w' =>
      e = .returned (.tuple #[optP g (s.find p others).2.1, .int .i64 (s.find p others).2.2]) ∧ TreeAt w' tb (s.find p others).1 g ∧ Chd (fun j => j = tb ∨ (Value.slice A n c).ownBlock = some j) w w' := by
  rw [find_eq]
  obtain ⟨i0, hi, hz0, hz1, hz2⟩ := info_parts string_info
  have hsame := begin_same s (others ++ [p])
  have B := Lib.hid (fun W hW A n c hs => begin_any W tb s g hW h1 h2 A n c (others ++ [p]) hs)
  have H := Lib.hid h
  have hlook := fun W (hW : MapAt W g.mf g.blk s.files) => hW.found p (by unfold maxLen; omega)
  have HL : Hid (∀ W, MapAt W g.mf g.blk s.files → (Instr.lookup 61 (.map (some g.mf)) (.string (S p)) false).run Try.prog W = .ok (optP g (look s.files p)) W) := fun W hW => by
    have := hlook W hW
    rw [show (⟨List.toArray p⟩ : ByteArray) = S p from rfl] at this
    rw [this]
    cases look s.files p <;> rfl
  have HA := Lib.hid hA
  have HO := Lib.hid hown
  have HT := Lib.hid h.dom
  have HS := Lib.hid hsame
  clear hsame h h1 h2 hlook hA hown
  obtain ⟨se, hse⟩ : ∃ se, s.begin_ (others ++ [p]) = se := ⟨_, rfl⟩
  rw [hse] at B HS ⊢
  clear hse
  obtain ⟨s1, er⟩ := se
  simp only at B HS ⊢
  have halloc : (w.alloc (.cells #[.string (S p)] 9)).ownsRow 0 9 1 (.slice A n c) n (strV others) := row_chd (M := fun _ => False) HO.out ((Chd.refl w).then_ (Chd.of_below ((Below.refl _ w).alloc (Nat.le_refl _) _)) (fun _ _ e => e)) (fun _ _ e => e)
  have Hal := Lib.hid halloc
  clear halloc
  generalize hsp : S p = sp at *
  have Hsp := Lib.hid hsp
  clear hsp
  generalize hr1 : (if er = 0 then look s.files p else none) = r1
  generalize hr2 : (if er = 0 then foundE (look s.files p) else er) = r2
  have HR1 := Lib.hid hr1
  have HR2 := Lib.hid hr2
  clear hr1 hr2
  go_enter Try.func35, Try.ntmps35
  go_wp2_with (at_builtin; refine wpList_append_lies _ rfl _ _ 48 rfl 0 9 i0 (.string ⟨#[]⟩) 1 16 Try.underlying48 hi hz0 hz1 hz2 rfl (by decide) (.slice A n c) n (strV others) rfl Hal.out ⟨w.heap.size, 0, none⟩ 1 1 [.string sp] rfl rfl (cell_one_new _ _ _) (by simp [Value.oneCell']) (by decide) (by unfold maxLen; omega) (by omega) (Nat.zero_le _) _ rfl ?_; intro gb cap w2 hown2 hgrow hat hlt)
  have C2 : Chd (fun j => (Value.slice A n c).ownBlock = some j) w w2 := (Chd.of_below ((Below.refl _ w).alloc (Nat.le_refl _) _)).trans (Chd.of_grownBy hgrow)
  have T2 := H.out.chd C2 HA.out
  have hst : Strs w2 (some ⟨gb, 0, none⟩) (n + 1) (others ++ [p]) := strs_of_row (c := cap) (by
    have : strV (others ++ [p]) = strV others ++ [.string sp] := by simp [strV, Hsp.out]
    rw [this]
    exact hown2) (by omega)
  have X := Lib.hid (B.out w2 T2.top (some ⟨gb, 0, none⟩) (n + 1) cap hst)
  have HC2 := Lib.hid C2
  have HT2 := Lib.hid T2
  clear C2 T2 hst hown2 hgrow hat hlt B HO Hal HT
  go_wp2_with fail
  refine X.out.mono ?_
  rintro e w3 ⟨rfl, hb3, hc3⟩
  have T3 : TreeAt w3 tb s1 g := HT2.out.retop hc3 (fun j hj => .inl hj) hb3 HS.out.1 HS.out.2.1 HS.out.2.2.1 HS.out.2.2.2.1
  have C3 : Chd (fun j => j = tb ∨ (Value.slice A n c).ownBlock = some j) w w3 := (HC2.out.mono (fun _ _ e => .inr e)).trans (hc3.mono (fun _ _ e => .inl e))
  have hlk := HL.out w3 (by have := T3.mfA; rw [HS.out.1] at this; exact this)
  have c3 := (top_of hb3).c3
  have HC3 := Lib.hid C3
  have HT3 := Lib.hid T3
  clear C3 T3 hb3 hc3 X HC2 HT2 HS HL H HA
  by_cases he : er = 0
  · have hr1 : look s.files p = r1 := by have := HR1.out; rwa [if_pos he] at this
    have hr2 : foundE r1 = r2 := by have := HR2.out; rw [if_pos he, hr1] at this; exact this
    rw [hr1] at hlk
    subst he
    clear hr1 HR1 HR2
    cases r1 with
    | none =>
      obtain rfl : r2 = 6 := hr2.symm
      clear hr2
      unfold optP at hlk
      simp only at hlk
      go_wp2
      go_ret2
      exact ⟨rfl, HT3.out, HC3.out⟩
    | some f =>
      obtain rfl : r2 = 0 := hr2.symm
      clear hr2
      unfold optP fptr at hlk
      simp only at hlk
      go_wp2
      go_ret2
      exact ⟨rfl, HT3.out, HC3.out⟩
  · obtain rfl : r1 = none := by have := HR1.out; rw [if_neg he] at this; exact this.symm
    obtain rfl : r2 = er := by have := HR2.out; rw [if_neg he] at this; exact this.symm
    have hne : (r2 != 0) = true := by simpa using he
    clear hlk he HR1 HR2
    go_wp2
    go_ret2
    exact ⟨rfl, HT3.out, HC3.out⟩
end Go.Proofs.Ytodnckflobefpaa
