/- Package tree: a change of paths is done, and kept for what is safe. -/
import Derived.Test.YtodnckflobefpaaTrG
namespace Go.Proofs.Ytodnckflobefpaa
open Go.RowKit Go.Maps
set_option linter.unusedVariables false

theorem change_info : (Try.prog.info? 87).map (fun i => (i.zero, i.size, i.bytes)) = some (some .nilFunc, 1, 8) := by kernel_rfl
theorem ChAt.one {w : World} {tag : Nat → Nat} {blk : Nat → Nat} {v : Value} {c : Chg} (h : ChAt w tag blk v c) : v.oneCell' = true := by
  cases c with
  | mk p f => obtain ⟨b1, b2, e, _⟩ := h; subst e; rfl
  | mv p q f => obtain ⟨b1, b2, b3, e, _⟩ := h; subst e; rfl
  | rm p => obtain ⟨b1, e, _⟩ := h; subst e; rfl
/-- A change, called with a map of files. -/
def Runs (w : World) (blk : Nat → Nat) (v : Value) (c : Chg) (b : Nat) (l : Dir) : Prop :=
  ∃ fn caps, v = .func (.func fn) #[] caps ∧ (fn = 34 ∨ fn = 40 ∨ fn = 59) ∧ Calls Try.prog fn (#[.map (some b)] ++ caps) w fun e w' => e = .returned (.tuple #[]) ∧ MapAt w' b blk (c.app l) ∧ Chd (fun j => j = b) w w'
theorem ChAt.runs {w : World} {tag : Nat → Nat} {blk : Nat → Nat} {v : Value} {c : Chg} (h : ChAt w tag blk v c) {n : Nat} (hc : c.small n) {b : Nat} {l : Dir} (hm : MapAt w b blk l) (hl : l.length ≤ 100000) (hb : tag b ≠ 5) : Runs w blk v c b l := by
  cases c with
  | mk p f =>
    obtain ⟨b1, b2, e, h1, h2⟩ := h
    exact ⟨_, _, e, .inl rfl, make1_any w tag blk b b1 b2 l hm hl p f hc.1 h1 h2⟩
  | mv p q f =>
    obtain ⟨b1, b2, b3, e, h1, h2, h3⟩ := h
    exact ⟨_, _, e, .inr (.inl rfl), rename1_any w tag blk b b1 b2 b3 l hm hl p q f hc.1 hc.2.1 h1 h2 h3 (fun e => hb (by rw [e]; exact h2.2)) (fun e => hb (by rw [e]; exact h3.2))⟩
  | rm p =>
    obtain ⟨b1, e, h1⟩ := h
    exact ⟨_, _, e, .inr (.inr rfl), remove1_any w tag blk b b1 l hm p hc h1⟩
def Gh.more (g : Gh) (cv v : Value) : Gh := { g with cv := cv, vs := g.vs ++ [v], tag := fun j => if cv.ownBlock = some j then 4 else g.tag j }

theorem record_end {w w1 w3 : World} {tb : Nat} {s : St} {g : Gh} {c : Chg} {v : Value} {gb cap : Nat} {cs : Array Value} (H : TreeAt w tb s g) (hv : ChAt w g.tag g.blk v c) (hm1 : MapAt w1 g.mf g.blk (c.app s.files))
    (hc1 : Chd (fun j => j = g.mf) w w1) (hown2 : w3.ownsRow 0 87 1 (.slice (some ⟨gb, 0, none⟩) (s.chs.length + 1) cap) (s.chs.length + 1) (g.vs ++ [v]))
    (hgrow : (w1.alloc (.cells cs 87)).grownBy w3 g.cv.ownBlock) (hat : g.cv.ownBlock = some gb ∨ gb = w1.heap.size + 1) :
    TreeAt ((w3.setCell ⟨tb, 5, none⟩ (.slice (some ⟨gb, 0, none⟩) (s.chs.length + 1) cap)).setCell ⟨tb, 2, none⟩ (.int .u64 ((s.clock : Int) + 1))) tb (s.record c) (g.more (.slice (some ⟨gb, 0, none⟩) (s.chs.length + 1) cap) v) ∧
      (g.cv.ownBlock = some gb ∨ ∃ j, some gb = some j ∧ w.heap.size ≤ j) ∧
      Chd (fun j => j = tb ∨ j = g.mf ∨ g.cv.ownBlock = some j) w ((w3.setCell ⟨tb, 5, none⟩ (.slice (some ⟨gb, 0, none⟩) (s.chs.length + 1) cap)).setCell ⟨tb, 2, none⟩ (.int .u64 ((s.clock : Int) + 1))) := by
  have hmt : tb ≠ g.mf := fun e => by have := H.mfT; rw [← e, H.topT] at this; omega
  have hct : g.cv.ownBlock ≠ some tb := fun e => by have := H.rowT tb e; rw [H.topT] at this; omega
  have hcm : g.cv.ownBlock ≠ some g.mf := fun e => by have := H.rowT _ e; rw [H.mfT] at this; omega
  have C13 : Chd (fun j => g.cv.ownBlock = some j) w1 w3 := (Chd.of_below ((Below.refl _ w1).alloc (Nat.le_refl _) _)).trans (Chd.of_grownBy hgrow)
  have C3 : Chd (fun j => j = g.mf ∨ g.cv.ownBlock = some j) w w3 := (hc1.mono fun _ _ e => .inl e).trans (C13.mono fun _ _ e => .inr e)
  have T3 := H.top.chd C3 (fun e => by
    rcases e with e | e
    · exact hmt e
    · exact hct e)
  obtain ⟨w4, hw4⟩ : ∃ w4, (w3.setCell ⟨tb, 5, none⟩ (.slice (some ⟨gb, 0, none⟩) (s.chs.length + 1) cap)) = w4 := ⟨_, rfl⟩
  obtain ⟨w5, hw5⟩ : ∃ w5, (w4.setCell ⟨tb, 2, none⟩ (.int .u64 ((s.clock : Int) + 1))) = w5 := ⟨_, rfl⟩
  rw [hw4, hw5]
  have C35 : Chd (fun j => j = tb) w3 w5 := by subst hw5 hw4; exact (Chd.set _ tb 5 _).trans (Chd.set _ tb 2 _)
  have T5 : BlkIs w5 tb 64 (treeC (s.record c) (g.more (.slice (some ⟨gb, 0, none⟩) (s.chs.length + 1) cap) v)) := by subst hw5 hw4; exact (T3.set 5 _).set 2 _
  have C : Chd (fun j => j = tb ∨ j = g.mf ∨ g.cv.ownBlock = some j) w w5 := (C3.mono fun _ _ e => .inr e).trans (C35.mono fun _ _ e => .inl e)
  have C15 : Chd (fun j => j = tb ∨ g.cv.ownBlock = some j) w1 w5 := (C13.mono fun _ _ e => .inr e).trans (C35.mono fun _ _ e => .inl e)
  have tg : ∀ j, (j = tb ∨ j = g.mf ∨ g.cv.ownBlock = some j) → g.tag j = 1 ∨ g.tag j = 2 ∨ g.tag j = 4 := fun j hj => by
    rcases hj with rfl | rfl | e
    · exact .inl H.topT
    · exact .inr (.inl H.mfT)
    · exact .inr (.inr (H.rowT j e))
  have hgb : gb < w3.heap.size := by
    rcases hown2.2 with ⟨e, _⟩ | ⟨b, cp, cur, hv, _, hb, _⟩
    · cases e
    · simp only [Value.slice.injEq, Option.some.injEq, Addr.mk.injEq] at hv
      rw [hv.1.1]
      exact (Array.getElem?_eq_some_iff.1 hb).1
  have hgt : gb ≠ tb := fun e => by
    rcases hat with h | h
    · rw [e] at h; exact hct h
    · have := H.top.lt; have := hc1.size; omega
  obtain ⟨cv, hcv⟩ : ∃ cv, Value.slice (some ⟨gb, 0, none⟩) (s.chs.length + 1) cap = cv := ⟨_, rfl⟩
  have hob : cv.ownBlock = some gb := by rw [← hcv]; rfl
  rw [hcv] at hown2 T5 ⊢
  have hnew : g.cv.ownBlock = some gb ∨ w.heap.size ≤ gb := hat.imp id fun e => by have := hc1.size; omega
  have ht : ∀ j, g.tag j ≠ 0 → (g.more cv v).tag j = g.tag j := fun j hj => by
    show (if cv.ownBlock = some j then 4 else g.tag j) = g.tag j
    split
    · rename_i e
      rw [hob, Option.some.injEq] at e
      subst e
      rcases hnew with e | e
      · exact (H.rowT _ e).symm
      · have := H.dom _ hj; omega
    · rfl
  refine ⟨?_, hnew.imp id fun e => ⟨gb, rfl, e⟩, C⟩
  exact { top := T5
          topT := by rw [ht tb (by rw [H.topT]; omega), H.topT]
          mfT := by show (g.more cv v).tag g.mf = 2; rw [ht _ (by rw [H.mfT]; omega), H.mfT]
          msT := by show (g.more cv v).tag g.ms = 3; rw [ht _ (by rw [H.msT]; omega), H.msT]
          mfA := hm1.chd C15 (fun e => by
            rcases e with e | e
            · exact hmt e.symm
            · exact hcm e)
          msA := H.msA.chd C (fun e => by have := tg _ e; rw [H.msT] at this; omega)
          row := by
            show w5.ownsRow 0 87 1 cv (s.chs ++ [c]).length (g.vs ++ [v])
            rw [List.length_append, List.length_singleton]
            exact row_chd hown2 C35 (fun b hb e => hgt (by rw [hob, Option.some.injEq] at hb; rw [hb]; exact e))
          rowT := fun b hb => by
            show (if cv.ownBlock = some b then 4 else g.tag b) = 4
            exact if_pos hb
          chs := fun i c' hi => by
            have hl : g.vs.length = s.chs.length := by have := H.row.1; omega
            have hi' : (s.chs ++ [c])[i]? = some c' := hi
            show ∃ v', (g.vs ++ [v])[i]? = some v' ∧ ChAt w5 (g.more cv v).tag g.blk v' c'
            by_cases hlt : i < s.chs.length
            · rw [List.getElem?_append_left hlt] at hi'
              obtain ⟨v', e, ha⟩ := H.chs i c' hi'
              exact ⟨v', by rw [List.getElem?_append_left (by omega)]; exact e, (ha.chd C (fun j e => by have := tg _ e; omega)).retag ht⟩
            · rw [List.getElem?_append_right (by omega)] at hi'
              have hi0 : i = s.chs.length := by
                have := (List.getElem?_eq_some_iff.1 hi').1
                simp at this
                omega
              subst hi0
              simp at hi'
              subst hi'
              exact ⟨v, by rw [List.getElem?_append_right (by omega)]; simp [hl], (hv.chd C (fun j e => by have := tg _ e; omega)).retag ht⟩
          fil := fun i hi => ((H.fil i hi).chd C (fun j e => by have := tg _ e; omega)).retag ht
          dom := fun j hj => by
            have hj' : (if cv.ownBlock = some j then 4 else g.tag j) ≠ 0 := hj
            split at hj'
            · rename_i e
              rw [hob, Option.some.injEq] at e
              subst e
              exact Nat.lt_of_lt_of_le hgb C35.size
            · exact Nat.lt_of_lt_of_le (H.dom j hj') C.size
          apart := H.apart }

set_option maxRecDepth 100000 in
theorem record_any (w : World) (tb : Nat) (s : St) (g : Gh) {k : Nat} (hk : k ≤ 1000) (h : TreeAt w tb s g) (ok : Ok k s) (v : Value) (c : Chg) (hc : c.small s.fil.length) (hv : ChAt w g.tag g.blk v c) :
    Calls Try.prog 33 #[.pointer (some ⟨tb, 0, none⟩), v] w fun e w' =>
      e = .returned (.tuple #[]) ∧ (∃ cv, TreeAt w' tb (s.record c) (g.more cv v) ∧ (g.cv.ownBlock = cv.ownBlock ∨ ∃ j, cv.ownBlock = some j ∧ w.heap.size ≤ j)) ∧ Chd (fun j => j = tb ∨ j = g.mf ∨ g.cv.ownBlock = some j) w w' := by
  obtain ⟨i0, hi, hz0, hz1, hz2⟩ := info_parts change_info
  have hone := hv.one
  obtain ⟨fn, caps, hve, hfn, hrun⟩ := hv.runs hc h.mfA (by have := ok.lf; omega) (by rw [h.mfT]; omega)
  have c3 := (top_of h.top).c3
  have hlen : s.chs.length ≤ 1000 := by have := ok.ls; omega
  have k1 : (s.clock : Int) ≤ 10000000 := by have := ok.ck; omega
  have hmt : g.mf ≠ tb := fun e => by have := h.mfT; rw [e, h.topT] at this; omega
  obtain ⟨args, hargs⟩ : ∃ args, #[Value.map (some g.mf)] ++ caps = args := ⟨_, rfl⟩
  rw [hargs] at hrun
  have H := Lib.hid h
  have HV := Lib.hid hv
  have HR := Lib.hid hrun
  have HE := Lib.hid hve
  have hvf : v = .func (.func fn) #[] caps := hve
  clear h hv hrun ok hc hve
  have step1 : ∀ w1, MapAt w1 g.mf g.blk (c.app s.files) → Chd (fun j => j = g.mf) w w1 → w1.cell? ⟨tb, 5, none⟩ = some g.cv ∧ w1.frozen? ⟨tb, 5, none⟩ = false ∧
      ∀ cs, (w1.alloc (.cells cs 87)).ownsRow 0 87 1 g.cv s.chs.length g.vs := fun w1 hm1 hc1 => by
    have T1 := H.out.top.chd hc1 (fun e => hmt e.symm)
    have r1 := row_chd H.out.row hc1 (fun b hb e => by have := H.out.rowT b hb; rw [e, H.out.mfT] at this; omega)
    exact ⟨(top_of T1).c5, T1.frozen 5, fun cs => row_chd (M := fun _ => False) r1 (Chd.of_below ((Below.refl _ w1).alloc (Nat.le_refl _) _)) (fun _ _ e => e)⟩
  have S1 := Lib.hid step1
  clear step1
  rcases hfn with rfl | rfl | rfl <;> (
    subst hvf
    go_enter Try.func33, Try.ntmps33
    go_wp2_with fail
    refine HR.out.mono ?_
    rintro e w1 ⟨rfl, hm1, hc1⟩
    obtain ⟨c5, f5, r1⟩ := S1.out w1 hm1 hc1
    have r1' := Lib.hid r1
    have S2 : Hid (∀ cs w3, (w1.alloc (.cells cs 87)).grownBy w3 g.cv.ownBlock → Chd (fun j => j = g.mf ∨ g.cv.ownBlock = some j) w w3 ∧ BlkIs w3 tb 64 (treeC s g) ∧
        w3.cell? ⟨tb, 5, none⟩ = some g.cv ∧ w3.frozen? ⟨tb, 5, none⟩ = false ∧ w3.cell? ⟨tb, 2, none⟩ = some (.int .u64 (s.clock : Int)) ∧ w3.frozen? ⟨tb, 2, none⟩ = false) := fun cs w3 hgrow => by
      have C3 : Chd (fun j => j = g.mf ∨ g.cv.ownBlock = some j) w w3 := ((hc1.trans (Chd.of_below ((Below.refl _ w1).alloc (Nat.le_refl _) _))).mono fun _ _ e => .inl e).trans ((Chd.of_grownBy hgrow).mono fun _ _ e => .inr e)
      have T3 := H.out.top.chd C3 (fun e => by
        rcases e with e | e
        · exact hmt e.symm
        · have := H.out.rowT tb e; rw [H.out.topT] at this; omega)
      exact ⟨C3, T3, (top_of T3).c5, T3.frozen 5, (top_of T3).c2, T3.frozen 2⟩
    have HM := Lib.hid hm1
    have HC := Lib.hid hc1
    clear hm1 hc1 HR S1 r1 hargs
    go_wp2_with (at_builtin; refine wpList_append_lies _ rfl _ _ 62 rfl 0 87 i0 .nilFunc 1 8 Try.underlying62 hi hz0 hz1 hz2 rfl (by decide) g.cv s.chs.length g.vs rfl (r1'.out _) ⟨w1.heap.size, 0, none⟩ 1 1 [_] rfl rfl (cell_one_new _ _ _) (by simpa using hone) (by decide) (by unfold maxLen; omega) (by omega) (Nat.zero_le _) _ rfl ?_; intro gb cap w3 hown2 hgrow hat hlt; obtain ⟨C3, T3, c5', f5', c2', f2'⟩ := S2.out _ w3 hgrow)
    refine bodyPost_end (results_none rfl _ _ _) rfl ?_
    have R := record_end H.out HV.out HM.out HC.out hown2 hgrow (hat.imp id fun e => by rw [e]; simp)
    exact ⟨rfl, ⟨_, R.1, R.2.1⟩, R.2.2⟩)
end Go.Proofs.Ytodnckflobefpaa
