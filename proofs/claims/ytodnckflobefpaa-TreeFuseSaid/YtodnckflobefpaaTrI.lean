/- Package tree: a file is made. -/
import Derived.Test.YtodnckflobefpaaTrH
namespace Go.Proofs.Ytodnckflobefpaa
open Go.RowKit Go.Maps
set_option linter.unusedVariables false

theorem ChAt.reblk {w : World} {tag blk blk' : Nat → Nat} {v : Value} {c : Chg} {n : Nat} (h : ChAt w tag blk v c) (hc : c.small n) (hb : ∀ i, i < n → blk' i = blk i) : ChAt w tag blk' v c := by
  cases c with
  | mk p f => obtain ⟨b1, b2, e, h1, h2⟩ := h; exact ⟨b1, b2, e, by rw [hb f hc.2]; exact h1, h2⟩
  | mv p q f => obtain ⟨b1, b2, b3, e, h1, h2, h3⟩ := h; exact ⟨b1, b2, b3, e, h1, by rw [hb f hc.2.2]; exact h2, h3⟩
  | rm p => obtain ⟨b1, e, h1⟩ := h; exact ⟨b1, e, h1⟩
def Gh.file (g : Gh) (n fb b1 b2 : Nat) : Gh := { g with blk := fun i => if i = n then fb else g.blk i, tag := fun j => if j = fb then 10 + 2 * n else if j = b1 ∨ j = b2 then 5 else g.tag j }
def St.addF (s : St) (x : Fil) : St := { s with fil := s.fil ++ [x] }
theorem at_addF (s : St) (x : Fil) (i : Nat) (hi : i ≤ s.fil.length) : (s.addF x).at_ i = if i = s.fil.length then x else s.at_ i := by
  unfold St.addF St.at_
  simp only [List.getD]
  by_cases e : i = s.fil.length
  · subst e; simp
  · rw [if_neg e, List.getElem?_append_left (by omega)]
theorem tg0 (tag : Nat → Nat) (t : Nat) : Tg tag none t := fun _ e => nomatch e
theorem TreeAt.addF {w' : World} {tb : Nat} {s : St} {g : Gh} {k : Nat} (H : TreeAt w' tb s g) (ok : Ok k s) {fb b1 b2 : Nat} (hfb : g.tag fb = 0) (hb1 : g.tag b1 = 0) (hb2 : g.tag b2 = 0)
    (hb : BlkIs w' fb 69 #[.slice none 0 0, .slice none 0 0, .int .u64 0]) (l1 : b1 < w'.heap.size) (l2 : b2 < w'.heap.size) : TreeAt w' tb (s.addF ⟨[], [], 0⟩) (g.file s.fil.length fb b1 b2) := by
  have ht : ∀ j, g.tag j ≠ 0 → (g.file s.fil.length fb b1 b2).tag j = g.tag j := fun j hj => by
    show (if j = fb then _ else if j = b1 ∨ j = b2 then 5 else g.tag j) = g.tag j
    rw [if_neg (fun e => hj (by rw [e]; exact hfb)), if_neg (fun e => hj (by rcases e with e | e <;> (rw [e]; assumption)))]
  have hk : ∀ i, i < s.fil.length → (g.file s.fil.length fb b1 b2).blk i = g.blk i := fun i hi => if_neg (by omega)
  exact { top := H.top
          topT := by rw [ht tb (by rw [H.topT]; omega), H.topT]
          mfT := by show (g.file s.fil.length fb b1 b2).tag g.mf = 2; rw [ht _ (by rw [H.mfT]; omega), H.mfT]
          msT := by show (g.file s.fil.length fb b1 b2).tag g.ms = 3; rw [ht _ (by rw [H.msT]; omega), H.msT]
          mfA := H.mfA.congr ok.fs hk
          msA := H.msA.congr ok.ss hk
          row := H.row
          rowT := fun b hb => by rw [ht _ (by rw [H.rowT b hb]; omega), H.rowT b hb]
          chs := fun i c hi => by
            obtain ⟨v, hv, ha⟩ := H.chs i c hi
            exact ⟨v, hv, (ha.reblk (ok.cs c (List.mem_of_getElem? hi)) hk).retag ht⟩
          fil := fun i hi => by
            have hi2 : i ≤ s.fil.length := by unfold St.addF at hi; simp at hi; omega
            rw [at_addF s _ i hi2]
            by_cases e : i = s.fil.length
            · subst e
              rw [if_pos rfl]
              have e1 : (g.file s.fil.length fb b1 b2).blk s.fil.length = fb := if_pos rfl
              rw [e1]
              have own0 : Own w' 0 none 0 0 [] := ⟨rfl, .inl ⟨rfl, rfl⟩⟩
              exact ⟨⟨none, 0, 0, none, 0, 0, hb, own0, own0, fun _ => Nat.le_refl _, tg0 _ _, tg0 _ _⟩, if_pos rfl⟩
            · rw [if_neg e, hk i (by omega)]
              exact (H.fil i (by omega)).retag ht
          dom := fun j hj => by
            have hj' : (if j = fb then 10 + 2 * s.fil.length else if j = b1 ∨ j = b2 then 5 else g.tag j) ≠ 0 := hj
            by_cases e1 : j = fb
            · rw [e1]; exact hb.lt
            · rw [if_neg e1] at hj'
              by_cases e2 : j = b1 ∨ j = b2
              · rcases e2 with e | e <;> (rw [e]; assumption)
              · rw [if_neg e2] at hj'
                exact H.dom j hj'
          apart := H.apart }
theorem addF_set (s : St) (x y : Fil) : (s.fil ++ [x]).set s.fil.length y = s.fil ++ [y] := by
  rw [List.set_append_right _ _ (Nat.le_refl _)]
  simp
theorem make_eq (s : St) (p : Str) : s.make p = if (s.begin_ [p]).2 = 0 then (match look s.files p with | some _ => ((s.begin_ [p]).1, 7) | none => (({ (s.begin_ [p]).1.addF ⟨[], [], s.clock + 1⟩ with } : St).record (.mk p s.fil.length), 0)) else s.begin_ [p] := by
  unfold St.make
  obtain ⟨h1, _, _, h4, _, _, h7⟩ := begin_same s [p]
  generalize s.begin_ [p] = r at *
  obtain ⟨s1, e⟩ := r
  simp only at h1 h4 h7 ⊢
  rw [← h1, ← h4, ← h7]
  split
  · cases look s1.files p <;> rfl
  · rfl
theorem Ok.addF {k : Nat} {s : St} (h : Ok k s) (x : Nat) : Ok (k + 1) (s.addF ⟨[], [], x⟩) := by
  have hl : (s.addF ⟨[], [], x⟩).fil.length = s.fil.length + 1 := by unfold St.addF; simp
  have ha : ∀ i, ((s.addF ⟨[], [], x⟩).at_ i).now.length ≤ 10000 * k ∧ ((s.addF ⟨[], [], x⟩).at_ i).sf.length ≤ 10000 * k := fun i => by
    by_cases hi : i ≤ s.fil.length
    · rw [at_addF s _ i hi]
      split
      · exact ⟨Nat.zero_le _, Nat.zero_le _⟩
      · exact ⟨h.sz i, h.sy i⟩
    · unfold St.addF St.at_
      simp only [List.getD]
      rw [List.getElem?_eq_none (by simp; omega)]
      exact ⟨Nat.zero_le _, Nat.zero_le _⟩
  exact { fs := fun e he => by rw [hl]; have := h.fs e he; omega
          ss := fun e he => by rw [hl]; have := h.ss e he; omega
          cs := fun c hc => by
            rw [hl]
            have := h.cs c hc
            cases c with
            | mk p f => exact ⟨this.1, by have := this.2; omega⟩
            | mv p q f => exact ⟨this.1, this.2.1, by have := this.2.2; omega⟩
            | rm p => exact this
          r0 := h.r0, r1 := h.r1
          u0 := by have := h.u0; show _ ≤ s.used; omega
          u1 := by have := h.u1; show s.used ≤ _; omega
          ck := by have := h.ck; show s.clock ≤ _; omega
          f0 := h.f0, f1 := h.f1
          nf := by rw [hl]; have := h.nf; omega
          lf := by have := h.lf; show s.files.length ≤ _; omega
          ls := by have := h.ls; show s.safe.length + s.chs.length ≤ _; omega
          sz := fun i => by have := (ha i).1; omega
          sy := fun i => by have := (ha i).2; omega }
/-- The file that was made gets its stamp. -/
theorem stamp_end {w5 : World} {tb : Nat} {s1 : St} {g5 : Gh} {c : Chg} {fb ck : Nat} (h : TreeAt w5 tb ((s1.addF ⟨[], [], 0⟩).record c) g5) (hb : g5.blk s1.fil.length = fb) :
    TreeAt (w5.setCell ⟨fb, 2, none⟩ (.int .u64 ((ck : Nat) : Int))) tb ((s1.addF ⟨[], [], ck⟩).record c) g5 := by
  have hl : s1.fil.length < ((s1.addF ⟨[], [], 0⟩).record c).fil.length := by unfold St.record St.addF; simp
  have ha : ((s1.addF ⟨[], [], 0⟩).record c).at_ s1.fil.length = ⟨[], [], 0⟩ := by
    have := at_addF s1 ⟨[], [], 0⟩ s1.fil.length (Nat.le_refl _)
    rw [if_pos rfl] at this
    exact this
  have hf := h.fil _ hl
  rw [ha, hb] at hf
  obtain ⟨A, n, c1, A2, n2, c2, hbk, o1, o2, hal, t1, t2⟩ := hf.ex
  have C := Chd.set w5 fb 2 (.int .u64 ((ck : Nat) : Int))
  have nt : ∀ A', Tg g5.tag A' (11 + 2 * s1.fil.length) → ∀ j, A' = some ⟨j, 0, none⟩ → ¬ j = fb := fun A' t j e e2 => by
    have h1 := t j e
    have h2 := hf.tg
    rw [e2] at h1
    omega
  refine h.refile (f := s1.fil.length) (x := ⟨[], [], ck⟩) C (fun j e => ?_) hl ?_ (h.top.chd C (fun e => ?_)) rfl rfl rfl ?_
  · rw [e]; exact .inr (.inr (.inl hf.tg))
  · rw [hb]
    exact ⟨⟨A, n, c1, A2, n2, c2, hbk.set 2 _, own_chd o1 C (nt A t1), own_chd o2 C (nt A2 t2), hal, t1, t2⟩, hf.tg⟩
  · have h2 := hf.tg
    rw [← e, h.topT] at h2
    omega
  · exact (addF_set s1 _ _).symm
end Go.Proofs.Ytodnckflobefpaa
