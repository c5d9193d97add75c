/- Package tree: other bytes for a file. -/
import Derived.Test.YtodnckflobefpaaTrE
namespace Go.Proofs.Ytodnckflobefpaa
open Go.RowKit Go.Maps
set_option linter.unusedVariables false

theorem FileAt.retag {w : World} {tag tag' : Nat → Nat} {fb i : Nat} {x : Fil} (h : FileAt w tag fb i x) (ht : ∀ j, tag j ≠ 0 → tag' j = tag j) : FileAt w tag' fb i x := by
  obtain ⟨A, n, c, A2, n2, c2, hb, h1, h2, h3, t1, t2⟩ := h.ex
  have T : ∀ j t, tag j = t + 1 → tag' j = t + 1 := fun j t e => by rw [ht j (by omega), e]
  exact ⟨⟨A, n, c, A2, n2, c2, hb, h1, h2, h3, fun g hg => by have := T g (10 + 2 * i) (by rw [t1 g hg]; omega); omega, fun g hg => by have := T g (10 + 2 * i) (by rw [t2 g hg]; omega); omega⟩,
    by have := T fb (9 + 2 * i) (by rw [h.tg]; omega); omega⟩
theorem ChAt.retag {w : World} {tag tag' : Nat → Nat} {blk : Nat → Nat} {v : Value} {c : Chg} (h : ChAt w tag blk v c) (ht : ∀ j, tag j ≠ 0 → tag' j = tag j) : ChAt w tag' blk v c := by
  have S : ∀ b p, StrBox w tag b p → StrBox w tag' b p := fun b p h => ⟨h.1, by rw [ht b (by rw [h.2]; omega), h.2]⟩
  have P : ∀ b fb, PtrBox w tag b fb → PtrBox w tag' b fb := fun b p h => ⟨h.1, by rw [ht b (by rw [h.2]; omega), h.2]⟩
  cases c with
  | mk p f => obtain ⟨b1, b2, e, h1, h2⟩ := h; exact ⟨b1, b2, e, P _ _ h1, S _ _ h2⟩
  | mv p q f => obtain ⟨b1, b2, b3, e, h1, h2, h3⟩ := h; exact ⟨b1, b2, b3, e, S _ _ h1, P _ _ h2, S _ _ h3⟩
  | rm p => obtain ⟨b1, e, h1⟩ := h; exact ⟨b1, e, S _ _ h1⟩
theorem TreeAt.retag {w : World} {tb : Nat} {s : St} {g : Gh} {tag' : Nat → Nat} (h : TreeAt w tb s g) (ht : ∀ j, g.tag j ≠ 0 → tag' j = g.tag j) (hd : ∀ j, tag' j ≠ 0 → j < w.heap.size) : TreeAt w tb s { g with tag := tag' } :=
  { top := h.top
    topT := by show tag' tb = 1; rw [ht tb (by rw [h.topT]; omega), h.topT]
    mfT := by show tag' g.mf = 2; rw [ht _ (by rw [h.mfT]; omega), h.mfT]
    msT := by show tag' g.ms = 3; rw [ht _ (by rw [h.msT]; omega), h.msT]
    mfA := h.mfA, msA := h.msA, row := h.row
    rowT := fun b hb => by show tag' b = 4; rw [ht b (by rw [h.rowT b hb]; omega), h.rowT b hb]
    chs := fun i c hi => by
      obtain ⟨v, hv, ha⟩ := h.chs i c hi
      exact ⟨v, hv, ha.retag ht⟩
    fil := fun i hi => (h.fil i hi).retag ht
    dom := hd, apart := h.apart }
theorem at_set (s : St) (f i : Nat) (x : Fil) (hf : f < s.fil.length) : ({ s with fil := s.fil.set f x } : St).at_ i = if i = f then x else s.at_ i := by
  unfold St.at_
  simp only [List.getD]
  by_cases e : i = f
  · subst e
    rw [if_pos rfl, List.getElem?_set_self hf]
    rfl
  · rw [if_neg e, List.getElem?_set_ne (fun h => e h.symm)]
/-- A file's own blocks turn, and the tree's. -/
theorem TreeAt.refile {w w' : World} {tb : Nat} {s s' : St} {g : Gh} {M : Nat → Prop} {f : Nat} {x : Fil} (h : TreeAt w tb s g) (hc : Chd M w w') (hm : ∀ j, M j → j = tb ∨ g.tag j = 0 ∨ g.tag j = 10 + 2 * f ∨ g.tag j = 11 + 2 * f)
    (hf : f < s.fil.length) (hx : FileAt w' g.tag (g.blk f) f x)
    (hb : BlkIs w' tb 64 (treeC s' g)) (e1 : s'.files = s.files) (e2 : s'.safe = s.safe) (e3 : s'.chs = s.chs) (e4 : s'.fil = s.fil.set f x) : TreeAt w' tb s' g := by
  have tg : ∀ j, M j → g.tag j = 1 ∨ g.tag j = 0 ∨ g.tag j = 10 + 2 * f ∨ g.tag j = 11 + 2 * f := fun j hj => by
    rcases hm j hj with e | e
    · rw [e]; exact .inl h.topT
    · exact .inr e
  exact { top := hb, topT := h.topT, mfT := h.mfT, msT := h.msT
          mfA := by rw [e1]; exact h.mfA.chd hc (fun e => by have := tg _ e; rw [h.mfT] at this; omega)
          msA := by rw [e2]; exact h.msA.chd hc (fun e => by have := tg _ e; rw [h.msT] at this; omega)
          row := by rw [e3]; exact row_chd h.row hc (fun b hb e => by have := tg _ e; rw [h.rowT b hb] at this; omega)
          rowT := h.rowT
          chs := by rw [e3]; exact chs_chd h.chs hc (fun j e => by have := tg _ e; omega)
          fil := fun i hi => by
            have hi2 : i < s.fil.length := by rw [e4, List.length_set] at hi; exact hi
            have ha : s'.at_ i = if i = f then x else s.at_ i := by
              rw [← at_set s f i x hf]
              unfold St.at_
              rw [e4]
            rw [ha]
            by_cases e : i = f
            · rw [if_pos e, e]; exact hx
            · rw [if_neg e]
              exact (h.fil i hi2).chd hc (fun j hj => by have := tg _ hj; omega)
          dom := fun j hj => Nat.lt_of_lt_of_le (h.dom j hj) hc.size
          apart := h.apart }

/-- A slice of bytes that a file may take. -/
structure Fits (w : World) (g : Gh) (f : Nat) (A : Option Addr) (n c : Nat) (b : Str) : Prop where
  own : Own w 0 A n c b
  tg : ∀ j, A = some ⟨j, 0, none⟩ → j < w.heap.size ∧ (g.tag j = 0 ∨ g.tag j = 11 + 2 * f)
  safe : ∀ A2 n2 c2, w.cell? ⟨g.blk f, 1, none⟩ = some (.slice A2 n2 c2) → A2 = A → n2 ≤ n
def Gh.take (g : Gh) (A : Option Addr) (t : Nat) : Gh := { g with tag := fun j => if A = some ⟨j, 0, none⟩ then t else g.tag j }
theorem blk_ne {w : World} {tb : Nat} {s : St} {g : Gh} (h : TreeAt w tb s g) {f : Nat} (hf : f < s.fil.length) : g.blk f ≠ tb := fun e => by
  have h1 := (h.fil f hf).tg
  rw [e, h.topT] at h1
  omega

set_option maxRecDepth 100000 in
theorem put_any (w : World) (tb : Nat) (s : St) (g : Gh) {k : Nat} (hk : k ≤ 1000) (h : TreeAt w tb s g) (ok : Ok k s) (f : Nat) (hf : f < s.fil.length)
    (A : Option Addr) (n c : Nat) (b : Str) (hfit : Fits w g f A n c b) (hbl : b.length ≤ 100000000) :
    Calls Try.prog 37 #[.pointer (some ⟨tb, 0, none⟩), fptr (g.blk f), .slice A n c] w fun e w' =>
      e = .returned (.tuple #[]) ∧ TreeAt w' tb (s.putB f b) (g.take A (11 + 2 * f)) ∧ Chd (fun j => j = tb ∨ j = g.blk f) w w' := by
  obtain ⟨A1, n1, c1', A2, n2, c2', hb, ho1, ho2, hal, t1, t2⟩ := (h.fil f hf).ex
  have hlen : (s.at_ f).now.length = n1 := ho1.len
  have hn1 : n1 ≤ 10000000 := by have := ok.sz f; omega
  have hbn : b.length = n := hfit.own.len
  have u0 : -10000000000000 ≤ s.used := by have := ok.u0; omega
  have u1 : s.used ≤ 10000000000000 := by have := ok.u1; omega
  have k1 : (s.clock : Int) ≤ 10000000 := by have := ok.ck; omega
  have hn : n ≤ 100000000 := by omega
  have d0 : w.cell? ⟨g.blk f, 0, none⟩ = some (.slice A1 n1 c1') := by rw [hb.cell]; rfl
  have d2 : w.cell? ⟨g.blk f, 2, none⟩ = some (.int .u64 ((s.at_ f).st : Int)) := by rw [hb.cell]; rfl
  have g0 := hb.frozen 0
  have g2 := hb.frozen 2
  have c1 := (top_of h.top).c1
  have c2 := (top_of h.top).c2
  have f1 := h.top.frozen 1
  have f2 := h.top.frozen 2
  have hne := blk_ne h hf
  obtain ⟨w1, hw1⟩ : ∃ w1, (w.setCell ⟨tb, 1, none⟩ (.int .i64 (s.used + ((n : Int) - (n1 : Int))))) = w1 := ⟨_, rfl⟩
  obtain ⟨w2, hw2⟩ : ∃ w2, (w1.setCell ⟨tb, 2, none⟩ (.int .u64 ((s.clock : Int) + 1))) = w2 := ⟨_, rfl⟩
  obtain ⟨w3, hw3⟩ : ∃ w3, (w2.setCell ⟨g.blk f, 0, none⟩ (.slice A n c)) = w3 := ⟨_, rfl⟩
  obtain ⟨w4, hw4⟩ : ∃ w4, (w3.setCell ⟨g.blk f, 2, none⟩ (.int .u64 ((s.clock : Int) + 1))) = w4 := ⟨_, rfl⟩
  have T1 : BlkIs w1 tb 64 (treeC { s with used := s.used + ((n : Int) - (n1 : Int)) } g) := by subst hw1; exact h.top.set 1 _
  have T2 : BlkIs w2 tb 64 (treeC { s with used := s.used + ((n : Int) - (n1 : Int)), clock := s.clock + 1 } g) := by subst hw2; exact T1.set 2 _
  have C2 : Chd (fun j => j = tb) w w2 := by subst hw2 hw1; exact (Chd.set w tb 1 _).trans (Chd.set _ tb 2 _)
  have D2 := hb.chd C2 hne
  have D4 : BlkIs w4 (g.blk f) 69 #[.slice A n c, .slice A2 n2 c2', .int .u64 ((s.clock + 1 : Nat) : Int)] := by subst hw4 hw3; exact (D2.set 0 _).set 2 _
  have C4 : Chd (fun j => j = g.blk f) w2 w4 := by subst hw4 hw3; exact (Chd.set w2 _ 0 _).trans (Chd.set _ _ 2 _)
  have T4 : BlkIs w4 tb 64 (treeC (s.putB f b) g) := by
    have := T2.chd C4 (fun e => hne e.symm)
    unfold St.putB
    rw [hlen, hbn]
    exact this
  have C : Chd (fun j => j = tb ∨ j = g.blk f) w w4 := (C2.mono fun _ _ e => .inl e).trans (C4.mono fun _ _ e => .inr e)
  have tgb := (h.fil f hf).tg
  have R : TreeAt w4 tb (s.putB f b) (g.take A (11 + 2 * f)) := by
    have h' : TreeAt w tb s (g.take A (11 + 2 * f)) := h.retag (fun j hj => by
        show (if A = some ⟨j, 0, none⟩ then 11 + 2 * f else g.tag j) = g.tag j
        split
        · rename_i e
          rcases (hfit.tg j e).2 with e2 | e2
          · exact absurd e2 hj
          · exact e2.symm
        · rfl) (fun j hj => by
        have hj' : (if A = some ⟨j, 0, none⟩ then 11 + 2 * f else g.tag j) ≠ 0 := hj
        split at hj'
        · rename_i e
          exact (hfit.tg j e).1
        · exact h.dom j hj')
    have nt : ∀ j, A = some ⟨j, 0, none⟩ → ¬ (j = tb ∨ j = g.blk f) := fun j e hj => by
      have := (hfit.tg j e).2
      rcases hj with rfl | rfl
      · rw [h.topT] at this; omega
      · rw [tgb] at this; omega
    have nt2 : ∀ j, A2 = some ⟨j, 0, none⟩ → ¬ (j = tb ∨ j = g.blk f) := fun j e hj => by
      have := t2 j e
      rcases hj with rfl | rfl
      · rw [h.topT] at this; omega
      · rw [tgb] at this; omega
    have tb' : (g.take A (11 + 2 * f)).tag (g.blk f) = 10 + 2 * f := (h'.fil f hf).tg
    refine h'.refile (f := f) (x := { s.at_ f with now := b, st := s.clock + 1 }) C (fun j hj => ?_) hf ?_ T4 rfl rfl rfl rfl
    · rcases hj with e | e
      · exact .inl e
      · rw [e]; exact .inr (.inr (.inl tb'))
    · refine ⟨⟨A, n, c, A2, n2, c2', D4, own_chd hfit.own C nt, own_chd ho2 C nt2, ?_, fun j e => if_pos e, fun j e => ?_⟩, tb'⟩
      · exact hfit.safe A2 n2 c2' (by rw [hb.cell]; rfl)
      · show (if A = some ⟨j, 0, none⟩ then 11 + 2 * f else g.tag j) = 11 + 2 * f
        split
        · rfl
        · exact t2 j e
  have R' := Lib.hid R
  have C' := Lib.hid C
  have W1 := Lib.hid hw1
  have W2 := Lib.hid hw2
  have W3 := Lib.hid hw3
  have W4 := Lib.hid hw4
  have hne2 : tb ≠ g.blk f := fun e => hne e.symm
  clear R C T4 C4 D4 D2 C2 T2 T1 hw1 hw2 hw3 hw4 h ok hfit hb ho1 ho2 hal t1 t2 hlen hbn hbl hf tgb
  generalize hfb : g.blk f = fb at *
  have HF := Lib.hid hfb
  clear hfb
  generalize (s.at_ f).st = st at *
  generalize hu : s.used = u at *
  generalize hck : s.clock = ck at *
  have HU := Lib.hid hu
  have HC := Lib.hid hck
  clear hu hck
  unfold fptr
  go_enter Try.func37, Try.ntmps37
  go_wp2
  go_region
  go_wp2
  refine bodyPost_end (results_none rfl _ _ _) rfl ?_
  rw [W1.out, W2.out, W3.out, W4.out]
  exact ⟨rfl, R'.out.nx (Below.drew (Below.refl _ _)), C'.out.drew⟩
end Go.Proofs.Ytodnckflobefpaa
