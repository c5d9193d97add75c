/- Package tree: Make. -/
import Derived.Test.YtodnckflobefpaaTrI
namespace Go.Proofs.Ytodnckflobefpaa
open Go.RowKit Go.Maps
set_option linter.unusedVariables false

theorem begin_at {tb : Nat} {s : St} {g : Gh} (h1 : -1 ≤ s.fuse) (h2 : s.fuse ≤ 9223372036854775807) (W : World) (h : TreeAt W tb s g) (A : Option Addr) (n c : Nat) (ps : List Str) (hs : Strs W A n ps) :
    Calls Try.prog 31 #[.pointer (some ⟨tb, 0, none⟩), .slice A n c] W fun e w' => e = .returned (.int .i64 (s.begin_ ps).2) ∧ TreeAt w' tb (s.begin_ ps).1 g ∧ Chd (fun j => j = tb) W w' :=
  (begin_any W tb s g h.top h1 h2 A n c ps hs).mono fun e w' ⟨a, b, c⟩ => ⟨a, h.retop c (fun j hj => .inl hj) b (begin_same s ps).1 (begin_same s ps).2.1 (begin_same s ps).2.2.1 (begin_same s ps).2.2.2.1, c⟩
theorem strs_one {w : World} {b : Nat} {p : Str} (h : w.cell? ⟨b, 0, none⟩ = some (.string (S p))) (hb : b < w.heap.size) : Strs w (some ⟨b, 0, none⟩) 1 [p] :=
  ⟨rfl, by decide, fun _ => ⟨b, rfl, hb, fun j hj => by
    obtain rfl : j = 0 := by omega
    exact h⟩⟩

set_option maxRecDepth 100000 in
theorem make_any (w : World) (tb : Nat) (s : St) (g : Gh) {k : Nat} (hk : k + 1 ≤ 1000) (h : TreeAt w tb s g) (ok : Ok k s) (p : Str) (hp : p.length ≤ 10000) :
    Calls Try.prog 10 #[.pointer (some ⟨tb, 0, none⟩), .string (S p)] w fun e w' => e = .returned (.int .i64 (s.make p).2) ∧ ∃ g', TreeAt w' tb (s.make p).1 g' ∧ Chd (Mine g) w w' ∧ Gh.le w g g' := by
  rw [make_eq]
  have B := Lib.hid (begin_at (tb := tb) (g := g) ok.f0 ok.f1)
  have okb := Lib.hid (ok.begin [p])
  have hsame := begin_same s [p]
  have HTB : Hid (tb < w.heap.size) := h.top.lt
  have H := Lib.hid h
  have OK := Lib.hid ok
  have HP := Lib.hid hp
  clear h ok hp
  generalize hr : s.begin_ [p] = r at *
  obtain ⟨s1, er⟩ := r
  have HB : Hid (∀ W, TreeAt W tb s g → ∀ b, W.cell? ⟨b, 0, none⟩ = some (.string (S p)) → b < W.heap.size → Calls Try.prog 31 #[.pointer (some ⟨tb, 0, none⟩), .slice (some ⟨b, 0, none⟩) 1 1] W fun e w' => e = .returned (.int .i64 er) ∧ TreeAt w' tb s1 g ∧ Chd (fun j => j = tb) W w') := fun W hW b hb hl => by
    have := B.out W hW (some ⟨b, 0, none⟩) 1 1 [p] (strs_one hb hl)
    rw [hr] at this
    exact this
  have HS := Lib.hid hsame
  clear B hsame hr
  simp only
  generalize hR : (if er = 0 then (match look s.files p with | some _ => (s1, (7 : Int)) | none => (({ s1.addF ⟨[], [], s.clock + 1⟩ with } : St).record (.mk p s.fil.length), 0)) else (s1, er)) = R
  have HR := Lib.hid hR
  clear hR
  generalize hsp : S p = sp at *
  have Hsp := Lib.hid hsp
  clear hsp
  go_enter Try.func10, Try.ntmps10
  go_wp2_with fail
  have hb1 : Below w.heap.size w ((w.alloc (.cells #[.string sp] 9)).alloc (.cells #[.string sp] 9)) := ((Below.refl _ w).alloc (Nat.le_refl _) _).alloc (by simp) _
  have hbox : BlkIs ((w.alloc (.cells #[.string sp] 9)).alloc (.cells #[.string sp] 9)) w.heap.size 9 #[.string sp] := (BlkIs.new w _ _).chd (M := fun _ => False) (Chd.of_below ((Below.refl _ _).alloc (Nat.le_refl _) _)) (fun e => e)
  have T1 := H.out.nx hb1
  have C1 : Chd (fun j => j = tb) w _ := Chd.of_below hb1
  refine (HB.out _ T1 (w.heap.size + 1) ?_ ?_).mono ?_
  · have := (BlkIs.new (w.alloc (.cells #[.string sp] 9)) 9 #[.string sp]).cell 0
    rw [World.size_alloc] at this
    exact this
  · simp
  rintro e w2 ⟨rfl, ht2, hc2⟩
  have hbox2 := hbox.chd hc2 (by have := HTB.out; omega)
  have C2 := Lib.hid (C1.trans hc2)
  have T2 := Lib.hid ht2
  have HX2 := Lib.hid hbox2
  clear hb1 hbox T1 C1 HB ht2 hc2 hbox2
  by_cases he : er = 0
  · have hlk := fun W (hW : MapAt W g.mf g.blk s.files) => lookup_in hW p (by have := HP.out; omega) g rfl
    rw [Hsp.out] at hlk
    have hl2 : MapAt w2 g.mf g.blk s.files := by have := T2.out.mfA; rwa [HS.out.1] at this
    have hlk1 := hlk w2 hl2
    have hlk2 := fun n => hlk (w2.drewN n) hl2
    have c3 := (top_of T2.out.top).c3
    have c2 := (top_of T2.out.top).c2
    have f2 := T2.out.top.frozen 2
    have bx0 := HX2.out.cell 0
    simp only [List.getElem?_toArray, List.getElem?_cons_zero] at bx0
    have fx0 := HX2.out.frozen 0
    clear hlk hl2
    have hR := HR.out
    rw [if_pos he] at hR
    subst he
    cases hl : look s.files p with
    | some f =>
      rw [hl] at hlk1 hlk2 hR
      unfold optP fptr at hlk1 hlk2
      simp only at hlk1 hlk2 hR
      subst hR
      clear hl HR
      go_wp2
      go_quiet (fail)
      go_wp2
      go_ret
      exact ⟨rfl, g, T2.out.nx (Nx.drewN (Nx.refl _) _), (C2.out.mono (fun j _ e => by rw [e]; show g.tag tb ≠ 0; rw [T2.out.topT]; omega)).drewN _, Gh.le_refl _ _⟩
    | none =>
      rw [hl] at hlk1 hlk2 hR
      unfold optP at hlk1 hlk2
      simp only at hlk1 hlk2 hR
      subst hR
      clear hl HR
      go_wp2
      go_quiet (fail)
      go_wp2_with fail
      have CL := clone_any (w2.drewN nq) sp (by rw [← Hsp.out, S_size]; have := HP.out; omega)
      refine CL.mono ?_
      rintro e w3 ⟨rfl, hb⟩
      have hb3 : Nx w2 w3 := Nx.trans (Nx.drewN (Nx.refl _) _) hb
      have T3 := Lib.hid (T2.out.nx hb3)
      have C3 := Lib.hid (C2.out.trans (Nx.chd hb3))
      have hbox3 := HX2.out.nx hb3
      have bx3 := hbox3.cell 0
      simp only [List.getElem?_toArray, List.getElem?_cons_zero] at bx3
      have fx3 := hbox3.frozen 0
      have HX3 := Lib.hid hbox3
      have L3 : Hid (w2.heap.size ≤ w3.heap.size) := hb3.size
      have HX2L : Hid (w.heap.size < w2.heap.size) := HX2.out.lt
      clear CL hb hb3 hbox3 bx0 fx0 c3 c2 f2 hlk1 hlk2 T2 C2 HX2
      go_wp2_with fail
      have hw0 : w.heap.size < w2.heap.size := HX2L.out
      have hL3 := L3.out
      have tz : ∀ j, w.heap.size ≤ j → g.tag j = 0 := fun j hj => by
        rcases Nat.eq_zero_or_pos (g.tag j) with e | e
        · exact e
        · have := H.out.dom j (by omega); omega
      obtain ⟨w4, hw4⟩ : ∃ w4, ((w3.setCell ⟨w.heap.size, 0, none⟩ (.string sp)).alloc (.cells #[.slice none 0 0, .slice none 0 0, .int .u64 0] 69)).alloc (.cells #[.pointer (some ⟨w3.heap.size, 0, none⟩)] 66) = w4 := ⟨_, rfl⟩
      have hs3 : (w3.setCell ⟨w.heap.size, 0, none⟩ (.string sp)).heap.size = w3.heap.size := by simp
      have C34 : Chd (fun j => j = w.heap.size) w3 w4 := by
        subst hw4
        exact (Chd.set w3 w.heap.size 0 _).trans (Chd.of_below (((Below.refl _ _).alloc (Nat.le_refl _) _).alloc (by simp) _))
      have X0 : BlkIs w4 w.heap.size 9 #[.string sp] := by
        subst hw4
        have := (HX3.out.set 0 (.string sp)).chd (M := fun _ => False) (Chd.of_below (((Below.refl _ (w3.setCell ⟨w.heap.size, 0, none⟩ (.string sp))).alloc (Nat.le_refl _) (.cells #[.slice none 0 0, .slice none 0 0, .int .u64 0] 69)).alloc (by simp) (.cells #[.pointer (some ⟨w3.heap.size, 0, none⟩)] 66))) (fun e => e)
        exact this
      have X1 : BlkIs w4 w3.heap.size 69 #[.slice none 0 0, .slice none 0 0, .int .u64 0] := by
        subst hw4
        have h1 := BlkIs.new (w3.setCell ⟨w.heap.size, 0, none⟩ (.string sp)) 69 #[.slice none 0 0, .slice none 0 0, .int .u64 0]
        rw [hs3] at h1
        exact h1.chd (M := fun _ => False) (Chd.of_below ((Below.refl _ _).alloc (Nat.le_refl _) _)) (fun e => e)
      have X2 : BlkIs w4 (w3.heap.size + 1) 66 #[fptr w3.heap.size] := by
        subst hw4
        have h1 := BlkIs.new ((w3.setCell ⟨w.heap.size, 0, none⟩ (.string sp)).alloc (.cells #[.slice none 0 0, .slice none 0 0, .int .u64 0] 69)) 66 #[fptr w3.heap.size]
        have h2 : ((w3.setCell ⟨w.heap.size, 0, none⟩ (.string sp)).alloc (.cells #[.slice none 0 0, .slice none 0 0, .int .u64 0] 69)).heap.size = w3.heap.size + 1 := by simp
        rw [h2] at h1
        exact h1
      have T4 : TreeAt w4 tb s1 g := T3.out.chd C34 (fun j e => by rw [e]; exact tz _ (Nat.le_refl _))
      have T4' := T4.addF okb.out (fb := w3.heap.size) (b1 := w3.heap.size + 1) (b2 := w.heap.size) (tz _ (by omega)) (tz _ (by omega)) (tz _ (Nat.le_refl _)) X1 X2.lt X0.lt
      have hv : ChAt w4 (g.file s1.fil.length w3.heap.size (w3.heap.size + 1) w.heap.size).tag (g.file s1.fil.length w3.heap.size (w3.heap.size + 1) w.heap.size).blk (.func (.func 34) #[] #[.pointer (some ⟨w3.heap.size + 1, 0, none⟩), .pointer (some ⟨w.heap.size, 0, none⟩)]) (.mk p s1.fil.length) := by
        refine ⟨w3.heap.size + 1, w.heap.size, rfl, ⟨?_, ?_⟩, ⟨?_, ?_⟩⟩
        · have : (g.file s1.fil.length w3.heap.size (w3.heap.size + 1) w.heap.size).blk s1.fil.length = w3.heap.size := if_pos rfl
          rw [this]; exact X2
        · show (if w3.heap.size + 1 = w3.heap.size then _ else if w3.heap.size + 1 = w3.heap.size + 1 ∨ _ then 5 else _) = 5
          rw [if_neg (by omega), if_pos (.inl rfl)]
        · rw [show (⟨p.toArray⟩ : ByteArray) = sp from Hsp.out]; exact X0
        · show (if w.heap.size = w3.heap.size then _ else if _ ∨ w.heap.size = w.heap.size then 5 else _) = 5
          rw [if_neg (by omega), if_pos (.inr rfl)]
      have ok4 := okb.out.addF 0
      have RC := record_any w4 tb _ _ hk T4' ok4 _ (.mk p s1.fil.length) ⟨HP.out, by unfold St.addF; simp⟩ hv
      rw [hw4]
      refine RC.mono ?_
      rintro e w5 ⟨rfl, ⟨cv, T5, hcv⟩, C5⟩
      have ct2 : w5.cell? ⟨tb, 2, none⟩ = some (.int .u64 ((s1.clock + 1 : Nat) : Int)) := (top_of T5.top).c2
      have nM : ∀ j, w.heap.size ≤ j → ¬ (j = tb ∨ j = (g.file s1.fil.length w3.heap.size (w3.heap.size + 1) w.heap.size).mf ∨ (g.file s1.fil.length w3.heap.size (w3.heap.size + 1) w.heap.size).cv.ownBlock = some j) := fun j hj e => by
        have t0 := tz j hj
        rcases e with e | e | e
        · rw [e, H.out.topT] at t0; omega
        · rw [e] at t0; have : g.tag g.mf = 0 := t0; rw [H.out.mfT] at this; omega
        · rw [H.out.rowT j e] at t0; omega
      have X1' := X1.chd C5 (nM _ (by omega))
      have X2' := X2.chd C5 (nM _ (by omega))
      have d1 : w5.cell? ⟨w3.heap.size + 1, 0, none⟩ = some (.pointer (some ⟨w3.heap.size, 0, none⟩)) := by rw [X2'.cell]; rfl
      have d2 : w5.cell? ⟨w3.heap.size, 2, none⟩ = some (.int .u64 0) := by rw [X1'.cell]; rfl
      have d3 := X1'.frozen 2
      have hblk : ((g.file s1.fil.length w3.heap.size (w3.heap.size + 1) w.heap.size).more cv (.func (.func 34) #[] #[.pointer (some ⟨w3.heap.size + 1, 0, none⟩), .pointer (some ⟨w.heap.size, 0, none⟩)])).blk s1.fil.length = w3.heap.size := if_pos rfl
      have T6 := stamp_end (ck := s1.clock + 1) T5 hblk
      have hck : s1.clock = s.clock := HS.out.2.2.2.2.2.2
      have hfl : s1.fil.length = s.fil.length := by rw [HS.out.2.2.2.1]
      have hle : Gh.le w g ((g.file s1.fil.length w3.heap.size (w3.heap.size + 1) w.heap.size).more cv (.func (.func 34) #[] #[.pointer (some ⟨w3.heap.size + 1, 0, none⟩), .pointer (some ⟨w.heap.size, 0, none⟩)])) := fun j hj => by
        by_cases hlt : w.heap.size ≤ j
        · exact .inr hlt
        · left
          have hj' : (if cv.ownBlock = some j then 4 else if j = w3.heap.size then 10 + 2 * s1.fil.length else if j = w3.heap.size + 1 ∨ j = w.heap.size then 5 else g.tag j) ≠ 0 := hj
          split at hj'
          · rename_i e
            rcases hcv with e2 | ⟨i, e2, hi⟩
            · have : g.tag j = 4 := H.out.rowT j (by rw [e2.symm] at e; exact e)
              omega
            · rw [e2, Option.some.injEq] at e
              have := C34.size
              omega
          · rw [if_neg (by omega), if_neg (by omega)] at hj'
            exact hj'
      have CF : Chd (Mine g) w (w5.setCell ⟨w3.heap.size, 2, none⟩ (.int .u64 ((s1.clock + 1 : Nat) : Int))) := by
        have a1 : Chd (Mine g) w w3 := C3.out.mono fun j _ e => by rw [e]; show g.tag tb ≠ 0; rw [H.out.topT]; omega
        have a2 := a1.then_ C34 (fun j hj e => by omega)
        have a3 := a2.then_ C5 (fun j hj e => by
          rcases e with e | e | e
          · rw [e]; show g.tag tb ≠ 0; rw [H.out.topT]; omega
          · rw [e]; show g.tag g.mf ≠ 0; rw [H.out.mfT]; omega
          · show g.tag j ≠ 0; rw [H.out.rowT j e]; omega)
        exact a3.then_ (Chd.set w5 w3.heap.size 2 _) (fun j hj e => by omega)
      have T6' := Lib.hid T6
      have CF' := Lib.hid CF
      have HLE := Lib.hid hle
      have HCK := Lib.hid hck
      have HFL := Lib.hid hfl
      have bck : ((s1.clock + 1 : Nat) : Int) ≤ 100000000 := by have := okb.out.ck; omega
      clear T6 CF hle hck hfl nM X1' X2' T5 C5 RC ok4 hv T4 T4' X0 X1 X2 C34 hs3 tz hw4 hcv hblk HX2L hw0 hL3 L3 bx3 fx3
      obtain ⟨ck, hckk⟩ : ∃ ck, s1.clock + 1 = ck := ⟨_, rfl⟩
      rw [hckk] at T6' CF' ct2 bck
      have HCKK := Lib.hid hckk
      clear hckk
      generalize w3.heap.size = fb at *
      go_wp2
      go_region
      go_wp2
      go_ret
      refine ⟨rfl, _, ?_, CF'.out.drew, HLE.out⟩
      have := T6'.out.nx (w' := (w5.setCell ⟨fb, 2, none⟩ (.int .u64 (ck : Int))).drew) (Below.drew (Below.refl _ _))
      rw [← HCKK.out, HCK.out, HFL.out] at this ⊢
      exact this
  · have hR : (s1, er) = R := by have := HR.out; rwa [if_neg he] at this
    subst hR
    have hne : (er != 0) = true := by simpa using he
    clear he HR
    go_wp2
    go_ret
    exact ⟨rfl, g, T2.out, C2.out.mono (fun j _ e => by rw [e]; show g.tag tb ≠ 0; rw [T2.out.topT]; omega), Gh.le_refl _ _⟩
end Go.Proofs.Ytodnckflobefpaa
