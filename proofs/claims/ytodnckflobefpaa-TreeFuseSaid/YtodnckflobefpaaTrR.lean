/- Package tree: Write and Append. -/
import Derived.Test.YtodnckflobefpaaTrQ
namespace Go.Proofs.Ytodnckflobefpaa
open Go.RowKit Go.Maps
set_option linter.unusedVariables false

def writeR (s1 : St) (b : Str) (er : Int) : Option Nat → St × Int
  | some f => if (b.length : Int) > s1.left_ (s1.used - ((s1.at_ f).now.length : Int)) then (s1, 10) else (s1.putB f b, 0)
  | none => (s1, er)
theorem write_eq (s : St) (p b : Str) {s1 : St} {r : Option Nat} {er : Int} (h : Found s p [] s1 r er) : s.write p b = writeR s1 b er r := by
  unfold St.write
  rw [h.eq]
  cases r <;> rfl
def appendR (s1 : St) (b : Str) (er : Int) : Option Nat → St × Int
  | some f => if (b.length : Int) > s1.left_ s1.used then (s1, 10) else (s1.putB f ((s1.at_ f).now ++ b), 0)
  | none => (s1, er)
theorem append_eq (s : St) (p b : Str) {s1 : St} {r : Option Nat} {er : Int} (h : Found s p [] s1 r er) : s.append_ p b = appendR s1 b er r := by
  unfold St.append_
  rw [h.eq]
  cases r <;> rfl
theorem take_le {w : World} {g : Gh} {A : Option Addr} {f : Nat} (hA : ∀ j, A = some ⟨j, 0, none⟩ → g.tag j ≠ 0 ∨ w.heap.size ≤ j) : Gh.le w g (g.take A (11 + 2 * f)) := fun j hj => by
  have hj' : (if A = some ⟨j, 0, none⟩ then 11 + 2 * f else g.tag j) ≠ 0 := hj
  split at hj'
  · rename_i e; exact hA j e
  · exact .inl hj'
theorem fits_new {w0 w : World} {tb : Nat} {s : St} {g : Gh} {f : Nat} (h : TreeAt w0 tb s g) (h' : TreeAt w tb s g) (hf : f < s.fil.length) {A : Option Addr} {n c : Nat} {b : Str} (ho : Own w w0.heap.size A n c b) : Fits w g f A n c b := by
  refine ⟨ho.more (Nat.zero_le _), fun j e => ?_, fun A2 n2 c2 hc e => ?_⟩
  · subst e
    exact ⟨ho.at_.2, .inl (new_zero h ho.at_.1)⟩
  · obtain ⟨A1, n1, c1, A3, n3, c3, hb, o1, o2, hal, t1, t2⟩ := (h'.fil f hf).ex
    rw [hb.cell] at hc
    simp only [List.getElem?_toArray, List.getElem?_cons_succ, List.getElem?_cons_zero, Option.some.injEq, Value.slice.injEq] at hc
    obtain ⟨e1, e2, _⟩ := hc
    subst e1 e2
    rcases o2.form with ⟨e3, e4, _⟩ | ⟨j, e3⟩
    · omega
    · have k1 := t2 j e3
      rw [e] at e3
      subst e3
      have := new_zero h ho.at_.1
      omega

set_option maxRecDepth 100000 in
theorem write_any (w : World) (tb : Nat) (s : St) (g : Gh) {k : Nat} (hk : k ≤ 1000) (h : TreeAt w tb s g) (ok : Ok k s) (p : Str) (hp : p.length ≤ 10000)
    (A : Option Addr) (n c : Nat) (b : Str) (hb : Arg w A n c b) (hbl : b.length ≤ 10000) (hnil : A = none → c = 0) (hA : ∀ j o, A = some ⟨j, o, none⟩ → g.tag j = 0) :
    Calls Try.prog 11 #[.pointer (some ⟨tb, 0, none⟩), .string (S p), .slice A n c] w fun e w' => e = .returned (.int .i64 (s.write p b).2) ∧ ∃ g', TreeAt w' tb (s.write p b).1 g' ∧ Chd (Mine g) w w' ∧ Gh.le w g g' := by
  obtain ⟨s1, r, er, hf⟩ := found s p []
  rw [write_eq s p b hf]
  have FA := Lib.hid (find_at (tb := tb) (g := g) ok p hp hf w h)
  have hfid := Lib.hid (fun f e => hf.lt ok f e)
  have OK1 := Lib.hid (hf.ok ok)
  have HF := Lib.hid hf
  have H := Lib.hid h
  have HB := Lib.hid hb
  have HBL := Lib.hid hbl
  have hlen := hb.len
  have hn : n ≤ 10000 := by omega
  have HNIL := Lib.hid hnil
  have HA : Hid (∀ j o, A = some ⟨j, o, none⟩ → ¬ j = tb) := fun j o e e2 => by have := hA j o e; rw [e2, h.topT] at this; omega
  have HLEN := Lib.hid hlen
  clear hf h hp ok hb hbl hnil hA hlen
  generalize hR : writeR s1 b er r = R
  have HR := Lib.hid hR
  clear hR
  generalize S p = sp at *
  go_enter Try.func11, Try.ntmps11
  go_wp2_with fail
  refine FA.out.mono ?_
  rintro e w2 ⟨rfl, ht2, hc2⟩
  cases r with
  | none =>
    have hR : (s1, er) = R := HR.out
    subst hR
    have hne : (er != 0) = true := by have := HF.out.no rfl; simpa using this
    have T2 := Lib.hid ht2
    have CF' := Lib.hid (hc2.mono (M' := Mine g) (fun j _ e => by rw [e]; exact (mine_cv H.out).1))
    clear HR HF ht2 hc2 FA
    unfold optP
    go_wp2
    go_ret
    exact ⟨rfl, g, T2.out, CF'.out, Gh.le_refl _ _⟩
  | some f =>
    obtain rfl : er = 0 := (HF.out.yes f rfl).1
    have hlt := hfid.out f rfl
    have hfa := ht2.fil f hlt
    obtain ⟨A1, n1, c1, A2, n2, c2, hbk, o1, o2, hal, t1, t2⟩ := hfa.ex
    have hn1 : (s1.at_ f).now.length = n1 := o1.len
    have hz1 : n1 ≤ 10000000 := by have := OK1.out.sz f; omega
    have u0 : -10000000000000 ≤ s1.used := by have := OK1.out.u0; omega
    have u1 : s1.used ≤ 10000000000000 := by have := OK1.out.u1; omega
    have hR : (if (b.length : Int) > s1.left_ (s1.used - ((s1.at_ f).now.length : Int)) then (s1, 10) else (s1.putB f b, 0)) = R := HR.out
    rw [hn1, HLEN.out] at hR
    have hwr : Hid (IntKind.i64.wrap (s1.used - (n1 : Int)) = s1.used - (n1 : Int)) := by show IntKind.i64.wrap (s1.used - (n1 : Int)) = s1.used - (n1 : Int); rw [IntKind.wrap_i64]; omega
    have LF : Hid (∀ m, Calls Try.prog 36 #[.pointer (some ⟨tb, 0, none⟩), .int .i64 (s1.used - (n1 : Int))] (w2.drewN m) fun e w' => e = .returned (.int .i64 (s1.left_ (s1.used - (n1 : Int)))) ∧ w' = w2.drewN m) := fun m =>
      (left_any (w2.drewN m) tb s1 g ht2.top (s1.used - (n1 : Int)) OK1.out.r0 OK1.out.r1 (by omega) (by omega)).mono fun _ _ h => ⟨h.1, h.2.symm⟩
    have PF := Lib.hid (fun W (hW : TreeAt W tb s1 g) A3 n3 c3 b3 hfit hb3 => put_any W tb s1 g hk hW OK1.out f hlt A3 n3 c3 b3 hfit hb3)
    have d0 : w2.cell? ⟨g.blk f, 0, none⟩ = some (.slice A1 n1 c1) := by rw [hbk.cell]; rfl
    have cc1 := (top_of ht2.top).c1
    have T2 := Lib.hid ht2
    have C2 := Lib.hid hc2
    have HLT := Lib.hid hlt
    have HRR := Lib.hid hR
    clear HR HF ht2 hc2 FA hfa hbk o1 o2 hal t1 t2 hlt hn1 hR
    generalize hlv : s1.left_ (s1.used - (n1 : Int)) = lv at *
    have HLV := Lib.hid hlv
    clear hlv
    unfold optP fptr
    by_cases hbig : (n : Int) > lv
    · have hR : (s1, (10 : Int)) = R := by have := HRR.out; rwa [if_pos hbig] at this
      subst hR
      go_wp2_with fail
      go_quiet ((go_at_call 36; exact Calls.quiet_of_same (LF.out _)))
      clear LF PF
      go_wp2
      go_ret
      exact ⟨rfl, g, T2.out.nx (Nx.drewN (Nx.refl _) _), (C2.out.mono (M' := Mine g) (fun j _ e => by rw [e]; exact (mine_cv H.out).1)).drewN _, Gh.le_refl _ _⟩
    · have hR : (s1.putB f b, (0 : Int)) = R := by have := HRR.out; rwa [if_neg hbig] at this
      subst hR
      have BC : Hid (∀ m, Calls Try.prog 38 #[.slice A n c] (w2.drewN m) fun e w' => ∃ A2 c2, e = .returned (.slice A2 n c2) ∧ Own w' (w2.drewN m).heap.size A2 n c2 b ∧ Nx (w2.drewN m) w') := fun m =>
        bclone_any (w2.drewN m) A n c b ((HB.out.chd C2.out HA.out).nx (Nx.drewN (Nx.refl _) _)) (by omega) HNIL.out
      go_wp2_with fail
      go_quiet ((go_at_call 36; exact Calls.quiet_of_same (LF.out _)))
      clear LF cc1 d0
      go_wp2_with fail
      refine (BC.out _).mono ?_
      rintro e w3 ⟨A3, c3, rfl, ho3, hb3⟩
      have hb3' : Nx w2 w3 := Nx.trans (Nx.drewN (Nx.refl _) _) hb3
      have T3 := T2.out.nx hb3'
      have X := PF.out w3 T3 A3 n c3 b (fits_new T2.out T3 HLT.out ho3) (by have := HBL.out; omega)
      have XX := Lib.hid X
      have CF := Lib.hid ((C2.out.mono (M' := Mine g) (fun j _ e => by rw [e]; exact (mine_cv H.out).1)).trans (Nx.chd hb3'))
      have HO := Lib.hid ho3
      have TG := Lib.hid ((T3.fil f HLT.out).tg)
      clear BC PF ho3 hb3 hb3' T3 X
      go_wp2_with fail
      refine XX.out.mono ?_
      rintro e w4 ⟨rfl, ht4, hc4⟩
      have T4 := Lib.hid ht4
      have CG := Lib.hid (CF.out.trans (hc4.mono (M' := Mine g) (fun j _ e => by
        rcases e with e | e
        · rw [e]; exact (mine_cv H.out).1
        · rw [e]; show g.tag _ ≠ 0; rw [TG.out]; omega)))
      clear ht4 hc4 XX CF
      go_wp2
      go_ret
      exact ⟨rfl, _, T4.out, CG.out, take_le fun j e => .inr (by have h1 := HO.out; rw [e] at h1; exact Nat.le_trans C2.out.size h1.at_.1)⟩

theorem fits_app {w w3 : World} {tb : Nat} {s : St} {g : Gh} {f : Nat} (h : TreeAt w tb s g) (hf : f < s.fil.length) {A1 A : Option Addr} {n1 c1 m c : Nat} {b : Str} {A2 : Option Addr} {n2 c2 : Nat}
    (hb : BlkIs w (g.blk f) 69 #[.slice A1 n1 c1, .slice A2 n2 c2, .int .u64 ((s.at_ f).st : Int)]) (o1 : Own w 0 A1 n1 c1 (s.at_ f).now) (o2 : Own w 0 A2 n2 c2 (s.at_ f).sf) (hal : A2 = A1 → n2 ≤ n1) (t1 : Tg g.tag A1 (11 + 2 * f)) (t2 : Tg g.tag A2 (11 + 2 * f))
    (ho : Own w3 0 A (n1 + m) c ((s.at_ f).now ++ b)) (hc : (A = A1 ∧ c = c1 ∧ w.grownBy w3 (Value.slice A1 n1 c1).ownBlock) ∨ (A = some ⟨w.heap.size, 0, none⟩ ∧ w.grownBy w3 none)) :
    TreeAt w3 tb s g ∧ Fits w3 g f A (n1 + m) c ((s.at_ f).now ++ b) ∧ Chd (fun j => j ≠ tb ∧ g.tag j = 11 + 2 * f) w w3 ∧ (∀ j, A = some ⟨j, 0, none⟩ → g.tag j ≠ 0 ∨ w.heap.size ≤ j) := by
  have htb := h.topT
  have hset : s.fil = s.fil.set f (s.at_ f) := by
    unfold St.at_
    simp only [List.getD, List.getElem?_eq_getElem hf, Option.getD_some]
    exact (List.set_getElem_self hf).symm
  have hlen := o1.len
  have cell1 : ∀ {w' : World} {M : Nat → Prop}, Chd M w w' → ¬ M (g.blk f) → ∀ A' n' c', w'.cell? ⟨g.blk f, 1, none⟩ = some (.slice A' n' c') → A' = A2 ∧ n' = n2 := fun hcc hm A' n' c' hx => by
    rw [(hb.chd hcc hm).cell] at hx
    simp only [List.getElem?_toArray, List.getElem?_cons_succ, List.getElem?_cons_zero, Option.some.injEq, Value.slice.injEq] at hx
    exact ⟨hx.1.symm, hx.2.1.symm⟩
  rcases hc with ⟨rfl, rfl, hg⟩ | ⟨rfl, hg⟩
  · rcases o1.form with ⟨rfl, rfl, rfl⟩ | ⟨j, rfl⟩
    · have hC : Chd (fun j => j ≠ tb ∧ g.tag j = 11 + 2 * f) w w3 := Chd.of_grown_none hg
      have T3 := h.chd (M := fun _ => False) (Chd.of_grown_none hg) (fun _ e => e.elim)
      refine ⟨T3, ⟨ho, fun j e => (by cases e), fun A' n' c' hx e => ?_⟩, hC, fun j e => (by cases e)⟩
      obtain ⟨e1, e2⟩ := cell1 (M := fun _ => False) (Chd.of_grown_none hg) (fun e => e) A' n' c' hx
      have := hal (e1.symm.trans e)
      omega
    · have tj : g.tag j = 11 + 2 * f := t1 j rfl
      have C := Chd.of_grown (b := j) hg
      have hjb : ¬ g.blk f = j := fun e => by have := (h.fil f hf).tg; rw [e, tj] at this; omega
      have hC : Chd (fun j => j ≠ tb ∧ g.tag j = 11 + 2 * f) w w3 := C.mono fun i _ e => by subst e; exact ⟨fun e => by rw [e, htb] at tj; omega, tj⟩
      have own1 : Own w3 0 (some ⟨j, 0, none⟩) n1 c (s.at_ f).now := o1.same o1 (Nat.le_refl _) ho (by omega) (by rw [List.take_append_of_le_length (by omega), List.take_of_length_le (by omega)])
      have own2 : Own w3 0 A2 n2 c2 (s.at_ f).sf := by
        by_cases e : A2 = some ⟨j, 0, none⟩
        · subst e
          exact o1.same o2 (hal rfl) ho (by omega) (by rw [List.take_append_of_le_length (by omega), List.take_of_length_le (by omega)])
        · exact own_chd o2 C (fun g' hg' e2 => e (by rw [hg', e2]))
      have T3 : TreeAt w3 tb s g := h.refile (f := f) (x := s.at_ f) C (fun i e => by subst e; exact .inr (.inr (.inr tj))) hf ⟨⟨_, n1, c, A2, n2, c2, hb.chd C hjb, own1, own2, hal, t1, t2⟩, (h.fil f hf).tg⟩
        (h.top.chd C (fun e => by rw [← e, htb] at tj; omega)) rfl rfl rfl hset
      refine ⟨T3, ⟨ho, fun i e => ?_, fun A' n' c' hx e => ?_⟩, hC, fun i e => ?_⟩
      · simp only [Option.some.injEq, Addr.mk.injEq, and_true] at e
        subst e
        exact ⟨ho.at_.2, .inr tj⟩
      · obtain ⟨e1, e2⟩ := cell1 C hjb A' n' c' hx
        have := hal (e1.symm.trans e)
        omega
      · simp only [Option.some.injEq, Addr.mk.injEq, and_true] at e
        subst e
        left; omega
  · have hC : Chd (fun j => j ≠ tb ∧ g.tag j = 11 + 2 * f) w w3 := Chd.of_grown_none hg
    have T3 := h.chd (M := fun _ => False) (Chd.of_grown_none hg) (fun _ e => e.elim)
    refine ⟨T3, ⟨ho, fun i e => ?_, fun A' n' c' hx e => ?_⟩, hC, fun i e => ?_⟩
    · simp only [Option.some.injEq, Addr.mk.injEq, and_true] at e
      subst e
      exact ⟨ho.at_.2, .inl (new_zero h (Nat.le_refl _))⟩
    · obtain ⟨e1, e2⟩ := cell1 (M := fun _ => False) (Chd.of_grown_none hg) (fun e => e) A' n' c' hx
      have h1 := t2 w.heap.size (by rw [← e1, e])
      have h2 := new_zero h (Nat.le_refl w.heap.size)
      omega
    · simp only [Option.some.injEq, Addr.mk.injEq, and_true] at e
      subst e
      exact .inr (Nat.le_refl _)

set_option maxRecDepth 100000 in
theorem append_any (w : World) (tb : Nat) (s : St) (g : Gh) {k : Nat} (hk : k ≤ 1000) (h : TreeAt w tb s g) (ok : Ok k s) (p : Str) (hp : p.length ≤ 10000)
    (A : Option Addr) (n c : Nat) (b : Str) (hb : Arg w A n c b) (hbl : b.length ≤ 10000) (hA : ∀ j o, A = some ⟨j, o, none⟩ → g.tag j = 0) :
    Calls Try.prog 28 #[.pointer (some ⟨tb, 0, none⟩), .string (S p), .slice A n c] w fun e w' => e = .returned (.int .i64 (s.append_ p b).2) ∧ ∃ g', TreeAt w' tb (s.append_ p b).1 g' ∧ Chd (Mine g) w w' ∧ Gh.le w g g' := by
  obtain ⟨s1, r, er, hf⟩ := found s p []
  rw [append_eq s p b hf]
  have FA := Lib.hid (find_at (tb := tb) (g := g) ok p hp hf w h)
  have hfid := Lib.hid (fun f e => hf.lt ok f e)
  have OK1 := Lib.hid (hf.ok ok)
  have HF := Lib.hid hf
  have H := Lib.hid h
  have HB := Lib.hid hb
  have HBL := Lib.hid hbl
  have hlen := hb.len
  have hn : n ≤ 10000 := by omega
  have HA : Hid (∀ j o, A = some ⟨j, o, none⟩ → ¬ j = tb) := fun j o e e2 => by have := hA j o e; rw [e2, h.topT] at this; omega
  have HLEN := Lib.hid hlen
  clear hf h hp ok hb hbl hA hlen
  generalize hR : appendR s1 b er r = R
  have HR := Lib.hid hR
  clear hR
  generalize S p = sp at *
  go_enter Try.func28, Try.ntmps28
  go_wp2_with fail
  refine FA.out.mono ?_
  rintro e w2 ⟨rfl, ht2, hc2⟩
  cases r with
  | none =>
    have hR : (s1, er) = R := HR.out
    subst hR
    have hne : (er != 0) = true := by have := HF.out.no rfl; simpa using this
    have T2 := Lib.hid ht2
    have CF' := Lib.hid (hc2.mono (M' := Mine g) (fun j _ e => by rw [e]; exact (mine_cv H.out).1))
    clear HR HF ht2 hc2 FA
    unfold optP
    go_wp2
    go_ret
    exact ⟨rfl, g, T2.out, CF'.out, Gh.le_refl _ _⟩
  | some f =>
    obtain rfl : er = 0 := (HF.out.yes f rfl).1
    have hlt := hfid.out f rfl
    have hfa := ht2.fil f hlt
    obtain ⟨A1, n1, c1, A2, n2, c2, hbk, o1, o2, hal, t1, t2⟩ := hfa.ex
    have hn1 : (s1.at_ f).now.length = n1 := o1.len
    have hz1 : n1 ≤ 10000000 := by have := OK1.out.sz f; omega
    have u0 : -10000000000000 ≤ s1.used := by have := OK1.out.u0; omega
    have u1 : s1.used ≤ 10000000000000 := by have := OK1.out.u1; omega
    have hR : (if (b.length : Int) > s1.left_ s1.used then (s1, 10) else (s1.putB f ((s1.at_ f).now ++ b), 0)) = R := HR.out
    rw [HLEN.out] at hR
    have LF := Lib.hid (left_any w2 tb s1 g ht2.top s1.used OK1.out.r0 OK1.out.r1 (by omega) (by omega))
    have d0 : w2.cell? ⟨g.blk f, 0, none⟩ = some (.slice A1 n1 c1) := by rw [hbk.cell]; rfl
    have cc1 := (top_of ht2.top).c1
    have HRR := Lib.hid hR
    clear HR hR
    generalize hlv : s1.left_ s1.used = lv at *
    clear hlv
    unfold optP fptr
    by_cases hbig : (n : Int) > lv
    · have hR : (s1, (10 : Int)) = R := by have := HRR.out; rwa [if_pos hbig] at this
      subst hR
      have T2 := Lib.hid ht2
      have C2 := Lib.hid hc2
      clear HF ht2 hc2 FA hfa hbk o1 o2 hal t1 t2 hlt hn1 HRR
      go_wp2_with fail
      refine LF.out.mono ?_
      rintro e w' ⟨rfl, rfl⟩
      go_wp2
      go_ret
      exact ⟨rfl, g, T2.out, C2.out.mono (M' := Mine g) (fun j _ e => by rw [e]; exact (mine_cv H.out).1), Gh.le_refl _ _⟩
    · have hR : (s1.putB f ((s1.at_ f).now ++ b), (0 : Int)) = R := by have := HRR.out; rwa [if_neg hbig] at this
      subst hR
      have O1 := Lib.hid o1
      have AB := Lib.hid (HB.out.chd hc2 HA.out)
      have hnb : n1 + n ≤ 1000000000 := by omega
      have FT : Hid (∀ A3 c3 w3, Own w3 0 A3 (n1 + n) c3 ((s1.at_ f).now ++ b) → ((A3 = A1 ∧ c3 = c1 ∧ w2.grownBy w3 (Value.slice A1 n1 c1).ownBlock) ∨ (A3 = some ⟨w2.heap.size, 0, none⟩ ∧ w2.grownBy w3 none)) →
          TreeAt w3 tb s1 g ∧ Fits w3 g f A3 (n1 + n) c3 ((s1.at_ f).now ++ b) ∧ Chd (fun j => j ≠ tb ∧ g.tag j = 11 + 2 * f) w2 w3 ∧ (∀ j, A3 = some ⟨j, 0, none⟩ → g.tag j ≠ 0 ∨ w2.heap.size ≤ j)) := fun A3 c3 w3 ho hc =>
        fits_app ht2 hlt hbk o1 o2 hal t1 t2 ho hc
      have PF := Lib.hid (fun W (hW : TreeAt W tb s1 g) A3 n3 c3 b3 hfit hb3 => put_any W tb s1 g hk hW OK1.out f hlt A3 n3 c3 b3 hfit hb3)
      have TG := Lib.hid hfa.tg
      have C2 := Lib.hid hc2
      have HN1 := Lib.hid hn1
      clear HF ht2 hc2 FA hfa hbk o1 o2 hal t1 t2 hlt hn1 HRR
      go_wp2_with fail
      refine LF.out.mono ?_
      rintro e w' ⟨rfl, rfl⟩
      go_wp2_with (at_builtin; refine wpList_byte_append2 rfl _ _ rfl A1 n1 c1 (s1.at_ f).now rfl O1.out A n c b rfl AB.out hnb ?_; intro A3 c3 w3 ho3 hc3)
      obtain ⟨T3, F3, C3, hle⟩ := FT.out A3 c3 w3 ho3 hc3
      have X := Lib.hid (PF.out w3 T3 A3 (n1 + n) c3 _ F3 (by rw [List.length_append, HN1.out, HLEN.out]; omega))
      have CF := Lib.hid ((C2.out.mono (M' := Mine g) (fun j _ e => by rw [e]; exact (mine_cv H.out).1)).trans (C3.mono (M' := Mine g) fun j _ e => by show g.tag j ≠ 0; omega))
      have HLE := Lib.hid hle
      clear T3 F3 C3 hle ho3 hc3 FT PF AB O1
      refine X.out.mono ?_
      rintro e w4 ⟨rfl, ht4, hc4⟩
      have T4 := Lib.hid ht4
      have CG := Lib.hid (CF.out.trans (hc4.mono (M' := Mine g) (fun j _ e => by
        rcases e with e | e
        · rw [e]; exact (mine_cv H.out).1
        · rw [e]; show g.tag _ ≠ 0; rw [TG.out]; omega)))
      clear ht4 hc4 X CF
      go_wp2
      go_ret
      exact ⟨rfl, _, T4.out, CG.out, take_le fun j e => (HLE.out j e).imp id fun e => by have := C2.out.size; omega⟩
end Go.Proofs.Ytodnckflobefpaa
