/- Package vector: Compare, Order, Merge, Bump; Vector of the kit. -/
import Derived.Test.YtlmfjalkgapcgaaDoorVcOps
import Derived.Laws.StructEq
namespace Go.Proofs.YtlmfjalkgapcgaaDoor
open Go.RowKit
set_option linter.unusedVariables false

attribute [local go_sem] Oper.semAt_some

set_option maxRecDepth 100000 in
set_option maxHeartbeats 4000000 in
theorem compare_any (w : World) (v v2 : Value) (l o : List Ct) (h : RdG ctE w v l) (h2 : RdG ctE w v2 o) (hn : l.length + o.length ≤ 100000000) :
    Calls Tryd.prog 8 #[v, v2] w fun e w' => e = .returned (.int .i64 (if vld 0 l && vld 0 o then cp l o else 0)) ∧ Nx w w' := by
  have BV := Lib.hid (bothValid_any w v v2 l o h h2 (by omega) (by omega))
  have AG : Hid (∀ W, Nx w W → Calls Tryd.prog 31 #[v, v2] W (Ret fun r w' => RwG p3E w' W.heap.size r (ag l o) ∧ Nx W w')) := fun W hW => against_any W v v2 l o (h.nx hW) (h2.nx hW) hn
  have hal := ag_len l o
  have CP : Hid (cp l o = cpOf ((ag l o).any lessP) ((ag l o).any moreP)) := rfl
  generalize cp l o = r at *
  generalize ag l o = t at *
  generalize (vld 0 l && vld 0 o) = bv at *
  clear h h2
  go_enter Tryd.func8, Tryd.ntmps8
  go_wp2_with fail
  refine BV.out.mono ?_
  rintro e w1 ⟨rfl, hn1⟩
  have N1 := Lib.hid hn1
  clear BV hn1
  cases bv with
  | false =>
    go_wp2
    go_ret
    exact ⟨rfl, N1.out⟩
  | true =>
    go_wp2_with fail
    refine (AG.out w1 N1.out).mono ?_
    rintro e w2 ⟨rv, rfl, hrow, hn2⟩
    obtain ⟨A, c, rfl⟩ := hrow.form
    have HR := Lib.hid hrow.rd
    have N2 := Lib.hid (N1.out.trans hn2)
    have HT : Hid (t.length ≤ 100000000) := by show _ ≤ _; omega
    clear AG hrow hn2 hal hn
    go_wp2
    go_loopw [5, 6, 17] (fun x5 x6 x wr => ∃ (bl bm : Bool) (i : Nat), x5 = .bool bl ∧ x6 = .bool bm ∧ x = .int .i64 i ∧ i ≤ t.length ∧ Hid (Nx w2 wr ∧ (t.take i).any lessP = bl ∧ (t.take i).any moreP = bm)) (fun _ _ x _ => t.length - (intOf x).toNat)
    case atStart => exact ⟨false, false, 0, rfl, rfl, rfl, Nat.zero_le _, Nx.refl _, rfl, rfl⟩
    case round =>
      obtain ⟨bl, bm, i, rfl, rfl, rfl, hi, hh⟩ := hrel
      obtain ⟨hnx, hd, hd2⟩ := hh.out
      have hT := HT.out
      by_cases hlt : i < t.length
      · have e2 : decide ((i : Int) < (t.length : Int)) = true := by simpa using hlt
        have e2b : decide (i < t.length) = true := by simpa using hlt
        have e3 : (0 : Int) ≤ (i : Int) := by omega
        have e4 : (i : Int) < (t.length : Int) := by omega
        obtain ⟨b, o, rfl, x0, x1, x2⟩ := p3_cells (HR.out.nx hnx) i hlt
        have hw : IntKind.i64.wrap ((i : Int) + 1) = ((i + 1 : Nat) : Int) := by rw [IntWalk.i64_in _ (by omega)]; omega
        have s1 : (t.take (i + 1)).any lessP = (bl || decide (t[i].m < t[i].t)) := by rw [List.take_succ_eq_append_getElem hlt, List.any_append, hd]; simp [lessP]
        have s2 : (t.take (i + 1)).any moreP = (bm || decide (t[i].t < t[i].m)) := by rw [List.take_succ_eq_append_getElem hlt, List.any_append, hd2]; simp [moreP]
        have HL := Lib.hid hlt
        generalize t[i] = q at *
        have zb := box_p3 wr q
        obtain ⟨U, hU⟩ : ∃ U, wr.alloc (.cells #[.int .i64 q.d, .int .u64 q.m, .int .u64 q.t] 51) = U := ⟨_, rfl⟩
        have HN : Hid (Nx w2 U) := by rw [← hU]; exact hnx.alloc _
        rw [hU] at zb
        have z1 : U.cell? ⟨wr.heap.size, 1, none⟩ = some (.int .u64 q.m) := by rw [zb.cell]; rfl
        have z2 : U.cell? ⟨wr.heap.size, 2, none⟩ = some (.int .u64 q.t) := by rw [zb.cell]; rfl
        obtain ⟨p1, hp1⟩ : ∃ p, decide (q.m < q.t) = p := ⟨_, rfl⟩
        obtain ⟨p2, hp2⟩ : ∃ p, decide (q.t < q.m) = p := ⟨_, rfl⟩
        have hp1b : decide ((q.m : Int) < (q.t : Int)) = p1 := by rw [← hp1]; simp
        have hp2b : decide ((q.t : Int) < (q.m : Int)) = p2 := by rw [← hp2]; simp
        rw [hp1] at s1
        rw [hp2] at s2
        have S1 := Lib.hid s1
        have S2 := Lib.hid s2
        clear hh hnx hd hd2 s1 s2 zb hlt hT
        cases bl <;> cases bm <;> cases p1 <;> cases p2 <;> (
          go_wp2
          go_roundw
          case rel => exact ⟨_, _, i + 1, rfl, rfl, rfl, HL.out, HN.out, S1.out, S2.out⟩
          case measure => simp only [intOf, Int.toNat_natCast]; have := HL.out; omega)
      · have e2 : decide ((i : Int) < (t.length : Int)) = false := by simpa using hlt
        have e2b : decide (i < t.length) = false := by simpa using hlt
        rw [List.take_of_length_le (by omega)] at hd hd2
        rw [hd, hd2] at CP
        have HF := Lib.hid (N2.out.trans hnx)
        clear hh hnx hd hd2 hT
        cases bl <;> cases bm <;> (
          go_wp2
          go_ret
          exact ⟨by rw [CP.out]; rfl, HF.out⟩)

set_option maxRecDepth 100000 in
theorem order_any (w : World) (v v2 : Value) (l o : List Ct) (h : RdG ctE w v l) (h2 : RdG ctE w v2 o) (k : CtsOk l) (k2 : CtsOk o) (hn : l.length + o.length ≤ 100000000) :
    Calls Tryd.prog 9 #[v, v2] w fun e w' => e = .returned (.int .i64 (if vld 0 l && vld 0 o then od l o else 0)) ∧ Nx w w' := by
  have BV := Lib.hid (bothValid_any w v v2 l o h h2 (by omega) (by omega))
  have C1 : Hid (∀ W, Nx w W → Calls Tryd.prog 32 #[v] W fun e w' => e = .returned (sumV (sm l)) ∧ Nx W w') := fun W hW => sum_any W v l (h.nx hW) k (by omega)
  have C2 : Hid (∀ W, Nx w W → Calls Tryd.prog 32 #[v2] W fun e w' => e = .returned (sumV (sm o)) ∧ Nx W w') := fun W hW => sum_any W v2 o (h2.nx hW) k2 (by omega)
  have C3 : Hid (∀ W, Calls Tryd.prog 33 #[sumV (sm l), sumV (sm o)] W fun e w' => e = .returned (.int .i64 (cmpN (sm l) (sm o))) ∧ Nx W w') := fun W => sumCompare_any W _ _ (by have := sm_bound k; omega) (by have := sm_bound k2; omega)
  have C4 : Hid (∀ W, Nx w W → Calls Tryd.prog 34 #[v, v2] W fun e w' => e = .returned (.int .i64 (dfl (ag l o))) ∧ Nx W w') := fun W hW => difference_any W v v2 l o (h.nx hW) (h2.nx hW) hn
  have E : Hid (od l o = if cmpN (sm l) (sm o) ≠ 0 then cmpN (sm l) (sm o) else dfl (ag l o)) := rfl
  generalize od l o = r at *
  generalize dfl (ag l o) = r2 at *
  generalize cmpN (sm l) (sm o) = r1 at *
  generalize sumV (sm l) = s1 at *
  generalize sumV (sm o) = s2 at *
  generalize (vld 0 l && vld 0 o) = bv at *
  clear h h2 k k2
  go_enter Tryd.func9, Tryd.ntmps9
  go_wp2_with fail
  refine BV.out.mono ?_
  rintro e w1 ⟨rfl, hn1⟩
  have N1 := Lib.hid hn1
  clear BV hn1
  cases bv with
  | false =>
    go_wp2
    go_ret
    exact ⟨rfl, N1.out⟩
  | true =>
    go_wp2_with fail
    refine (C1.out w1 N1.out).mono ?_
    rintro e w2 ⟨rfl, hn2⟩
    have N2 := Lib.hid (N1.out.trans hn2)
    clear hn2
    go_wp2_with fail
    refine (C2.out w2 N2.out).mono ?_
    rintro e w3 ⟨rfl, hn3⟩
    have N3 := Lib.hid (N2.out.trans hn3)
    clear hn3
    go_wp2_with fail
    refine (C3.out w3).mono ?_
    rintro e w4 ⟨rfl, hn4⟩
    have N4 := Lib.hid (N3.out.trans hn4)
    clear hn4
    cases z : (r1 == 0) with
    | true =>
      have HE : Hid (r = r2) := by have := E.out; rw [if_neg (by simpa using z)] at this; exact this
      clear E
      go_wp2_with fail
      refine (C4.out w4 N4.out).mono ?_
      rintro e w5 ⟨rfl, hn5⟩
      have N5 := Lib.hid (N4.out.trans hn5)
      clear hn5
      go_wp2
      go_ret
      exact ⟨by rw [HE.out]; rfl, N5.out⟩
    | false =>
      have HE : Hid (r = r1) := by have := E.out; rw [if_pos (by simpa using z)] at this; exact this
      clear E
      go_wp2
      go_ret
      exact ⟨by rw [HE.out]; rfl, N4.out⟩

/-- What a function of two results returned. -/
def Ret2 (P : Value → Int → World → Prop) (e : Ending) (w' : World) : Prop := ∃ v n, e = .returned (.tuple #[v, .int .i64 n]) ∧ P v n w'
/-- What Bump returns. -/
def BumpR (B : Nat) (l : List Ct) (d : Int) (r : Value) (n : Int) (w : World) : Prop :=
  if vld 0 l && devB d then (if vl l d = 18446744073709551615 then r = .slice none 0 0 ∧ n = 3 else RwG ctE w B r (bmp l d) ∧ n = 0) else r = .slice none 0 0 ∧ n = 2
set_option maxRecDepth 100000 in
theorem bump_any (w : World) (v : Value) (l : List Ct) (d : Int) (h : RdG ctE w v l) (k : CtsOk l) (hn : l.length ≤ 10000000) :
    Calls Tryd.prog 6 #[v, .int .i64 d] w (Ret2 fun r n w' => BumpR w.heap.size l d r n w' ∧ Nx w w') := by
  have CH := Lib.hid (check_any w v l h (by omega))
  have CD := Lib.hid (fun W => isDevice_any W d)
  have CV : Hid (∀ W, Nx w W → Calls Tryd.prog 28 #[v, .int .i64 d] W fun e w' => e = .returned (.int .u64 (vl l d)) ∧ Nx W w') := fun W hW => value_any W v l d (h.nx hW) (by omega)
  have hvl : vl l d < 18446744073709551616 := vl_small (fun c hc => by have := (k c hc).2.2; omega) (by omega)
  have CM : Hid (∀ W (m : Nat), m = vl l d + 1 → Nx w W → Calls Tryd.prog 29 #[v, .slice (some ⟨W.heap.size, 0, none⟩) 1 1] (W.alloc (.cells #[.int .i64 d, .int .u64 m] 29)) (Ret fun r w' => RwG ctE w' (W.alloc (.cells #[.int .i64 d, .int .u64 m] 29)).heap.size r (bmp l d) ∧ Nx (W.alloc (.cells #[.int .i64 d, .int .u64 m] 29)) w')) := fun W m hm hW => by
    subst hm
    exact merged_any _ v _ l [⟨d, vl l d + 1⟩] (h.nx (hW.alloc _)) (rd_lit (E := ctE) W ⟨d, vl l d + 1⟩ rfl) (by simp; omega)
  have E : Hid (∀ r n w2, BumpR w.heap.size l d r n w2 ↔ if vld 0 l && devB d then (if vl l d = 18446744073709551615 then r = .slice none 0 0 ∧ n = 3 else RwG ctE w2 w.heap.size r (bmp l d) ∧ n = 0) else r = .slice none 0 0 ∧ n = 2) := fun _ _ _ => Iff.rfl
  generalize BumpR w.heap.size l d = R at *
  generalize vl l d = x at *
  generalize vld 0 l = b1 at *
  generalize devB d = b2 at *
  clear h k
  go_enter Tryd.func6, Tryd.ntmps6
  go_wp2_with fail
  refine CH.out.mono ?_
  rintro e w1 ⟨rfl, hn1⟩
  have N1 := Lib.hid hn1
  clear CH hn1
  cases b1 with
  | false =>
    go_wp2
    go_ret2
    exact ⟨_, _, rfl, (E.out _ _ _).2 ⟨rfl, rfl⟩, N1.out⟩
  | true =>
    go_wp2_with fail
    refine (CD.out w1).mono ?_
    rintro e w2 ⟨rfl, hn2⟩
    have N2 := Lib.hid (N1.out.trans hn2)
    clear CD hn2
    cases b2 with
    | false =>
      go_wp2
      go_ret2
      exact ⟨_, _, rfl, (E.out _ _ _).2 ⟨rfl, rfl⟩, N2.out⟩
    | true =>
      go_wp2_with fail
      refine (CV.out w2 N2.out).mono ?_
      rintro e w3 ⟨rfl, hn3⟩
      have N3 := Lib.hid (N2.out.trans hn3)
      clear CV hn3
      cases z : ((x : Int) == 18446744073709551615) with
      | true =>
        have hx : x = 18446744073709551615 := by simp at z; omega
        have FIN : Hid (∀ w', R (.slice none 0 0) 3 w') := fun w' => (E.out _ _ _).2 (by rw [if_pos (by rfl), if_pos hx]; exact ⟨rfl, rfl⟩)
        clear E hx
        go_wp2
        go_ret2
        exact ⟨_, _, rfl, FIN.out _, N3.out⟩
      | false =>
        have hx : x ≠ 18446744073709551615 := by simp at z; omega
        have hw : IntKind.u64.wrap ((x : Int) + 1) = ((x + 1 : Nat) : Int) := by rw [IntWalk.u64_in _ (by omega)]; omega
        obtain ⟨m, hm⟩ : ∃ m : Nat, x + 1 = m := ⟨_, rfl⟩
        rw [hm] at hw
        have CM1 := Lib.hid (CM.out w3 m hm.symm N3.out)
        have N4 : Hid (Nx w (w3.alloc (.cells #[.int .i64 d, .int .u64 m] 29))) := N3.out.alloc _
        have FIN : Hid (∀ r w', RwG ctE w' w.heap.size r (bmp l d) → R r 0 w') := fun r w' hr => (E.out _ _ _).2 (by rw [if_pos (by rfl), if_neg hx]; exact ⟨hr, rfl⟩)
        clear E hx CM hm hvl
        go_wp2_with fail
        refine CM1.out.mono ?_
        rintro e w5 ⟨r, rfl, hr, hn5⟩
        have F5 := Lib.hid (FIN.out r w5 (hr.more N4.out.size))
        have N5 := Lib.hid (N4.out.trans hn5)
        clear hr hn5 CM1
        go_wp2
        go_ret2
        exact ⟨_, _, rfl, F5.out, N5.out⟩

/-- A slice of slices of counts. -/
def SlS (w : World) (v : Value) (ls : List (List Ct)) : Prop := ∃ b o c, v = .slice (some ⟨b, o, none⟩) ls.length c ∧ ∀ i (h : i < ls.length), ∃ x, w.cell? ⟨b, o + i, none⟩ = some x ∧ RdG ctE w x ls[i]
def mgs (ls : List (List Ct)) : List Ct := ls.foldl mg []
def MergeR (B : Nat) (ls : List (List Ct)) (r : Value) (n : Int) (w : World) : Prop := if ls.all (vld 0) then RwG ctE w B r (mgs ls) ∧ n = 0 else r = .slice none 0 0 ∧ n = 2
theorem mgs_vld {ls : List (List Ct)} (h : ∀ l ∈ ls, vld 0 l = true) : vld 0 (mgs ls) = true := by
  have : ∀ (ls : List (List Ct)) (a : List Ct), vld 0 a = true → (∀ l ∈ ls, vld 0 l = true) → vld 0 (ls.foldl mg a) = true := by
    intro ls
    induction ls with
    | nil => intro a ha _; exact ha
    | cons l ls ih => intro a ha h; exact ih _ (mg_vld ha (h l (by simp))) fun x hx => h x (by simp [hx])
  exact this ls [] rfl h
theorem mgs_take {ls : List (List Ct)} {i : Nat} (h : i < ls.length) : mgs (ls.take (i + 1)) = mg (mgs (ls.take i)) ls[i] := by
  unfold mgs; rw [List.take_succ_eq_append_getElem h, List.foldl_append]; rfl
set_option maxRecDepth 100000 in
set_option maxHeartbeats 1000000 in
theorem merge_any (w : World) (v : Value) (ls : List (List Ct)) (h : SlS w v ls) (hl : ls.length ≤ 1000) (hn : ∀ l ∈ ls, l.length ≤ 9223372036854775807) :
    Calls Tryd.prog 13 #[v] w (Ret2 fun r n w' => MergeR w.heap.size ls r n w' ∧ Nx w w') := by
  obtain ⟨b, o, c, rfl, hc⟩ := h
  have HC := Lib.hid hc
  have HN := Lib.hid hn
  clear hc hn
  go_enter Tryd.func13, Tryd.ntmps13
  go_wp2
  go_loopw [4, 10] (fun x4 x wr => ∃ (i : Nat) (A n c : _), x4 = .slice A n c ∧ x = .int .i64 i ∧ i ≤ ls.length ∧ Hid (Nx w wr ∧ (∀ l ∈ ls.take i, vld 0 l = true) ∧ RwG ctE wr w.heap.size (.slice A n c) (mgs (ls.take i)))) (fun _ x _ => ls.length - (intOf x).toNat)
  case atStart => exact ⟨0, _, _, _, rfl, rfl, Nat.zero_le _, Nx.refl _, (fun l hl => by simp at hl), RwG.nil _ _⟩
  case round =>
    obtain ⟨i, A5, n5, c5, rfl, rfl, hi, hh⟩ := hrel
    obtain ⟨hnx, hv, hd⟩ := hh.out
    by_cases hlt : i < ls.length
    · have e2 : decide ((i : Int) < (ls.length : Int)) = true := by simpa using hlt
      have e2b : decide (i < ls.length) = true := by simpa using hlt
      have e3 : (0 : Int) ≤ (i : Int) := by omega
      have e4 : (i : Int) < (ls.length : Int) := by omega
      obtain ⟨x, x0, hx⟩ := HC.out i hlt
      have x0 : wr.cell? ⟨b, o + i, none⟩ = some x := by rw [World.cell?_of_block (hnx.block b (World.block_lt_of_cell? w ⟨b, o + i, none⟩ x0))]; exact x0
      have hw : IntKind.i64.wrap ((i : Int) + 1) = ((i + 1 : Nat) : Int) := by rw [IntWalk.i64_in _ (by omega)]; omega
      have hlen := HN.out ls[i] (List.getElem_mem hlt)
      have hmem : ls[i] ∈ ls := List.getElem_mem hlt
      have hsn := mgs_take hlt
      have htk : ∀ l ∈ ls.take (i + 1), l ∈ ls.take i ∨ l = ls[i] := fun l hl => by
        rw [List.take_succ_eq_append_getElem hlt] at hl
        exact (List.mem_append.1 hl).imp id fun e => by simpa using e
      have HL := Lib.hid hlt
      generalize ls[i] = q at *
      obtain ⟨xA, xc, rfl⟩ := hx.form
      have CH := Lib.hid (check_any wr _ q (hx.nx hnx) hlen)
      cases hq : vld 0 q with
      | false =>
        rw [hq] at CH
        have FIN : Hid (∀ w', MergeR w.heap.size ls (.slice none 0 0) 2 w') := fun w' => by
          unfold MergeR
          rw [if_neg]
          · exact ⟨rfl, rfl⟩
          · intro e
            rw [List.all_eq_true.1 e q hmem] at hq
            cases hq
        have N1 := Lib.hid hnx
        clear hh hnx hv hd hx hmem hsn htk hq hlt
        go_wp2_with fail
        refine CH.out.mono ?_
        rintro e w2 ⟨rfl, hn2⟩
        have N2 := Lib.hid (N1.out.trans hn2)
        clear CH hn2
        go_wp2
        go_ret2
        exact ⟨_, _, rfl, FIN.out _, N2.out⟩
      | true =>
        rw [hq] at CH
        have hva : ∀ l ∈ ls.take (i + 1), vld 0 l = true := fun l hl => (htk l hl).elim (hv l) fun e => by rw [e]; exact hq
        have CM : Hid (∀ W, Nx wr W → Calls Tryd.prog 29 #[.slice A5 n5 c5, .slice xA q.length xc] W (Ret fun r w' => RwG ctE w' W.heap.size r (mgs (ls.take (i + 1))) ∧ Nx W w')) := fun W hW => by
          rw [hsn]
          exact merged_any W _ _ _ q ((hd.nx hW).rd) ((hx.nx hnx).nx hW) (by have := vld_len16 hq; have := vld_len16 (mgs_vld hv); omega)
        have N1 := Lib.hid hnx
        have VA := Lib.hid hva
        clear hh hnx hv hd hx hmem hsn htk hq hlt hva
        go_wp2_with fail
        refine CH.out.mono ?_
        rintro e w2 ⟨rfl, hn2⟩
        have N2 := Lib.hid (N1.out.trans hn2)
        have CM2 := Lib.hid (CM.out w2 hn2)
        clear CH hn2 CM
        go_wp2_with fail
        refine CM2.out.mono ?_
        rintro e w3 ⟨r, rfl, hr, hn3⟩
        obtain ⟨rA, rc, rfl⟩ := hr.form
        have HR : Hid (RwG ctE w3 w.heap.size (.slice rA (mgs (ls.take (i + 1))).length rc) (mgs (ls.take (i + 1)))) := hr.more N2.out.size
        have N3 := Lib.hid (N2.out.trans hn3)
        clear CM2 hr hn3
        generalize (mgs (ls.take (i + 1))).length = rn at *
        go_wp2
        go_roundw
        case rel => exact ⟨i + 1, _, _, _, rfl, rfl, HL.out, N3.out, VA.out, HR.out⟩
        case measure => simp only [intOf, Int.toNat_natCast]; have := HL.out; omega
    · have e2 : decide ((i : Int) < (ls.length : Int)) = false := by simpa using hlt
      have e2b : decide (i < ls.length) = false := by simpa using hlt
      rw [List.take_of_length_le (by omega)] at hd hv
      have FIN : Hid (MergeR w.heap.size ls (.slice A5 n5 c5) 0 wr) := by
        show MergeR _ _ _ _ _
        unfold MergeR
        rw [if_pos (List.all_eq_true.2 hv)]
        exact ⟨hd, rfl⟩
      have HF := Lib.hid hnx
      clear hh hnx hd hv
      go_wp2
      go_ret2
      exact ⟨_, _, rfl, FIN.out, HF.out⟩
end Go.Proofs.YtlmfjalkgapcgaaDoor
