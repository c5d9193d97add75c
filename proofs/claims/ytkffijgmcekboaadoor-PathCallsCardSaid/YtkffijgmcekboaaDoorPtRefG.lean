/- The reference: Copied tries each device, number and way to leave them out. -/
import Derived.Test.YtkffijgmcekboaaDoorPtRefF
namespace Go.Proofs.YtkffijgmcekboaaDoor
open Go.RowKit
open Go.Lib (decDigits)
set_option linter.unusedVariables false

/-- At i a mark of d and n begins and ends at e, and without it the text is what was copied. -/
def Hit (s : List UInt8) (i d e n : Nat) : Prop := isCopy s (s.take i ++ s.drop e) (d : Int) (n : Int) ∧ (s.drop i).take (e - i) = mark d n ∧ i ≤ e ∧ e ≤ s.length
def xd (d : Nat) : List UInt8 := 46 :: 99 :: (decDigits d ++ [45])
theorem mark_x (d n : Nat) : mark d n = xd d ++ decDigits n := by simp [mark, xd]
theorem xd_len (d : Nat) : 4 ≤ (xd d).length := by
  have := List.length_pos_iff.2 (dec_ne_nil d)
  simp [xd]
  omega
theorem xd_len6 {d : Nat} (h : d < 1000) : (xd d).length ≤ 6 := by
  have := dec_len3 h
  simp [xd]
  omega
theorem dec_pos (n : Nat) : 1 ≤ (decDigits n).length := List.length_pos_iff.2 (dec_ne_nil n)
theorem hit_len {s : List UInt8} {i d e n : Nat} (h : Hit s i d e n) : e - i = (xd d).length + (decDigits n).length := by
  have h1 := congrArg List.length h.2.1
  rw [mark_x, List.length_append, List.length_take, List.length_drop] at h1
  have := h.2.2
  omega
theorem hit_range {s : List UInt8} {i d e n : Nat} (h : Hit s i d e n) : 1 ≤ d ∧ d ≤ 99 ∧ n ≤ 999 := by
  have := (copied_of_copy h.1).2.2
  unfold inRange at this
  omega
theorem hit_x {s : List UInt8} {i d e n : Nat} (h : Hit s i d e n) : (xd d).length ≤ s.length - i ∧ (s.drop i).take (xd d).length = xd d := by
  have hl := hit_len h
  have h2 := h.2.2
  refine ⟨by omega, ?_⟩
  have h1 := congrArg (fun l => l.take (xd d).length) h.2.1
  simp only [mark_x, List.take_take] at h1
  rw [Nat.min_eq_left (by omega), List.take_left] at h1
  exact h1
theorem hit_c {s : List UInt8} {i d e n : Nat} (h : Hit s i d e n) : (s.drop i).take 2 = [46, 99] := by
  have h1 := congrArg (fun l => l.take 2) (hit_x h).2
  simp only [List.take_take] at h1
  rw [Nat.min_eq_left (by have := xd_len d; omega)] at h1
  exact h1
theorem hit_num {s : List UInt8} {i d e n : Nat} (h : Hit s i d e n) : (s.drop (i + (xd d).length)).take (e - (i + (xd d).length)) = decDigits n := by
  have h1 := congrArg (fun l => l.drop (xd d).length) h.2.1
  simp only [mark_x] at h1
  rw [List.drop_left, List.drop_take, List.drop_drop] at h1
  rw [show e - (i + (xd d).length) = e - i - (xd d).length by omega]
  exact h1
def NoI (s : List UInt8) (i : Nat) : Prop := ∀ i', i' < i → ∀ d e n, ¬ Hit s i' d e n
def NoD (s : List UInt8) (i d : Nat) : Prop := ∀ d', d' < d → ∀ e n, ¬ Hit s i d' e n
def NoE (s : List UInt8) (i d e : Nat) : Prop := ∀ e', e' < e → ∀ n, ¬ Hit s i d e' n
theorem noI_next {s : List UInt8} {i : Nat} (h : NoI s i) (h2 : ∀ d e n, ¬ Hit s i d e n) : NoI s (i + 1) := fun i' hi d e n => by
  by_cases e1 : i' = i
  · rw [e1]; exact h2 d e n
  · exact h i' (by omega) d e n
theorem noD_next {s : List UInt8} {i d : Nat} (h : NoD s i d) (h2 : ∀ e n, ¬ Hit s i d e n) : NoD s i (d + 1) := fun d' hd e n => by
  by_cases e1 : d' = d
  · rw [e1]; exact h2 e n
  · exact h d' (by omega) e n
theorem noE_next {s : List UInt8} {i d e : Nat} (h : NoE s i d e) (h2 : ∀ n, ¬ Hit s i d e n) : NoE s i d (e + 1) := fun e' he n => by
  by_cases e1 : e' = e
  · rw [e1]; exact h2 n
  · exact h e' (by omega) n
theorem noD_start (s : List UInt8) (i : Nat) : NoD s i 1 := fun d' hd e n h => by have := hit_range h; omega
theorem noE_start (s : List UInt8) (i d : Nat) : NoE s i d (i + (xd d).length + 1) := fun e' he n h => by
  have h1 := hit_len h
  have h2 := dec_pos n
  omega
theorem noD_end {s : List UInt8} {i : Nat} (h : NoD s i 100) : ∀ d e n, ¬ Hit s i d e n := fun d e n hh => h d (by have := hit_range hh; omega) e n hh
theorem noE_end {s : List UInt8} {i d e : Nat} (h : NoE s i d e) (he : min s.length (i + (xd d).length + 3) < e) : ∀ e' n, ¬ Hit s i d e' n := fun e' n hh => by
  refine h e' ?_ n hh
  have h1 := hit_len hh
  have h2 := dec_len3 (n := n) (by have := hit_range hh; omega)
  have h3 := hh.2.2
  omega
theorem noI_end {s : List UInt8} {i : Nat} (h : NoI s i) (hi : s.length < i + 4) : ∀ i' d e n, ¬ Hit s i' d e n := fun i' d e n hh => by
  refine h i' ?_ d e n hh
  have h1 := hit_len hh
  have h2 := xd_len d
  have h3 := hh.2.2
  have h4 := dec_pos n
  omega
theorem hit_of_copy {s p : List UInt8} {d n : Int} (h : isCopy s p d n) : ∃ i e, Hit s i d.toNat e n.toNat := by
  obtain ⟨h1, h2, h3, h4⟩ := copyR_ok.1 h
  have hd : ((d.toNat : Nat) : Int) = d := by unfold inRange at h2; omega
  have hn : ((n.toNat : Nat) : Int) = n := by unfold inRange at h2; omega
  generalize d.toNat = dn at *
  generalize n.toNat = nn at *
  obtain ⟨A, hA1, hA2⟩ : ∃ A, s = A ++ (mark dn nn ++ ending (base p)) ∧ p = A ++ ending (base p) := by
    have hw := (path_parts h1).whole
    unfold copyS joined at h4
    unfold joined at hw
    by_cases hf : folder p = []
    · rw [if_pos hf] at h4 hw
      refine ⟨stem (base p), by rw [h4]; simp, ?_⟩
      rw [stem_ending]
      exact hw
    · rw [if_neg hf] at h4 hw
      refine ⟨folder p ++ 47 :: stem (base p), by rw [h4]; simp, ?_⟩
      rw [List.append_assoc, List.cons_append, stem_ending]
      exact hw
  generalize ending (base p) = E at *
  refine ⟨A.length, A.length + (mark dn nn).length, ?_, ?_, by omega, by rw [hA1]; simp⟩
  · have e1 : s.take A.length = A := by rw [hA1]; simp
    have e2 : s.drop (A.length + (mark dn nn).length) = E := by
      rw [hA1, ← List.append_assoc, ← List.length_append, List.drop_left]
    rw [e1, e2, ← hA2, hd, hn]
    exact h
  · rw [hA1, List.drop_left, show A.length + (mark dn nn).length - A.length = (mark dn nn).length by omega, List.take_left]
theorem no_copy {s : List UInt8} (h : ∀ i d e n, ¬ Hit s i d e n) (p : List UInt8) (d n : Int) : ¬ isCopy s p d n := fun hc => by
  obtain ⟨i, e, hh⟩ := hit_of_copy hc
  exact h i _ e _ hh

def CRet (s : List UInt8) (e : Ending) : Prop := ∃ P D N ok, e = .returned (.tuple #[.string (S P), .int .i64 D, .int .i64 N, .bool ok]) ∧ CopiedIs s P D N ok
theorem cret_none {s : List UInt8} (h : ∀ p d n, ¬ isCopy s p d n) : CRet s (.returned (.tuple #[.string ⟨#[]⟩, .int .i64 0, .int .i64 0, .bool false])) := ⟨[], 0, 0, false, rfl, .inr ⟨h, rfl, rfl, rfl, rfl⟩⟩

set_option maxRecDepth 100000 in
set_option maxHeartbeats 8000000 in
theorem rcopied_any (w : World) (l : List UInt8) :
    Calls Tryd.prog 19 #[.string (S l)] w fun e w' => CRet l e ∧ Nx w w' := by
  have X := Lib.hid (rcheck_any w l)
  have hsz := S_size l
  cases hp : isPath l with
  | false =>
    have hb := chk_bne hp
    have HR := Lib.hid (cret_none (s := l) fun p d n h => by
      rw [(copied_of_copy h).1] at hp
      exact absurd hp (by decide))
    clear hp
    generalize chk l = v at *
    generalize S l = s at *
    go_enter Tryd.func19, Tryd.ntmps19
    go_wp2_with fail
    refine X.out.mono ?_
    rintro e w1 ⟨rfl, hb1⟩
    have H1 := Lib.hid hb1
    clear hb1 X
    go_wp2
    refine bodyPost_ret (results_tmp4 rfl _ _ _) rfl ?_
    exact ⟨HR.out, H1.out⟩
  | true =>
    have hl := (path_parts hp).len
    rw [chk_zero.2 hp] at X
    have Hsl := Lib.hid (fun a b => S_extract l a b)
    have Htl := Lib.hid (S_toList l)
    have Hnone : Hid (∀ i, NoI l i → l.length < i + 4 → CRet l (.returned (.tuple #[.string ⟨#[]⟩, .int .i64 0, .int .i64 0, .bool false]))) := fun i h hi => cret_none (no_copy (noI_end h hi))
    clear hp
    generalize hs : S l = s at *
    have Hs := Lib.hid hs
    clear hs
    generalize hn : l.length = m at *
    have Hn := Lib.hid hn
    clear hn
    go_enter Tryd.func19, Tryd.ntmps19
    go_wp2_with fail
    refine X.out.mono ?_
    rintro e w1 ⟨rfl, hb1⟩
    have H1 := Lib.hid hb1
    clear hb1 X
    go_wp2
    go_loopw [6] (fun x wr => ∃ i : Nat, x = .int .i64 i ∧ i ≤ m ∧ Nx w wr ∧ Hid (NoI l i)) (fun x _ => m + 1 - (intOf x).toNat)
    case atStart => exact ⟨0, rfl, Nat.zero_le _, H1.out, fun i' hi => absurd hi (by omega)⟩
    case round =>
      obtain ⟨i, rfl, hi, hnx, hno⟩ := hrel
      have HX := Lib.hid hnx
      clear hnx H1
      by_cases hlt : i + 4 ≤ m
      · have x1 := Hsl.out i (i + 2)
        rw [show i + 2 - i = 2 by omega] at x1
        have tq := S_toList ((l.drop i).take 2)
        have i1 : (i : Int) + 4 ≤ (m : Int) := by omega
        by_cases hc : (l.drop i).take 2 = [46, 99]
        · rw [hc] at x1 tq
          have e2 : S [46, 99] = ⟨#[46, 99]⟩ := rfl
          rw [e2] at x1
          clear hc tq e2
          go_wp2
          clear x1
          go_loopw [7] (fun x wr2 => ∃ d : Nat, x = .int .i64 d ∧ 1 ≤ d ∧ d ≤ 100 ∧ Nx w wr2 ∧ Hid (NoD l i d)) (fun x _ => 101 - (intOf x).toNat)
          case atStart => exact ⟨1, rfl, by omega, by omega, HX.out, noD_start l i⟩
          case round =>
            obtain ⟨d, rfl, hd1, hd2, hnx, hnod⟩ := hrel
            have HX2 := Lib.hid hnx
            clear hnx HX
            by_cases hd : d ≤ 99
            · have DG := Lib.hid (fun W => rdigits_any W d (by omega))
              have hx : (⟨#[46, 99]⟩ : ByteArray) ++ S (decDigits d) ++ ⟨#[45]⟩ = S (xd d) := by
                have h1 : (⟨#[46, 99]⟩ : ByteArray) = S [46, 99] := rfl
                have h2 : (⟨#[45]⟩ : ByteArray) = S [45] := rfl
                rw [h1, h2, S_append, S_append]
                unfold xd
                simp
              have hxs := S_size (xd d)
              have hxt := S_toList (xd d)
              have hx4 := xd_len d
              have hx6 := xd_len6 (d := d) (by omega)
              have y1 : (S (decDigits d)).size ≤ 3 := by rw [S_size]; exact dec_len3 (by omega)
              have hskip : (m - i < (xd d).length ∨ ((xd d).length ≤ m - i ∧ (l.drop i).take (xd d).length ≠ xd d)) → NoD l i (d + 1) := fun h => noD_next hnod.out fun e n hh => by
                have hq := hit_x hh
                rw [Hn.out] at hq
                rcases h with h | h
                · omega
                · exact h.2 hq.2
              have x2 := Hsl.out i (i + (xd d).length)
              rw [show i + (xd d).length - i = (xd d).length by omega] at x2
              have hstart := noE_start l i d
              have hnum : ∀ e n, Hit l i d e n → (l.drop (i + (xd d).length)).take (e - (i + (xd d).length)) = decDigits n := fun e n hh => hit_num hh
              have hend : ∀ e, NoE l i d e → min m (i + (xd d).length + 3) < e → NoD l i (d + 1) := fun e h he => noD_next hnod.out (noE_end h (by rw [Hn.out]; exact he))
              have Hskip := Lib.hid hskip
              have Hstart := Lib.hid hstart
              have Hnum := Lib.hid hnum
              have Hend := Lib.hid hend
              clear hskip hstart hnum hend hnod
              generalize hxd : xd d = x at *
              clear hxd
              generalize hK : x.length = K at *
              generalize S (decDigits d) = sd at *
              generalize hsx : S x = sx at *
              have j1 : (d : Int) ≤ 99 := by omega
              by_cases g1 : m - i < K
              · have HD := Lib.hid (Hskip.out (.inl g1))
                have j2 : (m : Int) - (i : Int) < (K : Int) := by omega
                clear Hskip Hstart Hnum Hend hK
                go_wp2_with fail
                refine (DG.out _).mono ?_
                rintro e w2 ⟨rfl, hb1⟩
                have H2 := Lib.hid (Nx.trans HX2.out hb1)
                clear hb1 DG HX2
                go_wp2
                go_roundw
                case rel => exact ⟨d + 1, by go_num, by omega, by omega, H2.out, HD.out⟩
                case measure => simp [intOf]; omega
              · have j2 : ¬ (m : Int) - (i : Int) < (K : Int) := by omega
                have j3 : (i : Int) + (K : Int) ≤ (m : Int) := by omega
                by_cases g2 : (l.drop i).take K = x
                · rw [g2, hsx] at x2
                  have i2 : ((i + K : Nat) : Int) = (i : Int) + (K : Int) := by omega
                  clear Hskip g2
                  go_wp2_with fail
                  refine (DG.out _).mono ?_
                  rintro e w2 ⟨rfl, hb1⟩
                  have H2 := Lib.hid (Nx.trans HX2.out hb1)
                  clear hb1 DG HX2
                  go_wp2
                  clear x2 hx
                  go_loopw [9] (fun y wr3 => ∃ e : Nat, y = .int .i64 e ∧ i + K + 1 ≤ e ∧ e ≤ m + 1 ∧ Nx w wr3 ∧ Hid (NoE l i d e)) (fun y _ => m + 2 - (intOf y).toNat)
                  case atStart => exact ⟨i + K + 1, by go_num, by omega, by omega, H2.out, Hstart.out⟩
                  case round =>
                    obtain ⟨e, rfl, he1, he2, hnx, hnoe⟩ := hrel
                    have HX3 := Lib.hid hnx
                    clear hnx H2
                    by_cases he : e ≤ min m (i + K + 3)
                    · have x3 := Hsl.out (i + K) e
                      have hq3 : ((l.drop (i + K)).take (e - (i + K))).length = e - (i + K) := by rw [List.length_take, List.length_drop, Hn.out]; omega
                      have hnum := Hnum.out e
                      have NU := Lib.hid (fun W => rnumber_any W ((l.drop (i + K)).take (e - (i + K))) (by omega) (by omega))
                      have x4 := Hsl.out 0 i
                      rw [List.drop_zero, Nat.sub_zero] at x4
                      have x5 := Hsl.out e m
                      rw [List.take_of_length_le (by rw [List.length_drop, Hn.out]; omega)] at x5
                      have x6 := S_append (l.take i) (l.drop e)
                      have y4 : (S (l.take i)).size ≤ 64 := by rw [S_size, List.length_take]; omega
                      have y5 : (S (l.drop e)).size ≤ 64 := by rw [S_size, List.length_drop, Hn.out]; omega
                      have k1 : (e : Int) ≤ (m : Int) := by omega
                      have k2 : (e : Int) ≤ (i : Int) + (K : Int) + 3 := by omega
                      have k3 : (i : Int) + (K : Int) ≤ (e : Int) := by omega
                      have CP := fun W n0 => rcopy_any W (l.take i ++ l.drop e) (d : Int) n0
                      have hcase := fun n0 => copyR_cases (l.take i ++ l.drop e) (d : Int) n0
                      have hhit : ∀ n : Nat, Hit l i d e n → isCopy l (l.take i ++ l.drop e) (d : Int) (n : Int) := fun n hh => hh.1
                      have hnxt : (∀ n, ¬ Hit l i d e n) → NoE l i d (e + 1) := fun h => noE_next hnoe.out h
                      have Hhit := Lib.hid hhit
                      have Hnxt := Lib.hid hnxt
                      have Hnum2 := Lib.hid hnum
                      have hpp : l.take i ++ l.drop e = l.take i ++ l.drop e := rfl
                      clear hhit hnxt hnum hnoe hq3
                      generalize (l.drop (i + K)).take (e - (i + K)) = q3 at *
                      generalize l.take i ++ l.drop e = p at *
                      generalize S (l.take i) = sa at *
                      generalize S (l.drop e) = sb at *
                      generalize S q3 = sq at *
                      go_wp2_with fail
                      refine (NU.out _).mono ?_
                      rintro e9 w3 ⟨⟨r, t, rfl, hrn⟩, hb1⟩
                      have H3 := Lib.hid (Nx.trans HX3.out hb1)
                      clear hb1 NU HX3
                      rcases hrn with ⟨n0, hn0, hdec, rfl, rfl⟩ | ⟨hdec, rfl⟩
                      · have CP1 := Lib.hid (fun W => CP W (n0 : Int))
                        have hun : ∀ n, Hit l i d e n → n = n0 := fun n hh => dec_inj ((Hnum2.out n hh).symm.trans hdec)
                        have Hun := Lib.hid hun
                        clear hun CP hdec
                        rcases hcase (n0 : Int) with ⟨er, hc1, hc2⟩ | ⟨c, hc1, hc2⟩
                        · have hno2 := Hnxt.out (fun n hh => by
                            have e1 := Hun.out n hh
                            subst e1
                            have := Hhit.out n hh
                            unfold isCopy at this
                            rw [hc1] at this
                            injection this with _ h
                            rcases hc2 with h2 | h2 <;> rw [h2] at h <;> exact absurd h (by decide))
                          have Hno2 := Lib.hid hno2
                          have CP2 : Hid (∀ W, Calls Tryd.prog 18 #[.string (S p), .int .i64 (d : Int), .int .i64 (n0 : Int)] W fun e w' => e = .returned (.tuple #[.string ⟨#[]⟩, .int .i64 er]) ∧ Nx W w') := fun W => by
                            have := CP1.out W
                            rw [hc1] at this
                            exact this
                          have c3 : (er == 0) = false := by rcases hc2 with h | h <;> rw [h] <;> rfl
                          clear hno2 hc1 hc2 CP1 hcase Hun Hhit Hnxt
                          generalize S p = sp at *
                          go_wp2_with fail
                          go_quiet (fail)
                          go_wp2_with fail
                          refine (CP2.out _).mono ?_
                          rintro e9 w4 ⟨rfl, hb1⟩
                          have H4 := Lib.hid (Nx.trans (H3.out.drewN _) hb1)
                          clear hb1 CP2 H3
                          go_wp2
                          go_roundw
                          case rel => exact ⟨e + 1, by go_num, by omega, by omega, H4.out, Hno2.out⟩
                          case measure => simp [intOf]; omega
                        · have CP2 : Hid (∀ W, Calls Tryd.prog 18 #[.string (S p), .int .i64 (d : Int), .int .i64 (n0 : Int)] W fun e w' => e = .returned (.tuple #[.string (S c), .int .i64 0]) ∧ Nx W w') := fun W => by
                            have := CP1.out W
                            rw [hc1] at this
                            exact this
                          by_cases hcl : c = l
                          · have HR : Hid (CRet l (.returned (.tuple #[.string (S p), .int .i64 (d : Int), .int .i64 (n0 : Int), .bool true]))) := by
                              refine ⟨p, (d : Int), (n0 : Int), true, rfl, .inl ⟨?_, rfl⟩⟩
                              rw [hcl] at hc2
                              exact hc2
                            rw [hcl, Hs.out] at CP2
                            clear hc1 hc2 CP1 hcase Hun Hhit Hnxt hcl
                            generalize S p = sp at *
                            go_wp2_with fail
                            go_quiet (fail)
                            go_wp2_with fail
                            refine (CP2.out _).mono ?_
                            rintro e9 w4 ⟨rfl, hb1⟩
                            have H4 := Lib.hid (Nx.trans (H3.out.drewN _) hb1)
                            clear hb1 CP2 H3
                            go_wp2
                            refine bodyPost_ret (results_tmp4 rfl _ _ _) rfl ?_
                            exact ⟨HR.out, H4.out⟩
                          · have hno2 := Hnxt.out (fun n hh => by
                              have e1 := Hun.out n hh
                              subst e1
                              have := Hhit.out n hh
                              unfold isCopy at this
                              rw [hc1] at this
                              injection this with h _
                              exact hcl h)
                            have Hno2 := Lib.hid hno2
                            have tc := S_toList c
                            have tl := Htl.out
                            have c3 : (c == l) = false := by simp [hcl]
                            clear hno2 hc1 hc2 CP1 hcase Hun Hhit Hnxt hcl
                            generalize S c = sc at *
                            generalize S p = sp at *
                            go_wp2_with fail
                            go_quiet (fail)
                            go_wp2_with fail
                            refine (CP2.out _).mono ?_
                            rintro e9 w4 ⟨rfl, hb1⟩
                            have H4 := Lib.hid (Nx.trans (H3.out.drewN _) hb1)
                            clear hb1 CP2 H3
                            go_wp2
                            go_roundw
                            case rel => exact ⟨e + 1, by go_num, by omega, by omega, H4.out, Hno2.out⟩
                            case measure => simp [intOf]; omega
                      · have hno2 := Hnxt.out (fun n hh => hdec n (Hnum2.out n hh))
                        have Hno2 := Lib.hid hno2
                        clear hno2 hdec CP hcase Hhit Hnxt
                        go_wp2
                        go_roundw
                        case rel => exact ⟨e + 1, by go_num, by omega, by omega, H3.out, Hno2.out⟩
                        case measure => simp [intOf]; omega
                    · have HD := Lib.hid (Hend.out e hnoe.out (by omega))
                      have k1 : ¬ (e : Int) ≤ min (m : Int) ((i : Int) + (K : Int) + 3) := by omega
                      clear hnoe Hend Hnum Hstart
                      go_wp2
                      go_roundw
                      case rel => exact ⟨d + 1, by go_num, by omega, by omega, HX3.out, HD.out⟩
                      case measure => simp [intOf]; omega
                · have HD := Lib.hid (Hskip.out (.inr ⟨by omega, g2⟩))
                  have tq2 := S_toList ((l.drop i).take K)
                  have q1 : ((l.drop i).take K == x) = false := by simp [g2]
                  have q2 : ((l.drop i).take K != x) = true := by rw [bne, q1]; rfl
                  clear Hskip Hstart Hnum Hend hK g2
                  generalize (l.drop i).take K = z at *
                  generalize S z = sz at *
                  go_wp2_with fail
                  refine (DG.out _).mono ?_
                  rintro e w2 ⟨rfl, hb1⟩
                  have H2 := Lib.hid (Nx.trans HX2.out hb1)
                  clear hb1 DG HX2
                  go_wp2
                  go_roundw
                  case rel => exact ⟨d + 1, by go_num, by omega, by omega, H2.out, HD.out⟩
                  case measure => simp [intOf]; omega
            · obtain rfl : d = 100 := by omega
              have hn2 := noI_next hno.out (noD_end hnod.out)
              have Hn2 := Lib.hid hn2
              clear hn2 hno hnod
              go_wp2
              go_roundw
              case rel => exact ⟨i + 1, by go_num, by omega, HX2.out, Hn2.out⟩
              case measure => simp [intOf]; omega
        · have hn2 := noI_next hno.out (fun d e n hh => hc (hit_c hh))
          have Hn2 := Lib.hid hn2
          have q1 : ((l.drop i).take 2 == [46, 99]) = false := by simp [hc]
          have q2 : ((l.drop i).take 2 != [46, 99]) = true := by rw [bne, q1]; rfl
          clear hn2 hno hc
          generalize (l.drop i).take 2 = z at *
          generalize S z = sz at *
          go_wp2
          go_roundw
          case rel => exact ⟨i + 1, by go_num, by omega, HX.out, Hn2.out⟩
          case measure => simp [intOf]; omega
      · have HR := Lib.hid (Hnone.out i hno.out (by omega))
        have i1 : ¬ (i : Int) + 4 ≤ (m : Int) := by omega
        clear hno
        go_wp2
        refine bodyPost_ret (results_tmp4 rfl _ _ _) rfl ?_
        exact ⟨HR.out, HX.out⟩
end Go.Proofs.YtkffijgmcekboaaDoor
