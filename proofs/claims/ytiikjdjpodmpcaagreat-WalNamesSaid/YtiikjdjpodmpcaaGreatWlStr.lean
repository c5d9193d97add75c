/- Slices of strings that a law is handed, copies, or goes through. -/
import Derived.Test.YtiikjdjpodmpcaaGreatWlLives
import Derived.SliceStrings
namespace Go.Proofs.YtiikjdjpodmpcaaGreat
open Go.RowKit Go.Maps
set_option linter.unusedVariables false

structure SArg (w : World) (A : Option Addr) (n c : Nat) (ps : List Str) : Prop where
  len : ps.length = n
  le : n ≤ c
  cap : c ≤ maxLen
  sz : ∀ p ∈ ps, p.length ≤ maxLen
  lies : 0 < n → ∃ j o, A = some ⟨j, o, none⟩ ∧ j < w.heap.size ∧ ∀ i, i < n → w.cell? ⟨j, o + i, none⟩ = some (.string (S (ps.getD i [])))
theorem SArg.nx {w w' : World} {A : Option Addr} {n c : Nat} {ps : List Str} (h : SArg w A n c ps) (k : Nx w w') : SArg w' A n c ps := ⟨h.len, h.le, h.cap, h.sz, fun hn => by
  obtain ⟨j, o, e, hj, hx⟩ := h.lies hn
  exact ⟨j, o, e, Nat.lt_of_lt_of_le hj k.size, fun i hi => (k.cell (p := ⟨j, o + i, none⟩) hj).trans (hx i hi)⟩⟩
theorem sown_form {w : World} {B n : Nat} {v : Value} {xs : List Value} (h : w.ownsRow B 9 1 v n xs) : ∃ A c, v = .slice A n c := by
  rcases h.2 with ⟨hv, h0⟩ | ⟨g, cap, cur, hv, _⟩
  · exact ⟨none, 0, by rw [hv, h0]⟩
  · exact ⟨_, _, hv⟩
theorem str_append_nil (w : World) (ty : TypeId) (B : Nat) (v : Value) (n : Nat) (xs : List Value) (hown : w.ownsRow B 9 1 v n xs) (c : Nat) :
    (Builtin.append_ #[24, 24] ty #[v, .slice none 0 c]).run Tryz.prog w = .ok v w := by
  obtain ⟨i, hi, _, _, _⟩ := info_parts string_info
  rcases hown.2 with ⟨rfl, rfl⟩ | ⟨g, cap, cur, rfl, _, _, hnc, _⟩
  · simp [Builtin.append_, run_underlying Tryz.underlying24, sizeOf, typeInfo, hi, Builtin.lenOf, Builtin.firstCells]
  · simp [Builtin.append_, run_underlying Tryz.underlying24, sizeOf, typeInfo, hi, Builtin.lenOf, Builtin.firstCells, hnc, storeCells]
theorem str_append (w : World) (ty : TypeId) (B : Nat) (v : Value) (n : Nat) (ps : List Str) (hown : w.ownsRow B 9 1 v n (strV ps)) (hB : B ≤ w.heap.size)
    (A' : Option Addr) (m c' : Nat) (l' : List Str) (hr : SArg w A' m c' l') (hm : n + m ≤ 1000000) :
    ∃ v' w', (Builtin.append_ #[24, 24] ty #[v, .slice A' m c']).run Tryz.prog w = .ok v' w' ∧ w'.ownsRow B 9 1 v' (n + m) (strV (ps ++ l')) ∧ w.grownBy w' v.ownBlock := by
  obtain ⟨i, hi, hz, hs, hby⟩ := info_parts string_info
  have hl' := hr.len
  rcases Nat.eq_zero_or_pos m with hm0 | hm0
  · subst hm0
    obtain rfl : l' = [] := List.eq_nil_of_length_eq_zero hl'
    rw [List.append_nil, Nat.add_zero]
    rcases A' with _ | ad
    · exact ⟨v, w, str_append_nil w ty B _ n _ hown c', hown, World.grownBy.refl w _⟩
    · obtain ⟨v', w', hrun, h2, h3, _, h5⟩ := run_append_own_at (P := Tryz.prog) w B 24 ty 9 i (.string ⟨#[]⟩) 1 16 Tryz.underlying24 hi hz hs hby rfl (by decide) _ n _ hown ad 0 c' []
        rfl (by simp) (by simp) (by simp only [maxLen]; omega) (by omega) hB
      rw [List.append_nil] at h2
      exact ⟨v', w', hrun, h2, h3⟩
  · obtain ⟨b, o, rfl, hlt, hc⟩ := hr.lies hm0
    have hget : ∀ j, j < l'.length → (strV l')[j]? = some (.string (S (l'.getD j []))) := fun j hj => by simp [strV, List.getD, hj]
    obtain ⟨v', w', hrun, h2, h3, _, h5⟩ := run_append_own_at (P := Tryz.prog) w B 24 ty 9 i (.string ⟨#[]⟩) 1 16 Tryz.underlying24 hi hz hs hby rfl (by decide) _ n _ hown ⟨b, o, none⟩ m c' (strV l')
      (by simp [strV]; omega) (fun j u hu => by
        have hj : j < l'.length := by have := (List.getElem?_eq_some_iff.1 hu).1; simpa [strV] using this
        rw [add_plain, hc j (by omega), ← hget j hj, hu]) (fun u hu => by
          obtain ⟨x, _, rfl⟩ := List.mem_map.1 hu
          rfl) (by simp only [maxLen]; omega) (by omega) hB
    refine ⟨v', w', hrun, ?_, h3⟩
    have : strV (ps ++ l') = strV ps ++ strV l' := by simp [strV]
    rw [this]
    exact h2
theorem strs_copy (w0 : World) (ty : TypeId) (A' : Option Addr) (m c' : Nat) (l' : List Str) (hr : SArg w0 A' m c' l') (hm : m ≤ 1000000) :
    ∃ A2 c2 w', (Builtin.append_ #[24, 24] ty #[.slice (some ⟨w0.heap.size, 0, none⟩) 0 0, .slice A' m c']).run Tryz.prog (w0.alloc (.cells #[] 9)) = .ok (.slice A2 m c2) w' ∧ StrRow w' w0.heap.size A2 m c2 l' ∧ Nx w0 w' := by
  have b1 : Nx w0 (w0.alloc (.cells #[] 9)) := (Below.refl _ w0).alloc (Nat.le_refl _) _
  have hown := World.ownsRow_lit (e := 9) (size := 1) w0 #[] 0 (Nat.le_refl _) (Nat.zero_le _) rfl
  obtain ⟨v', w', hrun, h2, h3⟩ := str_append _ ty w0.heap.size _ 0 [] hown (by simp) A' m c' l' (hr.nx b1) (by omega)
  rw [Nat.zero_add, List.nil_append] at h2
  obtain ⟨A2, c2, rfl⟩ := sown_form h2
  refine ⟨A2, c2, w', hrun, h2, ?_⟩
  have c1 : Chd (fun j => j = w0.heap.size) w0 w' := (Chd.of_below b1).trans (Chd.of_grown h3)
  exact c1.below (Nat.le_refl _) (fun j hj e => by omega)
/-- append([]string{}, l...). -/
theorem wpList_strs_copy {w0 : World} {ops : Array Oper} {rest : List Oper} {o : Oper} {a : Act} {Q : Exit → Act → World → Prop} (hgd : o.guard = none) (s x : Operand)
    (ho : o.op = .call { callee := .builtin .append, args := #[s, x], argTypes := #[24, 24] })
    (hs : a.eval s = .slice (some ⟨w0.heap.size, 0, none⟩) 0 0)
    (A' : Option Addr) (m c' : Nat) (l' : List Str) (hx : a.eval x = .slice A' m c') (hr : SArg w0 A' m c' l') (hm : m ≤ 1000000)
    (h : ∀ A2 c2 w', StrRow w' w0.heap.size A2 m c2 l' → Nx w0 w' → wpList Tryz.prog ops Q rest (a.put o.dst (.slice A2 m c2)) w') :
    wpList Tryz.prog ops Q (o :: rest) a (w0.alloc (.cells #[] 9)) := by
  refine wpList_plain hgd fun K hK => ?_
  obtain ⟨A2, c2, w', hrun, hN, hx2⟩ := strs_copy w0 o.type A' m c' l' hr hm
  unfold Oper.wp execOp
  simp only [ho, resolve, invoke, builtin, Sem.run_bind, Sem.run_pure, Result.andThen_ok, List.map_toArray, List.map_cons, List.map_nil, hs, hx, hrun]
  exact hK _ _ (h A2 c2 w' hN hx2)

theorem wp_strs_copy {w0 : World} {o : Oper} {a : Act} {K : Act → World → Prop} {Q : Exit → Act → World → Prop} (s x : Operand)
    (ho : o.op = .call { callee := .builtin .append, args := #[s, x], argTypes := #[24, 24] })
    (hs : a.eval s = .slice (some ⟨w0.heap.size, 0, none⟩) 0 0)
    (A' : Option Addr) (m c' : Nat) (l' : List Str) (hx : a.eval x = .slice A' m c') (hr : SArg w0 A' m c' l') (hm : m ≤ 1000000)
    (h : ∀ A2 c2 w', StrRow w' w0.heap.size A2 m c2 l' → Nx w0 w' → K (a.put o.dst (.slice A2 m c2)) w') :
    o.wp Tryz.prog a (w0.alloc (.cells #[] 9)) K Q := by
  obtain ⟨A2, c2, w', hrun, hN, hx2⟩ := strs_copy w0 o.type A' m c' l' hr hm
  unfold Oper.wp execOp
  simp only [ho, resolve, invoke, builtin, Sem.run_bind, Sem.run_pure, Result.andThen_ok, List.map_toArray, List.map_cons, List.map_nil, hs, hx, hrun]
  exact h A2 c2 w' hN hx2

theorem wp_str_append {w : World} {o : Oper} {a : Act} {K : Act → World → Prop} {Q : Exit → Act → World → Prop} (s x : Operand)
    (ho : o.op = .call { callee := .builtin .append, args := #[s, x], argTypes := #[24, 24] })
    (B : Nat) (A : Option Addr) (n c : Nat) (ps : List Str) (hs : a.eval s = .slice A n c) (hown : StrRow w B A n c ps) (hB : B ≤ w.heap.size)
    (A' : Option Addr) (m c' : Nat) (l' : List Str) (hx : a.eval x = .slice A' m c') (hr : SArg w A' m c' l') (hm : n + m ≤ 1000000)
    (h : ∀ A2 c2 w', StrRow w' B A2 (n + m) c2 (ps ++ l') → (∀ w0, Nx w0 w → B = w0.heap.size → Nx w0 w') → K (a.put o.dst (.slice A2 (n + m) c2)) w') :
    o.wp Tryz.prog a w K Q := by
  obtain ⟨v', w', hrun, h2, h3⟩ := str_append w o.type B (.slice A n c) n ps hown hB A' m c' l' hr hm
  obtain ⟨A2, c2, rfl⟩ := sown_form h2
  unfold Oper.wp execOp
  simp only [ho, resolve, invoke, builtin, Sem.run_bind, Sem.run_pure, Result.andThen_ok, List.map_toArray, List.map_cons, List.map_nil, hs, hx, hrun]
  refine h A2 c2 w' h2 fun w0 hn hb => ?_
  have c1 : Chd (fun _ => False) w0 w' := (Chd.of_below hn).then_ (Chd.of_grownBy h3) (fun j hj e => by
    have := (World.ownsRow.lt hown j e).1
    omega)
  exact c1.below (Nat.le_refl _) (fun _ _ e => e)

/-! ### Texts -/
/-- Strings that can be read. -/
structure SRd (w : World) (A : Option Addr) (n : Nat) (ps : List Str) : Prop where
  len : ps.length = n
  le : n ≤ 1000000
  at_ : 0 < n → ∃ b o, A = some ⟨b, o, none⟩ ∧ b < w.heap.size ∧ ∀ j, j < n → w.cell? ⟨b, o + j, none⟩ = some (.string (S (ps.getD j [])))
theorem Strs.rd {w : World} {A : Option Addr} {n : Nat} {ps : List Str} (h : Strs w A n ps) : SRd w A n ps := ⟨h.len, h.le, fun hn => by
  obtain ⟨b, e, hb, hc⟩ := h.at_ hn
  exact ⟨b, 0, e, hb, fun j hj => by rw [Nat.zero_add]; exact hc j hj⟩⟩
theorem SArg.rd {w : World} {A : Option Addr} {n c : Nat} {ps : List Str} (h : SArg w A n c ps) (hn : n ≤ 1000000) : SRd w A n ps := ⟨h.len, hn, h.lies⟩
set_option maxRecDepth 100000 in
theorem texts_rd (w : World) (A1 A2 : Option Addr) (n1 c1 n2 c2 : Nat) (ps qs : List Str) (h1 : SRd w A1 n1 ps) (h2 : SRd w A2 n2 qs) :
    Calls Tryz.prog 13 #[.slice A1 n1 c1, .slice A2 n2 c2] w fun e w' => e = .returned (.bool (decide (ps = qs))) ∧ ∃ m, w' = w.drewN m := by
  have l1 := h1.len
  have l2 := h2.len
  have e1 := h1.le
  have e2 := h2.le
  have H1 := Lib.hid h1
  have H2 := Lib.hid h2
  by_cases hne : n1 = n2
  · subst hne
    generalize hR : decide (ps = qs) = R
    have HR := Lib.hid hR
    have L1 := Lib.hid l1
    have L2 := Lib.hid l2
    clear h1 h2 hR l1 l2
    go_enter Tryz.func13, Tryz.ntmps13
    go_wp2
    go_loopw [5] (fun x wr => ∃ i : Nat, x = .int .i64 i ∧ i ≤ n1 ∧ Hid (ps.take i = qs.take i ∧ ∃ m, wr = w.drewN m)) (fun x _ => n1 - (intOf x).toNat)
    case atStart => exact ⟨0, rfl, Nat.zero_le _, rfl, 0, rfl⟩
    case round =>
      obtain ⟨i, rfl, hi, hrel⟩ := hrel
      obtain ⟨htk, m, hm⟩ := hrel.out
      by_cases hlt : i < n1
      · obtain ⟨b1, o1, rfl, hb1, hc1⟩ := H1.out.at_ (by omega)
        obtain ⟨b2, o2, rfl, hb2, hc2⟩ := H2.out.at_ (by omega)
        have d1 : wr.cell? ⟨b1, o1 + i, none⟩ = some (.string (S (ps.getD i []))) := by rw [hm]; exact hc1 i hlt
        have d2 : wr.cell? ⟨b2, o2 + i, none⟩ = some (.string (S (qs.getD i []))) := by rw [hm]; exact hc2 i hlt
        have hpi : ps[i]? = some (ps.getD i []) := by simp [List.getD, List.getElem?_eq_getElem (show i < ps.length by rw [L1.out]; exact hlt)]
        have hqi : qs[i]? = some (qs.getD i []) := by simp [List.getD, List.getElem?_eq_getElem (show i < qs.length by rw [L2.out]; exact hlt)]
        have s1 := S_toList (ps.getD i [])
        have s2 := S_toList (qs.getD i [])
        generalize ps.getD i [] = p at *
        generalize qs.getD i [] = q at *
        by_cases hpq : p = q
        · have hx : ((S p).toList == (S q).toList) = true := by rw [hpq]; simp
          have hnext : ps.take (i + 1) = qs.take (i + 1) := by rw [List.take_add_one, List.take_add_one, htk, hpi, hqi, hpq]
          have HNX := Lib.hid hnext
          have HM := Lib.hid hm
          clear hnext hm htk hpi hqi hc1 hc2 hrel s1 s2 hpq
          generalize S p = sp at *
          generalize S q = sq at *
          go_wp2_with fail
          go_quiet (fail)
          go_wp2
          go_roundw
          case rel => exact ⟨i + 1, by go_num, by omega, HNX.out, _, by rw [HM.out, World.drewN_drewN]⟩
          case measure => simp [intOf]; omega
        · have hx : ((S p).toList == (S q).toList) = false := by rw [s1, s2]; simpa using hpq
          obtain rfl : R = false := by
            rw [← HR.out]
            simp only [decide_eq_false_iff_not]
            intro e
            rw [e, hqi] at hpi
            exact hpq (Option.some.inj hpi).symm
          have HM := Lib.hid hm
          clear hm htk hpi hqi hc1 hc2 hrel s1 s2 hpq
          generalize S p = sp at *
          generalize S q = sq at *
          go_wp2_with fail
          go_quiet (fail)
          go_wp2
          go_ret
          exact ⟨rfl, _, by rw [HM.out, World.drewN_drewN]⟩
      · obtain rfl : i = n1 := by omega
        rw [List.take_of_length_le (by rw [L1.out]; exact Nat.le_refl _), List.take_of_length_le (by rw [L2.out]; exact Nat.le_refl _)] at htk
        obtain rfl : R = true := by rw [← HR.out]; simpa using htk
        have HM := Lib.hid hm
        clear hm htk hrel
        go_wp2
        go_ret
        exact ⟨rfl, m, HM.out⟩
  · have hd : decide (ps = qs) = false := by
      simp only [decide_eq_false_iff_not]
      intro e
      subst e
      omega
    have hx : ((n1 : Int) != (n2 : Int)) = true := by simp; omega
    rw [hd]
    clear h1 h2 H1 H2 l1 l2 hd hne
    go_enter Tryz.func13, Tryz.ntmps13
    go_wp2
    go_ret
    exact ⟨rfl, 0, rfl⟩

/-! ### LightTexts -/
def sumLen (ps : List Str) : Nat := (ps.map List.length).sum
theorem sumLen_take (ps : List Str) (i : Nat) (p : Str) (h : ps[i]? = some p) : sumLen (ps.take (i + 1)) = sumLen (ps.take i) + p.length := by
  unfold sumLen
  rw [List.take_add_one, h]
  simp
theorem sumLen_take_le (ps : List Str) (i : Nat) : sumLen (ps.take i) ≤ sumLen ps := by
  have : sumLen ps = sumLen (ps.take i) + sumLen (ps.drop i) := by unfold sumLen; rw [← List.sum_append, ← List.map_append, List.take_append_drop]
  omega
/-- What LightTexts returns. -/
def lightB (n most : Nat) (ps : List Str) : Bool := decide (ps.length ≤ n) && decide (sumLen ps ≤ most)
set_option maxRecDepth 100000 in
set_option maxHeartbeats 1000000 in
theorem light_any (w : World) (A : Option Addr) (n c : Nat) (ps : List Str) (h : SArg w A n c ps) (nn most : Nat) (hnn : nn ≤ 1000) (hmost : most ≤ 100000) :
    Calls Tryz.prog 16 #[.slice A n c, (.int .i64 (nn : Int)), (.int .i64 (most : Int))] w fun e w' => e = .returned (.bool (lightB nn most ps)) ∧ ∃ m, w' = w.drewN m := by
  have hlen := h.len
  have hcap := h.cap
  have hle := h.le
  unfold maxLen at hcap
  have i1 : (n : Int) ≤ 9223372036854775807 := by omega
  have H := Lib.hid h
  have HN := Lib.hid hlen
  clear h hlen hcap hle
  generalize hB : lightB nn most ps = B
  have HB := Lib.hid hB
  clear hB
  go_enter Tryz.func16, Tryz.ntmps16
  go_wp2
  go_loopw [7, 8] (fun y x wr => ∃ i s : Nat, x = .int .i64 i ∧ y = .int .i64 s ∧ i ≤ n ∧ i ≤ nn + 1 ∧ s ≤ 2 * most + 1 ∧ Hid ((∃ m, wr = w.drewN m) ∧ ((s ≤ most ∧ s = sumLen (ps.take i)) ∨ (most < s ∧ most < sumLen (ps.take i))))) (fun _ x _ => n - (intOf x).toNat)
  case atStart => exact ⟨0, 0, rfl, rfl, Nat.zero_le _, Nat.zero_le _, Nat.zero_le _, ⟨0, rfl⟩, .inl ⟨Nat.zero_le _, rfl⟩⟩
  case round =>
    obtain ⟨i, s, rfl, rfl, hi, hi2, hs, hrel⟩ := hrel
    by_cases c1 : i < n
    · by_cases c2 : i ≤ nn
      · by_cases c3 : s ≤ most
        · obtain ⟨p, hp⟩ : ∃ p, ps[i]? = some p := ⟨_, List.getElem?_eq_getElem (by rw [HN.out]; exact c1)⟩
          obtain ⟨j, o, rfl, hj, hc⟩ := H.out.lies (by omega)
          obtain ⟨m, hm⟩ := hrel.out.1
          have d1 : wr.cell? ⟨j, o + i, none⟩ = some (.string (S p)) := by
            rw [hm]
            show w.cell? _ = _
            rw [hc i c1]
            simp [List.getD, hp]
          have hst := sumLen_take ps i p hp
          have hsz := S_size p
          have hsp := H.out.sz p (List.mem_of_getElem? hp)
          unfold maxLen at hsp
          generalize S p = sp at *
          have e1 : Hid (p.length = sp.size) := hsz.symm
          have hsp2 : (sp.size : Int) ≤ 9223372036854775807 := by omega
          have HST := Lib.hid hst
          have REL := hrel
          clear hst hsz hsp hp hc hm hrel
          by_cases c4 : sp.size ≤ (most + 1)
          · go_wp2
            go_roundw
            case rel => exact ⟨i + 1, s + sp.size, by go_num, by go_num, by omega, by omega, by omega, REL.out.1, by
              rw [HST.out, e1.out]
              rcases REL.out.2 with ⟨h1, h2⟩ | ⟨h1, h2⟩
              · by_cases h3 : s + sp.size ≤ most
                · exact .inl ⟨h3, by omega⟩
                · exact .inr ⟨by omega, by omega⟩
              · omega⟩
            case measure => simp [intOf]; omega
          · go_wp2
            go_roundw
            case rel => exact ⟨i + 1, s + (most + 1), by go_num, by go_num, by omega, by omega, by omega, REL.out.1, by
              rw [HST.out, e1.out]
              rcases REL.out.2 with ⟨h1, h2⟩ | ⟨h1, h2⟩
              · exact .inr ⟨by omega, by omega⟩
              · omega⟩
            case measure => simp [intOf]; omega
        · have hl := sumLen_take_le ps i
          have hb : B = false := by
            rw [← HB.out]
            unfold lightB
            have : ¬ sumLen ps ≤ most := by
              rcases hrel.out.2 with ⟨h1, h2⟩ | ⟨h1, h2⟩ <;> omega
            simp [this]
          subst hb
          have REL := hrel
          clear hrel hl
          have d6 : decide ((s : Int) ≤ most) = false := by simp; omega
          by_cases c5 : n ≤ nn
          · go_wp2
            go_ret
            exact ⟨rfl, REL.out.1⟩
          · go_wp2
            go_ret
            exact ⟨rfl, REL.out.1⟩
      · have hb : B = false := by
          rw [← HB.out]
          unfold lightB
          have : ¬ ps.length ≤ nn := by rw [HN.out]; omega
          simp [this]
        subst hb
        have REL := hrel
        clear hrel
        have c5 : ¬ n ≤ nn := by omega
        go_wp2
        go_ret
        exact ⟨rfl, REL.out.1⟩
    · obtain rfl : i = n := by omega
      have ht : ps.take i = ps := List.take_of_length_le (by rw [HN.out]; exact Nat.le_refl _)
      have hb : B = (decide (i ≤ nn) && decide (s ≤ most)) := by
        rw [← HB.out]
        unfold lightB
        rw [HN.out]
        congr 1
        have := hrel.out.2
        rw [ht] at this
        rcases this with ⟨h1, h2⟩ | ⟨h1, h2⟩
        · rw [h2]
        · have a : ¬ s ≤ most := by omega
          have b : ¬ sumLen ps ≤ most := by omega
          simp [a, b]
      have REL := hrel
      clear hrel ht
      by_cases c5 : i ≤ nn
      · by_cases c6 : s ≤ most
        · rw [decide_eq_true c5, decide_eq_true c6] at hb
          subst hb
          have d6 : decide ((s : Int) ≤ most) = true := by simp; omega
          go_wp2
          go_ret
          exact ⟨rfl, REL.out.1⟩
        · rw [decide_eq_true c5, decide_eq_false c6] at hb
          subst hb
          have d6 : decide ((s : Int) ≤ most) = false := by simp; omega
          go_wp2
          go_ret
          exact ⟨rfl, REL.out.1⟩
      · rw [decide_eq_false c5] at hb
        simp only [Bool.false_and] at hb
        subst hb
        go_wp2
        go_ret
        exact ⟨rfl, REL.out.1⟩
end Go.Proofs.YtiikjdjpodmpcaaGreat
