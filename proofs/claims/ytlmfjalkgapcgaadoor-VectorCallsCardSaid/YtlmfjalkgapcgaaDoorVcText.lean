/- Package vector: Text. -/
import Derived.Test.YtlmfjalkgapcgaaDoorVcTextR
namespace Go.Proofs.YtlmfjalkgapcgaaDoor
open Go.RowKit Go.Sort
set_option linter.unusedVariables false

attribute [local go_sem] Oper.semAt_some

theorem itoa_len (n : Int) (h0 : -9223372036854775808 ≤ n) (h1 : n ≤ 9223372036854775807) : (Lib.itoa n).length ≤ 100 := by
  unfold Lib.itoa
  split
  · rw [List.length_cons, Lib.decDigits_length]; have := nDigits_le n.natAbs (by omega); omega
  · rw [Lib.decDigits_length]; have := nDigits_le n.toNat (by omega); omega
theorem word_len {c : Ct} (h : CtOk c) : (wordOf c).length ≤ 200 := by
  obtain ⟨h1, h2, h3⟩ := h
  have e1 := itoa_len c.d h1 h2
  have e2 : (Lib.decDigits c.n).length ≤ 20 := by rw [Lib.decDigits_length]; exact nDigits_le c.n (by omega)
  unfold wordOf
  rw [List.length_append, List.length_append, List.length_singleton]
  omega
theorem lens_le : ∀ (l : List Ct), CtsOk l → Lib.lens (l.map wordOf) ≤ l.length * 200
  | [], _ => by simp [Lib.lens]
  | c :: l, h => by
    have h1 := lens_le l fun x hx => h x (by simp [hx])
    have h2 := word_len (h c (by simp))
    have e : Lib.lens ((c :: l).map wordOf) = (wordOf c).length + Lib.lens (l.map wordOf) := by simp [Lib.lens]
    rw [e, List.length_cons]
    omega
theorem text_len {l : List Ct} (h : CtsOk l) (hl : l.length ≤ 16) {sep : List UInt8} (hs : sep.length = 1 := by rfl) : (Lib.join (l.map wordOf) sep).length ≤ 140737488355328 := by
  cases l with
  | nil => simp [Lib.join_nil]
  | cons c l =>
    rw [List.map_cons, Lib.join_length, ← List.map_cons, hs]
    have := lens_le (c :: l) h
    rw [List.length_map]
    rw [List.length_cons] at hl this
    omega
set_option maxRecDepth 100000 in
set_option maxHeartbeats 4000000 in
theorem text_any (w : World) (v : Value) (l : List Ct) (h : RdG ctE w v l) (k : CtsOk l) (hn : l.length ≤ 9223372036854775807) (T : Tab w) :
    Calls Tryd.prog 10 #[v] w fun e w' => e = .returned (.string (S (if vld 0 l then textV l else []))) ∧ Nx w w' := by
  obtain ⟨A, c, rfl⟩ := h.form
  have VA := Lib.hid (valid_any w _ l h hn)
  have HA := Lib.hid h
  have HK := Lib.hid k
  have HT := Lib.hid T
  obtain ⟨r, hr⟩ : ∃ r, (if vld 0 l then textV l else []) = r := ⟨_, rfl⟩
  rw [hr]
  have HR := Lib.hid hr
  clear h k T hr
  go_enter Tryd.func10, Tryd.ntmps10
  go_wp2_with fail
  refine VA.out.mono ?_
  rintro e w1 ⟨rfl, hn1⟩
  have N1 := Lib.hid hn1
  clear VA hn1
  cases hv : vld 0 l with
  | false =>
    have HR : Hid (r = []) := by show r = []; rw [← HR.out, hv]; rfl
    clear hv
    go_wp2
    go_ret
    exact ⟨by rw [HR.out]; rfl, N1.out⟩
  | true =>
    have HR : Hid (r = textV l) := by show r = _; rw [← HR.out, hv]; rfl
    have hl := vld_len16 hv
    clear hv
    go_wp2
    go_loopw [3, 11] (fun x3 x wr => ∃ (i : Nat) (A n c : _), x3 = .slice A n c ∧ x = .int .i64 i ∧ i ≤ l.length ∧ Hid (Nx w wr ∧ RwG strE wr w.heap.size (.slice A n c) ((l.take i).map wordOf))) (fun _ x _ => l.length - (intOf x).toNat)
    case atStart => exact ⟨0, _, _, _, rfl, rfl, Nat.zero_le _, N1.out, RwG.nil _ _⟩
    case round =>
      obtain ⟨i, A5, n5, c5, rfl, rfl, hi, hh⟩ := hrel
      obtain ⟨hnx, ho⟩ := hh.out
      by_cases hlt : i < l.length
      · have e2 : decide ((i : Int) < (l.length : Int)) = true := by simpa using hlt
        have e2b : decide (i < l.length) = true := by simpa using hlt
        have e3 : (0 : Int) ≤ (i : Int) := by omega
        have e4 : (i : Int) < (l.length : Int) := by omega
        obtain ⟨b, o, rfl, x0, x1⟩ := ct_cells (HA.out.nx hnx) i hlt
        have hw : IntKind.i64.wrap ((i : Int) + 1) = ((i + 1 : Nat) : Int) := by rw [IntWalk.i64_in _ (by omega)]; omega
        have hsn : (l.take (i + 1)).map wordOf = (l.take i).map wordOf ++ [wordOf l[i]] := by rw [List.take_succ_eq_append_getElem hlt, List.map_append]; rfl
        have hk := HK.out l[i] (List.getElem_mem hlt)
        have HL := Lib.hid hlt
        generalize l[i] = q at *
        have hwo : wordOf q = Lib.itoa q.d ++ [58] ++ Lib.decDigits q.n := rfl
        rw [hwo] at hsn
        have z1 := nDigits_le q.n (by have := hk.2.2; omega)
        have hs1 : (Lib.itoa q.d).length ≤ 100 := by
          unfold Lib.itoa
          split
          · rw [List.length_cons, Lib.decDigits_length]; have := nDigits_le q.d.natAbs (by have := hk.1; have := hk.2.1; omega); omega
          · rw [Lib.decDigits_length]; have := nDigits_le q.d.toNat (by have := hk.2.1; omega); omega
        have hs2 : (Lib.decDigits q.n).length ≤ 100 := by rw [Lib.decDigits_length]; omega
        have zb := box_ct wr q
        obtain ⟨U, hU⟩ : ∃ U, wr.alloc (.cells #[.int .i64 q.d, .int .u64 q.n] 29) = U := ⟨_, rfl⟩
        have nn : Nx wr U := by rw [← hU]; exact (Nx.refl _).alloc _
        rw [hU] at zb
        have hBU : w.heap.size ≤ U.heap.size := (hnx.trans nn).size
        have CM : Hid (∀ a0 : Act, a0.tmps.size = 29 → a0.eval (.tmp 5) = .pointer (some ⟨wr.heap.size, 0, none⟩) → a0.eval (.tmp 3) = .slice A5 n5 c5 → CTx (rops Tryd.f10 7) a0 U wr.heap.size w.heap.size (.slice A5 n5 c5) q.d q.n (Lib.itoa q.d) (Lib.decDigits q.n) ((l.take i).map wordOf)) := fun a0 e1 e2 e3 =>
          { hops := rfl, hz := e1, z5 := e2, z3 := e3, b := zb, hr := ho.nx nn, hl := by (rw [List.length_map, List.length_take]; omega), hs1 := hs1, hs2 := hs2, hB := hBU,
            c1 := fun W hW => itoa_any W q.d hk.1 hk.2.1 (HT.out.next ((hnx.trans nn).trans hW)), c2 := fun W hW => formatUint_any W q.n (by have := hk.2.2; omega) (HT.out.next ((hnx.trans nn).trans hW)) }
        have HN := Lib.hid (hnx.trans nn)
        have HS := Lib.hid hsn
        have OW : Hid (∀ j, (Value.slice A5 n5 c5).ownBlock = some j → w.heap.size ≤ j) := fun j hj => (own_blk ho hj).1
        clear hh hnx ho hsn hk hwo zb nn hlt z1 hBU hs1 hs2
        go_wp2_with fail
        refine rgTxL (CM.out _ rfl rfl rfl) ?_
        intro x15 x16 x17 x18 x19 x20 x21 x22 x23 x24 x25 x3 W hrow hch
        obtain ⟨A6, n6, c6, rfl⟩ : ∃ A n c, x3 = .slice A n c := (by obtain ⟨A, c, e⟩ := hrow.form; exact ⟨_, _, _, e⟩)
        have G1 : Hid (Nx w W) := Below.trans HN.out (hch.below HN.out.size fun j hj e => by have := OW.out j e; omega)
        have G2 : Hid (RwG strE W w.heap.size (.slice A6 n6 c6) ((l.take (i + 1)).map wordOf)) := by rw [HS.out]; exact hrow
        clear hrow hch CM
        go_wp2
        go_roundw
        case rel => exact ⟨i + 1, _, _, _, rfl, rfl, HL.out, G1.out, G2.out⟩
        case measure => simp only [intOf, Int.toNat_natCast]; have := HL.out; omega
      · have e2 : decide ((i : Int) < (l.length : Int)) = false := by simpa using hlt
        have e2b : decide (i < l.length) = false := by simpa using hlt
        rw [List.take_of_length_le (by omega)] at ho
        have hrd := ho.rd
        obtain ⟨h51, h52, h53⟩ := hrd.caps
        rw [List.length_map] at h51
        have HKL := HK
        have JN : Hid (Calls Tryd.prog 38 #[.slice A5 n5 c5, .string ⟨#[32]⟩] wr fun e w' => e = .returned (.string (S (textV l))) ∧ Nx wr w') := by
          obtain ⟨A', c', e, h1, h2, h3⟩ := hrd
          simp only [Value.slice.injEq] at e
          obtain ⟨rfl, _, rfl⟩ := e
          by_cases hz : l = []
          · subst hz
            obtain rfl : n5 = 0 := by simpa using h51
            refine (Tryd.strings_Join_none A5 c5 ⟨#[32]⟩ wr).mono fun e w' ⟨h1, h2⟩ => ⟨h1, by rw [h2]; exact Nx.refl _⟩
          · rcases h3 with h3 | ⟨b, o, rfl, hc⟩
            · exact absurd (List.map_eq_nil_iff.1 h3) hz
            · have hpos : 0 < l.length := List.length_pos_iff.2 hz
              have cell : ∀ (j : Nat) x, ((l.map wordOf).map S)[j]? = some x → wr.cell? ⟨b, o + j, none⟩ = some (.string x) := fun j x hx => by
                rw [List.getElem?_map, Option.map_eq_some_iff] at hx
                obtain ⟨y, hy, rfl⟩ := hx
                have hj : j < (l.map wordOf).length := (List.getElem?_eq_some_iff.1 hy).1
                have e1 := cs_at (E := strE) (l.map wordOf) j hj 0 (by decide)
                have e2 : j * strE.k + 0 = j := by show j * 1 + 0 = j; omega
                rw [e2] at e1
                refine hc j _ ?_
                rw [e1, ← (List.getElem?_eq_some_iff.1 hy).2]; rfl
              have hmm : ((l.map wordOf).map S).map (·.data.toList) = l.map wordOf := by
                rw [List.map_map]
                conv => rhs; rw [← List.map_id (l.map wordOf)]
                rfl
              have := Tryd.strings_Join b o c5 ((l.map wordOf).map S) ⟨#[32]⟩ wr cell (by
                have hx := cell 0 (S (wordOf l[0])) (by simp [hpos])
                exact World.block_lt_of_cell? wr ⟨b, o + 0, none⟩ hx) (by simp; omega) (by simp; omega) (by
                rw [hmm]
                exact text_len HKL.out hl)
              rw [hmm, List.length_map, List.length_map, ← h51] at this
              exact this
        have HF := Lib.hid hnx
        clear hh hnx ho hrd h51 h52 h53
        go_wp2_with fail
        refine JN.out.mono ?_
        rintro e w5 ⟨rfl, hn5⟩
        have N5 := Lib.hid (HF.out.trans hn5)
        clear JN hn5
        go_wp2
        go_ret
        exact ⟨by rw [HR.out]; rfl, N5.out⟩
end Go.Proofs.YtlmfjalkgapcgaaDoor
