/- The document's answers for package vector: Merge. -/
import Derived.Test.YtlmfjalkgapcgaaDoorVrD
namespace Go.Proofs.YtlmfjalkgapcgaaDoor
open Go.RowKit
set_option linter.unusedVariables false

attribute [local go_sem] Oper.semAt_some

/-- The array has the values of a vector. -/
def Hs (f : Nat → Nat) (l : List Ct) : Prop := ∀ e : Nat, 1 ≤ e → e ≤ 16 → f e = vl l (e : Int)
theorem Hs.md {f : Nat → Nat} {l : List Ct} (h : Hs f l) (hl : vld 0 l = true) : md f 16 = l := md_ext hl h

set_option maxRecDepth 100000 in
set_option maxHeartbeats 2000000 in
theorem rmerge_any (w : World) (v : Value) (ls : List (List Ct)) (h : SlS w v ls) (hl : ls.length ≤ 1000) (hn : ∀ l ∈ ls, l.length ≤ 9223372036854775807) :
    Calls Tryd.prog 14 #[v] w (Ret2 fun r n w' => MergeR w.heap.size ls r n w' ∧ Nx w w') := by
  obtain ⟨b, o, c, rfl, hc⟩ := h
  have HC := Lib.hid hc
  have HN := Lib.hid hn
  clear hc hn
  go_enter Tryd.func14, Tryd.ntmps14
  go_wp2
  rw [← arC_zero]
  go_loopw [5] (fun x wr => ∃ (i : Nat) (G : Nat → Nat), x = .int .i64 i ∧ i ≤ ls.length ∧ Hid (Nx w wr ∧ (∀ l ∈ ls.take i, vld 0 l = true) ∧ Hs G (mgs (ls.take i)) ∧ BlkIs wr w.heap.size 61 (arC G))) (fun x _ => ls.length - (intOf x).toNat)
  case atStart => exact ⟨0, fun _ => 0, rfl, Nat.zero_le _, (Nx.refl w).alloc _, (fun l hl => by simp at hl), (fun e _ _ => rfl), BlkIs.new _ _ _⟩
  case round =>
    obtain ⟨i, G, rfl, hi, hh⟩ := hrel
    obtain ⟨hnx, hv, hG, hb⟩ := hh.out
    by_cases hlt : i < ls.length
    · have e2 : decide ((i : Int) < (ls.length : Int)) = true := by simpa using hlt
      have e2b : decide (i < ls.length) = true := by simpa using hlt
      have e3 : (0 : Int) ≤ (i : Int) := by omega
      have e4 : (i : Int) < (ls.length : Int) := by omega
      obtain ⟨x, x0, hx⟩ := HC.out i hlt
      have x0 : wr.cell? ⟨b, o + i, none⟩ = some x := by rw [World.cell?_of_block (hnx.block b (World.block_lt_of_cell? w ⟨b, o + i, none⟩ x0))]; exact x0
      have hw : IntKind.i64.wrap ((i : Int) + 1) = ((i + 1 : Nat) : Int) := by rw [IntWalk.i64_in _ (by omega)]; omega
      have hlen := HN.out ls[i] (List.getElem_mem hlt)
      have hmem : ls[i] ∈ ls := List.getElem_mem hlt
      have hsn := mgs_take hlt
      have htk : ∀ l ∈ ls.take (i + 1), l ∈ ls.take i ∨ l = ls[i] := fun l hl => by
        rw [List.take_succ_eq_append_getElem hlt] at hl
        exact (List.mem_append.1 hl).imp id fun e => by simpa using e
      have HL := Lib.hid hlt
      generalize ls[i] = q at *
      obtain ⟨xA, xc, rfl⟩ := hx.form
      have CH := Lib.hid (rcheck_any wr _ q (hx.nx hnx) hlen)
      cases hq : vld 0 q with
      | false =>
        rw [hq] at CH
        have FIN : Hid (∀ w', MergeR w.heap.size ls (.slice none 0 0) 2 w') := fun w' => by
          unfold MergeR
          rw [if_neg]
          · exact ⟨rfl, rfl⟩
          · intro e
            rw [List.all_eq_true.1 e q hmem] at hq
            cases hq
        have N1 := Lib.hid hnx
        clear hh hnx hv hG hb hx hmem hsn htk hq hlt
        go_wp2_with fail
        refine CH.out.mono ?_
        rintro e w2 ⟨rfl, hn2⟩
        have N2 := Lib.hid (N1.out.trans hn2)
        clear CH hn2
        go_wp2
        go_ret2
        exact ⟨_, _, rfl, FIN.out _, N2.out⟩
      | true =>
        rw [hq] at CH
        have hva : ∀ l ∈ ls.take (i + 1), vld 0 l = true := fun l hl => (htk l hl).elim (hv l) fun e => by rw [e]; exact hq
        have VS : Hid (∀ W, Nx wr W → Calls Tryd.prog 39 #[.slice xA q.length xc] W fun e w' => e = .returned (.agg (arC (vsF (fun _ => 0) q))) ∧ Nx W w') := fun W hW => rvalues_any W _ q (hx.nx (hnx.trans hW)) hq (by have := vld_len16 hq; omega)
        have HF := vs_vl hq
        have hmv := fun e : Nat => mg_vl (mgs_vld hv) hq (e : Int)
        rw [← hsn] at hmv
        have HMV : Hid (∀ G' : Nat → Nat, (∀ e, 1 ≤ e → e ≤ 16 → G' e = max (G e) (vsF (fun _ => 0) q e)) → Hs G' (mgs (ls.take (i + 1)))) := fun G' hg e h1 h2 => by
          rw [hg e h1 h2, hmv, HF, hG e h1 h2]
        have HVA := Lib.hid hva
        generalize vsF (fun _ => 0) q = F at *
        have N1 := Lib.hid hnx
        have HB := Lib.hid hb
        have HBL : Hid (w.heap.size < wr.heap.size) := hb.lt
        have X0 : Hid (∀ W, Nx wr W → W.cell? ⟨b, o + i, none⟩ = some (.slice xA q.length xc)) := fun W hW => by rw [World.cell?_of_block (hW.block b (World.block_lt_of_cell? wr ⟨b, o + i, none⟩ x0))]; exact x0
        clear hh hnx hv hG hb hx hmem hsn htk hq hlt hva HF hmv
        go_wp2_with fail
        refine CH.out.mono ?_
        rintro e w2 ⟨rfl, hn2⟩
        have N2 := Lib.hid hn2
        have x2 := X0.out w2 hn2
        have CV := Lib.hid (VS.out w2 hn2)
        clear CH hn2 x0
        go_wp2_with fail
        refine CV.out.mono ?_
        rintro e w3 ⟨rfl, hn3⟩
        have N3 := Lib.hid (N2.out.trans hn3)
        clear CV hn3 x2
        have BL := Lib.hid (BlkIs.new w3 61 #[.int .u64 0, .int .u64 0, .int .u64 0, .int .u64 0, .int .u64 0, .int .u64 0, .int .u64 0, .int .u64 0, .int .u64 0, .int .u64 0, .int .u64 0, .int .u64 0, .int .u64 0, .int .u64 0, .int .u64 0, .int .u64 0, .int .u64 0])
        have UB := Lib.hid (blk_laid w3 61 #[.int .u64 0, .int .u64 0, .int .u64 0, .int .u64 0, .int .u64 0, .int .u64 0, .int .u64 0, .int .u64 0, .int .u64 0, .int .u64 0, .int .u64 0, .int .u64 0, .int .u64 0, .int .u64 0, .int .u64 0, .int .u64 0, .int .u64 0] (arC F))
        have UN := Lib.hid (nx_laid N3.out 61 #[.int .u64 0, .int .u64 0, .int .u64 0, .int .u64 0, .int .u64 0, .int .u64 0, .int .u64 0, .int .u64 0, .int .u64 0, .int .u64 0, .int .u64 0, .int .u64 0, .int .u64 0, .int .u64 0, .int .u64 0, .int .u64 0, .int .u64 0] (arC F))
        have HNE : Hid (w.heap.size < w3.heap.size) := Nat.lt_of_lt_of_le HBL.out N3.out.size
        go_upto_region 8 with (first
          | (refine wpList_store_row rfl 61 (.tmp 6) (.tmp 24) rfl w3.heap.size (arC F) rfl rfl 61 _ BL.out (by rw [info17, arC_size]) (by rw [arC_size]; rfl) (arC_one _) ?_)
          | fail)
        generalize (World.setRow _ _ _ : World) = U at *
        have GB : Hid (BlkIs U w.heap.size 61 (arC G)) := HB.out.nx UN.out
        have NW : Hid (Nx w U) := N1.out.trans UN.out
        clear HB UN BL N2 N3 VS X0 HBL N1
        generalize w3.heap.size = B1 at *
        go_wp2
        go_loopw [7] (fun x wi => ∃ (d : Nat) (H : Nat → Nat), x = .int .i64 ((d + 1 : Nat) : Int) ∧ d ≤ 16 ∧ Hid (Nx w wi ∧ (∀ e, 1 ≤ e → e ≤ 16 → H e = if e ≤ d then max (G e) (F e) else G e) ∧ BlkIs wi w.heap.size 61 (arC H) ∧ BlkIs wi B1 61 (arC F))) (fun x _ => 17 - (intOf x).toNat)
        case atStart => exact ⟨0, G, rfl, by omega, NW.out, (fun e h1 h2 => by rw [if_neg (by omega)]), GB.out, UB.out⟩
        case round =>
          obtain ⟨d, H, rfl, hd, hk⟩ := hrel
          by_cases hd2 : d < 16
          · have j2 : decide (((d + 1 : Nat) : Int) < 17) = true := by simp; omega
            have j3 : (0 : Int) ≤ ((d + 1 : Nat) : Int) := by omega
            have j4 : ((d + 1 : Nat) : Int) < 17 := by omega
            have jw : IntKind.i64.wrap (((d + 1 : Nat) : Int) + 1) = ((d + 1 + 1 : Nat) : Int) := by rw [IntWalk.i64_in _ (by omega)]; omega
            obtain ⟨kn, kh, kb1, kb2⟩ := hk.out
            have eh := kh (d + 1) (by omega) (by omega)
            rw [if_neg (by omega)] at eh
            have c1 := kb1.cell (d + 1)
            rw [arC_at _ _ (by omega), eh] at c1
            have c2 := kb2.cell (d + 1)
            rw [arC_at _ _ (by omega)] at c2
            have f1 := kb1.frozen (d + 1)
            have KH : Hid (∀ e, 1 ≤ e → e ≤ 16 → upd H (d + 1) (max (G (d + 1)) (F (d + 1))) e = if e ≤ d + 1 then max (G e) (F e) else G e) := fun e h1 h2 => by
              unfold upd
              by_cases q : e = d + 1
              · subst q; rw [if_pos rfl, if_pos (Nat.le_refl _)]
              · rw [if_neg q, kh e h1 h2]
                by_cases q2 : e ≤ d
                · rw [if_pos q2, if_pos (by omega)]
                · rw [if_neg q2, if_neg (by omega)]
            have hmx : Hid ((if G (d + 1) < F (d + 1) then ((F (d + 1) : Nat) : Int) else ((G (d + 1) : Nat) : Int)) = ((max (G (d + 1)) (F (d + 1)) : Nat) : Int)) := by
              show _ = _
              split <;> omega
            generalize max (G (d + 1)) (F (d + 1)) = m at *
            generalize G (d + 1) = g0 at *
            generalize F (d + 1) = y0 at *
            have DD : Hid (d + 1 ≤ 16) := by show _ ≤ _; omega
            have KN := Lib.hid kn
            have K1 := Lib.hid kb1
            have K2 := Lib.hid kb2
            clear hk kn kh kb1 kb2 eh hd hd2
            generalize hdd : d + 1 = D at *
            go_wp2_with fail
            go_still_tail 8, (by kernel_rfl)
            rw [hmx.out]
            change wpList _ _ _ _ _ wr.drew
            have h2 : Hid (Nx w wr.drew ∧ BlkIs wr.drew w.heap.size 61 (arC H) ∧ BlkIs wr.drew B1 61 (arC F)) := ⟨KN.out.drew, K1.out.drew, K2.out.drew⟩
            have c3 : wr.drew.cell? ⟨w.heap.size, D, none⟩ = some (.int .u64 g0) := c1
            have f3 : wr.drew.frozen? ⟨w.heap.size, D, none⟩ = false := f1
            clear KN K1 K2 c1 c2 f1
            generalize wr.drew = W at *
            go_wp2
            go_roundw
            case rel =>
              have hb := h2.out.2.1.set D (.int .u64 m)
              rw [arC_set] at hb
              exact ⟨D, _, rfl, DD.out, h2.out.1.set _ _ _ (Nat.le_refl _), KH.out, hb, h2.out.2.2.chd (Chd.set W w.heap.size D (.int .u64 m)) (by have := HNE.out; omega)⟩
            case measure => simp only [intOf, Int.toNat_natCast]; have := DD.out; omega
          · obtain rfl : d = 16 := by omega
            have KN : Hid (Nx w wr) := hk.out.1
            have KB : Hid (BlkIs wr w.heap.size 61 (arC H)) := hk.out.2.2.1
            have KM : Hid (Hs H (mgs (ls.take (i + 1)))) := HMV.out H fun e h1 h2 => by rw [hk.out.2.1 e h1 h2, if_pos h2]
            clear hk HMV GB UB NW hd2 hd
            go_wp2
            go_roundw
            case rel => exact ⟨i + 1, H, rfl, HL.out, KN.out, HVA.out, KM.out, KB.out⟩
            case measure => simp only [intOf, Int.toNat_natCast]; have := HL.out; omega
    · have e2 : decide ((i : Int) < (ls.length : Int)) = false := by simpa using hlt
      have e2b : decide (i < ls.length) = false := by simpa using hlt
      rw [List.take_of_length_le (by omega)] at hG hv
      have MD := Lib.hid (rmade_any wr G)
      rw [hG.md (mgs_vld hv)] at MD
      have FIN : Hid (∀ r w', RwG ctE w' w.heap.size r (mgs ls) → MergeR w.heap.size ls r 0 w') := fun r w' hr => by
        unfold MergeR
        rw [if_pos (List.all_eq_true.2 hv)]
        exact ⟨hr, rfl⟩
      have HF := Lib.hid hnx
      have HB := Lib.hid hb
      clear hh hnx hv hG hb
      go_wp2_with (first
        | (refine wpList_load_row rfl 61 (.tmp 4) rfl w.heap.size rfl 61 (arC G) (0, 0) _ HB.out Tryd.underlying61 rfl (by rw [info17, arC_size]) ?_)
        | fail)
      refine MD.out.mono ?_
      rintro e w5 ⟨r, rfl, hr, hn5⟩
      have F5 := Lib.hid (FIN.out r w5 (hr.more HF.out.size))
      have N5 := Lib.hid (HF.out.trans hn5)
      clear hr hn5 MD
      go_wp2
      go_ret2
      exact ⟨_, _, rfl, F5.out, N5.out⟩
end Go.Proofs.YtlmfjalkgapcgaaDoor
