/- The document's answers for package vector: Bytes. -/
import Derived.Test.YtlmfjalkgapcgaaDoorVrA
import Derived.Test.YtlmfjalkgapcgaaDoorVcBytes
import Derived.Test.YtlmfjalkgapcgaaDoorRef
import Derived.Deep.RegionWith
namespace Go.Proofs.YtlmfjalkgapcgaaDoor
open Go.RowKit
set_option linter.unusedVariables false

attribute [local go_sem] Oper.semAt_some

set_option maxRecDepth 100000 in
set_option maxHeartbeats 1000000 in
theorem rbytes_any (w : World) (v : Value) (l : List Ct) (h : RdG ctE w v l) (k : CtsOk l) (hn : l.length ≤ 9223372036854775807) :
    Calls Tryd.prog 16 #[v] w (Ret2 fun r n w' => BytesR w.heap.size l r n w' ∧ Nx w w') := by
  obtain ⟨A, c, rfl⟩ := h.form
  have CK := Lib.hid (rcheck_any w _ l h hn)
  have HA := Lib.hid h
  have HK := Lib.hid k
  have E : Hid (∀ r n w', BytesR w.heap.size l r n w' ↔ if vld 0 l then (∃ A k c, r = .slice A k c ∧ Own w' w.heap.size A k c (encV l)) ∧ n = 0 else r = .slice none 0 0 ∧ n = 2) := fun _ _ _ => Iff.rfl
  generalize BytesR w.heap.size l = R at *
  clear h k
  go_enter Tryd.func16, Tryd.ntmps16
  go_wp2_with fail
  refine CK.out.mono ?_
  rintro e w1 ⟨rfl, hn1⟩
  have N1 := Lib.hid hn1
  clear CK hn1
  cases hv : vld 0 l with
  | false =>
    rw [hv] at E
    go_wp2
    go_ret2
    exact ⟨_, _, rfl, (E.out _ _ _).2 ⟨rfl, rfl⟩, N1.out⟩
  | true =>
    rw [hv] at E
    have hl := vld_len16 hv
    have HM := Lib.hid (vld_mem hv)
    have HE : Hid (encV l = enc l.length ++ l.flatMap ctB) := rfl
    have NU := Lib.hid (rnumber_any w1 w.heap.size 0 0 none [] l.length (World.ownsRow_nil _ _ _ _) N1.out.size (by omega) (by omega))
    have hcv : IntKind.u64.wrap (l.length : Int) = (l.length : Int) := IntWalk.u64_in _ (by omega)
    clear hv
    go_wp2_with fail
    refine NU.out.mono ?_
    rintro e w2 ⟨A2, n2, c2, rfl, hown2, hn2⟩
    have N2 : Hid (Nx w w2) := Below.trans N1.out hn2
    have O2 : Hid (Own w2 w.heap.size A2 n2 c2 (enc l.length)) := hown2
    clear NU hown2 hn2 hcv
    go_wp2
    go_loopw [4, 5] (fun x5 x wr => ∃ (i : Nat) (A n c : _), x5 = .slice A n c ∧ x = .int .i64 i ∧ i ≤ l.length ∧ Hid (Nx w wr ∧ Own wr w.heap.size A n c (enc l.length ++ (l.take i).flatMap ctB))) (fun _ x _ => l.length - (intOf x).toNat)
    case atStart => exact ⟨0, _, _, _, rfl, rfl, Nat.zero_le _, N2.out, by simpa using O2.out⟩
    case round =>
      obtain ⟨i, A5, n5, c5, rfl, rfl, hi, hh⟩ := hrel
      obtain ⟨hnx, ho⟩ := hh.out
      by_cases hlt : i < l.length
      · have e2 : decide ((i : Int) < (l.length : Int)) = true := by simpa using hlt
        have e2b : decide (i < l.length) = true := by simpa using hlt
        have e3 : (0 : Int) ≤ (i : Int) := by omega
        have e4 : (i : Int) < (l.length : Int) := by omega
        obtain ⟨b, o, rfl, x0, x1⟩ := ct_cells (HA.out.nx hnx) i hlt
        have X1 : Hid (∀ W, Nx w W → W.cell? ⟨b, o + i * 2 + 1, none⟩ = some (.int .u64 l[i].n)) := fun W hW => by
          obtain ⟨b', o', e', _, y1⟩ := ct_cells (HA.out.nx hW) i hlt
          simp only [Option.some.injEq, Addr.mk.injEq, and_true] at e'
          obtain ⟨rfl, rfl⟩ := e'
          exact y1
        have hw : IntKind.i64.wrap ((i : Int) + 1) = ((i + 1 : Nat) : Int) := by rw [IntWalk.i64_in _ (by omega)]; omega
        have hsn : enc l.length ++ (l.take (i + 1)).flatMap ctB = enc l.length ++ (l.take i).flatMap ctB ++ enc l[i].d.toNat ++ enc l[i].n := by
          rw [List.take_succ_eq_append_getElem hlt, List.flatMap_append]
          simp [ctB]
        have hd := HM.out l[i] (List.getElem_mem hlt)
        have hnn := (HK.out l[i] (List.getElem_mem hlt)).2.2
        have hlen : (enc l.length ++ (l.take i).flatMap ctB).length ≤ 1000 := by
          rw [List.length_append]
          have := enc_length l.length
          have := ctBs_len (l.take i)
          rw [List.length_take] at this
          omega
        have hn5 := ho.len
        have HL := Lib.hid hlt
        generalize l[i] = q at *
        generalize enc l.length ++ (l.take i).flatMap ctB = pre at *
        have hcv : IntKind.u64.wrap q.d = ((q.d.toNat : Nat) : Int) := by rw [IntWalk.u64_in _ (by omega), Int.toNat_of_nonneg (by omega)]
        have NU1 := Lib.hid (rnumber_any wr.drew w.heap.size n5 c5 A5 pre q.d.toNat (show Own wr.drew w.heap.size A5 n5 c5 pre from ho) hnx.size (by omega) (by omega))
        have NU2 : Hid (∀ W A n c, Nx w W → Own W w.heap.size A n c (pre ++ enc q.d.toNat) → Calls Tryd.prog 42 #[.slice A n c, .int .u64 q.n] W fun e w' => ∃ A' n' c', e = .returned (.slice A' n' c') ∧ Own w' w.heap.size A' n' c' (pre ++ enc q.d.toNat ++ enc q.n) ∧ Below w.heap.size W w') := fun W A n c hN hW =>
          rnumber_any W w.heap.size n c A _ q.n hW hN.size (by omega) (by have := hW.len; rw [List.length_append] at this; have := enc_length q.d.toNat; omega)
        have NN := Lib.hid hnx
        have HSN := Lib.hid hsn
        generalize q.d.toNat = dn at *
        clear hh hnx ho hlt hd hnn hlen hn5 hsn hl
        go_wp2_with fail
        go_region_with (first
          | (go_at_call 42; (with_reducible refine NU1.out.mono ?_); rintro e w3 ⟨A3, n3, c3, rfl, hown3, hn3⟩; have N3 : Hid (Nx w w3) := Below.trans NN.out.drew hn3; have z1 := X1.out w3 N3.out; have NU3 := Lib.hid (NU2.out w3 A3 n3 c3 N3.out hown3); clear hown3 hn3)
          | (go_at_call 42; (with_reducible refine NU3.out.mono ?_); rintro e w4 ⟨A4, n4, c4, rfl, hown4, hn4⟩; have N4 : Hid (Nx w w4) := Below.trans N3.out hn4; have O4 : Hid (Own w4 w.heap.size A4 n4 c4 (enc l.length ++ (l.take (i + 1)).flatMap ctB)) := (by rw [HSN.out]; exact hown4); clear hown4 hn4))
        all_goals
          go_wp2
          go_roundw
          case rel => exact ⟨i + 1, _, _, _, rfl, rfl, HL.out, N4.out, O4.out⟩
          case measure => simp only [intOf, Int.toNat_natCast]; have := HL.out; omega
      · have e2 : decide ((i : Int) < (l.length : Int)) = false := by simpa using hlt
        have e2b : decide (i < l.length) = false := by simpa using hlt
        rw [List.take_of_length_le (by omega)] at ho
        have FIN : Hid (R (.slice A5 n5 c5) 0 wr) := (E.out _ _ _).2 ⟨⟨_, _, _, rfl, ho⟩, rfl⟩
        have HF := Lib.hid hnx
        clear hh hnx ho
        go_wp2
        go_ret2
        exact ⟨_, _, rfl, FIN.out, HF.out⟩
end Go.Proofs.YtlmfjalkgapcgaaDoor
