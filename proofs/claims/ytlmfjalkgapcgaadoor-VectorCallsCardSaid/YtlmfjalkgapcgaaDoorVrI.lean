/- The document's answers for package vector: digits, Text. -/
import Derived.Test.YtlmfjalkgapcgaaDoorVrA
import Derived.Test.YtlmfjalkgapcgaaDoorVcText
import Derived.Test.YtlmfjalkgapcgaaDoorVcBytes
import Derived.RegionTactic
import Derived.Deep.RegionWith
import Derived.Deep.DeepCutAuto
namespace Go.Proofs.YtlmfjalkgapcgaaDoor
open Go.RowKit
open Go.Lib (decDigits)
set_option linter.unusedVariables false

attribute [local go_sem] Oper.semAt_some

theorem run_string_one (W : World) (b o : Nat) (x : UInt8) (h : W.cell? ⟨b, o, none⟩ = some (.int .u8 (x.toNat : Int))) :
    (convert 34 9 (.slice (some ⟨b, o, none⟩) 1 1)).run Tryd.prog W = .ok (.string (S [x])) W := by
  have := run_convert_bytes_back (P := Tryd.prog) W 34 9 5 ⟨b, o, none⟩ 1 [x] Tryd.underlying34 Tryd.underlying5 Tryd.underlying9 (fun j hj => by
    have hj0 : j = 0 := by simp at hj; omega
    subst hj0
    have e : (⟨b, o, none⟩ : Addr).add 0 = ⟨b, o, none⟩ := by simp [add_plain]
    rw [e]
    exact h)
  exact this
theorem Nx.at {a b : World} {p : Addr} {v : Value} (h : Nx a b) (hc : a.cell? p = some v) : b.cell? p = some v := (Below.cell h (World.block_lt_of_cell? a _ hc)).trans hc
theorem dec_len {n : Nat} (h : n < 18446744073709551616) : (decDigits n).length ≤ 20 := by rw [Lib.decDigits_length]; exact nDigits_le n (by omega)
set_option maxRecDepth 100000 in
set_option maxHeartbeats 1000000 in
theorem rdigits1 (w : World) (n : Nat) (hn : n < 10) :
    Calls Tryd.prog 51 #[.int .u64 (n : Int)] w fun e w' => e = .returned (.string (S (decDigits n))) ∧ Nx w w' := by
  rw [decDigits, dif_pos hn]
  have hx : ((UInt8.ofNat (48 + n)).toNat : Int) = 48 + (n : Int) := by
    rw [UInt8.toNat_ofNat']
    omega
  have hc := fun W b o h => run_string_one W b o (UInt8.ofNat (48 + n)) h
  rw [hx] at hc
  have Hc := Lib.hid hc
  have i1 : (n : Int) < 10 := by omega
  have e5 : IntKind.u64.wrap (48 + (n : Int)) = 48 + (n : Int) := IntWalk.u64_in _ (by omega)
  have e6 : IntKind.u8.wrap (48 + (n : Int)) = 48 + (n : Int) := IntWalk.u8_in _ (by omega)
  clear hc hx
  generalize S [UInt8.ofNat (48 + n)] = s at *
  go_enter Tryd.func51, Tryd.ntmps51
  have hc := Hc.out
  go_wp2
  go_ret
  exact ⟨rfl, (Nx.refl _).alloc _⟩
set_option maxRecDepth 100000 in
set_option maxHeartbeats 1000000 in
theorem rdigits_step (w : World) (n : Nat) (hn : ¬ n < 10) (hn2 : n < 18446744073709551616) (D : ∀ W : World, Calls Tryd.prog 51 #[.int .u64 ((n / 10 : Nat) : Int)] W fun e w' => e = .returned (.string (S (decDigits (n / 10)))) ∧ Nx W w') :
    Calls Tryd.prog 51 #[.int .u64 (n : Int)] w fun e w' => e = .returned (.string (S (decDigits n))) ∧ Nx w w' := by
  have hd : S (decDigits (n / 10)) ++ S [UInt8.ofNat (48 + n % 10)] = S (decDigits n) := by
    rw [S_app]
    congr 1
    conv => rhs; rw [decDigits, dif_neg hn]
  have hx : ((UInt8.ofNat (48 + n % 10)).toNat : Int) = 48 + ((n % 10 : Nat) : Int) := by
    rw [UInt8.toNat_ofNat']
    omega
  have hc := fun W b o h => run_string_one W b o (UInt8.ofNat (48 + n % 10)) h
  rw [hx] at hc
  have e1 : (n : Int) / 10 = ((n / 10 : Nat) : Int) := by omega
  have e2 : (n : Int) % 10 = ((n % 10 : Nat) : Int) := by omega
  have i1 : ¬ (n : Int) < 10 := by omega
  have i2 : n % 10 ≤ 9 := by omega
  have i3 : n / 10 < 18446744073709551616 := by omega
  have z1 : (S (decDigits (n / 10))).size ≤ 20 := by rw [S_size]; exact dec_len (by omega)
  have z2 : (S [UInt8.ofNat (48 + n % 10)]).size ≤ 3 := by rw [S_size]; simp
  have D := Lib.hid D
  have Hd := Lib.hid hd
  clear hd hx
  generalize S [UInt8.ofNat (48 + n % 10)] = s at *
  generalize S (decDigits (n / 10)) = t at *
  generalize S (decDigits n) = u at *
  generalize n % 10 = r at *
  generalize n / 10 = q at *
  have e3 : IntKind.u64.wrap (q : Int) = (q : Int) := IntWalk.u64_in _ (by omega)
  have e3b : IntKind.u64.wrap (r : Int) = (r : Int) := IntWalk.u64_in _ (by omega)
  have e4 : (n : Int).tmod 10 = (r : Int) := by rw [Int.tmod_eq_emod_of_nonneg (by omega)]; exact e2
  have e5 : IntKind.u64.wrap (48 + (r : Int)) = 48 + (r : Int) := IntWalk.u64_in _ (by omega)
  have e6 : IntKind.u8.wrap (48 + (r : Int)) = 48 + (r : Int) := IntWalk.u8_in _ (by omega)
  go_enter Tryd.func51, Tryd.ntmps51
  go_wp2_with fail
  go_region_with (go_at_call 51; (with_reducible refine (D.out _).mono ?_); rintro e w2 ⟨rfl, hb⟩
                  have hq := Nx.at (p := ⟨w.heap.size, 0, none⟩) (v := .int .u8 (48 + (r : Int))) hb
                  try simp at hq
                  have HB : Hid (Nx w w2) := by first | exact Nx.trans ((Nx.refl w).drew) hb | exact Nx.trans (((Nx.refl w).alloc _).drew) hb | exact Nx.trans hb hb
                  clear hb)
  all_goals
    go_wp2
    go_ret
    rw [← Hd.out]
    first | exact ⟨rfl, HB.out⟩ | exact ⟨rfl, HB.out.alloc _⟩
theorem rdigits_any (w : World) (n : Nat) (hn : n < 18446744073709551616) :
    Calls Tryd.prog 51 #[.int .u64 (n : Int)] w fun e w' => e = .returned (.string (S (decDigits n))) ∧ Nx w w' := by
  induction n using Nat.strongRecOn generalizing w with
  | _ n ih =>
    by_cases h : n < 10
    · exact rdigits1 w n h
    · exact rdigits_step w n h hn (fun W => ih (n / 10) (by omega) W (by omega))

/-! ### Text -/
theorem join_more (xs : List (List UInt8)) (x sep : List UInt8) : Lib.join (xs ++ [x]) sep = if xs.length = 0 then x else Lib.join xs sep ++ sep ++ x := by
  cases xs with
  | nil => exact Lib.join_one x sep
  | cons y ys =>
    rw [if_neg (by simp), List.cons_append, Lib.join_cons, Lib.join_cons]
    simp [Lib.joinTail]
/-- The text of the first i counts. -/
def txU (l : List Ct) (i : Nat) : List UInt8 := Lib.join ((l.take i).map wordOf) [32]
theorem txU_next {l : List Ct} (i : Nat) (h : i < l.length) : txU l (i + 1) = if i = 0 then wordOf l[i] else txU l i ++ [32] ++ wordOf l[i] := by
  unfold txU
  rw [List.take_succ_eq_append_getElem h, List.map_append, List.map_cons, List.map_nil, join_more]
  have e : ((l.take i).map wordOf).length = i := by rw [List.length_map, List.length_take]; omega
  rw [e]

set_option maxRecDepth 100000 in
set_option maxHeartbeats 2000000 in
theorem rtext_any (w : World) (v : Value) (l : List Ct) (h : RdG ctE w v l) (k : CtsOk l) (hn : l.length ≤ 9223372036854775807) :
    Calls Tryd.prog 26 #[v] w fun e w' => e = .returned (.string (S (if vld 0 l then textV l else []))) ∧ Nx w w' := by
  obtain ⟨A, c, rfl⟩ := h.form
  have VA := Lib.hid (rcheck_any w _ l h hn)
  have HA := Lib.hid h
  have HK := Lib.hid k
  obtain ⟨r, hr⟩ : ∃ r, (if vld 0 l then textV l else []) = r := ⟨_, rfl⟩
  rw [hr]
  have HR := Lib.hid hr
  clear h k hr
  go_enter Tryd.func26, Tryd.ntmps26
  go_wp2_with fail
  refine VA.out.mono ?_
  rintro e w1 ⟨rfl, hn1⟩
  have N1 := Lib.hid hn1
  clear VA hn1
  cases hv : vld 0 l with
  | false =>
    have HR : Hid (r = []) := by show r = []; rw [← HR.out, hv]; rfl
    clear hv
    go_wp2
    go_ret
    exact ⟨by rw [HR.out]; rfl, N1.out⟩
  | true =>
    have HR : Hid (r = textV l) := by show r = _; rw [← HR.out, hv]; rfl
    have hl := vld_len16 hv
    have HM := Lib.hid (vld_mem hv)
    clear hv
    go_wp2
    go_loopw [3, 4] (fun x3 x wr => ∃ (i : Nat), x3 = .string (S (txU l i)) ∧ x = .int .i64 i ∧ i ≤ l.length ∧ Hid (Nx w wr)) (fun _ x _ => l.length - (intOf x).toNat)
    case atStart => exact ⟨0, rfl, rfl, Nat.zero_le _, N1.out⟩
    case round =>
      obtain ⟨i, rfl, rfl, hi, hh⟩ := hrel
      have hnx := hh.out
      by_cases hlt : i < l.length
      · have e2 : decide ((i : Int) < (l.length : Int)) = true := by simpa using hlt
        have e2b : decide (i < l.length) = true := by simpa using hlt
        have e3 : (0 : Int) ≤ (i : Int) := by omega
        have e4 : (i : Int) < (l.length : Int) := by omega
        obtain ⟨b, o, rfl, x0, x1⟩ := ct_cells (HA.out.nx hnx) i hlt
        have X1 : Hid (∀ W, Nx w W → W.cell? ⟨b, o + i * 2 + 1, none⟩ = some (.int .u64 l[i].n)) := fun W hW => by
          obtain ⟨b', o', e', _, y1⟩ := ct_cells (HA.out.nx hW) i hlt
          simp only [Option.some.injEq, Addr.mk.injEq, and_true] at e'
          obtain ⟨rfl, rfl⟩ := e'
          exact y1
        have hw : IntKind.i64.wrap ((i : Int) + 1) = ((i + 1 : Nat) : Int) := by rw [IntWalk.i64_in _ (by omega)]; omega
        have hsn := txU_next i hlt
        have hd := HM.out l[i] (List.getElem_mem hlt)
        have hnn := (HK.out l[i] (List.getElem_mem hlt)).2.2
        have hlen : (txU l i).length ≤ 140737488355328 := text_len (l := l.take i) (fun c hc => HK.out c (List.mem_of_mem_take hc)) (by rw [List.length_take]; omega)
        have HL := Lib.hid hlt
        generalize l[i] = q at *
        have hwo : wordOf q = decDigits q.d.toNat ++ [58] ++ decDigits q.n := by unfold wordOf Lib.itoa; rw [if_neg (by omega)]
        have hcv : IntKind.u64.wrap q.d = ((q.d.toNat : Nat) : Int) := by rw [IntWalk.u64_in _ (by omega), Int.toNat_of_nonneg (by omega)]
        have D1 := Lib.hid (fun W => rdigits_any W q.d.toNat (by omega))
        have D2 := Lib.hid (fun W => rdigits_any W q.n (by omega))
        have z1 : (S (decDigits q.d.toNat)).size ≤ 20 := by rw [S_size]; exact dec_len (by omega)
        have z2 : (S (decDigits q.n)).size ≤ 20 := by rw [S_size]; exact dec_len (by omega)
        have z0 : (S (txU l i)).size ≤ 140737488355328 := by rw [S_size]; exact hlen
        have T0 : Hid (i = 0 → S (txU l i) ++ S (decDigits q.d.toNat) ++ S [58] ++ S (decDigits q.n) = S (txU l (i + 1))) := fun h => by
          rw [hsn, if_pos h, hwo]
          subst h
          simp [S_app, txU, Lib.join_nil]
        have T1 : Hid (i ≠ 0 → S (txU l i) ++ S [32] ++ S (decDigits q.d.toNat) ++ S [58] ++ S (decDigits q.n) = S (txU l (i + 1))) := fun h => by
          rw [hsn, if_neg h, hwo]
          simp [S_app]
        have NN := Lib.hid hnx
        generalize hdn : q.d.toNat = dn at *
        generalize S (decDigits dn) = s1 at *
        generalize S (decDigits q.n) = s2 at *
        generalize S (txU l i) = t0 at *
        have q58 : S [58] = ⟨#[58]⟩ := rfl
        have q32 : S [32] = ⟨#[32]⟩ := rfl
        rw [q58] at T0 T1
        rw [q32] at T1
        clear hh hnx hlt hd hnn hlen hsn hwo hl q58 q32 hdn
        by_cases h0 : i = 0
        · have d4 : decide ((0 : Int) < (i : Int)) = false := by simp; omega
          have d5 : ¬ (0 : Int) < (i : Int) := by omega
          have TT := Lib.hid (T0.out h0)
          clear T0 T1 h0
          go_wp2_with fail
          go_region_with (first
            | (go_at_call 51; (with_reducible refine (D1.out _).mono ?_); rintro e w3 ⟨rfl, hn3⟩; have N3 : Hid (Nx w w3) := NN.out.drew.trans hn3; have y1 := X1.out w3 N3.out; clear hn3)
            | (go_at_call 51; (with_reducible refine (D2.out _).mono ?_); rintro e w4 ⟨rfl, hn4⟩; have N4 : Hid (Nx w w4) := N3.out.trans hn4; clear hn4))
          all_goals
            go_wp2
            go_roundw
            case rel => exact ⟨i + 1, by rw [TT.out], rfl, HL.out, N4.out⟩
            case measure => simp only [intOf, Int.toNat_natCast]; have := HL.out; omega
        · have d4 : decide ((0 : Int) < (i : Int)) = true := by simp; omega
          have d5 : (0 : Int) < (i : Int) := by omega
          have TT := Lib.hid (T1.out h0)
          clear T0 T1 h0
          go_wp2_with fail
          go_region_with (first
            | (go_at_call 51; (with_reducible refine (D1.out _).mono ?_); rintro e w3 ⟨rfl, hn3⟩; have N3 : Hid (Nx w w3) := NN.out.drew.trans hn3; have y1 := X1.out w3 N3.out; clear hn3)
            | (go_at_call 51; (with_reducible refine (D2.out _).mono ?_); rintro e w4 ⟨rfl, hn4⟩; have N4 : Hid (Nx w w4) := N3.out.trans hn4; clear hn4))
          all_goals
            go_wp2
            go_roundw
            case rel => exact ⟨i + 1, by rw [TT.out], rfl, HL.out, N4.out⟩
            case measure => simp only [intOf, Int.toNat_natCast]; have := HL.out; omega
      · have e2 : decide ((i : Int) < (l.length : Int)) = false := by simpa using hlt
        have e2b : decide (i < l.length) = false := by simpa using hlt
        have FIN : Hid (txU l i = r) := by
          rw [HR.out]; unfold txU textV; rw [List.take_of_length_le (by omega)]; rfl
        have HF := Lib.hid hnx
        clear hh hnx
        go_wp2
        go_ret
        exact ⟨by rw [← FIN.out]; rfl, HF.out⟩
end Go.Proofs.YtlmfjalkgapcgaaDoor
