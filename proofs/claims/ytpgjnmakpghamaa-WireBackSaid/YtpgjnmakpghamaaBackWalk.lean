/- The walk of the law WireBack. -/
import Derived.Test.YtpgjnmakpghamaaRunsIn
import Derived.Test.YtpgjnmakpghamaaBackPure
import Derived.Laws.BitsAllLaws
import Derived.Deep.DeepCutAuto
namespace Go.Proofs.Ytpgjnmakpghamaa
open Go.RowKit
set_option linter.unusedVariables false

/-! ### Many numbers, one behind the other -/
def encs : List Nat → List UInt8
  | [] => []
  | x :: r => enc x ++ encs r
theorem encs_append (l m : List Nat) : encs (l ++ m) = encs l ++ encs m := by
  induction l with
  | nil => rfl
  | cons x r ih => simp [encs, ih]
theorem encs_length (l : List Nat) : (encs l).length ≤ 10 * l.length := by
  induction l with
  | nil => simp [encs]
  | cons x r ih =>
    have := enc_length x
    simp [encs]
    omega
theorem encs_take (l : List Nat) (i : Nat) (h : i < l.length) : encs (l.take (i + 1)) = encs (l.take i) ++ enc (l.getD i 0) := by
  rw [List.take_succ_eq_append_getElem h, encs_append]
  simp [encs, List.getD, h]
theorem encs_drop (l : List Nat) (i : Nat) (h : i < l.length) (r : List UInt8) : (encs l ++ r).drop (encs (l.take i)).length = enc (l.getD i 0) ++ (encs (l.drop (i + 1)) ++ r) := by
  have e : encs l = encs (l.take i) ++ (enc (l.getD i 0) ++ encs (l.drop (i + 1))) := by
    rw [← List.append_assoc, ← encs_take l i h, ← encs_append, List.take_append_drop]
  rw [e, List.append_assoc, List.drop_left, List.append_assoc]
theorem num_at (l : List Nat) (i : Nat) (h : i < l.length) (hx : l.getD i 0 < 18446744073709551616) (r : List UInt8) :
    num ((encs l ++ r).drop (encs (l.take i)).length) = (l.getD i 0, (enc (l.getD i 0)).length, 0) ∧ (encs (l.take i)).length + (enc (l.getD i 0)).length = (encs (l.take (i + 1))).length := by
  rw [encs_drop l i h, num_enc _ hx, encs_take l i h, List.length_append]
  exact ⟨rfl, rfl⟩

/-- A slice of numbers that came in, as the shell of a law hands it over. -/
theorem row_nums {w : World} {a : Option Addr} {len cap : Nat} {zs : List Int}
    (h : (a = none ∧ len = 0 ∧ cap = 0 ∧ zs = []) ∨ ∃ x, a = some x ∧ len ≤ cap ∧ cap ≤ maxLen ∧ zs.length = cap ∧ (∀ i, i < zs.length → w.cell? (x.add i) = some (.int .u64 (zs.getD i 0))) ∧ ∀ n ∈ zs, (Lit.int .u64 n).wf = true) :
    ∃ xs : List Nat, xs.length = len ∧ len ≤ cap ∧ cap ≤ maxLen ∧ (0 < len → ∃ b o, a = some ⟨b, o, none⟩ ∧ b < w.heap.size ∧ ∀ j, j < len → w.cell? ⟨b, o + j, none⟩ = some (.int .u64 (xs.getD j 0 : Nat)) ∧ xs.getD j 0 < 18446744073709551616) := by
  rcases h with ⟨rfl, rfl, rfl, rfl⟩ | ⟨x, rfl, hl, hm, hz, hcell, hwf⟩
  · exact ⟨[], rfl, Nat.le_refl _, Nat.zero_le _, fun h => absurd h (by omega)⟩
  · refine ⟨(zs.take len).map fun n => n.toNat, by simp; omega, hl, hm, fun hn => ?_⟩
    obtain ⟨b, o, spot⟩ := x
    have h0 := hcell 0 (by omega)
    have hs : spot = none := by simpa [Addr.add] using World.cell?_spot h0
    subst hs
    refine ⟨b, o, rfl, by simpa [add_plain] using World.block_lt_of_cell? w _ h0, fun j hj => ?_⟩
    have hc := hcell j (by omega)
    rw [add_plain] at hc
    rw [hc]
    have hjz : j < zs.length := by omega
    have hw := wf64 (hwf _ (List.getElem_mem hjz))
    have e : zs.getD j 0 = zs[j] := by simp [List.getD, hjz]
    have e2 : ((zs.take len).map fun n => n.toNat).getD j 0 = (zs[j]).toNat := by simp [List.getD, hj, hjz]
    rw [e, e2]
    exact ⟨by rw [Int.toNat_of_nonneg hw.1], by omega⟩

/-- The numbers are where they were. -/
structure Nums (w : World) (b o n : Nat) (xs : List Nat) : Prop where
  lt : b < w.heap.size
  cells : ∀ j, j < n → w.cell? ⟨b, o + j, none⟩ = some (.int .u64 (xs.getD j 0 : Nat)) ∧ xs.getD j 0 < 18446744073709551616
theorem Nums.cell {w w' : World} {b o n : Nat} {xs : List Nat} (h : Nums w b o n xs) (hb : Below w.heap.size w w') {j : Nat} (hj : j < n) : w'.cell? ⟨b, o + j, none⟩ = some (.int .u64 (xs.getD j 0 : Nat)) := (hb.cell h.lt).trans (h.cells j hj).1

theorem bytes_back (p : ByteArray) : (⟨p.data.toList.toArray⟩ : ByteArray) = p := by
  cases p
  simp

set_option maxRecDepth 100000 in
set_option maxHeartbeats 20000000 in
theorem back_in (w : World) (n0 c0 : Nat) (A0 : Option Addr) (xs : List Nat) (p q : ByteArray) (n3 c3 : Nat) (A3 : Option Addr) (l3 : List UInt8) (m : Int) (t : Nat)
    (hx1 : xs.length = n0) (hx2 : n0 ≤ c0) (hx3 : c0 ≤ maxLen) (hx4 : 0 < n0 → ∃ b o, A0 = some ⟨b, o, none⟩ ∧ b < w.heap.size ∧ ∀ j, j < n0 → w.cell? ⟨b, o + j, none⟩ = some (.int .u64 (xs.getD j 0 : Nat)) ∧ xs.getD j 0 < 18446744073709551616)
    (hb3 : Byt w w.heap.size A3 n3 c3 l3) (hz3 : A3 = none → n3 = 0 ∧ c3 = 0) (hn0 : n0 ≤ 200) (hpq : p.size + q.size ≤ 5000) (hn3 : n3 ≤ 5000) (hm1 : -9223372036854775808 ≤ m) (hm2 : m ≤ 9223372036854775807) (ht : t ≤ 255) :
    Calls Try.prog 7 #[.slice A0 n0 c0, .string p, .string q, .slice A3 n3 c3, .int .i64 m, .int .u8 t] w (LivesPost w) := by
  have d1 : decide ((200 : Int) < n0) = false := by simp; omega
  have d2 : decide ((5000 : Int) < (p.size : Int) + q.size) = false := by simp; omega
  have d3 : decide ((5000 : Int) < n3) = false := by simp; omega
  have Hx1 := Lib.hid hx1
  have Hx4 := Lib.hid hx4
  have Hb3 := Lib.hid hb3
  have Hz3 := Lib.hid hz3
  have Hpl : Hid (p.data.toList.length = p.size) := by unfold Hid; rfl
  have Hql : Hid (q.data.toList.length = q.size) := by unfold Hid; rfl
  clear hx1 hx3 hx4 hb3 hz3
  go_enter Try.func7, Try.ntmps7
  go_wp2_with fail
  refine (lives_any w).mono ?_
  rintro e w1 ⟨rfl, hb1⟩
  have hstart : Byt w1 w1.heap.size none 0 0 (encs (xs.take 0)) ∧ Below w.heap.size w w1 := ⟨by simpa [encs] using Byt.none_ w1 w1.heap.size, hb1⟩
  have Hst := Lib.hid hstart
  clear hb1 hstart
  go_wp2
  go_loopw [13, 14] (fun v x wr => ∃ (i n c : Nat) (A : Option Addr), x = .int .i64 i ∧ v = .slice A n c ∧ i ≤ n0 ∧ Byt wr wr.heap.size A n c (encs (xs.take i)) ∧ Below w.heap.size w wr) (fun _ x _ => n0 - (intOf x).toNat)
  case atStart => exact ⟨0, 0, 0, none, rfl, rfl, Nat.zero_le _, Hst.out⟩
  case round =>
    obtain ⟨i, n, c, A, rfl, rfl, hi, hby, hb⟩ := hrel
    clear Hst
    have Hby := Lib.hid hby
    have Hb := Lib.hid hb
    have hnlen : n ≤ 2000 := by
      have h1 := encs_length (xs.take i)
      have h2 := hby.len
      have h3 : (xs.take i).length ≤ 200 := by simp; omega
      omega
    clear hby hb
    by_cases hlt : i < n0
    · obtain ⟨b, o, rfl, hblt, hcells⟩ := Hx4.out (by omega)
      have hcell := (hcells i hlt).1
      have hxlt := (hcells i hlt).2
      have hcell2 : wr.cell? ⟨b, o + i, none⟩ = some (.int .u64 (xs.getD i 0 : Nat)) := (Hb.out.cell hblt).trans hcell
      have htake := encs_take xs i (by rw [Hx1.out]; exact hlt)
      have Ht := Lib.hid htake
      clear hcells hcell htake
      generalize xs.getD i 0 = x at *
      go_wp2_with fail
      refine (number_any wr wr.heap.size A n c _ x Hby.out (Nat.le_refl _) hxlt (by omega)).mono ?_
      rintro e w2 ⟨A2, n2, c2, rfl, ho2, hb2⟩
      rw [← Ht.out] at ho2
      have hfin : Byt w2 w2.heap.size A2 n2 c2 (encs (xs.take (i + 1))) ∧ Below w.heap.size w w2 := ⟨ho2.byt, Below.onR Hb.out hb2⟩
      have Hfin := Lib.hid hfin
      clear hfin ho2 hb2 hcell2 Hby Hb
      go_wp2
      go_roundw
      case rel => exact ⟨i + 1, n2, c2, A2, by go_num, rfl, hlt, Hfin.out⟩
      case measure => simp [intOf]; omega
    · obtain rfl : i = n0 := by omega
      go_wp2_with fail
      have hby2 : Byt wr wr.heap.size A n c (encs xs) := by
        have := Hby.out
        rwa [List.take_of_length_le (Nat.le_of_eq Hx1.out)] at this
      refine (piece_any wr wr.heap.size A n c (encs xs) p hby2 (Nat.le_refl _) (by omega) (by omega)).mono ?_
      rintro e w2 ⟨A2, n2, c2, rfl, ho2, hb2⟩
      have hnum : ∀ j, j < i → num ((encs xs ++ (enc p.size ++ p.data.toList)).drop (encs (xs.take j)).length) = (xs.getD j 0, (enc (xs.getD j 0)).length, 0) ∧ (encs (xs.take j)).length + (enc (xs.getD j 0)).length = (encs (xs.take (j + 1))).length := by
        intro j hj
        obtain ⟨b, o, _, _, hcells⟩ := Hx4.out (by omega)
        exact num_at xs j (by rw [Hx1.out]; exact hj) (hcells j hj).2 _
      have hpcs : pcs ((encs xs ++ (enc p.size ++ p.data.toList)).drop (encs (xs.take i)).length) = (p.data.toList, (enc p.size).length + p.size, 0) := by
        rw [List.take_of_length_le (Nat.le_of_eq Hx1.out), List.drop_left]
        have := pcs_enc p.data.toList [] (by rw [Hpl.out]; omega)
        rwa [List.append_nil, Hpl.out] at this
      have hend : (encs (xs.take i)).length + ((enc p.size).length + p.size) = n2 := by
        rw [← ho2.len, List.take_of_length_le (Nat.le_of_eq Hx1.out), List.length_append, List.length_append, Hpl.out]
      have hn2 : n2 ≤ 8000 := by
        have h1 := encs_length (xs.take i)
        have h3 : (xs.take i).length ≤ 200 := by simp; omega
        have h4 := enc_length p.size
        omega
      generalize encs xs ++ (enc p.size ++ p.data.toList) = T at *
      generalize (enc p.size).length + p.size = K at *
      have Hnum := Lib.hid hnum
      have Hpcs := Lib.hid hpcs
      have Hend := Lib.hid hend
      have Hb2 := Lib.hid (Below.onR Hb.out hb2)
      have Ho2 := Lib.hid ho2
      clear hnum hpcs hend hby2 hb2 ho2 Hby Hb
      go_wp2_with fail
      refine (new_any w2 w2.heap.size n2 c2 A2 T Ho2.out.byt (Nat.le_refl _) (fun h => by subst h; exact own_none Ho2.out) (by omega)).mono ?_
      rintro e w3 ⟨g, D, dn, dc, rfl, hr3, hb3⟩
      obtain rfl : n2 = dn := by rw [← hr3.own.len, Ho2.out.len]
      have hB : w.heap.size ≤ w2.heap.size := Hb2.out.size
      have hr3' : Rdr w3 w2.heap.size g D n2 dc T (encs (xs.take 0)).length 0 := hr3
      have Hr3 := Lib.hid hr3'
      have Hb3' := Lib.hid (Below.onR Hb2.out hb3)
      generalize w2.heap.size = B at *
      clear hr3 hr3' hb3 Hb2 Ho2
      go_wp2
      go_loopw [17] (fun x wr => ∃ j : Nat, x = .int .i64 j ∧ j ≤ i ∧ Rdr wr B g D n2 dc T (encs (xs.take j)).length 0 ∧ Below w.heap.size w wr) (fun x _ => i - (intOf x).toNat)
      case atStart => exact ⟨0, rfl, Nat.zero_le _, Hr3.out, Hb3'.out⟩
      case round =>
        obtain ⟨j, rfl, hj, hr, hb⟩ := hrel
        have Hr := Lib.hid hr
        have Hb := Lib.hid hb
        clear hr hb Hr3 Hb3'
        by_cases hlt : j < i
        · obtain ⟨b, o, rfl, hblt, hcells⟩ := Hx4.out (by omega)
          have hcell := (hcells j hlt).1
          have hcellW : ∀ W : World, Below w.heap.size w W → W.cell? ⟨b, o + j, none⟩ = some (.int .u64 (xs.getD j 0 : Nat)) := fun W h => (h.cell hblt).trans hcell
          have hc := rd_number0 wr.drew B g n2 dc _ D T (⟨Hr.out.blk, Hr.out.own, Hr.out.hat, Hr.out.hB⟩ : Rdr wr.drew B g D n2 dc T (encs (xs.take j)).length 0)
          rw [(Hnum.out j hlt).1] at hc
          simp only at hc
          rw [(Hnum.out j hlt).2] at hc
          have hcell1 := hcellW wr Hb.out
          generalize xs.getD j 0 = x at *
          have Hc := Lib.hid hc
          have HcellW := Lib.hid hcellW
          clear hc hcellW hcells hcell
          go_wp2_with fail
          go_region_with (go_at_call 10; (with_reducible refine Hc.out.mono ?_); rintro e w5 ⟨rfl, hr5, hg5⟩
                          have hb5 : Below w.heap.size w w5 := Hb.out.drew.grown hg5 Hb.out.size fun k hk => by injection hk with hk; subst hk; exact Nat.le_trans hB Hr.out.hB
                          have hcell5 := HcellW.out w5 hb5
                          have Hr5 := Lib.hid hr5
                          have Hb5 := Lib.hid hb5
                          clear hr5 hb5 hg5)
          all_goals
            go_wp2
            go_roundw
            case rel => exact ⟨j + 1, by go_num, hlt, Hr5.out, Hb5.out⟩
            case measure => simp [intOf]; omega
        · obtain rfl : j = i := by omega
          go_wp2_with fail
          have hc := rd_piece0 wr B g n2 dc _ D T Hr.out
          rw [Hpcs.out] at hc
          simp only at hc
          rw [Hend.out, bytes_back] at hc
          have Hc := Lib.hid hc
          clear hc Hnum Hpcs Hend
          refine Hc.out.mono ?_
          rintro e w5 ⟨rfl, hr5, hg5⟩
          have Hr5 := Lib.hid hr5
          have Hb5 : Hid (Below w.heap.size w w5) := Hb.out.grown hg5 Hb.out.size fun k hk => by injection hk with hk; subst hk; exact Nat.le_trans hB Hr.out.hB
          clear hr5 hg5 Hc Hr Hb
          go_wp2_with fail
          refine (rd_end w5 B g n2 dc n2 D T 0 Hr5.out).mono ?_
          rintro e w' ⟨rfl, q6, rfl⟩
          rw [show endOf n2 n2 0 = 0 from if_neg (by omega)]
          have Hb6 := Lib.hid (below_drewN Hb5.out q6)
          clear Hr5 Hb5
          generalize w5.drewN q6 = w6 at *
          -- the reader of any bytes
          go_wp2_with fail
          refine (own_any w6 w.heap.size n3 c3 A3 l3 (Hb3.out.same Hb6.out) Hb6.out.size (by omega)).mono ?_
          rintro e w7 ⟨A7, c7, rfl, ho7, hz7, hb7⟩
          go_wp2_with fail
          refine (new_any w7 w7.heap.size n3 c7 A7 l3 ho7.byt (Nat.le_refl _) hz7 (by omega)).mono ?_
          rintro e w8 ⟨g2, F, fn, fc, rfl, hr8, hb8⟩
          obtain rfl : n3 = fn := by rw [← hr8.own.len, Hb3.out.len]
          have hB2 : w.heap.size ≤ w7.heap.size := Nat.le_trans Hb6.out.size hb7.size
          have Hb8 := Lib.hid (Below.onR (Below.onR Hb6.out hb7) hb8)
          have Hr8 := Lib.hid hr8
          generalize w7.heap.size = B2 at *
          clear ho7 hz7 hb7 hr8 hb8 Hb6
          have hc := rd_number0 w8 B2 g2 n3 fc 0 F l3 Hr8.out
          rw [List.drop_zero] at hc
          have hxlt := num_lt l3
          have henc := enc_num l3
          have hle := num_le l3
          generalize num l3 = r at *
          obtain ⟨x, k, er⟩ := r
          simp only [Nat.zero_add] at hc hxlt henc hle
          have Hc := Lib.hid hc
          have Henc := Lib.hid henc
          have Hle := Lib.hid hle
          clear hc henc hle
          go_wp2_with fail
          refine Hc.out.mono ?_
          rintro e w9 ⟨rfl, hr9, hg9⟩
          have Hb9 : Hid (Below w.heap.size w w9) := Hb8.out.grown hg9 Hb8.out.size fun k hk => by injection hk with hk; subst hk; exact Nat.le_trans hB2 Hr8.out.hB
          have Hr9 := Lib.hid hr9
          clear hr9 hg9 Hc Hr8 Hb8
          go_upto_region 21 with fail
          go_cut [111] (fun s wx => s = .bool false ∧ Below w.heap.size w wx)
          case first =>
            obtain ⟨E, hE⟩ : ∃ E : Int, ((er : Nat) : Int) = E := ⟨_, rfl⟩
            have hr9 := Hr9.out
            rw [hE] at hr9
            have hq : ∀ n, Rdr (w9.drewN n) B2 g2 F n3 fc l3 k E := fun n => hr9.drewN n
            have Hq := Lib.hid hq
            have hr9d : Rdr w9.drew B2 g2 F n3 fc l3 k E := ⟨hr9.blk, hr9.own, hr9.hat, hr9.hB⟩
            have Hr9d := Lib.hid hr9d
            clear hr9d hr9 hq Hr9
            by_cases her : E = 0
            · subst her
              obtain rfl : er = 0 := by omega
              have henc := Henc.out rfl
              have hle := Hle.out rfl
              rw [Hb3.out.len] at hle
              have Hen := Lib.hid henc
              have hk1 : 0 < k := hle.1
              have hk2 : k ≤ n3 := hle.2
              have Hup := Lib.hid (Hb3.out.upto hk2)
              have Hnm := Lib.hid (number_any w9.drew w9.heap.size none 0 0 [] x (Byt.none_ _ _) (Nat.le_refl _) hxlt (by omega))
              have hcap := Hb3.out.le
              have hcap2 := Hb3.out.cap
              unfold maxLen at hcap2
              have e1 : IntKind.i64.wrap ((n3 : Int) - ((n3 - k : Nat) : Int)) = (k : Int) := by rw [IntWalk.i64_in _ (by omega)]; omega
              have e2 : (k : Int) ≤ c3 := by omega
              have e3 : 0 ≤ (k : Int) := by omega
              have He := Lib.hid (rd_err w9.drew B2 g2 n3 fc k F l3 0 Hr9d.out)
              clear henc hle hE
              go_region_with (first
                | (go_at_call 14; (with_reducible refine He.out.mono ?_); rintro e w' ⟨rfl, rfl⟩)
                | (go_at_call 12; (with_reducible refine Hnm.out.mono ?_); rintro e w10 ⟨A10, n10, c10, rfl, ho10, hb10⟩
                   rw [List.nil_append, ← Hen.out] at ho10
                   have hs10 := run_string_of_bytes ho10.byt
                   have O10 := Lib.hid ho10
                   have Hl10 := Lib.hid (rd_left w10 B2 g2 n3 fc k F l3 0 (by decide) (Hr9d.out.below hb10))
                   have B10 := Lib.hid (Below.onR Hb9.out.drew hb10)
                   clear ho10 hb10)
                | (go_at_call 33; (with_reducible refine Hl10.out.mono ?_); rintro e w' ⟨rfl, q11, rfl⟩
                   have hs11 := run_string_of_bytes (O10.out.byt.keep (w' := w10.drewN q11) fun _ _ => rfl)
                   have hs12 := run_string_of_bytes ((Hup.out.same B10.out).keep (w' := w10.drewN q11) fun _ _ => rfl)))
              all_goals (go_wp2_with fail; go_meet; exact ⟨rfl, below_drewN B10.out q11⟩)
            · have eb : (E == 0) = false := by simpa using her
              have Her := Lib.hid her
              clear her
              go_quiet ((go_at_call 14; exact Calls.quiet_of_same ((rd_err _ B2 g2 n3 fc k F l3 E (Hq.out _)).mono fun _ _ h => ⟨h.1, h.2.symm⟩)))
              go_wp2_with fail
              go_meet
              exact ⟨rfl, below_drewN Hb9.out _⟩
          case rest =>
            obtain ⟨rfl, hbw⟩ := hcut
            have Hbw := Lib.hid hbw
            obtain ⟨kp, hkp⟩ : ∃ k, chk p.data.toList = k := ⟨_, rfl⟩
            obtain ⟨kq, hkq⟩ : ∃ k, chk q.data.toList = k := ⟨_, rfl⟩
            obtain ⟨kt, hkt⟩ : ∃ k, chk (p.data.toList ++ q.data.toList) = k := ⟨_, rfl⟩
            have J1 := Lib.hid (join_at p.data.toList q.data.toList kp kq kt q.size hkp hkq hkt (by rw [Hql.out]) (by omega))
            have KP := Lib.hid hkp
            have KQ := Lib.hid hkq
            have KT := Lib.hid hkt
            clear hkp hkq hkt hbw Hb9 Henc Hle Hr9 hxlt
            obtain ⟨cp, wp, hrunp, hbyp, hbp, hzp⟩ := run_bytes_of_string' wc p (by unfold maxLen; omega)
            have Hbp := Lib.hid (Below.onR Hbw.out hbp)
            have Hyp := Lib.hid hbyp
            clear hbyp hbp hzp
            go_wp2_with fail
            refine (sum_at wp wp.heap.size _ p.size cp p.data.toList Hyp.out (Nat.le_refl _) (by omega)).mono ?_
            rintro e ws ⟨rfl, hbs⟩
            rw [KP.out]
            have Hbs := Lib.hid (Below.onR Hbp.out hbs)
            clear hbs hrunp Hyp Hbp
            obtain ⟨cq, wq, hrunq, hbyq, hbq, hzq⟩ := run_bytes_of_string' ws q (by unfold maxLen; omega)
            have Hbq := Lib.hid (Below.onR Hbs.out hbq)
            have Hyq := Lib.hid hbyq
            clear hbyq hbq hzq
            go_wp2_with fail
            refine (sum_at wq wq.heap.size _ q.size cq q.data.toList Hyq.out (Nat.le_refl _) (by omega)).mono ?_
            rintro e wt ⟨rfl, hbt⟩
            rw [KQ.out]
            have Hbt := Lib.hid (Below.onR Hbq.out hbt)
            clear hbt hrunq Hyq Hbq Hbs
            go_wp2_with fail
            refine (J1.out wt).mono ?_
            rintro e w' ⟨rfl, rfl⟩
            have hsz : (p ++ q).size = p.size + q.size := ByteArray.size_append
            have Hpq : Hid ((p ++ q).data.toList = p.data.toList ++ q.data.toList) := by unfold Hid; simp
            obtain ⟨cj, wj, hrunj, hbyj, hbj, hzj⟩ := run_bytes_of_string' wt (p ++ q) (by unfold maxLen; omega)
            rw [Hpq.out, hsz] at hbyj
            have Hbj := Lib.hid (Below.onR Hbt.out hbj)
            have Hyj := Lib.hid hbyj
            clear hbyj hbj hzj J1
            go_wp2_with fail
            refine (sum_at wj wj.heap.size _ (p.size + q.size) cj _ Hyj.out (Nat.le_refl _) (by omega)).mono ?_
            rintro e wk ⟨rfl, hbk⟩
            rw [KT.out]
            have Hbk := Lib.hid (Below.onR Hbj.out hbk)
            clear hbk hrunj Hyj Hbj Hbt
            go_wp2_with fail
            refine (frame_any wk p (by omega)).mono ?_
            rintro e wf ⟨Af, nf, cf, rfl, hof, hbf⟩
            have hnf : nf = 8 + p.size := by rw [← hof.len, frame_length, Hpl.out]
            have hnf1 : 8 ≤ nf := by omega
            have hnf2 : nf ≤ 5008 := by omega
            clear hnf
            have Hbf := Lib.hid (Below.onR Hbk.out hbf)
            have hwk : w.heap.size ≤ wk.heap.size := Hbk.out.size
            have Hof := Lib.hid hof
            clear hof hbf
            by_cases ht0 : t = 0
            · subst ht0
              go_wp2
              go_ret
              exact ⟨rfl, Hbf.out⟩
            · have eb : (((t : Nat) : Int) == 0) = false := by
                simp
                omega
              have hpk := Lib.hid (pick_any m ((nf : Int) - 4) wf (by omega) (by omega) hm1 hm2)
              have hp0 := pickOf_lo m ((nf : Int) - 4) (by omega)
              have hp1 := pickOf_hi m ((nf : Int) - 4) (by omega)
              generalize pickOf m ((nf : Int) - 4) = P at *
              obtain ⟨kk, hkk⟩ : ∃ kk : Nat, (4 : Int) + P = kk := ⟨(4 + P).toNat, by omega⟩
              have hk4 : 4 ≤ kk := by omega
              have hkn : kk < nf := by omega
              have Hkk := Lib.hid hkk
              clear hkk
              obtain ⟨gf, rfl, hgB, hglt⟩ := Hof.out.block (by omega)
              have hof' : wf.ownsRow wk.heap.size 5 1 (.slice (some ⟨gf, 0, none⟩) nf cf) nf (bvs (frame p.data.toList)) := Hof.out
              have hfl : kk < (frame p.data.toList).length := by rw [Hof.out.len]; exact hkn
              have c1 := hof'.cellAt kk (by omega)
              have f1 := hof'.frozenAt kk
              obtain ⟨y, hy⟩ : ∃ y, (frame p.data.toList)[kk]'hfl = y := ⟨_, rfl⟩
              have hcy : wf.cell? ⟨gf, kk, none⟩ = some (.int .u8 (y.toNat : Int)) := by
                rw [c1, ← hy]
                simp [bvs, hfl]
              obtain ⟨z, hz⟩ : ∃ z : UInt8, z.toNat = y.toNat ^^^ t := ⟨UInt8.ofNat (y.toNat ^^^ t), ofNat_toNat _ (Nat.xor_lt_two_pow (n := 8) y.toNat_lt (by omega))⟩
              have hzy : z ≠ y := by
                intro h
                subst h
                have h1 : z.toNat ^^^ (z.toNat ^^^ t) = t := by rw [← Nat.xor_assoc, Nat.xor_self, Nat.zero_xor]
                rw [← hz, Nat.xor_self] at h1
                omega
              have hbits : bits .xor .u8 (y.toNat : Int) (t : Int) = (z.toNat : Int) := by rw [u8_xor_nat _ _ y.toNat_lt (by omega), hz]
              have hun := unfr_set p.data.toList (by rw [Hpl.out]; omega) kk z hk4 hfl (by rw [hy]; exact hzy)
              have hst := hof'.stored kk (.int .u8 (z.toNat : Int))
              rw [bvs_set] at hst
              have Hun := Lib.hid hun
              have Hst := Lib.hid hst
              clear hun hst hof' c1 hy hz hzy
              go_upto_region 30 with (go_at_call 27; (with_reducible refine hpk.out.mono ?_); rintro e w' ⟨rfl, rfl⟩)
              rw [Hkk.out]
              go_wp2_with fail
              have hoz : Own (wf.setCell ⟨gf, kk, none⟩ (.int .u8 (z.toNat : Int))) wk.heap.size (some ⟨gf, 0, none⟩) nf cf ((frame p.data.toList).set kk z) := Hst.out.1
              have hbz : Below w.heap.size w (wf.setCell ⟨gf, kk, none⟩ (.int .u8 (z.toNat : Int))) := Hbf.out.setCell (p := ⟨gf, kk, none⟩) (Nat.le_trans hwk hgB) _
              refine (unframe_any _ _ (some ⟨gf, 0, none⟩) nf cf _ hoz.byt (Nat.le_refl _) (by omega)).mono ?_
              rintro e w' ⟨rfl, hbu⟩
              rw [Hun.out]
              simp only [unfrV]
              have Hfin := Lib.hid (Below.onR hbz hbu)
              clear hoz hbz hbu hcy f1 hbits
              go_wp2
              go_ret
              exact ⟨rfl, Hfin.out⟩

set_option maxRecDepth 100000 in
theorem back_out (w : World) (n0 c0 : Nat) (A0 : Option Addr) (p q : ByteArray) (n3 c3 : Nat) (A3 : Option Addr) (m t : Int) (h0 : n0 ≤ 9223372036854775807) (hpq : p.size + q.size ≤ 9223372036854775807) (h3 : n3 ≤ 9223372036854775807)
    (hbig : 200 < n0 ∨ 5000 < p.size + q.size ∨ 5000 < n3) :
    Calls Try.prog 7 #[.slice A0 n0 c0, .string p, .string q, .slice A3 n3 c3, .int .i64 m, .int .u8 t] w (LivesPost w) := by
  by_cases d1 : 200 < n0
  · have e1 : decide ((200 : Int) < n0) = true := by simp; omega
    go_enter Try.func7, Try.ntmps7
    go_wp2_with (go_at_call 11; (with_reducible refine (lives_any w).mono ?_); rintro e w1 ⟨rfl, hb1⟩)
    go_ret
    exact ⟨rfl, hb1⟩
  have e1 : decide ((200 : Int) < n0) = false := by simp; omega
  by_cases d2 : 5000 < p.size + q.size
  · have e2 : decide ((5000 : Int) < (p.size : Int) + q.size) = true := by simp; omega
    go_enter Try.func7, Try.ntmps7
    go_wp2_with (go_at_call 11; (with_reducible refine (lives_any w).mono ?_); rintro e w1 ⟨rfl, hb1⟩)
    go_ret
    exact ⟨rfl, hb1⟩
  have e2 : decide ((5000 : Int) < (p.size : Int) + q.size) = false := by simp; omega
  have e3 : decide ((5000 : Int) < n3) = true := by simp; omega
  go_enter Try.func7, Try.ntmps7
  go_wp2_with (go_at_call 11; (with_reducible refine (lives_any w).mono ?_); rintro e w1 ⟨rfl, hb1⟩)
  go_ret
  exact ⟨rfl, hb1⟩

theorem back_any (w : World) (n0 c0 : Nat) (A0 : Option Addr) (xs : List Nat) (p q : ByteArray) (n3 c3 : Nat) (A3 : Option Addr) (l3 : List UInt8) (m t : Int)
    (hx1 : xs.length = n0) (hx2 : n0 ≤ c0) (hx3 : c0 ≤ maxLen) (hx4 : 0 < n0 → ∃ b o, A0 = some ⟨b, o, none⟩ ∧ b < w.heap.size ∧ ∀ j, j < n0 → w.cell? ⟨b, o + j, none⟩ = some (.int .u64 (xs.getD j 0 : Nat)) ∧ xs.getD j 0 < 18446744073709551616)
    (hb3 : Byt w w.heap.size A3 n3 c3 l3) (hz3 : A3 = none → n3 = 0 ∧ c3 = 0) (hpq : p.size + q.size ≤ maxLen) (hm : (Lit.int .i64 m).wf = true) (ht : (Lit.int .u8 t).wf = true) :
    Calls Try.prog 7 #[.slice A0 n0 c0, .string p, .string q, .slice A3 n3 c3, .int .i64 m, .int .u8 t] w (LivesPost w) := by
  by_cases h : 200 < n0 ∨ 5000 < p.size + q.size ∨ 5000 < n3
  · have b3 := hb3.cap
    have e3 := hb3.le
    unfold maxLen at b3 hx3 hpq
    exact back_out w n0 c0 A0 p q n3 c3 A3 m t (by omega) (by omega) (by omega) h
  · obtain ⟨t1, t2⟩ := wf8 ht
    obtain ⟨t, rfl⟩ := Int.eq_ofNat_of_zero_le t1
    clear hpq
    exact back_in w n0 c0 A0 xs p q n3 c3 A3 l3 m t hx1 hx2 hx3 hx4 hb3 hz3 (by omega) (by omega) (by omega) (wfi64 hm).1 (wfi64 hm).2 (by omega)
end Go.Proofs.Ytpgjnmakpghamaa
