/- The walk of the law WireCalls. -/
import Derived.Test.YtpgjnmakpghamaaRef2
import Derived.DataShut
import Derived.Deep.RegionHeld3
namespace Go.Proofs.Ytpgjnmakpghamaa
open Go.RowKit
set_option linter.unusedVariables false

theorem Below.on {w w1 w2 : World} (h : Below w.heap.size w w1) (h2 : Below w1.heap.size w1 w2) : Below w.heap.size w w2 := h.trans (h2.mono h.size)

theorem wfU8 {n : Int} (h : (Lit.int .u8 n).wf = true) : 0 ≤ n ∧ n ≤ 255 := (Lit.wf_int_iff .u8 n).1 h
theorem wfU32 {n : Int} (h : (Lit.int .u32 n).wf = true) : 0 ≤ n ∧ n ≤ 4294967295 := (Lit.wf_int_iff .u32 n).1 h
theorem wfU64 {n : Int} (h : (Lit.int .u64 n).wf = true) : 0 ≤ n ∧ n ≤ 18446744073709551615 := (Lit.wf_int_iff .u64 n).1 h
theorem wfI64 {n : Int} (h : (Lit.int .i64 n).wf = true) : -9223372036854775808 ≤ n ∧ n ≤ 9223372036854775807 := (Lit.wf_int_iff .i64 n).1 h

/-- A slice of bytes that came in, as the shell of a law hands it over. -/
theorem byt_of_row {w : World} {a : Option Addr} {len cap : Nat} {zs : List Int}
    (h : (a = none ∧ len = 0 ∧ cap = 0 ∧ zs = []) ∨ ∃ x, a = some x ∧ len ≤ cap ∧ cap ≤ maxLen ∧ zs.length = cap ∧ (∀ i, i < zs.length → w.cell? (x.add i) = some (.int .u8 (zs.getD i 0))) ∧ ∀ n ∈ zs, (Lit.int .u8 n).wf = true) :
    ∃ l, Byt w w.heap.size a len cap l ∧ (a = none → len = 0 ∧ cap = 0) := by
  rcases h with ⟨rfl, rfl, rfl, rfl⟩ | ⟨x, rfl, hl, hm, hz, hcell, hwf⟩
  · exact ⟨[], Byt.none_ _ _, fun _ => ⟨rfl, rfl⟩⟩
  · refine ⟨(zs.take len).map fun n => UInt8.ofNat n.toNat, ⟨by simp; omega, hl, hm, fun hn => ?_⟩, fun h => by cases h⟩
    obtain ⟨b, o, spot⟩ := x
    have h0 := hcell 0 (by omega)
    have hs : spot = none := by simpa [Addr.add] using World.cell?_spot h0
    subst hs
    refine ⟨b, o, rfl, by simpa [add_plain] using World.block_lt_of_cell? w _ h0, fun j hj => ?_⟩
    have hc := hcell j (by omega)
    rw [add_plain] at hc
    rw [hc]
    have hmem : zs.getD j 0 ∈ zs := by
      rw [List.getD, List.getElem?_eq_getElem (by omega)]
      exact List.getElem_mem _
    have hw := hwf _ hmem
    have hb := wfU8 hw
    congr 2
    have hjl : j < (zs.take len).length := by simp; omega
    rw [nth_eq _ _ (by simpa using hjl)]
    simp only [List.getElem_map, List.getElem_take]
    have e : zs.getD j 0 = zs[j]'(by omega) := by rw [List.getD, List.getElem?_eq_getElem (by omega)]; rfl
    rw [e] at hb ⊢
    rw [ofNat_toNat _ (by omega)]
    omega

set_option maxRecDepth 100000 in
theorem calls_out (w : World) (n c : Nat) (A : Option Addr) (x a b m : Int) (s : ByteArray) (hn : n ≤ 9223372036854775807) (hs : s.size ≤ 9223372036854775807) (hbig : 5000 < n ∨ 5000 < s.size) :
    Calls Try.prog 4 #[.slice A n c, .int .u64 x, .string s, .int .u32 a, .int .u32 b, .int .i64 m] w (LivesPost w) := by
  by_cases h1 : 5000 < n
  · have d1 : decide ((5000 : Int) < n) = true := by simp; omega
    go_enter Try.func4, Try.ntmps4
    go_wp2_with (go_at_call 11; (with_reducible refine (lives_any w).mono ?_); rintro e w1 ⟨rfl, hb1⟩)
    go_ret
    exact ⟨rfl, hb1⟩
  · have d1 : decide ((5000 : Int) < n) = false := by simp; omega
    have d2 : decide ((5000 : Int) < s.size) = true := by simp; omega
    go_enter Try.func4, Try.ntmps4
    go_wp2_with (go_at_call 11; (with_reducible refine (lives_any w).mono ?_); rintro e w1 ⟨rfl, hb1⟩)
    go_ret
    exact ⟨rfl, hb1⟩

theorem joinV_form (a b : Nat) (m : Int) : ∃ u e : Int, joinV a b m = .tuple #[.int .u32 u, .int .i64 e] := by
  unfold joinV
  split
  · exact ⟨_, _, rfl⟩
  · exact ⟨_, _, rfl⟩

theorem wpAnyH_weaken {P : Program} {md : Region.Mode} {ops : Array Oper} {Q : Exit → Act → World → Prop} {S S' : World → Prop} (h : ∀ w, S' w → S w) :
    ∀ (fuel : Nat) (listed : Array Bool) (a : Act) (w : World), wpAnyH P md ops Q S' fuel listed a w → wpAnyH P md ops Q S fuel listed a w
  | 0, _, _, _, h0 => h0
  | fuel + 1, _, _, _, h0 => ⟨h0.1, fun i hi => wpOp_mono (fun a' w' h' => ⟨h _ h'.1, wpAnyH_weaken h fuel _ a' w' h'.2⟩) (h0.2 i hi)⟩

/-- In this world the slice reads as these bytes. -/
def Reads (A : Option Addr) (n c : Nat) (l : List UInt8) (w : World) : Prop := (convert 24 9 (.slice A n c)).run Try.prog w = .ok (.string ⟨l.toArray⟩) w
theorem Reads.own {w : World} {B n c : Nat} {A : Option Addr} {l : List UInt8} (h : Own w B A n c l) : Reads A n c l w := run_string_of_bytes h.byt
theorem Reads.out {A : Option Addr} {n c : Nat} {l : List UInt8} {w : World} (h : Reads A n c l w) : (convert 24 9 (.slice A n c)).run Try.prog w = .ok (.string ⟨l.toArray⟩) w := h

set_option maxRecDepth 100000 in
set_option maxHeartbeats 60000000 in
theorem calls_in (w : World) (n c a b : Nat) (A : Option Addr) (x : Nat) (m : Int) (s : ByteArray) (l : List UInt8) (hb : Byt w w.heap.size A n c l) (hn : n ≤ 5000) (hs : s.size ≤ 5000) (hx : x < 18446744073709551616)
    (ha : a < 4294967296) (hb' : b < 4294967296) (hm1 : -9223372036854775808 ≤ m) (hm2 : m ≤ 9223372036854775807) :
    Calls Try.prog 4 #[.slice A n c, .int .u64 x, .string s, .int .u32 a, .int .u32 b, .int .i64 m] w (LivesPost w) := by
  have d1 : decide ((5000 : Int) < n) = false := by simp; omega
  have d2 : decide ((5000 : Int) < s.size) = false := by simp; omega
  obtain ⟨ju, je, hjv⟩ := joinV_form a b m
  have Hj1 := Lib.hid (fun W : World => join_any a b m W ha hb' hm1 hm2)
  have Hj2 := Lib.hid (fun W : World => rjoin_any a b m W ha hb' hm2)
  rw [hjv] at Hj1 Hj2
  have Hb := Lib.hid hb
  have Hu : Hid (unfr l = unfr l) := by unfold Hid; rfl
  generalize hur : unfr l = ur at Hu
  have Hur := Lib.hid hur
  clear hjv hb ha hb' Hu hur
  go_enter Try.func4, Try.ntmps4
  go_wp2_with fail
  refine (lives_any w).mono ?_
  rintro e w1 ⟨rfl, hb1⟩
  -- Own, Piece
  go_wp2_with fail
  refine (own_any w1 w.heap.size n c A l (Hb.out.same hb1) hb1.size (by omega)).mono ?_
  rintro e w2 ⟨A2, c2, rfl, ho2, -, hb2⟩
  have B2 := Lib.hid (Below.on hb1 hb2)
  go_wp2_with fail
  refine (piece_any w2 w2.heap.size A2 n c2 l s ho2.byt (Nat.le_refl _) (by omega) (by omega)).mono ?_
  rintro e w3 ⟨A3, n3, c3, rfl, ho3, hb3⟩
  have B3 := Lib.hid (Below.on B2.out hb3)
  clear ho2 hb1 hb2 hb3
  -- Own, the document's Piece
  go_wp2_with fail
  refine (own_any w3 w.heap.size n c A l (Hb.out.same B3.out) B3.out.size (by omega)).mono ?_
  rintro e w4 ⟨A4, c4, rfl, ho4, -, hb4⟩
  go_wp2_with fail
  refine (rpiece_any w4 w3.heap.size n c4 A4 l s ho4 hb4.size (by omega) (by omega)).mono ?_
  rintro e w5 ⟨A5, n5, c5, rfl, ho5, hb5⟩
  have hb35 : Below w3.heap.size w3 w5 := hb4.trans hb5
  have B5 := Lib.hid (Below.on B3.out hb35)
  have O3 := Lib.hid (ho3.below hb35)
  clear ho3 ho4 hb4 hb5 hb35
  -- Join twice
  go_wp2_with fail
  refine (Hj1.out w5).mono ?_
  rintro e w' ⟨rfl, rfl⟩
  go_wp2_with fail
  refine (Hj2.out w5).mono ?_
  rintro e w' ⟨rfl, rfl⟩
  clear Hj1 Hj2
  -- Frame twice
  go_wp2_with fail
  refine (frame_any w5 s (by omega)).mono ?_
  rintro e w6 ⟨A6, n6, c6, rfl, ho6, hb6⟩
  go_wp2_with fail
  refine (rframe_any w6 s (by omega)).mono ?_
  rintro e w7 ⟨A7, n7, c7, rfl, ho7, hb7⟩
  have B7 := Lib.hid (Below.on (Below.on B5.out hb6) hb7)
  have O3 := Lib.hid ((O3.out.below hb6).below hb7)
  have O5 := Lib.hid ((ho5.below hb6).below hb7)
  have O6 := Lib.hid (ho6.below hb7)
  have O7 := Lib.hid ho7
  clear ho5 ho6 ho7 hb6 hb7 B5 B3
  -- Unframe twice
  go_wp2_with fail
  refine (unframe_any w7 w.heap.size A n c l (Hb.out.same B7.out) B7.out.size (by omega)).mono ?_
  rintro e w8 ⟨rfl, hb8⟩
  rw [Hur.out]
  obtain ⟨ul, un, ue⟩ := ur
  simp only [unfrV]
  have B8 := Lib.hid (Below.on B7.out hb8)
  go_wp2_with fail
  refine (runframe_any w8 w.heap.size A n c l (Hb.out.same B8.out) B8.out.size).mono ?_
  rintro e w' ⟨rfl, q, rfl⟩
  rw [Hur.out]
  simp only [unfrV]
  have B9 := Lib.hid (below_drewN B8.out q)
  have hb79 : Below w7.heap.size w7 (w8.drewN q) := below_drewN hb8 q
  generalize w8.drewN q = w9 at *
  have O3 := Lib.hid (O3.out.below hb79)
  have O5 := Lib.hid (O5.out.below hb79)
  have O6 := Lib.hid (O6.out.below hb79)
  have O7 := Lib.hid (O7.out.below hb79)
  clear hb8 hb79 B7 B8
  -- Own, Number; Own, the document's Number; the comparisons
  have hown := own_any w9.drew w.heap.size n c A l (Hb.out.same B9.out).drew B9.out.size (by omega)
  have Hown := Lib.hid hown
  have P3 : Own w9.drew _ _ _ _ _ := O3.out
  have P5 : Own w9.drew _ _ _ _ _ := O5.out
  have P6 : Own w9.drew _ _ _ _ _ := O6.out
  have P7 : Own w9.drew _ _ _ _ _ := O7.out
  have Q3 := Lib.hid P3
  have Q5 := Lib.hid P5
  have Q6 := Lib.hid P6
  have Q7 := Lib.hid P7
  have B9 := Lib.hid B9.out.drew
  clear hown P3 P5 P6 P7 O3 O5 O6 O7
  go_wp2_with fail
  simp only [List.append_eq, List.cons_append, List.nil_append]
  refine wp_region_held_drew (S := fun W => Reads A3 n3 c3 (l ++ (enc s.size ++ s.data.toList)) W ∧ Reads A5 n5 c5 (l ++ (enc s.size ++ s.data.toList)) W ∧ Reads A6 n6 c6 (frame s.data.toList) W ∧ Reads A7 n7 c7 (frame s.data.toList) W) (by kernel_rfl)
    ⟨Reads.own Q3.out, Reads.own Q5.out, Reads.own Q6.out, Reads.own Q7.out⟩ (fun hHeld => ?_)
  change wpAnyH _ _ _ _ _ 68 (Array.replicate 68 false) _ _
  refine wpAnyH_take (i := 0) (oi := { dst := some 91, op := Op.move (Operand.tmp 0), type := 24, pos := "law.go:47", after := #[], guard := none }) (v := ?v0) rfl (by kernel_rfl) (by kernel_rfl) (by kernel_rfl) (fun _ _ _ h => h) (Or.inl ⟨by rfl, ?hy0⟩) hHeld ?rest0
  case hy0 =>
    intro W hSw
    go_simp
    try with_reducible rfl
  try simp only [Act.put, List.setIfInBounds_toArray, List.set_cons_zero, List.set_cons_succ]
  refine wpAnyH_take (i := 2) (oi := { dst := some 93, op := Op.move (Operand.tmp 1), type := 25, pos := "law.go:47", after := #[], guard := none }) (v := ?v2) rfl (by kernel_rfl) (by kernel_rfl) (by kernel_rfl) (fun _ _ _ h => h) (Or.inl ⟨by rfl, ?hy2⟩) hHeld ?rest2
  case hy2 =>
    intro W hSw
    go_simp
    try with_reducible rfl
  try simp only [Act.put, List.setIfInBounds_toArray, List.set_cons_zero, List.set_cons_succ]
  refine wpAnyH_take (i := 5) (oi := { dst := some 96, op := Op.move (Operand.tmp 0), type := 24, pos := "law.go:47", after := #[], guard := none }) (v := ?v5) rfl (by kernel_rfl) (by kernel_rfl) (by kernel_rfl) (fun _ _ _ h => h) (Or.inl ⟨by rfl, ?hy5⟩) hHeld ?rest5
  case hy5 =>
    intro W hSw
    go_simp
    try with_reducible rfl
  try simp only [Act.put, List.setIfInBounds_toArray, List.set_cons_zero, List.set_cons_succ]
  refine wpAnyH_take (i := 7) (oi := { dst := some 98, op := Op.move (Operand.tmp 1), type := 25, pos := "law.go:47", after := #[], guard := none }) (v := ?v7) rfl (by kernel_rfl) (by kernel_rfl) (by kernel_rfl) (fun _ _ _ h => h) (Or.inl ⟨by rfl, ?hy7⟩) hHeld ?rest7
  case hy7 =>
    intro W hSw
    go_simp
    try with_reducible rfl
  try simp only [Act.put, List.setIfInBounds_toArray, List.set_cons_zero, List.set_cons_succ]
  refine wpAnyH_ready (rs := [1]) (by kernel_rfl) (by simp) ?_
  refine AllReadyH.cons (o := { dst := some 92, op := Op.call { callee := Callee.value (Operand.func 16), args := #[Operand.tmp 91], argTypes := #[24] }, type := 24, pos := "law.go:47", after := #[{ on := 0, ground := Ground.data }], guard := none }) rfl (fun K hK => ?_) AllReadyH.nil
  go_simp
  refine (Hown.out).mono ?_
  rintro e w10 ⟨A10, c10, rfl, ho10, -, hb10⟩
  have O10 := Lib.hid ho10
  have D10 := Lib.hid hb10
  have R10 := Lib.hid (And.intro (Reads.own (Q3.out.below hb10)) (And.intro (Reads.own (Q5.out.below hb10)) (And.intro (Reads.own (Q6.out.below hb10)) (Reads.own (Q7.out.below hb10)))))
  clear ho10 hb10 hHeld
  go_wp2_with fail
  refine hK.out _ _ R10.out (fun hHeld => ?_)
  clear hK K
  try simp only [Act.put, List.setIfInBounds_toArray, List.set_cons_zero, List.set_cons_succ]
  refine wpAnyH_ready (rs := [3]) (by kernel_rfl) (by simp) ?_
  refine AllReadyH.cons (o := { dst := some 94, op := Op.call { callee := Callee.value (Operand.func 12), args := #[Operand.tmp 92, Operand.tmp 93], argTypes := #[24, 25] }, type := 24, pos := "law.go:47", after := #[{ on := 1, ground := Ground.data }, { on := 2, ground := Ground.data }, { on := 1, ground := Ground.chain }], guard := none }) rfl (fun K hK => ?_) AllReadyH.nil
  go_simp
  refine (number_any w10 w10.heap.size A10 n c10 l x O10.out.byt (Nat.le_refl _) hx (by omega)).mono ?_
  rintro e w11 ⟨A11, n11, c11, rfl, ho11, hb11⟩
  have O11 := Lib.hid ho11
  have D11 := Lib.hid hb11
  have R11 := Lib.hid (And.intro (Reads.own ((Q3.out.below D10.out).below hb11)) (And.intro (Reads.own ((Q5.out.below D10.out).below hb11)) (And.intro (Reads.own ((Q6.out.below D10.out).below hb11)) (Reads.own ((Q7.out.below D10.out).below hb11)))))
  have B11 := Lib.hid (Below.on (Below.on B9.out D10.out) hb11)
  clear ho11 hb11 hHeld
  go_wp2_with fail
  refine hK.out _ _ R11.out (fun hHeld => ?_)
  refine wpAnyH_weaken (S' := fun W => Reads A11 n11 c11 (l ++ enc x) W ∧ Reads A3 n3 c3 (l ++ (enc s.size ++ s.data.toList)) W ∧ Reads A5 n5 c5 (l ++ (enc s.size ++ s.data.toList)) W ∧ Reads A6 n6 c6 (frame s.data.toList) W ∧ Reads A7 n7 c7 (frame s.data.toList) W) (fun _ h => h.2) _ _ _ _ ?_
  have hHeld2 := And.intro (Reads.own O11.out) R11.out
  clear hK K
  try simp only [Act.put, List.setIfInBounds_toArray, List.set_cons_zero, List.set_cons_succ]
  refine wpAnyH_take (i := 4) (oi := { dst := some 95, op := Op.convert 24 9 (Operand.tmp 94), type := 9, pos := "law.go:47", after := #[{ on := 3, ground := Ground.data }], guard := none }) (v := ?v4) rfl (by kernel_rfl) (by kernel_rfl) (by kernel_rfl) (fun _ _ _ h => h) (Or.inl ⟨by rfl, ?hy4⟩) hHeld2 ?rest4
  case hy4 =>
    intro W hSw
    have s1 := hSw.1.out
    go_simp
    try with_reducible rfl
  try simp only [Act.put, List.setIfInBounds_toArray, List.set_cons_zero, List.set_cons_succ]
  refine wpAnyH_ready (rs := [6]) (by kernel_rfl) (by simp) ?_
  refine AllReadyH.cons (o := { dst := some 97, op := Op.call { callee := Callee.value (Operand.func 16), args := #[Operand.tmp 96], argTypes := #[24] }, type := 24, pos := "law.go:47", after := #[{ on := 5, ground := Ground.data }, { on := 3, ground := Ground.chain }], guard := none }) rfl (fun K hK => ?_) AllReadyH.nil
  go_simp
  refine (own_any w11 w.heap.size n c A l (Hb.out.same B11.out) B11.out.size (by omega)).mono ?_
  rintro e w12 ⟨A12, c12, rfl, ho12, -, hb12⟩
  have O12 := Lib.hid ho12
  have D12 := Lib.hid hb12
  have R12 := Lib.hid (And.intro (Reads.own (O11.out.below hb12)) (And.intro (Reads.own (((Q3.out.below D10.out).below D11.out).below hb12)) (And.intro (Reads.own (((Q5.out.below D10.out).below D11.out).below hb12)) (And.intro (Reads.own (((Q6.out.below D10.out).below D11.out).below hb12)) (Reads.own (((Q7.out.below D10.out).below D11.out).below hb12))))))
  clear ho12 hb12 hHeld hHeld2
  go_wp2_with fail
  refine hK.out _ _ R12.out (fun hHeld => ?_)
  clear hK K
  try simp only [Act.put, List.setIfInBounds_toArray, List.set_cons_zero, List.set_cons_succ]
  refine wpAnyH_ready (rs := [8]) (by kernel_rfl) (by simp) ?_
  refine AllReadyH.cons (o := { dst := some 99, op := Op.call { callee := Callee.value (Operand.func 24), args := #[Operand.tmp 97, Operand.tmp 98], argTypes := #[24, 25] }, type := 24, pos := "law.go:47", after := #[{ on := 6, ground := Ground.data }, { on := 7, ground := Ground.data }, { on := 6, ground := Ground.chain }], guard := none }) rfl (fun K hK => ?_) AllReadyH.nil
  go_simp
  refine (rnumber_any w12 w11.heap.size n c12 A12 l x O12.out D12.out.size hx (by omega)).mono ?_
  rintro e w13 ⟨A13, n13, c13, rfl, ho13, hb13⟩
  have D13 := Lib.hid (D12.out.trans hb13)
  have R13 := Lib.hid (And.intro (Reads.own (O11.out.below D13.out)) (And.intro (Reads.own (((Q3.out.below D10.out).below D11.out).below D13.out)) (And.intro (Reads.own (((Q5.out.below D10.out).below D11.out).below D13.out)) (And.intro (Reads.own (((Q6.out.below D10.out).below D11.out).below D13.out)) (Reads.own (((Q7.out.below D10.out).below D11.out).below D13.out))))))
  have R13' := Lib.hid (Reads.own ho13)
  have O13 := Lib.hid ho13
  have B13 := Lib.hid (Below.on B11.out D13.out)
  clear ho13 hb13 hHeld
  go_wp2_with fail
  refine hK.out _ _ R13.out (fun hHeld => ?_)
  refine wpAnyH_weaken (S' := fun W => Reads A13 n13 c13 (l ++ enc x) W ∧ Reads A11 n11 c11 (l ++ enc x) W ∧ Reads A3 n3 c3 (l ++ (enc s.size ++ s.data.toList)) W ∧ Reads A5 n5 c5 (l ++ (enc s.size ++ s.data.toList)) W ∧ Reads A6 n6 c6 (frame s.data.toList) W ∧ Reads A7 n7 c7 (frame s.data.toList) W) (fun _ h => h.2) _ _ _ _ ?_
  have hHeld2 := And.intro R13'.out R13.out
  clear hHeld
  clear hK K
  try simp only [Act.put, List.setIfInBounds_toArray, List.set_cons_zero, List.set_cons_succ]
  refine wpAnyH_take (i := 9) (oi := { dst := some 100, op := Op.convert 24 9 (Operand.tmp 99), type := 9, pos := "law.go:47", after := #[{ on := 8, ground := Ground.data }], guard := none }) (v := ?v9) rfl (by kernel_rfl) (by kernel_rfl) (by kernel_rfl) (fun _ _ _ h => h) (Or.inl ⟨by rfl, ?hy9⟩) hHeld2 ?rest9
  case hy9 =>
    intro W hSw
    have s1 := hSw.1.out
    go_simp
    try with_reducible rfl
  try simp only [Act.put, List.setIfInBounds_toArray, List.set_cons_zero, List.set_cons_succ]
  refine wpAnyH_take (i := 10) (oi := { dst := some 101, op := Op.binOp BinOp.eql 9 (Operand.tmp 95) (Operand.tmp 100) 9, type := 4, pos := "law.go:47", after := #[{ on := 4, ground := Ground.data }, { on := 9, ground := Ground.data }], guard := none }) (v := ?v10) rfl (by kernel_rfl) (by kernel_rfl) (by kernel_rfl) (fun _ _ _ h => h) (Or.inl ⟨by rfl, ?hy10⟩) hHeld2 ?rest10
  case hy10 =>
    intro W hSw
    go_simp
    try with_reducible rfl
  try simp only [Act.put, List.setIfInBounds_toArray, List.set_cons_zero, List.set_cons_succ]
  refine wpAnyH_take (i := 11) (oi := { dst := some 102, op := Op.move (Operand.tmp 101), type := 4, pos := "law.go:47", after := #[{ on := 10, ground := Ground.data }, { on := 8, ground := Ground.chain }], guard := none }) (v := ?v11) rfl (by kernel_rfl) (by kernel_rfl) (by kernel_rfl) (fun _ _ _ h => h) (Or.inl ⟨by rfl, ?hy11⟩) hHeld2 ?rest11
  case hy11 =>
    intro W hSw
    go_simp
    try with_reducible rfl
  try simp only [Act.put, List.setIfInBounds_toArray, List.set_cons_zero, List.set_cons_succ]
  refine wpAnyH_take (i := 12) (oi := { dst := some 103, op := Op.move (Operand.tmp 13), type := 24, pos := "law.go:47", after := #[{ on := 11, ground := Ground.guard }], guard := some (11, true) }) (v := ?v12) rfl (by kernel_rfl) (by kernel_rfl) (by kernel_rfl) (fun _ _ _ h => h) (Or.inl ⟨by rfl, ?hy12⟩) hHeld2 ?rest12
  case hy12 =>
    intro W hSw
    go_simp
    try with_reducible rfl
  try simp only [Act.put, List.setIfInBounds_toArray, List.set_cons_zero, List.set_cons_succ]
  refine wpAnyH_take (i := 13) (oi := { dst := some 104, op := Op.convert 24 9 (Operand.tmp 103), type := 9, pos := "law.go:47", after := #[{ on := 12, ground := Ground.data }, { on := 11, ground := Ground.guard }], guard := some (11, true) }) (v := ?v13) rfl (by kernel_rfl) (by kernel_rfl) (by kernel_rfl) (fun _ _ _ h => h) (Or.inl ⟨by rfl, ?hy13⟩) hHeld2 ?rest13
  case hy13 =>
    intro W hSw
    have s1 := hSw.2.2.1.out
    go_simp
    try with_reducible rfl
  try simp only [Act.put, List.setIfInBounds_toArray, List.set_cons_zero, List.set_cons_succ]
  refine wpAnyH_take (i := 14) (oi := { dst := some 105, op := Op.move (Operand.tmp 15), type := 24, pos := "law.go:47", after := #[{ on := 11, ground := Ground.guard }], guard := some (11, true) }) (v := ?v14) rfl (by kernel_rfl) (by kernel_rfl) (by kernel_rfl) (fun _ _ _ h => h) (Or.inl ⟨by rfl, ?hy14⟩) hHeld2 ?rest14
  case hy14 =>
    intro W hSw
    go_simp
    try with_reducible rfl
  try simp only [Act.put, List.setIfInBounds_toArray, List.set_cons_zero, List.set_cons_succ]
  refine wpAnyH_take (i := 15) (oi := { dst := some 106, op := Op.convert 24 9 (Operand.tmp 105), type := 9, pos := "law.go:47", after := #[{ on := 14, ground := Ground.data }, { on := 11, ground := Ground.guard }], guard := some (11, true) }) (v := ?v15) rfl (by kernel_rfl) (by kernel_rfl) (by kernel_rfl) (fun _ _ _ h => h) (Or.inl ⟨by rfl, ?hy15⟩) hHeld2 ?rest15
  case hy15 =>
    intro W hSw
    have s1 := hSw.2.2.2.1.out
    go_simp
    try with_reducible rfl
  try simp only [Act.put, List.setIfInBounds_toArray, List.set_cons_zero, List.set_cons_succ]
  refine wpAnyH_take (i := 16) (oi := { dst := some 107, op := Op.binOp BinOp.eql 9 (Operand.tmp 104) (Operand.tmp 106) 9, type := 4, pos := "law.go:47", after := #[{ on := 13, ground := Ground.data }, { on := 15, ground := Ground.data }, { on := 11, ground := Ground.guard }], guard := some (11, true) }) (v := ?v16) rfl (by kernel_rfl) (by kernel_rfl) (by kernel_rfl) (fun _ _ _ h => h) (Or.inl ⟨by rfl, ?hy16⟩) hHeld2 ?rest16
  case hy16 =>
    intro W hSw
    go_simp
    try with_reducible rfl
  try simp only [Act.put, List.setIfInBounds_toArray, List.set_cons_zero, List.set_cons_succ]
  refine wpAnyH_take (i := 17) (oi := { dst := some 108, op := Op.pick (Operand.tmp 102) (Operand.tmp 107) (Operand.const (Value.bool false)), type := 4, pos := "law.go:47", after := #[{ on := 11, ground := Ground.data }, { on := 16, ground := Ground.data }], guard := none }) (v := ?v17) rfl (by kernel_rfl) (by kernel_rfl) (by kernel_rfl) (fun _ _ _ h => h) (Or.inl ⟨by rfl, ?hy17⟩) hHeld2 ?rest17
  case hy17 =>
    intro W hSw
    go_simp
    try with_reducible rfl
  try simp only [Act.put, List.setIfInBounds_toArray, List.set_cons_zero, List.set_cons_succ]
  refine wpAnyH_take (i := 18) (oi := { dst := some 109, op := Op.move (Operand.tmp 108), type := 4, pos := "law.go:47", after := #[{ on := 17, ground := Ground.data }, { on := 11, ground := Ground.chain }], guard := none }) (v := ?v18) rfl (by kernel_rfl) (by kernel_rfl) (by kernel_rfl) (fun _ _ _ h => h) (Or.inl ⟨by rfl, ?hy18⟩) hHeld2 ?rest18
  case hy18 =>
    intro W hSw
    go_simp
    try with_reducible rfl
  try simp only [Act.put, List.setIfInBounds_toArray, List.set_cons_zero, List.set_cons_succ]
  refine wpAnyH_take (i := 19) (oi := { dst := some 110, op := Op.move (Operand.tmp 14), type := 31, pos := "law.go:47", after := #[{ on := 18, ground := Ground.guard }], guard := some (18, true) }) (v := ?v19) rfl (by kernel_rfl) (by kernel_rfl) (by kernel_rfl) (fun _ _ _ h => h) (Or.inl ⟨by rfl, ?hy19⟩) hHeld2 ?rest19
  case hy19 =>
    intro W hSw
    go_simp
    try with_reducible rfl
  try simp only [Act.put, List.setIfInBounds_toArray, List.set_cons_zero, List.set_cons_succ]
  refine wpAnyH_take (i := 20) (oi := { dst := some 111, op := Op.move (Operand.tmp 16), type := 31, pos := "law.go:47", after := #[{ on := 18, ground := Ground.guard }], guard := some (18, true) }) (v := ?v20) rfl (by kernel_rfl) (by kernel_rfl) (by kernel_rfl) (fun _ _ _ h => h) (Or.inl ⟨by rfl, ?hy20⟩) hHeld2 ?rest20
  case hy20 =>
    intro W hSw
    go_simp
    try with_reducible rfl
  try simp only [Act.put, List.setIfInBounds_toArray, List.set_cons_zero, List.set_cons_succ]
  refine wpAnyH_take (i := 21) (oi := { dst := some 112, op := Op.binOp BinOp.eql 31 (Operand.tmp 110) (Operand.tmp 111) 31, type := 4, pos := "law.go:47", after := #[{ on := 19, ground := Ground.data }, { on := 20, ground := Ground.data }, { on := 18, ground := Ground.guard }], guard := some (18, true) }) (v := ?v21) rfl (by kernel_rfl) (by kernel_rfl) (by kernel_rfl) (fun _ _ _ h => h) (Or.inl ⟨by rfl, ?hy21⟩) hHeld2 ?rest21
  case hy21 =>
    intro W hSw
    go_simp
    try with_reducible rfl
  try simp only [Act.put, List.setIfInBounds_toArray, List.set_cons_zero, List.set_cons_succ]
  refine wpAnyH_take (i := 22) (oi := { dst := some 113, op := Op.pick (Operand.tmp 109) (Operand.tmp 112) (Operand.const (Value.bool false)), type := 4, pos := "law.go:47", after := #[{ on := 18, ground := Ground.data }, { on := 21, ground := Ground.data }], guard := none }) (v := ?v22) rfl (by kernel_rfl) (by kernel_rfl) (by kernel_rfl) (fun _ _ _ h => h) (Or.inl ⟨by rfl, ?hy22⟩) hHeld2 ?rest22
  case hy22 =>
    intro W hSw
    go_simp
    try with_reducible rfl
  try simp only [Act.put, List.setIfInBounds_toArray, List.set_cons_zero, List.set_cons_succ]
  refine wpAnyH_take (i := 23) (oi := { dst := some 114, op := Op.move (Operand.tmp 113), type := 4, pos := "law.go:47", after := #[{ on := 22, ground := Ground.data }, { on := 18, ground := Ground.chain }], guard := none }) (v := ?v23) rfl (by kernel_rfl) (by kernel_rfl) (by kernel_rfl) (fun _ _ _ h => h) (Or.inl ⟨by rfl, ?hy23⟩) hHeld2 ?rest23
  case hy23 =>
    intro W hSw
    go_simp
    try with_reducible rfl
  try simp only [Act.put, List.setIfInBounds_toArray, List.set_cons_zero, List.set_cons_succ]
  refine wpAnyH_take (i := 24) (oi := { dst := some 115, op := Op.move (Operand.tmp 17), type := 29, pos := "law.go:47", after := #[{ on := 23, ground := Ground.guard }], guard := some (23, true) }) (v := ?v24) rfl (by kernel_rfl) (by kernel_rfl) (by kernel_rfl) (fun _ _ _ h => h) (Or.inl ⟨by rfl, ?hy24⟩) hHeld2 ?rest24
  case hy24 =>
    intro W hSw
    go_simp
    try with_reducible rfl
  try simp only [Act.put, List.setIfInBounds_toArray, List.set_cons_zero, List.set_cons_succ]
  refine wpAnyH_take (i := 25) (oi := { dst := some 116, op := Op.move (Operand.tmp 19), type := 29, pos := "law.go:47", after := #[{ on := 23, ground := Ground.guard }], guard := some (23, true) }) (v := ?v25) rfl (by kernel_rfl) (by kernel_rfl) (by kernel_rfl) (fun _ _ _ h => h) (Or.inl ⟨by rfl, ?hy25⟩) hHeld2 ?rest25
  case hy25 =>
    intro W hSw
    go_simp
    try with_reducible rfl
  try simp only [Act.put, List.setIfInBounds_toArray, List.set_cons_zero, List.set_cons_succ]
  refine wpAnyH_take (i := 26) (oi := { dst := some 117, op := Op.binOp BinOp.eql 29 (Operand.tmp 115) (Operand.tmp 116) 29, type := 4, pos := "law.go:47", after := #[{ on := 24, ground := Ground.data }, { on := 25, ground := Ground.data }, { on := 23, ground := Ground.guard }], guard := some (23, true) }) (v := ?v26) rfl (by kernel_rfl) (by kernel_rfl) (by kernel_rfl) (fun _ _ _ h => h) (Or.inl ⟨by rfl, ?hy26⟩) hHeld2 ?rest26
  case hy26 =>
    intro W hSw
    go_simp
    try with_reducible rfl
  try simp only [Act.put, List.setIfInBounds_toArray, List.set_cons_zero, List.set_cons_succ]
  refine wpAnyH_take (i := 27) (oi := { dst := some 118, op := Op.pick (Operand.tmp 114) (Operand.tmp 117) (Operand.const (Value.bool false)), type := 4, pos := "law.go:47", after := #[{ on := 23, ground := Ground.data }, { on := 26, ground := Ground.data }], guard := none }) (v := ?v27) rfl (by kernel_rfl) (by kernel_rfl) (by kernel_rfl) (fun _ _ _ h => h) (Or.inl ⟨by rfl, ?hy27⟩) hHeld2 ?rest27
  case hy27 =>
    intro W hSw
    go_simp
    try with_reducible rfl
  try simp only [Act.put, List.setIfInBounds_toArray, List.set_cons_zero, List.set_cons_succ]
  refine wpAnyH_take (i := 28) (oi := { dst := some 119, op := Op.move (Operand.tmp 118), type := 4, pos := "law.go:47", after := #[{ on := 27, ground := Ground.data }, { on := 23, ground := Ground.chain }], guard := none }) (v := ?v28) rfl (by kernel_rfl) (by kernel_rfl) (by kernel_rfl) (fun _ _ _ h => h) (Or.inl ⟨by rfl, ?hy28⟩) hHeld2 ?rest28
  case hy28 =>
    intro W hSw
    go_simp
    try with_reducible rfl
  try simp only [Act.put, List.setIfInBounds_toArray, List.set_cons_zero, List.set_cons_succ]
  refine wpAnyH_take (i := 29) (oi := { dst := some 120, op := Op.move (Operand.tmp 18), type := 31, pos := "law.go:47", after := #[{ on := 28, ground := Ground.guard }], guard := some (28, true) }) (v := ?v29) rfl (by kernel_rfl) (by kernel_rfl) (by kernel_rfl) (fun _ _ _ h => h) (Or.inl ⟨by rfl, ?hy29⟩) hHeld2 ?rest29
  case hy29 =>
    intro W hSw
    go_simp
    try with_reducible rfl
  try simp only [Act.put, List.setIfInBounds_toArray, List.set_cons_zero, List.set_cons_succ]
  refine wpAnyH_take (i := 30) (oi := { dst := some 121, op := Op.move (Operand.tmp 20), type := 31, pos := "law.go:47", after := #[{ on := 28, ground := Ground.guard }], guard := some (28, true) }) (v := ?v30) rfl (by kernel_rfl) (by kernel_rfl) (by kernel_rfl) (fun _ _ _ h => h) (Or.inl ⟨by rfl, ?hy30⟩) hHeld2 ?rest30
  case hy30 =>
    intro W hSw
    go_simp
    try with_reducible rfl
  try simp only [Act.put, List.setIfInBounds_toArray, List.set_cons_zero, List.set_cons_succ]
  refine wpAnyH_take (i := 31) (oi := { dst := some 122, op := Op.binOp BinOp.eql 31 (Operand.tmp 120) (Operand.tmp 121) 31, type := 4, pos := "law.go:47", after := #[{ on := 29, ground := Ground.data }, { on := 30, ground := Ground.data }, { on := 28, ground := Ground.guard }], guard := some (28, true) }) (v := ?v31) rfl (by kernel_rfl) (by kernel_rfl) (by kernel_rfl) (fun _ _ _ h => h) (Or.inl ⟨by rfl, ?hy31⟩) hHeld2 ?rest31
  case hy31 =>
    intro W hSw
    go_simp
    try with_reducible rfl
  try simp only [Act.put, List.setIfInBounds_toArray, List.set_cons_zero, List.set_cons_succ]
  refine wpAnyH_take (i := 32) (oi := { dst := some 123, op := Op.pick (Operand.tmp 119) (Operand.tmp 122) (Operand.const (Value.bool false)), type := 4, pos := "law.go:47", after := #[{ on := 28, ground := Ground.data }, { on := 31, ground := Ground.data }], guard := none }) (v := ?v32) rfl (by kernel_rfl) (by kernel_rfl) (by kernel_rfl) (fun _ _ _ h => h) (Or.inl ⟨by rfl, ?hy32⟩) hHeld2 ?rest32
  case hy32 =>
    intro W hSw
    go_simp
    try with_reducible rfl
  try simp only [Act.put, List.setIfInBounds_toArray, List.set_cons_zero, List.set_cons_succ]
  refine wpAnyH_take (i := 33) (oi := { dst := some 124, op := Op.move (Operand.tmp 123), type := 4, pos := "law.go:47", after := #[{ on := 32, ground := Ground.data }, { on := 28, ground := Ground.chain }], guard := none }) (v := ?v33) rfl (by kernel_rfl) (by kernel_rfl) (by kernel_rfl) (fun _ _ _ h => h) (Or.inl ⟨by rfl, ?hy33⟩) hHeld2 ?rest33
  case hy33 =>
    intro W hSw
    go_simp
    try with_reducible rfl
  try simp only [Act.put, List.setIfInBounds_toArray, List.set_cons_zero, List.set_cons_succ]
  refine wpAnyH_take (i := 34) (oi := { dst := some 125, op := Op.move (Operand.tmp 21), type := 24, pos := "law.go:47", after := #[{ on := 33, ground := Ground.guard }], guard := some (33, true) }) (v := ?v34) rfl (by kernel_rfl) (by kernel_rfl) (by kernel_rfl) (fun _ _ _ h => h) (Or.inl ⟨by rfl, ?hy34⟩) hHeld2 ?rest34
  case hy34 =>
    intro W hSw
    go_simp
    try with_reducible rfl
  try simp only [Act.put, List.setIfInBounds_toArray, List.set_cons_zero, List.set_cons_succ]
  refine wpAnyH_take (i := 35) (oi := { dst := some 126, op := Op.convert 24 9 (Operand.tmp 125), type := 9, pos := "law.go:47", after := #[{ on := 34, ground := Ground.data }, { on := 33, ground := Ground.guard }], guard := some (33, true) }) (v := ?v35) rfl (by kernel_rfl) (by kernel_rfl) (by kernel_rfl) (fun _ _ _ h => h) (Or.inl ⟨by rfl, ?hy35⟩) hHeld2 ?rest35
  case hy35 =>
    intro W hSw
    have s1 := hSw.2.2.2.2.1.out
    go_simp
    try with_reducible rfl
  try simp only [Act.put, List.setIfInBounds_toArray, List.set_cons_zero, List.set_cons_succ]
  refine wpAnyH_take (i := 36) (oi := { dst := some 127, op := Op.move (Operand.tmp 23), type := 24, pos := "law.go:47", after := #[{ on := 33, ground := Ground.guard }], guard := some (33, true) }) (v := ?v36) rfl (by kernel_rfl) (by kernel_rfl) (by kernel_rfl) (fun _ _ _ h => h) (Or.inl ⟨by rfl, ?hy36⟩) hHeld2 ?rest36
  case hy36 =>
    intro W hSw
    go_simp
    try with_reducible rfl
  try simp only [Act.put, List.setIfInBounds_toArray, List.set_cons_zero, List.set_cons_succ]
  refine wpAnyH_take (i := 37) (oi := { dst := some 128, op := Op.convert 24 9 (Operand.tmp 127), type := 9, pos := "law.go:47", after := #[{ on := 36, ground := Ground.data }, { on := 33, ground := Ground.guard }], guard := some (33, true) }) (v := ?v37) rfl (by kernel_rfl) (by kernel_rfl) (by kernel_rfl) (fun _ _ _ h => h) (Or.inl ⟨by rfl, ?hy37⟩) hHeld2 ?rest37
  case hy37 =>
    intro W hSw
    have s1 := hSw.2.2.2.2.2.out
    go_simp
    try with_reducible rfl
  try simp only [Act.put, List.setIfInBounds_toArray, List.set_cons_zero, List.set_cons_succ]
  refine wpAnyH_take (i := 38) (oi := { dst := some 129, op := Op.binOp BinOp.eql 9 (Operand.tmp 126) (Operand.tmp 128) 9, type := 4, pos := "law.go:47", after := #[{ on := 35, ground := Ground.data }, { on := 37, ground := Ground.data }, { on := 33, ground := Ground.guard }], guard := some (33, true) }) (v := ?v38) rfl (by kernel_rfl) (by kernel_rfl) (by kernel_rfl) (fun _ _ _ h => h) (Or.inl ⟨by rfl, ?hy38⟩) hHeld2 ?rest38
  case hy38 =>
    intro W hSw
    go_simp
    try with_reducible rfl
  try simp only [Act.put, List.setIfInBounds_toArray, List.set_cons_zero, List.set_cons_succ]
  refine wpAnyH_take (i := 39) (oi := { dst := some 130, op := Op.pick (Operand.tmp 124) (Operand.tmp 129) (Operand.const (Value.bool false)), type := 4, pos := "law.go:47", after := #[{ on := 33, ground := Ground.data }, { on := 38, ground := Ground.data }], guard := none }) (v := ?v39) rfl (by kernel_rfl) (by kernel_rfl) (by kernel_rfl) (fun _ _ _ h => h) (Or.inl ⟨by rfl, ?hy39⟩) hHeld2 ?rest39
  case hy39 =>
    intro W hSw
    go_simp
    try with_reducible rfl
  try simp only [Act.put, List.setIfInBounds_toArray, List.set_cons_zero, List.set_cons_succ]
  refine wpAnyH_take (i := 40) (oi := { dst := some 131, op := Op.move (Operand.tmp 130), type := 4, pos := "law.go:47", after := #[{ on := 39, ground := Ground.data }, { on := 33, ground := Ground.chain }], guard := none }) (v := ?v40) rfl (by kernel_rfl) (by kernel_rfl) (by kernel_rfl) (fun _ _ _ h => h) (Or.inl ⟨by rfl, ?hy40⟩) hHeld2 ?rest40
  case hy40 =>
    intro W hSw
    go_simp
    try with_reducible rfl
  try simp only [Act.put, List.setIfInBounds_toArray, List.set_cons_zero, List.set_cons_succ]
  refine wpAnyH_take (i := 41) (oi := { dst := some 132, op := Op.move (Operand.tmp 22), type := 31, pos := "law.go:47", after := #[{ on := 40, ground := Ground.guard }], guard := some (40, true) }) (v := ?v41) rfl (by kernel_rfl) (by kernel_rfl) (by kernel_rfl) (fun _ _ _ h => h) (Or.inl ⟨by rfl, ?hy41⟩) hHeld2 ?rest41
  case hy41 =>
    intro W hSw
    go_simp
    try with_reducible rfl
  try simp only [Act.put, List.setIfInBounds_toArray, List.set_cons_zero, List.set_cons_succ]
  refine wpAnyH_take (i := 42) (oi := { dst := some 133, op := Op.move (Operand.tmp 24), type := 31, pos := "law.go:47", after := #[{ on := 40, ground := Ground.guard }], guard := some (40, true) }) (v := ?v42) rfl (by kernel_rfl) (by kernel_rfl) (by kernel_rfl) (fun _ _ _ h => h) (Or.inl ⟨by rfl, ?hy42⟩) hHeld2 ?rest42
  case hy42 =>
    intro W hSw
    go_simp
    try with_reducible rfl
  try simp only [Act.put, List.setIfInBounds_toArray, List.set_cons_zero, List.set_cons_succ]
  refine wpAnyH_take (i := 43) (oi := { dst := some 134, op := Op.binOp BinOp.eql 31 (Operand.tmp 132) (Operand.tmp 133) 31, type := 4, pos := "law.go:47", after := #[{ on := 41, ground := Ground.data }, { on := 42, ground := Ground.data }, { on := 40, ground := Ground.guard }], guard := some (40, true) }) (v := ?v43) rfl (by kernel_rfl) (by kernel_rfl) (by kernel_rfl) (fun _ _ _ h => h) (Or.inl ⟨by rfl, ?hy43⟩) hHeld2 ?rest43
  case hy43 =>
    intro W hSw
    go_simp
    try with_reducible rfl
  try simp only [Act.put, List.setIfInBounds_toArray, List.set_cons_zero, List.set_cons_succ]
  refine wpAnyH_take (i := 44) (oi := { dst := some 135, op := Op.pick (Operand.tmp 131) (Operand.tmp 134) (Operand.const (Value.bool false)), type := 4, pos := "law.go:47", after := #[{ on := 40, ground := Ground.data }, { on := 43, ground := Ground.data }], guard := none }) (v := ?v44) rfl (by kernel_rfl) (by kernel_rfl) (by kernel_rfl) (fun _ _ _ h => h) (Or.inl ⟨by rfl, ?hy44⟩) hHeld2 ?rest44
  case hy44 =>
    intro W hSw
    go_simp
    try with_reducible rfl
  try simp only [Act.put, List.setIfInBounds_toArray, List.set_cons_zero, List.set_cons_succ]
  refine wpAnyH_take (i := 45) (oi := { dst := some 136, op := Op.move (Operand.tmp 135), type := 4, pos := "law.go:47", after := #[{ on := 44, ground := Ground.data }, { on := 40, ground := Ground.chain }], guard := none }) (v := ?v45) rfl (by kernel_rfl) (by kernel_rfl) (by kernel_rfl) (fun _ _ _ h => h) (Or.inl ⟨by rfl, ?hy45⟩) hHeld2 ?rest45
  case hy45 =>
    intro W hSw
    go_simp
    try with_reducible rfl
  try simp only [Act.put, List.setIfInBounds_toArray, List.set_cons_zero, List.set_cons_succ]
  refine wpAnyH_take (i := 46) (oi := { dst := some 137, op := Op.move (Operand.tmp 25), type := 9, pos := "law.go:47", after := #[{ on := 45, ground := Ground.guard }], guard := some (45, true) }) (v := ?v46) rfl (by kernel_rfl) (by kernel_rfl) (by kernel_rfl) (fun _ _ _ h => h) (Or.inl ⟨by rfl, ?hy46⟩) hHeld2 ?rest46
  case hy46 =>
    intro W hSw
    go_simp
    try with_reducible rfl
  try simp only [Act.put, List.setIfInBounds_toArray, List.set_cons_zero, List.set_cons_succ]
  refine wpAnyH_take (i := 47) (oi := { dst := some 138, op := Op.move (Operand.tmp 28), type := 9, pos := "law.go:47", after := #[{ on := 45, ground := Ground.guard }], guard := some (45, true) }) (v := ?v47) rfl (by kernel_rfl) (by kernel_rfl) (by kernel_rfl) (fun _ _ _ h => h) (Or.inl ⟨by rfl, ?hy47⟩) hHeld2 ?rest47
  case hy47 =>
    intro W hSw
    go_simp
    try with_reducible rfl
  try simp only [Act.put, List.setIfInBounds_toArray, List.set_cons_zero, List.set_cons_succ]
  refine wpAnyH_take (i := 48) (oi := { dst := some 139, op := Op.binOp BinOp.eql 9 (Operand.tmp 137) (Operand.tmp 138) 9, type := 4, pos := "law.go:47", after := #[{ on := 46, ground := Ground.data }, { on := 47, ground := Ground.data }, { on := 45, ground := Ground.guard }], guard := some (45, true) }) (v := ?v48) rfl (by kernel_rfl) (by kernel_rfl) (by kernel_rfl) (fun _ _ _ h => h) (Or.inl ⟨by rfl, ?hy48⟩) hHeld2 ?rest48
  case hy48 =>
    intro W hSw
    go_simp
    try with_reducible rfl
  try simp only [Act.put, List.setIfInBounds_toArray, List.set_cons_zero, List.set_cons_succ]
  refine wpAnyH_take (i := 49) (oi := { dst := some 140, op := Op.pick (Operand.tmp 136) (Operand.tmp 139) (Operand.const (Value.bool false)), type := 4, pos := "law.go:47", after := #[{ on := 45, ground := Ground.data }, { on := 48, ground := Ground.data }], guard := none }) (v := ?v49) rfl (by kernel_rfl) (by kernel_rfl) (by kernel_rfl) (fun _ _ _ h => h) (Or.inl ⟨by rfl, ?hy49⟩) hHeld2 ?rest49
  case hy49 =>
    intro W hSw
    go_simp
    try with_reducible rfl
  try simp only [Act.put, List.setIfInBounds_toArray, List.set_cons_zero, List.set_cons_succ]
  refine wpAnyH_take (i := 50) (oi := { dst := some 141, op := Op.move (Operand.tmp 140), type := 4, pos := "law.go:47", after := #[{ on := 49, ground := Ground.data }, { on := 45, ground := Ground.chain }], guard := none }) (v := ?v50) rfl (by kernel_rfl) (by kernel_rfl) (by kernel_rfl) (fun _ _ _ h => h) (Or.inl ⟨by rfl, ?hy50⟩) hHeld2 ?rest50
  case hy50 =>
    intro W hSw
    go_simp
    try with_reducible rfl
  try simp only [Act.put, List.setIfInBounds_toArray, List.set_cons_zero, List.set_cons_succ]
  refine wpAnyH_take (i := 51) (oi := { dst := some 142, op := Op.move (Operand.tmp 26), type := 3, pos := "law.go:47", after := #[{ on := 50, ground := Ground.guard }], guard := some (50, true) }) (v := ?v51) rfl (by kernel_rfl) (by kernel_rfl) (by kernel_rfl) (fun _ _ _ h => h) (Or.inl ⟨by rfl, ?hy51⟩) hHeld2 ?rest51
  case hy51 =>
    intro W hSw
    go_simp
    try with_reducible rfl
  try simp only [Act.put, List.setIfInBounds_toArray, List.set_cons_zero, List.set_cons_succ]
  refine wpAnyH_take (i := 52) (oi := { dst := some 143, op := Op.move (Operand.tmp 29), type := 3, pos := "law.go:47", after := #[{ on := 50, ground := Ground.guard }], guard := some (50, true) }) (v := ?v52) rfl (by kernel_rfl) (by kernel_rfl) (by kernel_rfl) (fun _ _ _ h => h) (Or.inl ⟨by rfl, ?hy52⟩) hHeld2 ?rest52
  case hy52 =>
    intro W hSw
    go_simp
    try with_reducible rfl
  try simp only [Act.put, List.setIfInBounds_toArray, List.set_cons_zero, List.set_cons_succ]
  refine wpAnyH_take (i := 53) (oi := { dst := some 144, op := Op.binOp BinOp.eql 3 (Operand.tmp 142) (Operand.tmp 143) 3, type := 4, pos := "law.go:47", after := #[{ on := 51, ground := Ground.data }, { on := 52, ground := Ground.data }, { on := 50, ground := Ground.guard }], guard := some (50, true) }) (v := ?v53) rfl (by kernel_rfl) (by kernel_rfl) (by kernel_rfl) (fun _ _ _ h => h) (Or.inl ⟨by rfl, ?hy53⟩) hHeld2 ?rest53
  case hy53 =>
    intro W hSw
    go_simp
    try with_reducible rfl
  try simp only [Act.put, List.setIfInBounds_toArray, List.set_cons_zero, List.set_cons_succ]
  refine wpAnyH_take (i := 54) (oi := { dst := some 145, op := Op.pick (Operand.tmp 141) (Operand.tmp 144) (Operand.const (Value.bool false)), type := 4, pos := "law.go:47", after := #[{ on := 50, ground := Ground.data }, { on := 53, ground := Ground.data }], guard := none }) (v := ?v54) rfl (by kernel_rfl) (by kernel_rfl) (by kernel_rfl) (fun _ _ _ h => h) (Or.inl ⟨by rfl, ?hy54⟩) hHeld2 ?rest54
  case hy54 =>
    intro W hSw
    go_simp
    try with_reducible rfl
  try simp only [Act.put, List.setIfInBounds_toArray, List.set_cons_zero, List.set_cons_succ]
  refine wpAnyH_take (i := 55) (oi := { dst := some 146, op := Op.move (Operand.tmp 145), type := 4, pos := "law.go:47", after := #[{ on := 54, ground := Ground.data }, { on := 50, ground := Ground.chain }], guard := none }) (v := ?v55) rfl (by kernel_rfl) (by kernel_rfl) (by kernel_rfl) (fun _ _ _ h => h) (Or.inl ⟨by rfl, ?hy55⟩) hHeld2 ?rest55
  case hy55 =>
    intro W hSw
    go_simp
    try with_reducible rfl
  try simp only [Act.put, List.setIfInBounds_toArray, List.set_cons_zero, List.set_cons_succ]
  refine wpAnyH_take (i := 56) (oi := { dst := some 147, op := Op.move (Operand.tmp 27), type := 31, pos := "law.go:47", after := #[{ on := 55, ground := Ground.guard }], guard := some (55, true) }) (v := ?v56) rfl (by kernel_rfl) (by kernel_rfl) (by kernel_rfl) (fun _ _ _ h => h) (Or.inl ⟨by rfl, ?hy56⟩) hHeld2 ?rest56
  case hy56 =>
    intro W hSw
    go_simp
    try with_reducible rfl
  try simp only [Act.put, List.setIfInBounds_toArray, List.set_cons_zero, List.set_cons_succ]
  refine wpAnyH_take (i := 57) (oi := { dst := some 148, op := Op.move (Operand.tmp 30), type := 31, pos := "law.go:47", after := #[{ on := 55, ground := Ground.guard }], guard := some (55, true) }) (v := ?v57) rfl (by kernel_rfl) (by kernel_rfl) (by kernel_rfl) (fun _ _ _ h => h) (Or.inl ⟨by rfl, ?hy57⟩) hHeld2 ?rest57
  case hy57 =>
    intro W hSw
    go_simp
    try with_reducible rfl
  try simp only [Act.put, List.setIfInBounds_toArray, List.set_cons_zero, List.set_cons_succ]
  refine wpAnyH_take (i := 58) (oi := { dst := some 149, op := Op.binOp BinOp.eql 31 (Operand.tmp 147) (Operand.tmp 148) 31, type := 4, pos := "law.go:47", after := #[{ on := 56, ground := Ground.data }, { on := 57, ground := Ground.data }, { on := 55, ground := Ground.guard }], guard := some (55, true) }) (v := ?v58) rfl (by kernel_rfl) (by kernel_rfl) (by kernel_rfl) (fun _ _ _ h => h) (Or.inl ⟨by rfl, ?hy58⟩) hHeld2 ?rest58
  case hy58 =>
    intro W hSw
    go_simp
    try with_reducible rfl
  try simp only [Act.put, List.setIfInBounds_toArray, List.set_cons_zero, List.set_cons_succ]
  refine wpAnyH_take (i := 59) (oi := { dst := some 150, op := Op.pick (Operand.tmp 146) (Operand.tmp 149) (Operand.const (Value.bool false)), type := 4, pos := "law.go:47", after := #[{ on := 55, ground := Ground.data }, { on := 58, ground := Ground.data }], guard := none }) (v := ?v59) rfl (by kernel_rfl) (by kernel_rfl) (by kernel_rfl) (fun _ _ _ h => h) (Or.inl ⟨by rfl, ?hy59⟩) hHeld2 ?rest59
  case hy59 =>
    intro W hSw
    go_simp
    try with_reducible rfl
  try simp only [Act.put, List.setIfInBounds_toArray, List.set_cons_zero, List.set_cons_succ]
  refine wpAnyH_take (i := 60) (oi := { dst := some 151, op := Op.move (Operand.tmp 150), type := 4, pos := "law.go:47", after := #[{ on := 59, ground := Ground.data }, { on := 55, ground := Ground.chain }], guard := none }) (v := ?v60) rfl (by kernel_rfl) (by kernel_rfl) (by kernel_rfl) (fun _ _ _ h => h) (Or.inl ⟨by rfl, ?hy60⟩) hHeld2 ?rest60
  case hy60 =>
    intro W hSw
    go_simp
    try with_reducible rfl
  try simp only [Act.put, List.setIfInBounds_toArray, List.set_cons_zero, List.set_cons_succ]
  refine wpAnyH_take (i := 61) (oi := { dst := some 152, op := Op.move (Operand.tmp 0), type := 24, pos := "law.go:47", after := #[{ on := 60, ground := Ground.guard }], guard := some (60, true) }) (v := ?v61) rfl (by kernel_rfl) (by kernel_rfl) (by kernel_rfl) (fun _ _ _ h => h) (Or.inl ⟨by rfl, ?hy61⟩) hHeld2 ?rest61
  case hy61 =>
    intro W hSw
    go_simp
    try with_reducible rfl
  try simp only [Act.put, List.setIfInBounds_toArray, List.set_cons_zero, List.set_cons_succ]
  refine wpAnyH_take (i := 63) (oi := { dst := some 154, op := Op.move (Operand.tmp 0), type := 24, pos := "law.go:47", after := #[{ on := 60, ground := Ground.guard }], guard := some (60, true) }) (v := ?v63) rfl (by kernel_rfl) (by kernel_rfl) (by kernel_rfl) (fun _ _ _ h => h) (Or.inl ⟨by rfl, ?hy63⟩) hHeld2 ?rest63
  case hy63 =>
    intro W hSw
    go_simp
    try with_reducible rfl
  try simp only [Act.put, List.setIfInBounds_toArray, List.set_cons_zero, List.set_cons_succ]
  refine wpAnyH_ready (rs := [62]) (by kernel_rfl) (by simp) ?_
  refine AllReadyH.cons (o := { dst := some 153, op := Op.call { callee := Callee.value (Operand.func 13), args := #[Operand.tmp 152], argTypes := #[24] }, type := 29, pos := "law.go:47", after := #[{ on := 61, ground := Ground.data }, { on := 60, ground := Ground.chain }, { on := 60, ground := Ground.guard }], guard := some (60, true) }) rfl (fun K hK => ?_) AllReadyH.nil
  go_simp
  refine (sum_at w13 w.heap.size A n c l (Hb.out.same B13.out) B13.out.size (by omega)).mono ?_
  rintro e w14 ⟨rfl, hb14⟩
  have B14 := Lib.hid (Below.on B13.out hb14)
  have R14 := Lib.hid (And.intro (Reads.own (O13.out.below hb14)) (And.intro (Reads.own ((O11.out.below D13.out).below hb14)) (And.intro (Reads.own ((((Q3.out.below D10.out).below D11.out).below D13.out).below hb14)) (And.intro (Reads.own ((((Q5.out.below D10.out).below D11.out).below D13.out).below hb14)) (And.intro (Reads.own ((((Q6.out.below D10.out).below D11.out).below D13.out).below hb14)) (Reads.own ((((Q7.out.below D10.out).below D11.out).below D13.out).below hb14)))))))
  clear hb14 hHeld2
  go_wp2_with fail
  refine hK.out _ _ R14.out (fun hHeld => ?_)
  clear hK K
  try simp only [Act.put, List.setIfInBounds_toArray, List.set_cons_zero, List.set_cons_succ]
  refine wpAnyH_ready (rs := [64]) (by kernel_rfl) (by simp) ?_
  refine AllReadyH.cons (o := { dst := some 155, op := Op.call { callee := Callee.value (Operand.func 25), args := #[Operand.tmp 154], argTypes := #[24] }, type := 29, pos := "law.go:47", after := #[{ on := 63, ground := Ground.data }, { on := 62, ground := Ground.chain }, { on := 60, ground := Ground.guard }], guard := some (60, true) }) rfl (fun K hK => ?_) AllReadyH.nil
  go_simp
  refine (rsum_any w14 w.heap.size n c A l (Hb.out.same B14.out)).mono ?_
  rintro e w' ⟨rfl, rfl⟩
  go_wp2_with fail
  refine hK.out _ _ R14.out (fun hHeld => ?_)
  clear hK K
  try simp only [Act.put, List.setIfInBounds_toArray, List.set_cons_zero, List.set_cons_succ]
  refine wpAnyH_take (i := 65) (oi := { dst := some 156, op := Op.binOp BinOp.eql 29 (Operand.tmp 153) (Operand.tmp 155) 29, type := 4, pos := "law.go:47", after := #[{ on := 62, ground := Ground.data }, { on := 64, ground := Ground.data }, { on := 60, ground := Ground.guard }], guard := some (60, true) }) (v := ?v65) rfl (by kernel_rfl) (by kernel_rfl) (by kernel_rfl) (fun _ _ _ h => h) (Or.inl ⟨by rfl, ?hy65⟩) hHeld ?rest65
  case hy65 =>
    intro W hSw
    go_simp
    try with_reducible rfl
  try simp only [Act.put, List.setIfInBounds_toArray, List.set_cons_zero, List.set_cons_succ]
  refine wpAnyH_take (i := 66) (oi := { dst := some 157, op := Op.pick (Operand.tmp 151) (Operand.tmp 156) (Operand.const (Value.bool false)), type := 4, pos := "law.go:47", after := #[{ on := 60, ground := Ground.data }, { on := 65, ground := Ground.data }], guard := none }) (v := ?v66) rfl (by kernel_rfl) (by kernel_rfl) (by kernel_rfl) (fun _ _ _ h => h) (Or.inl ⟨by rfl, ?hy66⟩) hHeld ?rest66
  case hy66 =>
    intro W hSw
    go_simp
    try with_reducible rfl
  try simp only [Act.put, List.setIfInBounds_toArray, List.set_cons_zero, List.set_cons_succ]
  refine wpAnyH_take (i := 67) (oi := { dst := some 12, op := Op.assign (Operand.tmp 157), type := 4, pos := "law.go:47", after := #[{ on := 66, ground := Ground.data }, { on := 64, ground := Ground.chain }, { on := 0, ground := Ground.phase }, { on := 1, ground := Ground.phase }, { on := 2, ground := Ground.phase }, { on := 3, ground := Ground.phase }, { on := 4, ground := Ground.phase }, { on := 5, ground := Ground.phase }, { on := 6, ground := Ground.phase }, { on := 7, ground := Ground.phase }, { on := 8, ground := Ground.phase }, { on := 9, ground := Ground.phase }, { on := 10, ground := Ground.phase }, { on := 11, ground := Ground.phase }, { on := 12, ground := Ground.phase }, { on := 13, ground := Ground.phase }, { on := 14, ground := Ground.phase }, { on := 15, ground := Ground.phase }, { on := 16, ground := Ground.phase }, { on := 17, ground := Ground.phase }, { on := 18, ground := Ground.phase }, { on := 19, ground := Ground.phase }, { on := 20, ground := Ground.phase }, { on := 21, ground := Ground.phase }, { on := 22, ground := Ground.phase }, { on := 23, ground := Ground.phase }, { on := 24, ground := Ground.phase }, { on := 25, ground := Ground.phase }, { on := 26, ground := Ground.phase }, { on := 27, ground := Ground.phase }, { on := 28, ground := Ground.phase }, { on := 29, ground := Ground.phase }, { on := 30, ground := Ground.phase }, { on := 31, ground := Ground.phase }, { on := 32, ground := Ground.phase }, { on := 33, ground := Ground.phase }, { on := 34, ground := Ground.phase }, { on := 35, ground := Ground.phase }, { on := 36, ground := Ground.phase }, { on := 37, ground := Ground.phase }, { on := 38, ground := Ground.phase }, { on := 39, ground := Ground.phase }, { on := 40, ground := Ground.phase }, { on := 41, ground := Ground.phase }, { on := 42, ground := Ground.phase }, { on := 43, ground := Ground.phase }, { on := 44, ground := Ground.phase }, { on := 45, ground := Ground.phase }, { on := 46, ground := Ground.phase }, { on := 47, ground := Ground.phase }, { on := 48, ground := Ground.phase }, { on := 49, ground := Ground.phase }, { on := 50, ground := Ground.phase }, { on := 51, ground := Ground.phase }, { on := 52, ground := Ground.phase }, { on := 53, ground := Ground.phase }, { on := 54, ground := Ground.phase }, { on := 55, ground := Ground.phase }, { on := 56, ground := Ground.phase }, { on := 57, ground := Ground.phase }, { on := 58, ground := Ground.phase }, { on := 59, ground := Ground.phase }, { on := 60, ground := Ground.phase }, { on := 61, ground := Ground.phase }, { on := 62, ground := Ground.phase }, { on := 63, ground := Ground.phase }, { on := 64, ground := Ground.phase }, { on := 65, ground := Ground.phase }, { on := 66, ground := Ground.phase }], guard := none }) (v := ?v67) rfl (by kernel_rfl) (by kernel_rfl) (by kernel_rfl) (fun _ _ _ h => h) (Or.inl ⟨by rfl, ?hy67⟩) hHeld ?rest67
  case hy67 =>
    intro W hSw
    go_simp
    try with_reducible rfl
  try simp only [Act.put, List.setIfInBounds_toArray, List.set_cons_zero, List.set_cons_succ]
  refine wpAnyH_done (by kernel_rfl) ?_ _
  go_wp2_with fail
  go_ret
  exact ⟨rfl, B14.out⟩
end Go.Proofs.Ytpgjnmakpghamaa
