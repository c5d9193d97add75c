/- Package table, the reference: nodes, Nodes and Cut. -/
import Derived.Test.YtekcphpeaoaaaaaTbRnr
import Derived.Test.YtekcphpeaoaaaaaTbRct
namespace Go.Proofs.Ytekcphpeaoaaaaa
open Go.RowKit Go.Shelf
set_option linter.unusedVariables false

attribute [local go_sem] Oper.semAt_some

set_option maxRecDepth 100000 in
set_option maxHeartbeats 4000000 in
theorem rnodes_any : ∀ (N : Nat) (xs : List KV), xs.length ≤ N → (∀ e ∈ xs, e.1.length ≤ 100000) → xs.length ≤ 100000000 → ∀ (w : World) (v : Value), RdC w v (xs.map prOf) →
    Calls Try.prog 54 #[v] w (Ret fun r w' => Row w' w.heap.size r ((nodes xs).map prOf) ∧ Nx w w') := by
  intro N
  induction N with
  | zero =>
    intro xs hN _ _ w v hr
    obtain rfl : xs = [] := List.eq_nil_of_length_eq_zero (by omega)
    obtain ⟨A, c, rfl⟩ := hr.rd.none
    clear hr hN
    go_enter Try.func54, Try.ntmps54
    go_wp2
    go_ret
    exact ⟨_, rfl, by rw [nodes_nil]; exact World.ownsRow_nil _ _ _ _, Nx.refl w⟩
  | succ N ih =>
    intro xs hN hsh hxl w v hr
    by_cases hxe : xs = []
    · exact ih xs (by rw [hxe]; simp) hsh hxl w v hr
    · have hpos : 0 < xs.length := List.length_pos_iff.2 hxe
      have hlen := hr
      obtain ⟨A, c, rfl, hc1, hc2, hc3⟩ := hlen
      rw [List.length_map] at hr hc1 ⊢
      obtain ⟨b, o, rfl⟩ := hr.addr (by rw [List.length_map]; exact hpos)
      have IH := Lib.hid ih
      have HR := Lib.hid hr
      have HSH := Lib.hid hsh
      have HB : Hid (xs.length ≤ N + 1 ∧ xs.length ≤ 100000000 ∧ 0 < xs.length ∧ xs ≠ [] ∧ xs.length ≤ c ∧ c ≤ 9223372036854775807) := ⟨hN, hxl, hpos, hxe, hc1, hc2⟩
      have e0 : ((xs.length : Int) == 0) = false := by rw [beq_eq_false_iff_ne]; omega
      have e1 : ¬ xs = [] := hxe
      clear ih hr hsh hN hxl hc1 hc2 hc3 hpos hxe
      go_enter Try.func54, Try.ntmps54
      go_wp2
      clear e0 e1
      go_loopg [3, 4] xs.length (fun n p3 p4 wr => ∃ (i : Nat), p4 = .int .i64 (i : Int) ∧ p3 = .int .i64 ((topU xs i : Nat) : Int) ∧ Hid (i + n = xs.length ∧ Nx w wr))
      case atStart => exact ⟨0, rfl, rfl, by omega, Nx.refl w⟩
      case round =>
        obtain ⟨i, rfl, rfl, hh⟩ := hrel
        obtain ⟨hi, hnx⟩ := hh.out
        have HNX := Lib.hid hnx
        have htl := topU_le xs i
        have hstep : topU xs (i + 1) = if rank (kvAt xs (topU xs i)).1 < rank (kvAt xs i).1 then i else topU xs i := rfl
        by_cases hlt : i < xs.length
        · have e2 : decide ((i : Int) < (xs.length : Int)) = true := by simp; omega
          have e3 : decide (i < xs.length) = true := by simp; omega
          have hw : IntKind.i64.wrap ((i : Int) + 1) = (i : Int) + 1 := IntWalk.i64_in _ (by have := HB.out.2.1; omega)
          have htlt : topU xs i < xs.length := by omega
          obtain ⟨t, ht⟩ : ∃ t, topU xs i = t := ⟨_, rfl⟩
          rw [ht] at hstep htlt ⊢
          have hx0 := (HR.out.nx hnx).key i hlt
          have hy0 := (HR.out.nx hnx).key t htlt
          have hsi := HSH.out _ (List.getElem_mem hlt)
          have hst := HSH.out _ (List.getElem_mem htlt)
          rw [kvAt_get hlt, kvAt_get htlt] at hstep
          obtain ⟨ki, hki⟩ : ∃ k, xs[i].1 = k := ⟨_, rfl⟩
          obtain ⟨kt, hkt⟩ : ∃ k, xs[t].1 = k := ⟨_, rfl⟩
          rw [hki] at hx0 hsi hstep
          rw [hkt] at hy0 hst hstep
          have CM : Hid (∀ a0 : Act, a0.tmps.size = 44 → a0.eval (.tmp 0) = .slice (some ⟨b, o, none⟩) xs.length c → a0.eval (.tmp 4) = .int .i64 (i : Int) → a0.eval (.tmp 3) = .int .i64 (t : Int) → CNa (rops Try.f54 7) a0 wr b o xs.length c i t ki kt) := fun a0 q1 q2 q3 q4 =>
            { hops := rfl, hz := q1, z0 := q2, z4 := q3, z3 := q4, ii := hlt, tt := htlt, mi := hx0.1, mt := hy0.1, li := hsi, lt := hst }
          have NXT : Hid (gk - 1 < gk ∧ i + 1 + (gk - 1) = xs.length) := ⟨by omega, by omega⟩
          have HST := Lib.hid hstep
          clear hh hi hnx htl ht hx0 hy0 hsi hst hki hkt hstep htlt hlt
          go_wp2_with fail
          refine rgNaL (CM.out _ rfl rfl rfl rfl) ?_
          intro x14 x15 x16 x17 x18 x19 x20 x21 x22 x23 x24 x25 W2 n2
          have N2 : Hid (Nx w W2) := HNX.out.trans n2
          clear CM n2
          by_cases hrk : rank kt < rank ki
          · have d1 : decide (rank kt < rank ki) = true := by simp; exact hrk
            have HS2 : Hid (topU xs (i + 1) = i) := by have := HST.out; rwa [if_pos hrk] at this
            rw [d1]
            clear HST hrk d1
            go_wp2
            go_roundg (gk - 1)
            case measure => exact NXT.out.1
            case rel => exact ⟨i + 1, by push_cast; rfl, by rw [HS2.out], NXT.out.2, N2.out⟩
          · have d1 : decide (rank kt < rank ki) = false := by simp; omega
            have HS2 : Hid (topU xs (i + 1) = t) := by have := HST.out; rwa [if_neg hrk] at this
            rw [d1]
            clear HST hrk d1
            go_wp2
            go_roundg (gk - 1)
            case measure => exact NXT.out.1
            case rel => exact ⟨i + 1, by push_cast; rfl, by rw [HS2.out], NXT.out.2, N2.out⟩
        · have e2 : decide ((i : Int) < (xs.length : Int)) = false := by simp; omega
          have e3 : decide (i < xs.length) = false := by simp; omega
          have hie : i = xs.length := by omega
          have hti : topU xs i = topIx xs := by rw [hie]; rfl
          have hlt := topIx_lt HB.out.2.2.2.1
          have hnc := nodes_cons HB.out.2.2.2.1
          rw [hti]
          rw [kvAt_get hlt] at hnc
          have hx := (HR.out.nx hnx).key _ hlt
          generalize topIx xs = t at *
          obtain ⟨ev, hev⟩ : ∃ e, xs[t] = e := ⟨_, rfl⟩
          rw [hev] at hnc hx
          have CM : Hid (∀ a0 : Act, a0.tmps.size = 44 → a0.eval (.tmp 0) = .slice (some ⟨b, o, none⟩) xs.length c → a0.eval (.tmp 3) = .int .i64 (t : Int) → CNb (rops Try.f54 9) a0 wr b o xs.length c t xs ev) := fun a0 q1 q2 q3 =>
            { hops := rfl, hz := q1, z0 := q2, z3 := q3, rd := HR.out.nx hnx, nn := rfl, tt := hlt, nc := HB.out.2.2.2.2.1, cc := HB.out.2.2.2.2.2, xsn := HB.out.2.1, m0 := hx.1, m1 := hx.2.1, m2 := hx.2.2,
              i1 := fun W v hv => IH.out (xs.take t) (by rw [List.length_take]; have := HB.out.1; omega) (fun e he => HSH.out e (List.mem_of_mem_take he)) (by rw [List.length_take]; have := HB.out.2.1; omega) W v hv
              i2 := fun W v hv => IH.out (xs.drop (t + 1)) (by rw [List.length_drop]; have := HB.out.1; omega) (fun e he => HSH.out e (List.mem_of_mem_drop he)) (by rw [List.length_drop]; have := HB.out.2.1; omega) W v hv
              hn := hnc }
          clear hh hi hnx htl hstep hie hti hnc hx hev hlt
          go_wp2_with fail
          refine rgNbL (CM.out _ rfl rfl rfl) ?_
          intro x28 x29 x30 x31 x32 x33 x34 x35 x36 x37 x38 x39 x40 x41 x42 x43 x2 W2 hrow n2
          have FIN : Hid (Row W2 w.heap.size x2 ((nodes xs).map prOf) ∧ Nx w W2) := ⟨hrow.lower HNX.out.size, HNX.out.trans n2⟩
          clear CM hrow n2
          go_wp2
          go_ret
          exact ⟨_, rfl, FIN.out⟩
end Go.Proofs.Ytekcphpeaoaaaaa
