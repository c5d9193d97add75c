/- Package table, the reference: Range. -/
import Derived.Test.YtekcphpeaoaaaaaTbRefO
namespace Go.Proofs.Ytekcphpeaoaaaaa
open Go.RowKit Go.Shelf
set_option linter.unusedVariables false

attribute [local go_sem] Oper.semAt_some

/-- Between two rounds: j pairs are taken. -/
def RgI (w W : World) (to : Str) (most : Int) (xs fl : List KV) (pl j : Nat) (v : Value) (wr : World) : Prop :=
  j ≤ fl.length ∧ fl.length = xs.length - pl ∧ Good to most fl j ∧ Row wr W.heap.size v ((fl.take j).map prOf) ∧ Nx W wr

theorem Row.lower {w : World} {B B' : Nat} {v : Value} {l : List Pr} (h : Row w B v l) (hB : B' ≤ B) : Row w B' v l := by
  refine ⟨h.1, h.2.imp id fun ⟨g, cap, cur, e, hg, r⟩ => ⟨g, cap, cur, e, Nat.le_trans hB hg, r⟩⟩

set_option maxRecDepth 100000 in
set_option maxHeartbeats 2000000 in
theorem rrange_any (w : World) (T' : Value) (xs : List KV) (frm to : Str) (most : Int) (h : Rt w T' xs) (hn : xs.length ≤ 100000000) (hm1 : -9223372036854775808 ≤ most) (hm2 : most ≤ 9223372036854775807) :
    Calls Try.prog 24 #[T', .string (S frm), .string (S to), .int .i64 most] w (Ret fun r w' => Row w' w.heap.size r ((range frm to most xs).map prOf) ∧ Nx w w') := by
  have HT := h
  obtain ⟨s, rfl, hr, _⟩ := h
  obtain ⟨A, c, rfl⟩ : ∃ A c, s = .slice A xs.length c := by
    obtain ⟨A, c, e, _⟩ := hr
    rw [List.length_map] at e
    exact ⟨A, c, e⟩
  obtain ⟨W, hW⟩ : ∃ W, w.alloc (.cells #[.slice A xs.length c] 36) = W := ⟨_, rfl⟩
  have n1 : Nx w W := by rw [← hW]; exact (Nx.refl w).alloc _
  have hb0 : BlkIs W w.heap.size 36 #[.slice A xs.length c] := by rw [← hW]; exact box_blk w _ _
  have c0 : W.cell? ⟨w.heap.size, 0, none⟩ = some (.slice A xs.length c) := by rw [hb0.cell]; rfl
  have PL := Lib.hid (rplace_any W _ xs frm (HT.nx n1) hn)
  have N1 := Lib.hid n1
  have B0 := Lib.hid hb0
  have HR := Lib.hid (hr.nx n1)
  have hple := place_le frm xs
  have RES : Hid (range frm to most xs = ((xs.drop (place frm xs)).takeWhile (okTo to)).take most.toNat) := range_eq ..
  clear hr n1 hb0 HT
  go_enter Try.func24, Try.ntmps24
  go_wp2_with fail
  refine PL.out.mono ?_
  rintro e w2 ⟨rfl, hn2⟩
  have START : Hid (RgI w w2 to most xs (xs.drop (place frm xs)) (place frm xs) 0 (.slice none 0 0) w2) :=
    ⟨Nat.zero_le _, by rw [List.length_drop], ⟨Nat.zero_le _, fun e he => by simp at he⟩, World.ownsRow_nil _ _ _ _, Nx.refl _⟩
  have N2 := Lib.hid (N1.out.trans hn2)
  have B2 := Lib.hid (B0.out.nx hn2)
  have HR2 := Lib.hid (HR.out.nx hn2)
  clear PL hn2 c0 hW HR B0
  obtain ⟨fl, hfl⟩ : ∃ fl, xs.drop (place frm xs) = fl := ⟨_, rfl⟩
  have HFL := Lib.hid hfl
  rw [hfl] at START RES
  clear hfl
  generalize place frm xs = pl at *
  go_wp2
  go_loopg [9, 10] fl.length (fun n p9 p10 wr => ∃ (i : Nat), p10 = .int .i64 (i : Int) ∧ Hid (pl ≤ i ∧ i - pl + n = fl.length ∧ RgI w w2 to most xs fl pl (i - pl) p9 wr))
  case atStart => exact ⟨pl, rfl, Nat.le_refl _, by omega, by rw [Nat.sub_self]; exact START.out⟩
  case round v =>
    obtain ⟨i, rfl, hh⟩ := hrel
    obtain ⟨hi1, hi2, hjl, hfx, hgd, hrow, hnx⟩ := hh.out
    obtain ⟨j, hj⟩ : ∃ j, i - pl = j := ⟨_, rfl⟩
    rw [hj] at hi2 hjl hgd hrow
    obtain ⟨Av, cv, rfl⟩ := own_slice hrow
    have hlj : ((fl.take j).map prOf).length = j := by rw [List.length_map, List.length_take]; omega
    rw [hlj] at hrow ⊢
    have c3 : wr.cell? ⟨w.heap.size, 0, none⟩ = some (.slice A xs.length c) := by rw [(B2.out.nx hnx).cell]; rfl
    have FR : Hid (Row wr w.heap.size (.slice Av j cv) ((fl.take j).map prOf) ∧ Nx w wr) := ⟨hrow.lower (N2.out.size), N2.out.trans hnx⟩
    by_cases hlt : i < xs.length
    · have hjf : j < fl.length := by omega
      have e2 : decide ((i : Int) < (xs.length : Int)) = true := by simpa using hlt
      have e3 : (0 : Int) ≤ (i : Int) := by omega
      have e4 : (i : Int) < (xs.length : Int) := by omega
      obtain ⟨b, o, rfl⟩ := HR2.out.addr (by rw [List.length_map]; omega)
      obtain ⟨x0, x1, x2⟩ := (HR2.out.nx hnx).key i hlt
      have hfe0 : fl[j] = xs[i] := by
        have h1 : fl[j] = (xs.drop pl)[j]'(by rw [HFL.out]; exact hjf) := by congr 1; exact HFL.out.symm
        rw [h1, List.getElem_drop]
        congr 1; omega
      have hfe : Hid (fl[j] = xs[i]) := hfe0
      clear hfe0
      generalize xs[i] = ev at *
      have hw : IntKind.i64.wrap ((i : Int) + 1) = (i : Int) + 1 := IntWalk.i64_in _ (by omega)
      by_cases hto : to = []
      · subst hto
        have d2 : ((S ([] : Str)).toList == ([] : List UInt8)) = true := by rw [S_toList]; rfl
        have hok : Hid (okTo [] ev = true) := rfl
        by_cases hm3 : (j : Int) < most
        · have d1 : decide ((j : Int) < most) = true := by simpa using hm3
          have HV := Lib.hid hrow
          have hok2 : okTo [] ev = true := hok.out
          have NXT : Hid (∀ v' w', Row w' w2.heap.size v' ((fl.take j).map prOf ++ [prOf ev]) → (wr.alloc (.cells #[.string (S ev.1), .string (S ev.2), .bool false] 40)).grownBy w' (Value.slice Av j cv).ownBlock → gk - 1 < gk ∧ pl ≤ i + 1 ∧ i + 1 - pl + (gk - 1) = fl.length ∧ RgI w w2 [] most xs fl pl (i + 1 - pl) v' w') := fun v' w' h1 h2 => by
            have e : i + 1 - pl = j + 1 := by omega
            refine ⟨by omega, by omega, by omega, by omega, hfx, by rw [e]; exact hgd.succ hjf hm3 (by rw [kvAt_get hjf, hfe.out]; exact hok2), by rw [e, map_snoc fl j hjf, kvAt_get hjf, hfe.out]; exact h1, Below.trans (hnx.alloc _) ((Chd.of_grown h2).below (by have := hnx.size; simp; omega) fun k hk e => by have := (own_row_blk' hrow e).1; omega)⟩
          have HB9 : w2.heap.size ≤ wr.heap.size := hnx.size
          have LN : Hid (((fl.take j).map prOf).length + [prOf ev].length ≤ 1000000000) := by show _ ≤ _; rw [List.length_map, List.length_take, List.length_singleton]; omega
          clear hh hi1 hi2 hgd hrow hnx
          go_wp2_with (at_builtin; refine wpList_app rfl _ _ rfl w2.heap.size (.slice Av j cv) _ _ [prOf ev] rfl rfl (HV.out.alloc _) (rdc_one wr (prOf ev)) LN.out (by simp; omega) ?_; intro v1 w3 hrow1 hg1; obtain ⟨g1, g2, g3, g4⟩ := NXT.out v1 w3 hrow1 hg1; have G4 := Lib.hid g4; clear g4 hrow1 hg1)
          go_roundg (gk - 1)
          case measure => exact g1
          case rel => exact ⟨i + 1, by push_cast; rfl, g2, g3, G4⟩
        · have d1 : decide ((j : Int) < most) = false := by simpa using hm3
          have FIN : Hid (range frm [] most xs = fl.take j) := by rw [RES.out]; exact hgd.full (by omega)
          clear hh hi1 hi2 hgd hrow hnx
          go_wp2
          go_ret
          exact ⟨_, rfl, by rw [FIN.out]; exact FR.out.1, FR.out.2⟩
      · have d2 : ((S to).toList == ([] : List UInt8)) = false := by
          rw [S_toList]
          cases to with
          | nil => exact absurd rfl hto
          | cons c tl => rfl
        by_cases hl : lt ev.1 to = true
        · have d3 : Op.bytesLess (S ev.1).toList (S to).toList = true := by rw [S_lt]; exact hl
          have hok : Hid (okTo to ev = true) := by show _ = _; unfold okTo; rw [hl, Bool.or_true]
          by_cases hm3 : (j : Int) < most
          · have d1 : decide ((j : Int) < most) = true := by simpa using hm3
            have HV := Lib.hid hrow
            have hok2 : okTo to ev = true := hok.out
            have NXT : Hid (∀ v' w', Row w' w2.heap.size v' ((fl.take j).map prOf ++ [prOf ev]) → (wr.alloc (.cells #[.string (S ev.1), .string (S ev.2), .bool false] 40)).grownBy w' (Value.slice Av j cv).ownBlock → gk - 1 < gk ∧ pl ≤ i + 1 ∧ i + 1 - pl + (gk - 1) = fl.length ∧ RgI w w2 to most xs fl pl (i + 1 - pl) v' w') := fun v' w' h1 h2 => by
              have e : i + 1 - pl = j + 1 := by omega
              refine ⟨by omega, by omega, by omega, by omega, hfx, by rw [e]; exact hgd.succ hjf hm3 (by rw [kvAt_get hjf, hfe.out]; exact hok2), by rw [e, map_snoc fl j hjf, kvAt_get hjf, hfe.out]; exact h1, Below.trans (hnx.alloc _) ((Chd.of_grown h2).below (by have := hnx.size; simp; omega) fun k hk e => by have := (own_row_blk' hrow e).1; omega)⟩
            have HB9 : w2.heap.size ≤ wr.heap.size := hnx.size
            have LN : Hid (((fl.take j).map prOf).length + [prOf ev].length ≤ 1000000000) := by show _ ≤ _; rw [List.length_map, List.length_take, List.length_singleton]; omega
            clear hh hi1 hi2 hgd hrow hnx
            go_wp2_with (at_builtin; refine wpList_app rfl _ _ rfl w2.heap.size (.slice Av j cv) _ _ [prOf ev] rfl rfl (HV.out.alloc _) (rdc_one wr (prOf ev)) LN.out (by simp; omega) ?_; intro v1 w3 hrow1 hg1; obtain ⟨g1, g2, g3, g4⟩ := NXT.out v1 w3 hrow1 hg1; have G4 := Lib.hid g4; clear g4 hrow1 hg1)
            go_roundg (gk - 1)
            case measure => exact g1
            case rel => exact ⟨i + 1, by push_cast; rfl, g2, g3, G4⟩
          · have d1 : decide ((j : Int) < most) = false := by simpa using hm3
            have FIN : Hid (range frm to most xs = fl.take j) := by rw [RES.out]; exact hgd.full (by omega)
            clear hh hi1 hi2 hgd hrow hnx
            go_wp2
            go_ret
            exact ⟨_, rfl, by rw [FIN.out]; exact FR.out.1, FR.out.2⟩
        · have d3 : Op.bytesLess (S ev.1).toList (S to).toList = false := by rw [S_lt]; simpa using hl
          have FIN : Hid (range frm to most xs = fl.take j) := by
            rw [RES.out]
            refine hgd.stop hjf ?_
            rw [kvAt_get hjf, hfe.out]
            unfold okTo
            cases to with
            | nil => exact absurd rfl hto
            | cons c tl => simpa using hl
          clear hh hi1 hi2 hgd hrow hnx
          go_wp2
          go_ret
          exact ⟨_, rfl, by rw [FIN.out]; exact FR.out.1, FR.out.2⟩
    · have e2 : decide ((i : Int) < (xs.length : Int)) = false := by simpa using hlt
      have e3 : decide (i < xs.length) = false := by simpa using hlt
      have FIN : Hid (range frm to most xs = fl.take j) := by
        have hjl2 : j = fl.length := by omega
        rw [hjl2] at hgd ⊢
        rw [RES.out, List.take_length]
        exact hgd.all
      clear hh hi1 hi2 hgd hrow hnx
      go_wp2
      go_ret
      exact ⟨_, rfl, by rw [FIN.out]; exact FR.out.1, FR.out.2⟩
end Go.Proofs.Ytekcphpeaoaaaaa
