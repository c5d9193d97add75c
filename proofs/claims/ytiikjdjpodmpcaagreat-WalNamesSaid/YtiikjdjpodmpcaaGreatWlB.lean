/- Package wal: do, which executes steps. -/
import Derived.Test.YtiikjdjpodmpcaaGreatWlA
namespace Go.Proofs.YtiikjdjpodmpcaaGreat
open Go.RowKit Go.Maps
set_option linter.unusedVariables false

/-- The functions that are steps. -/
def stepFn (fn : FuncId) : Prop := fn = 101 ∨ fn = 102 ∨ fn = 104 ∨ fn = 106 ∨ fn = 107 ∨ fn = 109 ∨ fn = 60 ∨ fn = 61
/-- A function value whose call is a step. -/
def StepV (w : World) (tb : Nat) (Z : List (Nat × Obj)) (v : Value) (f : Stp) : Prop :=
  ∃ fn b c, v = .func (.func fn) b c ∧ stepFn fn ∧ ∀ W s k, LivZ w tb s k Z W → k + 1 ≤ 1000 → Calls Tryz.prog fn (b ++ c) W fun e w' => e = .returned (.int .i64 (f s).2) ∧ LivZ w tb (f s).1 (k + 2) Z w'
def fnsO (vs : List Value) : Obj := .cells vs.toArray 60 (0, 0)

set_option maxRecDepth 100000 in
set_option maxHeartbeats 4000000 in
theorem do_any (w W : World) (tb lb k : Nat) (s : St) (L : Lg) (Z : List (Nat × Obj)) (fs : List Stp) (vs : List Value) (rb n : Nat)
    (h : LivZ w tb s k ((lb, logO tb L) :: Z) W) (hrow : (rb, fnsO vs) ∈ Z) (hv : vs.length = n) (hf : fs.length = n) (hn : n ≤ 6) (hk : k + 2 * n ≤ 1000)
    (hst : ∀ (i : Nat) (v : Value) (f : Stp), vs[i]? = some v → fs[i]? = some f → StepV w tb ((lb, logO tb { L with e := 0 }) :: Z) v f) :
    Calls Tryz.prog 59 #[.pointer (some ⟨lb, 0, none⟩), .slice (some ⟨rb, 0, none⟩) n n] W fun e w' => e = .returned (.int .i64 (doS fs s L.e).2) ∧ LivZ w tb (doS fs s L.e).1 (k + 2 * n) ((lb, logO tb { L with e := (doS fs s L.e).2 }) :: Z) w' := by
  have HV := Lib.hid hv
  have HF := Lib.hid hf
  have HK := Lib.hid hk
  have HR := Lib.hid hrow
  have H := Lib.hid h
  have HS := Lib.hid hst
  clear h hrow hst hk hv hf
  have i1 : (n : Int) ≤ 6 := by omega
  go_enter Tryz.func59, Tryz.ntmps59
  go_wp2
  go_loopw [9] (fun x wr => ∃ i : Nat, x = .int .i64 i ∧ i ≤ n ∧ Hid (LivZ w tb (doS (fs.take i) s L.e).1 (k + 2 * i) ((lb, logO tb { L with e := (doS (fs.take i) s L.e).2 }) :: Z) wr)) (fun x _ => n - (intOf x).toNat)
  case atStart => exact ⟨0, rfl, Nat.zero_le _, H.out⟩
  case round =>
    obtain ⟨i, rfl, hi, hm⟩ := hrel
    by_cases hlt : i < n
    · have hvl := HV.out
      have hfl := HF.out
      obtain ⟨v, hv⟩ : ∃ v, vs[i]? = some v := ⟨_, List.getElem?_eq_getElem (show i < vs.length by omega)⟩
      obtain ⟨f, hf⟩ : ∃ f, fs[i]? = some f := ⟨_, List.getElem?_eq_getElem (show i < fs.length by omega)⟩
      obtain ⟨fn, b, c, rfl, hfn, hrun⟩ := HS.out i v f hv hf
      have hcell : wr.cell? ⟨rb, i, none⟩ = some (.func (.func fn) b c) := by
        have hb : BlkIs wr rb 60 vs.toArray := hm.out.blk (List.mem_cons_of_mem _ HR.out)
        rw [hb.cell]
        simpa using hv
      have hd := doS_take fs i f hf s L.e
      have c0 := hm.out.logAt.log.c0
      have f0 := hm.out.logAt.log.fz 0
      generalize hD1 : doS (fs.take (i + 1)) s L.e = D1 at *
      generalize hD : doS (fs.take i) s L.e = D at *
      obtain ⟨s1, e1⟩ := D
      simp only at *
      by_cases h0 : e1 = 0
      · subst h0
        rw [if_pos rfl] at hd
        subst hd
        have hrun2 := hrun wr s1 (k + 2 * i) hm.out (by have := HK.out; omega)
        have HX := Lib.hid hrun2
        have hD1' := Lib.hid hD1
        clear hrun hrun2 hv hf hD hD1 hvl hfl hm
        generalize hq : f s1 = q at *
        obtain ⟨s2, e2⟩ := q
        simp only at *
        rcases hfn with rfl | rfl | rfl | rfl | rfl | rfl | rfl | rfl <;> (
          go_wp2_with fail
          refine HX.out.mono ?_
          rintro e w2 ⟨rfl, hl⟩
          have HL := Lib.hid hl
          have f0 := hl.logAt.log.fz 0
          have c0 := hl.logAt.log.c0
          clear hl HX
          go_wp2
          have HM := Lib.hid (HL.out.set 0 (.int .i64 e2))
          go_roundw
          case rel => exact ⟨i + 1, by go_num, by omega, by rw [hD1'.out]; exact HM.out⟩
          case measure => simp [intOf]; omega)
      · rw [if_neg h0] at hd
        subst hd
        have HM := hm
        have hD1' := Lib.hid hD1
        clear hrun hv hf hD hD1 hvl hfl hm hfn
        go_wp2
        go_roundw
        case rel => exact ⟨i + 1, by go_num, by omega, by rw [hD1'.out]; exact HM.out.up (by omega)⟩
        case measure => simp [intOf]; omega
    · obtain rfl : i = n := by omega
      have e1 : fs.take i = fs := List.take_of_length_le (by have := HF.out; omega)
      rw [e1] at hm
      have c0 := hm.out.logAt.log.c0
      have HM := hm
      clear hm e1
      generalize hD : doS fs s L.e = D at *
      have HD := Lib.hid hD
      clear hD
      obtain ⟨s1, e1⟩ := D
      simp only at c0
      go_wp2
      go_ret
      rw [HD.out]
      exact ⟨rfl, HM.out⟩
end Go.Proofs.YtiikjdjpodmpcaaGreat
