/- The document's answers for package vector: the values by device (arrays of 17). -/
import Derived.Test.YtlmfjalkgapcgaaDoorVrA
import Derived.StillTailTactics
namespace Go.Proofs.YtlmfjalkgapcgaaDoor
open Go.RowKit
set_option linter.unusedVariables false

attribute [local go_sem] Oper.semAt_some

/-- The cells of an array of values. -/
def arC (f : Nat → Nat) : Array Value := ((List.range 17).map fun i => Value.int .u64 (f i)).toArray
def upd (f : Nat → Nat) (d n : Nat) : Nat → Nat := fun i => if i = d then n else f i
theorem arC_size (f : Nat → Nat) : (arC f).size = 17 := by simp [arC]
theorem arC_at (f : Nat → Nat) (i : Nat) (h : i < 17) : (arC f)[i]? = some (.int .u64 (f i)) := by
  simp [arC, h]
theorem arC_out (f : Nat → Nat) (i : Nat) (h : 17 ≤ i) : (arC f)[i]? = none := by
  simp [arC, h]
theorem arC_set (f : Nat → Nat) (i n : Nat) : (arC f).setIfInBounds i (.int .u64 n) = arC (upd f i n) := by
  apply Array.ext_getElem?
  intro j
  rw [Array.getElem?_setIfInBounds, arC_size]
  by_cases hj : j < 17
  · rw [arC_at _ j hj, arC_at _ j hj]
    unfold upd
    by_cases e : i = j
    · subst e; rw [if_pos rfl, if_pos hj, if_pos rfl]
    · rw [if_neg e, if_neg (fun x => e x.symm)]
  · rw [arC_out _ j (by omega), arC_out _ j (by omega)]
    by_cases e : i = j
    · subst e; rw [if_pos rfl, if_neg hj]
    · rw [if_neg e]
theorem arC_congr {f g : Nat → Nat} (h : ∀ i, i < 17 → f i = g i) : arC f = arC g := by
  unfold arC
  congr 1
  apply List.map_congr_left
  intro i hi
  rw [h i (by simpa using hi)]
theorem arC_zero : arC (fun _ => 0) = #[.int .u64 0, .int .u64 0, .int .u64 0, .int .u64 0, .int .u64 0, .int .u64 0, .int .u64 0, .int .u64 0, .int .u64 0, .int .u64 0, .int .u64 0, .int .u64 0, .int .u64 0, .int .u64 0, .int .u64 0, .int .u64 0, .int .u64 0] := by kernel_rfl
theorem vld_dev {l : List Ct} {a : Int} (h : vld a l = true) (i : Nat) (hi : i < l.length) : 1 ≤ l[i].d ∧ l[i].d ≤ 16 := by
  induction l generalizing a i with
  | nil => cases hi
  | cons c l ih =>
    rw [vld_cons] at h
    cases i with
    | zero => exact ⟨h.1.1, h.1.2.1⟩
    | succ i => exact ih h.2 i (by simpa using hi)
/-- The values of a vector by device, as the loop lays them: the last count of a device. -/
def vsF (f : Nat → Nat) (l : List Ct) : Nat → Nat := l.foldl (fun f c => upd f c.d.toNat c.n) f

theorem info17 : (Tryd.prog.info? 61).map (·.size) = some 17 := by kernel_rfl
theorem arC_one (f : Nat → Nat) : (arC f).all (·.oneCell') = true := by
  simp [arC, Value.oneCell']
theorem blk_setRow {w : World} {g : Nat} {t : TypeId} {cs0 : Array Value} (h : BlkIs w g t cs0) (cs : Array Value) : BlkIs (w.setRow g cs) g t cs := setRow_heap w g cs0 cs t (0, 0) h
theorem Nx.setRow {a b : World} (h : Nx a b) (g : Nat) (cs : Array Value) (hg : a.heap.size ≤ g) : Nx a (b.setRow g cs) :=
  ⟨h.os, h.tape, h.output, by rw [setRow_size]; exact h.size, fun j hj => (setRow_other b g j cs (by omega)).trans (h.block j hj)⟩

set_option maxRecDepth 100000 in
set_option maxHeartbeats 1000000 in
theorem rvalues_any (w : World) (v : Value) (l : List Ct) (h : RdG ctE w v l) (hl : vld 0 l = true) (hn : l.length ≤ 9223372036854775807) :
    Calls Tryd.prog 39 #[v] w fun e w' => e = .returned (.agg (arC (vsF (fun _ => 0) l))) ∧ Nx w w' := by
  obtain ⟨A, c, rfl⟩ := h.form
  have HA := Lib.hid h
  have HV := Lib.hid hl
  clear h hl
  go_enter Tryd.func39, Tryd.ntmps39
  go_wp2
  rw [← arC_zero]
  go_loopw [4] (fun x wr => ∃ i : Nat, x = .int .i64 i ∧ i ≤ l.length ∧ Hid (Nx w wr ∧ BlkIs wr w.heap.size 61 (arC fun _ => 0) ∧ BlkIs wr (w.heap.size + 1) 61 (arC (vsF (fun _ => 0) (l.take i))))) (fun x _ => l.length - (intOf x).toNat)
  case atStart =>
    refine ⟨0, rfl, Nat.zero_le _, ((Nx.refl w).alloc _).alloc _, (BlkIs.new w _ _).nx ((Nx.refl _).alloc _), ?_⟩
    have := BlkIs.new (w.alloc (.cells (arC fun _ => 0) 61)) 61 (arC fun _ => 0)
    simpa [vsF] using this
  case round =>
    obtain ⟨i, rfl, hi, hh⟩ := hrel
    by_cases hlt : i < l.length
    · have e2 : decide ((i : Int) < (l.length : Int)) = true := by simpa using hlt
      have e2b : decide (i < l.length) = true := by simpa using hlt
      have e3 : (0 : Int) ≤ (i : Int) := by omega
      have e4 : (i : Int) < (l.length : Int) := by omega
      obtain ⟨b, o, rfl, x0, x1⟩ := ct_cells (HA.out.nx hh.out.1) i hlt
      have hw : IntKind.i64.wrap ((i : Int) + 1) = ((i + 1 : Nat) : Int) := by rw [IntWalk.i64_in _ (by omega)]; omega
      have hd := vld_dev HV.out i hlt
      have HL := Lib.hid hlt
      have htk : vsF (fun _ => 0) (l.take (i + 1)) = upd (vsF (fun _ => 0) (l.take i)) l[i].d.toNat l[i].n := by
        rw [List.take_succ_eq_append_getElem hlt]; unfold vsF; rw [List.foldl_append]; rfl
      generalize l[i] = q at *
      obtain ⟨dv, n⟩ := q
      obtain ⟨d, rfl⟩ : ∃ d : Nat, dv = d := ⟨dv.toNat, by have := hd.1; simp at this; omega⟩
      simp only [Int.toNat_natCast] at htk
      have hd17 : d < 17 := by have := hd.2; simp at this; omega
      have i0 : (0 : Int) ≤ (d : Int) := by omega
      have i1 : (d : Int) < 17 := by omega
      have HT := Lib.hid htk
      generalize vsF (fun _ => 0) (l.take i) = F at *
      have hb1 := hh.out.2.2
      have c1 := hb1.cell d
      rw [arC_at _ _ hd17] at c1
      have f1 := hb1.frozen d
      clear hb1 htk hd
      go_wp2_with fail
      go_still_tail 10, (by kernel_rfl)
      change wpList _ _ _ _ _ wr.drew
      have h2 : Hid (Nx w wr.drew ∧ BlkIs wr.drew w.heap.size 61 (arC fun _ => 0) ∧ BlkIs wr.drew (w.heap.size + 1) 61 (arC F)) := ⟨hh.out.1.drew, hh.out.2.1.drew, hh.out.2.2.drew⟩
      have c2 : wr.drew.cell? ⟨w.heap.size + 1, d, none⟩ = some (.int .u64 (F d)) := c1
      have f2 : wr.drew.frozen? ⟨w.heap.size + 1, d, none⟩ = false := f1
      clear hh c1 f1 x0 x1
      generalize wr.drew = W at *
      go_wp2
      go_roundw
      case rel =>
        have hb := h2.out.2.2.set d (.int .u64 n)
        rw [arC_set, ← HT.out] at hb
        exact ⟨i + 1, rfl, HL.out, h2.out.1.set _ _ _ (by omega), h2.out.2.1.chd (Chd.set W (w.heap.size + 1) d (.int .u64 n)) (by omega), hb⟩
      case measure => simp only [intOf, Int.toNat_natCast]; have := HL.out; omega
    · have e2 : decide ((i : Int) < (l.length : Int)) = false := by simpa using hlt
      have e2b : decide (i < l.length) = false := by simpa using hlt
      rw [List.take_of_length_le (by omega)] at hh
      go_wp2_with (first
        | (refine wpList_load_row rfl 61 (.tmp 3) rfl (w.heap.size + 1) rfl 61 (arC (vsF (fun _ => 0) l)) (0, 0) _ hh.out.2.2 Tryd.underlying61 rfl (by rw [info17, arC_size]) ?_)
        | (refine wpList_store_row rfl 61 (.tmp 2) (.tmp 22) rfl w.heap.size (arC (vsF (fun _ => 0) l)) rfl rfl 61 _ hh.out.2.1 (by rw [info17, arC_size]) (by rw [arC_size, arC_size]) (arC_one _) ?_))
      refine bodyPost_ret (results_cell_row rfl _ _ w.heap.size 61 (arC (vsF (fun _ => 0) l)) (0, 0) _ rfl (blk_setRow hh.out.2.1 _) Tryd.underlying61 rfl (by rw [info17, arC_size])) rfl ?_
      exact ⟨rfl, hh.out.1.setRow _ _ (Nat.le_refl _)⟩
end Go.Proofs.YtlmfjalkgapcgaaDoor
