/- Package table: Nodes. -/
import Derived.Test.YtekcphpeaoaaaaaTbDown
namespace Go.Proofs.Ytekcphpeaoaaaaa
open Go.RowKit Go.Shelf
set_option linter.unusedVariables false

attribute [local go_sem] Oper.semAt_some

theorem Lp.full {W0 w W : World} {bl D : Nat} {X G : Nat → Prop} {l : List Pr} (h : Lp W0 w bl X G l W) (hK : W.heap[D]? = some (.deferred (some []))) (hD : w.heap.size ≤ D) :
    ∃ v, W.cell? ⟨bl, 0, none⟩ = some v ∧ Row (W.putObj D (.deferred none)) w.heap.size v l ∧ Nx w (W.putObj D (.deferred none)) := by
  obtain ⟨H, hla, _, _⟩ := h.ex
  obtain ⟨v, hv, hrow⟩ := hla.row
  have bk : Bk w.heap.size W (W.putObj D (.deferred none)) := Bk.put _ hK rfl hD
  refine ⟨v, hv, row_of_blk hrow fun j hj => bk.blk (by
    obtain ⟨_, cs, hc⟩ := own_row_blk' hrow hj
    exact hc.cel), Below.trans h.nx (bk.below (Nat.le_refl _) h.nx.size)⟩

set_option maxRecDepth 100000 in
set_option maxHeartbeats 1000000 in
theorem tnodes_any (w : World) (T' : Value) (ps : List KV) (h : Tb w T' ps) (hn : ps.length ≤ 100000000) :
    Calls Try.prog 29 #[T'] w (Ret fun r w' => Row w' w.heap.size r ((nodes ps).map prOf) ∧ Nx w w') := by
  obtain ⟨u, t, rfl, hin, hh, rfl, hs⟩ := h
  have hnod := pre_nodes t hs hh
  have hsz := T.size_eq t
  have hpl : t.pre.length ≤ 100000000 := by rw [hnod, nodes_length]; exact hn
  refine (callsIn_wide (n := 6)).1 ?_
  refine callsIn_of_wp_marks Try.func29 rfl trivial ?_ rfl
  simp only [Try.ntmps29, List.size_toArray, List.length_cons, List.length_nil, Nat.reduceAdd, Nat.reduceSub, Array.replicate_succ, Array.replicate_zero, List.push_toArray, List.append_toArray, List.nil_append, List.cons_append]
  obtain ⟨W1, hW1⟩ : ∃ W1, (w.alloc (.cells #[.pointer u] 24)).alloc (.cells #[.slice none 0 0] 33) = W1 := ⟨_, rfl⟩
  have bx : BlkIs W1 w.heap.size 24 #[.pointer u] ∧ LstAt W1 w.heap.size (w.heap.size + 1) (fun j => j = w.heap.size + 1) [] ∧ Nx w W1 ∧ W1.heap.size = w.heap.size + 2 := by
    rw [← hW1]
    have a1 := box_blk w (.pointer u) 24
    have a4 := LstAt.new (w.alloc (.cells #[.pointer u] 24)) w.heap.size (by simp)
    simp only [World.size_alloc] at a4
    exact ⟨a1.nx (Nx.alloc (Nx.refl _) _), a4, ((Nx.refl w).alloc _).alloc _, by simp⟩
  obtain ⟨b0, b3, n1, z1⟩ := bx
  have c0 : W1.cell? ⟨w.heap.size, 0, none⟩ = some (.pointer u) := by rw [b0.cell]; rfl
  have DW := (downward_any W1 u)
  obtain ⟨W3, hW3⟩ : ∃ W3, W1.alloc (.cells #[.pointer u] 22) = W3 := ⟨_, rfl⟩
  rw [hW3] at DW
  have n3 : Nx W1 W3 := by rw [← hW3]; exact (Nx.refl _).alloc _
  have cp : BlkIs W3 W1.heap.size 22 #[.pointer u] := by rw [← hW3]; exact box_blk W1 _ _
  have z3 : W3.heap.size = w.heap.size + 3 := by rw [← hW3]; simp; omega
  have nw : ∀ j, j < W3.heap.size → j ≠ w.heap.size + 1 → Xof W3 (fun _ => False) (w.heap.size + 1) j := fun j hj hne => ⟨hj, id, hne⟩
  have hXl : ∀ j, Xof W3 (fun _ => False) (w.heap.size + 1) j → j < W3.heap.size := fun j hj => hj.1
  have SEQ := down1_seq W3 W1 w.heap.size W1.heap.size (Xof W3 (fun _ => False) (w.heap.size + 1)) u t 5 hXl (fun j hj => nw j (by omega) (by omega)) (nw _ (by omega) (by omega)) cp (In.below hin n1) (Below.mono n3 (by omega)) (by omega) (by omega)
  have L0 : Lp W3 w (w.heap.size + 1) (Xof W3 (fun _ => False) (w.heap.size + 1)) (fun _ => False) [] W3 :=
    ⟨⟨_, b3.nx n3, fun j hj => hj.elim, fun j e hx => hx.2.2 e⟩, fun j hj => hj.elim, fun j hj => hj.elim, n1.trans n3, fun _ _ => rfl, Nat.le_refl _⟩
  have BXS : Hid (∀ W, (∀ j, Xof W3 (fun _ => False) (w.heap.size + 1) j → W.heap[j]? = W3.heap[j]?) → ∀ b cs, b < w.heap.size → BlkIs W1 b 66 cs → BlkIs W b 66 cs) := fun W h b cs hb hc => (h _ (nw _ (by omega) (by omega))).trans (hc.nx n3)
  have HSEQ := Lib.hid SEQ
  have HL0 := Lib.hid L0
  have HXL := Lib.hid hXl
  have HXN := Lib.hid hpl
  have HNOD := Lib.hid hnod
  have HW3 : Hid (w.heap.size ≤ W3.heap.size) := by show _ ≤ _; omega
  have HDW := Lib.hid DW
  obtain ⟨xs, hxs⟩ : ∃ xs, t.pre = xs := ⟨_, rfl⟩
  rw [hxs] at HSEQ HXN HNOD
  clear SEQ L0 hXl DW hnod hsz hpl hs hh hin hn b0 b3 n1 n3 cp nw hW3 z3 z1
  gi_wp2_with fail
  refine ⟨trivial, ?_⟩
  refine (callsIn_wide.2 HDW.out).mono ?_
  rintro e w' ⟨rfl, rfl⟩
  clear HDW
  gi_wp2_with fail
  refine range_x rfl (by decide) (gf := 65) (lb := #[.pointer (some ⟨W1.heap.size, 0, none⟩)]) rfl trivial (enters_of Try.func65 (by kernel_rfl) rfl) HSEQ.out (fun _ => rfl) HXL.out
    (fun i G' W => Lp W3 w (w.heap.size + 1) (Xof W3 (fun _ => False) (w.heap.size + 1)) G' ((xs.take i).map prOf) W)
    (fun c i G' W => False)
    (fun i G' A G'' C h hm => h.mv HXL.out HW3.out hm) (fun c i G' A G'' C h hm => h)
    (fun i G' A C h hb => h.bk HXL.out (Nat.le_refl _) HW3.out hb) (fun c i G' A C h hb => h) (fun _ _ _ h _ => h)
    HL0.out
    (fun b => { tmps := #[.agg #[.pointer u], .pointer (some ⟨w.heap.size, 0, none⟩), .slice none 0 0, .pointer (some ⟨w.heap.size + 1, 0, none⟩), ptrV b, .pointer (some ⟨w.heap.size, 0, none⟩), .pointer u, .func (.func 65) #[] #[.pointer (some ⟨W1.heap.size, 0, none⟩)], ptrV b, undef, undef, undef, undef, undef, undef], defers := [] }) ?assign ?body ?done ?stop
  case assign =>
    intro l x W K hK
    gi_wp2
    exact hK
  case body =>
    rintro l i b G' W hl0 hr hL hcel hlt ⟨hb, nn, pl, pr, hk, k1, k2⟩
    have hkb := BXS.out W hL.fix b _ hb hk
    obtain ⟨H, hla, hap, hhx⟩ := hL.ex
    have HLN : Hid (((xs.take i).map prOf).length < 1000000000) := by
      show _ < _
      rw [List.length_map, List.length_take]; have := HXN.out; omega
    have HKB : Hid (∀ V, Nx W V → Calls Try.prog 48 #[ptrV b] V fun e V' => e = .returned (prV (prOf (kvAt xs i))) ∧ Nx V V') := fun V hV => pair_any V b _ _ _ _ _ (hkb.nx hV) k1 k2
    have HLP := Lib.hid hL
    have HAP := Lib.hid hap
    have HHX := Lib.hid hhx
    have HLA := Lib.hid hla
    have HCL := Lib.hid hcel
    clear hL hap hhx hla hcel hk hkb hb
    gi_wp2_with fail
    refine push_round (s := 3) (x := 4) (d := 9) (f := 48) (xv := ptrV b) (p := prOf (kvAt xs i)) (enters_of Try.func48 (by kernel_rfl) rfl) (by decide) (by decide) (Nat.le_of_ble_eq_true rfl) rfl rfl HKB.out HLA.out HLN.out ?_
    intro u0 u1 u2 u3 u4 W' H' hl' hm'
    obtain ⟨h1, h2⟩ := HLP.out.push HXL.out HCL.out HW3.out HLA.out HAP.out HHX.out hl' hm'
    rw [← map_snoc xs i hlt] at h1
    exact ⟨hm'.from _, h2, h1⟩
  case done =>
    rintro D G' W hD hL hdn hK
    rw [List.take_length, HNOD.out] at hL
    obtain ⟨v, hv, r1, r2⟩ := hL.full hK (Nat.le_trans HW3.out hD)
    have R1 := Lib.hid r1
    have R2 := Lib.hid r2
    clear hL hdn r1 r2
    gi_wp2_with fail
    refine ⟨by simp, .inl ⟨_, _, rfl, run_takeDeferred hK, ?_⟩⟩
    exact ⟨_, results_tmp (t := 2) rfl _ _ _, v, rfl, R1.out, R2.out⟩
  case stop =>
    rintro D c i G' W hD h hK
    exact h.elim
end Go.Proofs.Ytekcphpeaoaaaaa
