/- Package table: a key is put. -/
import Derived.Test.YtekcphpeaoaaaaaTbDrop
namespace Go.Proofs.Ytekcphpeaoaaaaa
open Go.RowKit
set_option linter.unusedVariables false

theorem put_nd (key val : Str) (l : T) (k v : Str) (r : T) : (T.nd l k v r).put key val = if top key k then .nd ((T.nd l k v r).cut key).1 key val ((T.nd l k v r).cut key).2 else if lt key k then .nd (l.put key val) k v r else if lt k key then .nd l k v (r.put key val) else .nd l key val r := rfl
theorem put_size (key val : Str) : ∀ t : T, (t.put key val).size ≤ t.size + 1
  | .nil => Nat.le_refl _
  | .nd l k v r => by
    have il := put_size key val l
    have ir := put_size key val r
    have ic := cut_size key (.nd l k v r)
    rw [put_nd]
    split
    · simp only [T.size] at *; omega
    · split
      · simp only [T.size]; omega
      · split
        · simp only [T.size]; omega
        · simp only [T.size]; omega

set_option maxRecDepth 100000 in
theorem put_any (key val : Str) (j1 : key.length ≤ 100000) (j2 : val.length ≤ 100000) (bl : Nat) (t : T) : ∀ (w : World) (B : Nat) (v : Value), In w B v t → BlkIs w bl 66 (nodeC key val 1 (.pointer none) (.pointer none)) → t.size + 1 ≤ 1000000000 →
    Calls Try.prog 40 #[v, .pointer (some ⟨bl, 0, none⟩)] w (Ret fun v' w' => In0 w' v' (t.put key val) ∧ Nx w w') := by
  induction t with
  | nil =>
    intro w B v h hbl _
    obtain rfl : v = .pointer none := h
    have CA := Lib.hid (fun (W : World) => cut_any key .nil W 0 (.pointer none) rfl (by simp only [T.size]; omega))
    have WA := Lib.hid (fun (W : World) (u u' : Option Addr) (hu : In0 W (.pointer u) (T.nil.cut key).1) (hu' : In0 W (.pointer u') (T.nil.cut key).2) => with_any W key val 1 (.pointer none) (.pointer none) (.pointer u) (.pointer u') _ _ _ _ hu hu' j1 j2 (by simp only [T.cut, T.size]; omega))
    have HK := Lib.hid hbl
    have N1 : Hid (Nx w w) := Nx.refl w
    obtain ⟨d0, d1, d2, d3, d4, d5⟩ := node_at hbl
    clear hbl
    unfold nodeC at WA
    go_enter Try.func40, Try.ntmps40
    go_wp2_with fail
    go_region_held3 (fun W => W.cell? ⟨bl, 0, none⟩ = some (.string (S key)) ∧ W.cell? ⟨bl, 1, none⟩ = some (.string (S val)) ∧ W.cell? ⟨bl, 2, none⟩ = some (.int .u32 (rank key)) ∧ W.cell? ⟨bl, 3, none⟩ = some (.int .i64 (1 : Int)) ∧ W.cell? ⟨bl, 4, none⟩ = some (.pointer none) ∧ W.cell? ⟨bl, 5, none⟩ = some (.pointer none))
      (first | go_keep | exact (fun h => ⟨h.c0, h.c1, h.c2, h.c3, h.c4, h.c5⟩) (NodeAt.nx HK.out (N1.out.trans (Nx.trans (Nx.drew (Nx.refl _)) (hn2.trans hn3)))) | exact (fun h => ⟨h.c0, h.c1, h.c2, h.c3, h.c4, h.c5⟩) (NodeAt.nx HK.out (N1.out.trans (Nx.trans (Nx.drew (Nx.refl _)) hn2))))
      ((first
        | (go_at_call 49; refine (CA.out _).mono ?_; rintro e w2 ⟨v2, v2', rfl, hv2, hv2', hn2⟩; obtain ⟨u2, rfl⟩ := hv2.ptr; obtain ⟨u2', rfl⟩ := hv2'.ptr)
        | (go_at_call 57; refine (WA.out _ _ _ hv2 hv2').mono ?_; rintro e w3 ⟨v3, rfl, hv3, hn3⟩)))
    obtain ⟨uv, rfl⟩ := hv3.ptr
    have FIN : Hid (In0 w3 (.pointer uv) (T.nil.put key val) ∧ Nx w w3) := ⟨hv3, N1.out.trans (Nx.trans (Nx.drew (Nx.refl _)) (hn2.trans hn3))⟩
    clear hv2 hv2' hn2 hv3 hn3
    go_wp2_with fail
    go_ret
    exact ⟨_, rfl, FIN.out⟩
  | nd l k x r il ir =>
    intro w B v h hbl hs
    have HIN := Lib.hid h
    obtain ⟨b, pl, pr, rfl, hb, hk, hl, hr, k1, k2⟩ := h
    have hlt := S_lt key k
    obtain ⟨ul, rfl⟩ := hl.ptr
    obtain ⟨ur, rfl⟩ := hr.ptr
    have hs1 : l.size + 1 ≤ 1000000000 ∧ r.size + 1 ≤ 1000000000 := by simp only [T.size] at hs; omega
    have IL := Lib.hid (fun (W : World) (hW : Nx w W) => il W _ _ (hl.nx hW) (hbl.nx hW) hs1.1)
    have IR := Lib.hid (fun (W : World) (hW : Nx w W) => ir W _ _ (hr.nx hW) (hbl.nx hW) hs1.2)
    have HT := Lib.hid (above_any w bl b key val k x _ _ _ _ _ _ (node_at hbl) (node_at hk))
    have HK := Lib.hid hk
    have HB := Lib.hid hbl
    have HL := Lib.hid hl
    have HR := Lib.hid hr
    have HS := Lib.hid hs
    have zl := Lib.hid (put_size key val l)
    have zr := Lib.hid (put_size key val r)
    have zc := Lib.hid (cut_size key (.nd l k x r))
    clear hk hl hr il ir hs hs1 hbl
    by_cases e : top key k = true
    · have he : Hid ((T.nd l k x r).put key val = .nd ((T.nd l k x r).cut key).1 key val ((T.nd l k x r).cut key).2) := by rw [put_nd, if_pos e]; rfl
      rw [e] at HT
      clear e IL IR hlt
      go_enter Try.func40, Try.ntmps40
      go_wp2_with fail
      refine HT.out.mono ?_
      rintro e w1 ⟨rfl, q, rfl⟩
      have n1 : Nx w (w.drewN q) := Nx.drewN (Nx.refl _) q
      obtain ⟨d0, d1, d2, d3, d4, d5⟩ := NodeAt.nx HB.out n1
      have CA := Lib.hid (fun (W : World) (hW : Nx w W) => cut_any key (.nd l k x r) W _ _ (HIN.out.nx hW) (by have := HS.out; omega))
      have WA := Lib.hid (fun (W : World) (u u' : Option Addr) (hu : In0 W (.pointer u) ((T.nd l k x r).cut key).1) (hu' : In0 W (.pointer u') ((T.nd l k x r).cut key).2) => with_any W key val 1 (.pointer none) (.pointer none) (.pointer u) (.pointer u') _ _ _ _ hu hu' j1 j2 (by have := HS.out; have := zc.out; simp only [T.size] at *; omega))
      have N1 := Lib.hid n1
      clear n1
      unfold nodeC at WA
      generalize w.drewN q = w1 at *
      go_wp2_with fail
      go_region_held3 (fun W => W.cell? ⟨bl, 0, none⟩ = some (.string (S key)) ∧ W.cell? ⟨bl, 1, none⟩ = some (.string (S val)) ∧ W.cell? ⟨bl, 2, none⟩ = some (.int .u32 (rank key)) ∧ W.cell? ⟨bl, 3, none⟩ = some (.int .i64 (1 : Int)) ∧ W.cell? ⟨bl, 4, none⟩ = some (.pointer none) ∧ W.cell? ⟨bl, 5, none⟩ = some (.pointer none))
        (first | go_keep | exact (fun h => ⟨h.c0, h.c1, h.c2, h.c3, h.c4, h.c5⟩) (NodeAt.nx HB.out (N1.out.trans (Nx.trans (Nx.drew (Nx.refl _)) (hn2.trans hn3)))) | exact (fun h => ⟨h.c0, h.c1, h.c2, h.c3, h.c4, h.c5⟩) (NodeAt.nx HB.out (N1.out.trans (Nx.trans (Nx.drew (Nx.refl _)) hn2))))
        ((first
          | (go_at_call 49; refine (CA.out _ (N1.out.trans (Nx.drew (Nx.refl _)))).mono ?_; rintro e w2 ⟨v2, v2', rfl, hv2, hv2', hn2⟩; obtain ⟨u2, rfl⟩ := hv2.ptr; obtain ⟨u2', rfl⟩ := hv2'.ptr)
          | (go_at_call 57; refine (WA.out _ _ _ hv2 hv2').mono ?_; rintro e w3 ⟨v3, rfl, hv3, hn3⟩)))
      obtain ⟨uv, rfl⟩ := hv3.ptr
      have FIN : Hid (In0 w3 (.pointer uv) ((T.nd l k x r).put key val) ∧ Nx w w3) := by
        rw [he.out]
        exact ⟨hv3, N1.out.trans (Nx.trans (Nx.drew (Nx.refl _)) (hn2.trans hn3))⟩
      clear hv2 hv2' hn2 hv3 hn3
      go_wp2_with fail
      go_ret
      exact ⟨_, rfl, FIN.out⟩
    · have e0 : top key k = false := by simpa using e
      rw [e0] at HT
      clear e0
      by_cases e1 : lt key k = true
      · have he : Hid ((T.nd l k x r).put key val = .nd (l.put key val) k x r) := by rw [put_nd, if_neg e, if_pos e1]; rfl
        rw [e1] at hlt
        clear e e1 IR
        go_enter Try.func40, Try.ntmps40
        go_wp2_with fail
        refine HT.out.mono ?_
        rintro e w1 ⟨rfl, q, rfl⟩
        have n1 : Nx w (w.drewN q) := Nx.drewN (Nx.refl _) q
        obtain ⟨d0, d1, d2, d3, d4, d5⟩ := NodeAt.nx HK.out n1
        have f0 := (NodeAt.nx HB.out n1).c0
        have WA := Lib.hid (fun (W : World) (u : Option Addr) (hW : Nx w W) (hu : In0 W (.pointer u) (l.put key val)) => with_any W k x (T.nd l k x r).size (.pointer ul) (.pointer ur) (.pointer u) (.pointer ur) _ r _ _ hu (HR.out.nx hW) k1 k2 (by have := HS.out; have := zl.out; simp only [T.size] at *; omega))
        have N1 := Lib.hid n1
        clear n1
        unfold nodeC at WA
        generalize w.drewN q = w1 at *
        go_wp2_with fail
        go_quiet (fail)
        have N2 := Lib.hid (N1.out.drewN nq)
        clear N1
        obtain ⟨d0, d1, d2, d3, d4, d5⟩ := NodeAt.nx HK.out N2.out
        have N1 := N2
        clear N2
        generalize w1.drewN nq = w1 at *
        go_wp2_with fail
        go_region_held3 (fun W => W.cell? ⟨b, 0, none⟩ = some (.string (S k)) ∧ W.cell? ⟨b, 1, none⟩ = some (.string (S x)) ∧ W.cell? ⟨b, 2, none⟩ = some (.int .u32 (rank k)) ∧ W.cell? ⟨b, 3, none⟩ = some (.int .i64 (T.nd l k x r).size) ∧ W.cell? ⟨b, 4, none⟩ = some (.pointer ul) ∧ W.cell? ⟨b, 5, none⟩ = some (.pointer ur))
          (first | go_keep | exact (fun h => ⟨h.c0, h.c1, h.c2, h.c3, h.c4, h.c5⟩) (NodeAt.nx HK.out (N1.out.trans (Nx.trans (Nx.drew (Nx.refl _)) (hn2.trans hn3)))) | exact (fun h => ⟨h.c0, h.c1, h.c2, h.c3, h.c4, h.c5⟩) (NodeAt.nx HK.out (N1.out.trans (Nx.trans (Nx.drew (Nx.refl _)) hn2))))
          ((first
            | (go_at_call 40; refine (IL.out _ (N1.out.trans (Nx.drew (Nx.refl _)))).mono ?_; rintro e w2 ⟨v2, rfl, hv2, hn2⟩; obtain ⟨u2, rfl⟩ := hv2.ptr)
            | (go_at_call 57; refine (WA.out _ _ (N1.out.trans (Nx.trans (Nx.drew (Nx.refl _)) hn2)) hv2).mono ?_; rintro e w3 ⟨v3, rfl, hv3, hn3⟩)))
        obtain ⟨uv, rfl⟩ := hv3.ptr
        have FIN : Hid (In0 w3 (.pointer uv) ((T.nd l k x r).put key val) ∧ Nx w w3) := by
          rw [he.out]
          exact ⟨hv3, N1.out.trans (Nx.trans (Nx.drew (Nx.refl _)) (hn2.trans hn3))⟩
        clear hv2 hn2 hv3 hn3
        go_wp2_with fail
        go_ret
        exact ⟨_, rfl, FIN.out⟩
      · have e1' : lt key k = false := by simpa using e1
        by_cases e2 : lt k key = true
        · have he : Hid ((T.nd l k x r).put key val = .nd l k x (r.put key val)) := by rw [put_nd, if_neg e, if_neg e1, if_pos e2]; rfl
          rw [e1'] at hlt
          have heq : ((S key).toList == (S k).toList) = false := by rw [S_eq]; exact decide_eq_false (lt_ne e2).symm
          clear e e1 e2 e1' IL
          go_enter Try.func40, Try.ntmps40
          go_wp2_with fail
          refine HT.out.mono ?_
          rintro e w1 ⟨rfl, q, rfl⟩
          have n1 : Nx w (w.drewN q) := Nx.drewN (Nx.refl _) q
          obtain ⟨d0, d1, d2, d3, d4, d5⟩ := NodeAt.nx HK.out n1
          have f0 := (NodeAt.nx HB.out n1).c0
          have WA := Lib.hid (fun (W : World) (u : Option Addr) (hW : Nx w W) (hu : In0 W (.pointer u) (r.put key val)) => with_any W k x (T.nd l k x r).size (.pointer ul) (.pointer ur) (.pointer ul) (.pointer u) l _ _ _ (HL.out.nx hW) hu k1 k2 (by have := HS.out; have := zr.out; simp only [T.size] at *; omega))
          have N1 := Lib.hid n1
          clear n1
          unfold nodeC at WA
          generalize w.drewN q = w1 at *
          go_wp2_with fail
          go_quiet (fail)
          have N2 := Lib.hid (N1.out.drewN nq)
          clear N1
          obtain ⟨d0, d1, d2, d3, d4, d5⟩ := NodeAt.nx HK.out N2.out
          have f0 := (NodeAt.nx HB.out N2.out).c0
          have N1 := N2
          clear N2
          generalize w1.drewN nq = w1 at *
          go_wp2_with fail
          go_quiet (fail)
          have N2 := Lib.hid (N1.out.drewN nq)
          clear N1
          obtain ⟨d0, d1, d2, d3, d4, d5⟩ := NodeAt.nx HK.out N2.out
          have N1 := N2
          clear N2
          generalize w1.drewN nq = w1 at *
          go_wp2_with fail
          go_region_held3 (fun W => W.cell? ⟨b, 0, none⟩ = some (.string (S k)) ∧ W.cell? ⟨b, 1, none⟩ = some (.string (S x)) ∧ W.cell? ⟨b, 2, none⟩ = some (.int .u32 (rank k)) ∧ W.cell? ⟨b, 3, none⟩ = some (.int .i64 (T.nd l k x r).size) ∧ W.cell? ⟨b, 4, none⟩ = some (.pointer ul) ∧ W.cell? ⟨b, 5, none⟩ = some (.pointer ur))
            (first | go_keep | exact (fun h => ⟨h.c0, h.c1, h.c2, h.c3, h.c4, h.c5⟩) (NodeAt.nx HK.out (N1.out.trans (Nx.trans (Nx.drew (Nx.refl _)) (hn2.trans hn3)))) | exact (fun h => ⟨h.c0, h.c1, h.c2, h.c3, h.c4, h.c5⟩) (NodeAt.nx HK.out (N1.out.trans (Nx.trans (Nx.drew (Nx.refl _)) hn2))))
            ((first
              | (go_at_call 40; refine (IR.out _ (N1.out.trans (Nx.drew (Nx.refl _)))).mono ?_; rintro e w2 ⟨v2, rfl, hv2, hn2⟩; obtain ⟨u2, rfl⟩ := hv2.ptr)
              | (go_at_call 57; refine (WA.out _ _ (N1.out.trans (Nx.trans (Nx.drew (Nx.refl _)) hn2)) hv2).mono ?_; rintro e w3 ⟨v3, rfl, hv3, hn3⟩)))
          obtain ⟨uv, rfl⟩ := hv3.ptr
          have FIN : Hid (In0 w3 (.pointer uv) ((T.nd l k x r).put key val) ∧ Nx w w3) := by
            rw [he.out]
            exact ⟨hv3, N1.out.trans (Nx.trans (Nx.drew (Nx.refl _)) (hn2.trans hn3))⟩
          clear hv2 hn2 hv3 hn3
          go_wp2_with fail
          go_ret
          exact ⟨_, rfl, FIN.out⟩
        · have he : Hid ((T.nd l k x r).put key val = .nd l key val r) := by rw [put_nd, if_neg e, if_neg e1, if_neg e2]; rfl
          have e2' : lt k key = false := by simpa using e2
          rw [e1'] at hlt
          have heq : ((S key).toList == (S k).toList) = true := by rw [S_eq]; exact decide_eq_true (lt_conn e1' e2')
          clear e e1 e2 e1' e2' IL IR
          go_enter Try.func40, Try.ntmps40
          go_wp2_with fail
          refine HT.out.mono ?_
          rintro e w1 ⟨rfl, q, rfl⟩
          have n1 : Nx w (w.drewN q) := Nx.drewN (Nx.refl _) q
          obtain ⟨d0, d1, d2, d3, d4, d5⟩ := NodeAt.nx HK.out n1
          have f0 := (NodeAt.nx HB.out n1).c0
          have WA := Lib.hid (fun (W : World) (hW : Nx w W) => with_any W key val 1 (.pointer none) (.pointer none) (.pointer ul) (.pointer ur) l r _ _ (HL.out.nx hW) (HR.out.nx hW) j1 j2 (by have := HS.out; simp only [T.size] at *; omega))
          have N1 := Lib.hid n1
          clear n1
          unfold nodeC at WA
          generalize w.drewN q = w1 at *
          go_wp2_with fail
          go_quiet (fail)
          have N2 := Lib.hid (N1.out.drewN nq)
          clear N1
          obtain ⟨d0, d1, d2, d3, d4, d5⟩ := NodeAt.nx HK.out N2.out
          have f0 := (NodeAt.nx HB.out N2.out).c0
          have N1 := N2
          clear N2
          generalize w1.drewN nq = w1 at *
          go_wp2_with fail
          go_quiet (fail)
          have N2 := Lib.hid (N1.out.drewN nq)
          clear N1 f0 d0 d1 d2 d3 d4 d5
          obtain ⟨d0, d1, d2, d3, d4, d5⟩ := NodeAt.nx HB.out N2.out
          have f4 := (NodeAt.nx HK.out N2.out).c4
          have f5 := (NodeAt.nx HK.out N2.out).c5
          have N1 := N2
          clear N2
          generalize w1.drewN nq = w1 at *
          go_wp2_with fail
          go_region_held3 (fun W => W.cell? ⟨bl, 0, none⟩ = some (.string (S key)) ∧ W.cell? ⟨bl, 1, none⟩ = some (.string (S val)) ∧ W.cell? ⟨bl, 2, none⟩ = some (.int .u32 (rank key)) ∧ W.cell? ⟨bl, 3, none⟩ = some (.int .i64 (1 : Int)) ∧ W.cell? ⟨bl, 4, none⟩ = some (.pointer none) ∧ W.cell? ⟨bl, 5, none⟩ = some (.pointer none) ∧ W.cell? ⟨b, 4, none⟩ = some (.pointer ul) ∧ W.cell? ⟨b, 5, none⟩ = some (.pointer ur))
            (first | go_keep | exact (fun h g => ⟨h.c0, h.c1, h.c2, h.c3, h.c4, h.c5, g.c4, g.c5⟩) (NodeAt.nx HB.out (N1.out.trans (Nx.trans (Nx.drew (Nx.refl _)) hn3))) (NodeAt.nx HK.out (N1.out.trans (Nx.trans (Nx.drew (Nx.refl _)) hn3))))
            ((go_at_call 57; refine (WA.out _ (N1.out.trans (Nx.drew (Nx.refl _)))).mono ?_; rintro e w3 ⟨v3, rfl, hv3, hn3⟩))
          obtain ⟨uv, rfl⟩ := hv3.ptr
          have FIN : Hid (In0 w3 (.pointer uv) ((T.nd l k x r).put key val) ∧ Nx w w3) := by
            rw [he.out]
            exact ⟨hv3, N1.out.trans (Nx.trans (Nx.drew (Nx.refl _)) hn3)⟩
          clear hv3 hn3
          go_wp2_with fail
          go_ret
          exact ⟨_, rfl, FIN.out⟩
end Go.Proofs.Ytekcphpeaoaaaaa
