/- Package table, the reference: Nodes and Cut. -/
import Derived.Test.YtekcphpeaoaaaaaTbRn
namespace Go.Proofs.Ytekcphpeaoaaaaa
open Go.RowKit Go.Shelf
set_option linter.unusedVariables false

attribute [local go_sem] Oper.semAt_some

set_option maxRecDepth 100000 in
theorem rnodesT_any (w : World) (T' : Value) (xs : List KV) (h : Rt w T' xs) (hs : ∀ e ∈ xs, e.1.length ≤ 100000) (hn : xs.length ≤ 100000000) :
    Calls Try.prog 30 #[T'] w (Ret fun r w' => Row w' w.heap.size r ((nodes xs).map prOf) ∧ Nx w w') := by
  obtain ⟨s, rfl, hr, _⟩ := h
  obtain ⟨A, c, rfl⟩ : ∃ A c, s = .slice A xs.length c := by
    obtain ⟨A, c, e, _⟩ := hr
    rw [List.length_map] at e
    exact ⟨A, c, e⟩
  obtain ⟨W, hW⟩ : ∃ W, w.alloc (.cells #[.slice A xs.length c] 36) = W := ⟨_, rfl⟩
  have n1 : Nx w W := by rw [← hW]; exact (Nx.refl w).alloc _
  have hb0 : BlkIs W w.heap.size 36 #[.slice A xs.length c] := by rw [← hW]; exact box_blk w _ _
  have c0 := hb0.at0 (Nx.refl W)
  have ND := Lib.hid (rnodes_any xs.length xs (Nat.le_refl _) hs hn W _ (hr.nx n1))
  have N1 := Lib.hid n1
  clear hr n1 hb0
  go_enter Try.func30, Try.ntmps30
  go_wp2_with fail
  refine ND.out.mono ?_
  rintro e w2 ⟨r, rfl, hrow, hn2⟩
  have FIN : Hid (Row w2 w.heap.size r ((nodes xs).map prOf) ∧ Nx w w2) := ⟨hrow.lower N1.out.size, N1.out.trans hn2⟩
  clear ND hrow hn2
  go_wp2_with fail
  go_ret
  exact ⟨_, rfl, FIN.out⟩

set_option maxRecDepth 100000 in
set_option maxHeartbeats 1000000 in
theorem rcut_any (w : World) (T' : Value) (xs : List KV) (key : Str) (h : Rt w T' xs) (hn : xs.length ≤ 100000000) :
    Calls Try.prog 21 #[T', .string (S key)] w (Ret2 fun a b w' => Rt w' a (xs.take (place key xs)) ∧ Rt w' b (xs.drop (place key xs)) ∧ Nx w w') := by
  have HT := h
  obtain ⟨s, rfl, hr, hp⟩ := h
  obtain ⟨A, c, rfl, hc1, hc2, _⟩ : ∃ A c, s = .slice A xs.length c ∧ xs.length ≤ c ∧ c ≤ 9223372036854775807 ∧ True := by
    obtain ⟨A, c, e, h1, h2, _⟩ := hr
    rw [List.length_map] at e h1
    exact ⟨A, c, e, h1, h2, trivial⟩
  obtain ⟨W, hW⟩ : ∃ W, ((w.alloc (.cells #[.slice A xs.length c] 36)).alloc (.cells #[.slice none 0 0] 36)).alloc (.cells #[.slice none 0 0] 36) = W := ⟨_, rfl⟩
  have n1 : Nx w W := by rw [← hW]; exact (((Nx.refl w).alloc _).alloc _).alloc _
  have hb0 : BlkIs W w.heap.size 36 #[.slice A xs.length c] := by rw [← hW]; exact (box_blk w _ _).nx (((Nx.refl _).alloc _).alloc _)
  have hb1 : BlkIs W (w.heap.size + 1) 36 #[.slice none 0 0] := by
    rw [← hW]
    have := box_blk (w.alloc (.cells #[.slice A xs.length c] 36)) (.slice none 0 0) 36
    rw [World.size_alloc] at this
    exact this.nx ((Nx.refl _).alloc _)
  have hb2 : BlkIs W (w.heap.size + 2) 36 #[.slice none 0 0] := by
    rw [← hW]
    have := box_blk ((w.alloc (.cells #[.slice A xs.length c] 36)).alloc (.cells #[.slice none 0 0] 36)) (.slice none 0 0) 36
    simp only [World.size_alloc] at this
    exact this
  have c0 := hb0.at0 (Nx.refl W)
  have PL := Lib.hid (rplace_any W _ xs key (HT.nx n1) hn)
  have hple := place_le key xs
  have N1 := Lib.hid n1
  have BB : Hid (BlkIs W w.heap.size 36 #[.slice A xs.length c] ∧ BlkIs W (w.heap.size + 1) 36 #[.slice none 0 0] ∧ BlkIs W (w.heap.size + 2) 36 #[.slice none 0 0]) := ⟨hb0, hb1, hb2⟩
  have HR := Lib.hid (hr.nx n1)
  have HP : Hid ((A = none ∧ xs.length = 0 ∧ c = 0) ∨ ∃ b o, A = some ⟨b, o, none⟩) := by
    rcases hp with e | ⟨b, o, n, c', e⟩
    · simp only [Value.slice.injEq] at e; exact .inl e
    · simp only [Value.slice.injEq] at e; exact .inr ⟨b, o, e.1⟩
  have FIN : Hid (∀ (W2 W3 : World) (s1 s2 : Value), Nx W W2 → Chd (fun k => k = w.heap.size + 1 ∨ k = w.heap.size + 2) W2 W3 → Nx w W3) := fun W2 W3 _ _ h1 h2 => Below.trans (n1.trans h1) (h2.below (by have := (n1.trans h1).size; omega) fun j hj => by omega)
  clear hr n1 hb0 hb1 hb2 HT hp
  go_enter Try.func21, Try.ntmps21
  go_wp2_with fail
  refine PL.out.mono ?_
  rintro e w2 ⟨rfl, hn2⟩
  obtain ⟨k, hk⟩ : ∃ k, place key xs = k := ⟨_, rfl⟩
  rw [hk] at hple ⊢
  rcases HP.out with ⟨rfl, hx0, rfl⟩ | ⟨b, o, rfl⟩
  · have CM : Hid (∀ a0 : Act, a0.tmps.size = 24 → a0.eval (.tmp 2) = .pointer (some ⟨w.heap.size, 0, none⟩) → a0.eval (.tmp 4) = .pointer (some ⟨w.heap.size + 1, 0, none⟩) → a0.eval (.tmp 5) = .pointer (some ⟨w.heap.size + 2, 0, none⟩) → a0.eval (.tmp 6) = .int .i64 (k : Int) → CRb (rops Try.f21 2) a0 w2 w.heap.size (w.heap.size + 1) (w.heap.size + 2) k xs) := fun a0 q1 q2 q3 q4 q5 =>
      { hops := rfl, hz := q1, z2 := q2, z4 := q3, z5 := q4, z6 := q5, b2 := by have := BB.out.1.nx hn2; rwa [hx0] at this, b4 := BB.out.2.1.nx hn2, b5 := BB.out.2.2.nx hn2, ne := by omega, xsn := hn, x0 := List.eq_nil_of_length_eq_zero hx0, k0 := by omega }
    have N2 := Lib.hid hn2
    clear PL hn2 hW c0
    go_wp2_with fail
    refine rgRbL (CM.out _ rfl rfl rfl rfl rfl) ?_
    rintro x10 x11 x12 x13 x14 x15 x16 x17 x18 x19 x20 x21 x22 x23 W3 g1 ⟨u1, b1, t1⟩ ⟨u2, b2, t2⟩
    have N3 : Hid (Nx w W3) := FIN.out w2 W3 u1 u2 N2.out g1
    have B1 := Lib.hid b1
    have B2 := Lib.hid b2
    have T1 : Hid (Rt W3 (.agg #[u1]) (xs.take k) ∧ Rt W3 (.agg #[u2]) (xs.drop k)) := ⟨t1, t2⟩
    clear CM g1 b1 b2 t1 t2
    go_wp2_with fail
    refine bodyPost_ret (results_cells2 rfl _ _ ⟨w.heap.size + 1, 0, none⟩ ⟨w.heap.size + 2, 0, none⟩ (.agg #[u1]) (.agg #[u2]) rfl rfl (run_loadVar_row _ _ _ _ _ _ _ B1.out Try.underlying36 rfl (by kernel_rfl)) (run_loadVar_row _ _ _ _ _ _ _ B2.out Try.underlying36 rfl (by kernel_rfl))) rfl ?_
    exact ⟨_, _, rfl, by rw [hk]; exact T1.out.1, by rw [hk]; exact T1.out.2, N3.out⟩
  · have CM : Hid (∀ a0 : Act, a0.tmps.size = 24 → a0.eval (.tmp 2) = .pointer (some ⟨w.heap.size, 0, none⟩) → a0.eval (.tmp 4) = .pointer (some ⟨w.heap.size + 1, 0, none⟩) → a0.eval (.tmp 5) = .pointer (some ⟨w.heap.size + 2, 0, none⟩) → a0.eval (.tmp 6) = .int .i64 (k : Int) → CRa (rops Try.f21 2) a0 w2 w.heap.size (w.heap.size + 1) (w.heap.size + 2) b o xs.length c k xs) := fun a0 q1 q2 q3 q4 q5 =>
      { hops := rfl, hz := q1, z2 := q2, z4 := q3, z5 := q4, z6 := q5, b2 := BB.out.1.nx hn2, b4 := BB.out.2.1.nx hn2, b5 := BB.out.2.2.nx hn2, ne := by omega, xsn := hn, rd := HR.out.nx hn2, nn := rfl, kn := hple, nc := hc1, cc := hc2 }
    have N2 := Lib.hid hn2
    clear PL hn2 hW c0
    go_wp2_with fail
    refine rgRaL (CM.out _ rfl rfl rfl rfl rfl) ?_
    rintro x10 x11 x12 x13 x14 x15 x16 x17 x18 x19 x20 x21 x22 x23 W3 g1 ⟨u1, b1, t1⟩ ⟨u2, b2, t2⟩
    have N3 : Hid (Nx w W3) := FIN.out w2 W3 u1 u2 N2.out g1
    have B1 := Lib.hid b1
    have B2 := Lib.hid b2
    have T1 : Hid (Rt W3 (.agg #[u1]) (xs.take k) ∧ Rt W3 (.agg #[u2]) (xs.drop k)) := ⟨t1, t2⟩
    clear CM g1 b1 b2 t1 t2
    go_wp2_with fail
    refine bodyPost_ret (results_cells2 rfl _ _ ⟨w.heap.size + 1, 0, none⟩ ⟨w.heap.size + 2, 0, none⟩ (.agg #[u1]) (.agg #[u2]) rfl rfl (run_loadVar_row _ _ _ _ _ _ _ B1.out Try.underlying36 rfl (by kernel_rfl)) (run_loadVar_row _ _ _ _ _ _ _ B2.out Try.underlying36 rfl (by kernel_rfl))) rfl ?_
    exact ⟨_, _, rfl, by rw [hk]; exact T1.out.1, by rw [hk]; exact T1.out.2, N3.out⟩
end Go.Proofs.Ytekcphpeaoaaaaa
