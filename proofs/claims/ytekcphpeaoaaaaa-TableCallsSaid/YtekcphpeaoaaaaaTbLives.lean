/- Package table: lives. -/
import Derived.Test.YtekcphpeaoaaaaaTbOf
namespace Go.Proofs.Ytekcphpeaoaaaaa
open Go.RowKit Go.Shelf
set_option linter.unusedVariables false

attribute [local go_sem] Oper.semAt_some

theorem rd_new (w : World) (l : List Pr) (c : Nat) : Rd (w.alloc (.cells (prsC l).toArray 40)) (.slice (some ⟨w.heap.size, 0, none⟩) l.length c) l :=
  .inr ⟨_, 0, c, rfl, fun j u hu => by rw [Nat.zero_add, (BlkIs.new w 40 (prsC l).toArray).cell, List.getElem?_toArray]; exact hu⟩
/-- A table that was put into a variable of its own. -/
theorem Tb.var {w : World} {u : Option Addr} {xs : List KV} (h : Tb w (.agg #[.pointer u]) xs) : Tb (w.alloc (.cells #[.pointer u] 24)) (.agg #[.pointer u]) xs ∧ BlkIs (w.alloc (.cells #[.pointer u] 24)) w.heap.size 24 #[.pointer u] :=
  ⟨h.nx ((Nx.refl w).alloc _), BlkIs.new _ _ _⟩
theorem trange_any (w : World) (T' : Value) (xs : List KV) (frm to : Str) (most : Int) (h : Tb w T' xs) (hn : xs.length ≤ 100000000) (hm1 : -9223372036854775808 ≤ most) (hm2 : most ≤ 9223372036854775807) :
    Calls Try.prog 23 #[T', .string (S frm), .string (S to), .int .i64 most] w (Ret fun r w' => Row w' w.heap.size r ((range frm to most xs).map prOf) ∧ Nx w w') := by
  obtain ⟨u, t, rfl, hin, _, rfl, hs⟩ := h
  have e := T.size_eq t
  exact range_any w _ _ t frm to most hin hs (by omega) hm1 hm2
theorem tnext_any (w : World) (T' : Value) (xs : List KV) (key : Str) (h : Tb w T' xs) (hn : xs.length ≤ 100000000) :
    Calls Try.prog 18 #[T', .string (S key)] w fun e w' => e = .returned (nextV (next key xs)) ∧ Nx w w' := by
  obtain ⟨u, t, rfl, hin, _, rfl, hs⟩ := h
  have e := T.size_eq t
  exact next_any_ w _ _ t key hin hs (by omega)

def L1 : List Pr := [⟨[98], [50], false⟩, ⟨[97], [49], false⟩, ⟨[98], [51], false⟩]
def L2 : List Pr := [⟨[98], [52], false⟩, ⟨[99], [53], false⟩]
def L3 : List Pr := [⟨[97], [49], false⟩, ⟨[98], [51], false⟩]
def L4 : List Pr := [⟨[97], [], true⟩, ⟨[98], [52], false⟩, ⟨[99], [53], false⟩]
theorem x1 : ofL L1 = [([97], [49]), ([98], [51])] := by decide
theorem x2 : ofL L2 = [([98], [52]), ([99], [53])] := by decide
theorem x3 : (range [] [] 9 [([97], [49]), ([98], [51])]).map prOf = L3 := by decide
theorem x4 : chg [([97], [49]), ([98], [51])] [([98], [52]), ([99], [53])] = L4 := by decide

set_option maxRecDepth 100000 in
set_option maxHeartbeats 1000000 in
theorem lives_any (w : World) : Calls Try.prog 11 #[] w fun e w' => e = .returned (.bool true) ∧ Nx w w' := by
  have O1 := Lib.hid (of_any _ _ L1 (rd_new w L1 3) (by unfold ShortP; decide) (by decide))
  go_enter Try.func11, Try.ntmps11
  go_wp2_with fail
  refine O1.out.mono ?_
  rintro e w2 ⟨T1, rfl, ht1, hn1⟩
  rw [x1] at ht1
  obtain ⟨u1, rfl⟩ := ht1.agg
  obtain ⟨W3, hW3⟩ : ∃ W3, w2.alloc (.cells #[.pointer u1] 24) = W3 := ⟨_, rfl⟩
  have hv := ht1.var
  rw [hW3] at hv
  have n3 : Nx w W3 := (((Nx.refl w).alloc _).trans hn1).trans (by rw [← hW3]; exact (Nx.refl w2).alloc _)
  have N3 := Lib.hid n3
  have T3 := Lib.hid hv.1
  have B3 := Lib.hid hv.2
  have O2 := Lib.hid (of_any _ _ L2 (rd_new W3 L2 2) (by unfold ShortP; decide) (by decide))
  clear O1 ht1 hn1 hv n3
  go_wp2_with fail
  refine O2.out.mono ?_
  rintro e w4 ⟨T2, rfl, ht2, hn2⟩
  rw [x2] at ht2
  obtain ⟨u2, rfl⟩ := ht2.agg
  obtain ⟨W5, hW5⟩ : ∃ W5, w4.alloc (.cells #[.pointer u2] 24) = W5 := ⟨_, rfl⟩
  have hv2 := ht2.var
  rw [hW5] at hv2
  have n35 : Nx W3 W5 := (((Nx.refl W3).alloc _).trans hn2).trans (by rw [← hW5]; exact (Nx.refl w4).alloc _)
  have b1 := B3.out.nx n35
  have c1 : W5.cell? ⟨w2.heap.size, 0, none⟩ = some (.pointer u1) := by rw [b1.cell]; rfl
  have N5 : Hid (Nx w W5) := N3.out.trans n35
  have T1 := Lib.hid (T3.out.nx n35)
  have T2 := Lib.hid hv2.1
  have B1 := Lib.hid b1
  have B2 := Lib.hid hv2.2
  have RG := Lib.hid (trange_any W5 (.agg #[.pointer u1]) _ [] [] 9 (T3.out.nx n35) (by decide) (by decide) (by decide))
  clear O2 ht2 hn2 hv2 n35 b1 hW3
  go_wp2_with fail
  refine RG.out.mono ?_
  rintro e w6 ⟨r, rfl, hrow, hn6⟩
  rw [x3] at hrow
  have n7 := (Nx.refl w6).alloc (.cells (prsC L3).toArray 40)
  have P1 := Lib.hid (pairs_any _ r _ L3 L3 (hrow.rd.nx n7) (rd_new w6 L3 2) (by decide))
  have N6 : Hid (Nx W5 (w6.alloc (.cells (prsC L3).toArray 40))) := hn6.trans n7
  clear RG hrow hn6 n7 hW5 c1
  go_wp2_with fail
  refine P1.out.mono ?_
  rintro e w8 ⟨rfl, hn8⟩
  have n58 := N6.out.trans hn8
  have c1 : w8.cell? ⟨w2.heap.size, 0, none⟩ = some (.pointer u1) := by rw [(B1.out.nx n58).cell]; rfl
  have c2 : w8.cell? ⟨w4.heap.size, 0, none⟩ = some (.pointer u2) := by rw [(B2.out.nx n58).cell]; rfl
  have CH := Lib.hid (tchanges_any w8 (.agg #[.pointer u1]) (.agg #[.pointer u2]) _ _ (T1.out.nx n58) (T2.out.nx n58) (by decide) (by decide))
  have N8 : Hid (Nx w w8) := N5.out.trans n58
  have hd : decide (L3 = L3) = true := by decide
  clear P1 hn8 n58 N6
  go_wp2_with fail
  refine CH.out.mono ?_
  rintro e w9 ⟨r2, rfl, hrow, hn9⟩
  rw [x4] at hrow
  have n10 := (Nx.refl w9).alloc (.cells (prsC L4).toArray 40)
  have P2 := Lib.hid (pairs_any _ r2 _ L4 L4 (hrow.rd.nx n10) (rd_new w9 L4 3) (by decide))
  have N9 : Hid (Nx w (w9.alloc (.cells (prsC L4).toArray 40))) := (N8.out.trans hn9).trans n10
  clear CH hrow hn9 n10 c1 c2
  go_wp2_with fail
  refine P2.out.mono ?_
  rintro e w11 ⟨rfl, hn11⟩
  have N11 : Hid (Nx w w11) := N9.out.trans hn11
  clear P2 hn11
  go_wp2_with fail
  go_ret
  exact ⟨rfl, N11.out⟩
end Go.Proofs.Ytekcphpeaoaaaaa
