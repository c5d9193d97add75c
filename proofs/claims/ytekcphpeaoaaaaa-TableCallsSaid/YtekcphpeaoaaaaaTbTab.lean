/- Package table: a table's methods, in terms of its pairs. -/
import Derived.Test.YtekcphpeaoaaaaaTbRng
namespace Go.Proofs.Ytekcphpeaoaaaaa
open Go.RowKit Go.Shelf
set_option linter.unusedVariables false

attribute [local go_sem] Oper.semAt_some

/-- A table with these pairs. -/
def Tb (w : World) (T' : Value) (xs : List KV) : Prop := ∃ u t, T' = .agg #[.pointer u] ∧ In0 w (.pointer u) t ∧ t.Heap ∧ t.pairs = xs ∧ Srt xs
section
variable {w w' : World} {T' : Value} {xs : List KV}
theorem Tb.nx (h : Tb w T' xs) (k : Nx w w') : Tb w' T' xs := by
  obtain ⟨u, t, e, hin, r⟩ := h
  exact ⟨u, t, e, hin.nx k, r⟩
theorem Tb.srt (h : Tb w T' xs) : Srt xs := by obtain ⟨_, _, _, _, _, _, h⟩ := h; exact h
theorem Tb.zero (w : World) : Tb w (.agg #[.pointer none]) [] := ⟨none, .nil, rfl, rfl, trivial, rfl, Srt.nil⟩
/-- All keys and values are short. -/
def Shorts (xs : List KV) : Prop := ∀ e ∈ xs, e.1.length ≤ 100000 ∧ e.2.length ≤ 100000
theorem In.shorts {w : World} {B : Nat} {v : Value} {t : T} (h : In w B v t) : Shorts t.pairs := by
  induction t generalizing v with
  | nil => intro e he; cases he
  | nd l k x r il ir =>
    obtain ⟨b, pl, pr, _, _, _, h1, h2, k1, k2⟩ := h
    intro e he
    rcases List.mem_append.1 (show e ∈ l.pairs ++ (k, x) :: r.pairs from he) with he | he
    · exact il h1 e he
    · rcases List.mem_cons.1 he with rfl | he
      · exact ⟨k1, k2⟩
      · exact ir h2 e he
theorem Tb.shorts (h : Tb w T' xs) : Shorts xs := by
  obtain ⟨_, t, _, hin, _, rfl, _⟩ := h
  exact hin.shorts
end

/-- A store into a block of another type turns no tree. -/
theorem In.apart {w w' : World} {B g : Nat} {v : Value} {t : T} {ty : TypeId} {cs : Array Value} (h : In w B v t) (hb : BlkIs w g ty cs) (hne : ty ≠ 66) (hc : Chd (fun j => j = g) w w') : In w' B v t := by
  induction t generalizing v with
  | nil => exact h
  | nd l k x r il ir =>
    obtain ⟨b, pl, pr, e, hlt, hk, h1, h2, h3⟩ := h
    refine ⟨b, pl, pr, e, hlt, hk.chd hc (fun e => ?_), il h1, ir h2, h3⟩
    subst e
    have := hb.symm.trans hk
    simp only [Option.some.injEq, Obj.cells.injEq] at this
    exact hne this.2.1
theorem In.set {w : World} {B g : Nat} {v : Value} {t : T} {ty : TypeId} {cs : Array Value} (h : In w B v t) (hb : BlkIs w g ty cs) (hne : ty ≠ 66) (i : Nat) (u : Value) : In0 (w.setCell ⟨g, i, none⟩ u) v t := (h.apart hb hne (Chd.set w g i u)).dom

set_option maxRecDepth 100000 in
theorem tsize_any (w : World) (T' : Value) (xs : List KV) (h : Tb w T' xs) :
    Calls Try.prog 13 #[T'] w fun e w' => e = .returned (.int .i64 (xs.length : Int)) ∧ Nx w w' := by
  obtain ⟨u, t, rfl, hin, _, rfl, _⟩ := h
  have n1 := (Nx.refl w).alloc (.cells #[.pointer u] 24)
  have c0 : (w.alloc (.cells #[.pointer u] 24)).cell? ⟨w.heap.size, 0, none⟩ = some (.pointer u) := by rw [(box_blk w (.pointer u) 24).cell]; rfl
  have CT := Lib.hid (count_any _ _ _ _ (hin.nx n1))
  have N1 := Lib.hid n1
  have e := T.size_eq t
  clear hin n1
  go_enter Try.func13, Try.ntmps13
  go_wp2_with fail
  refine CT.out.mono ?_
  rintro e w' ⟨rfl, rfl⟩
  go_wp2_with fail
  go_ret
  rw [← e]
  exact ⟨rfl, N1.out⟩

def getV : Option Str → Value
  | some v => .tuple #[.string (S v), .bool true]
  | none => .tuple #[.string ⟨#[]⟩, .bool false]
set_option maxRecDepth 100000 in
theorem tget_any (w : World) (T' : Value) (xs : List KV) (key : Str) (h : Tb w T' xs) :
    Calls Try.prog 9 #[T', .string (S key)] w fun e w' => e = .returned (getV (look key xs)) ∧ Nx w w' := by
  obtain ⟨u, t, rfl, hin, _, rfl, hs⟩ := h
  have hl := find_look key t hs
  have n1 := (Nx.refl w).alloc (.cells #[.pointer u] 24)
  have c0 : (w.alloc (.cells #[.pointer u] 24)).cell? ⟨w.heap.size, 0, none⟩ = some (.pointer u) := by rw [(box_blk w (.pointer u) 24).cell]; rfl
  have CT := Lib.hid (find_any _ _ _ _ (hin.nx n1) key)
  have N1 := Lib.hid n1
  clear hin n1 hs
  go_enter Try.func9, Try.ntmps9
  go_wp2_with fail
  refine CT.out.mono ?_
  rintro e w' ⟨⟨u', rfl, hin'⟩, rfl⟩
  generalize t.find key = f at *
  cases f with
  | nil =>
    obtain rfl : u' = none := by simpa [In] using hin'
    have hl : look key t.pairs = none := hl.symm
    have HL := Lib.hid hl
    clear CT hl
    go_wp2_with fail
    refine bodyPost_ret (results_tmp2 rfl _ _ _) rfl ?_
    exact ⟨by rw [HL.out]; rfl, N1.out⟩
  | nd l k x r =>
    have hl : look key t.pairs = some x := hl.symm
    have HL := Lib.hid hl
    obtain ⟨b, pl, pr, e, hb, hk, _, _, k1, k2⟩ := hin'
    simp only [Value.pointer.injEq] at e
    subst e
    have c1 := (node_at hk).c1
    have CL := Lib.hid (clone_any (w.alloc (.cells #[.pointer u] 24)) (S x) (by rw [S_size]; omega))
    clear hk CT hl
    go_wp2_with fail
    refine CL.out.mono ?_
    rintro e w' ⟨rfl, hn⟩
    have N2 := Lib.hid (N1.out.trans hn)
    clear CL hn
    go_wp2_with fail
    refine bodyPost_ret (results_tmp2 rfl _ _ _) rfl ?_
    exact ⟨by rw [HL.out]; rfl, N2.out⟩

set_option maxRecDepth 100000 in
theorem tdrop_any (w : World) (T' : Value) (xs : List KV) (key : Str) (h : Tb w T' xs) (hn : xs.length ≤ 100000000) :
    Calls Try.prog 14 #[T', .string (S key)] w (Ret fun r w' => Tb w' r (era key xs) ∧ Nx w w') := by
  have HT := Lib.hid h
  obtain ⟨u, t, rfl, hin, hh, rfl, hs⟩ := h
  obtain ⟨W, hW⟩ : ∃ W, (w.alloc (.cells #[.pointer u] 24)).alloc (.cells #[.pointer none] 24) = W := ⟨_, rfl⟩
  have n1 : Nx w W := by rw [← hW]; exact ((Nx.refl w).alloc _).alloc _
  have hb0 : BlkIs W w.heap.size 24 #[.pointer u] := by rw [← hW]; exact (box_blk w (.pointer u) 24).nx ((Nx.refl _).alloc _)
  have hb1 : BlkIs W (w.heap.size + 1) 24 #[.pointer none] := by
    rw [← hW]
    have := box_blk (w.alloc (.cells #[.pointer u] 24)) (.pointer none) 24
    rwa [World.size_alloc] at this
  have c0 : W.cell? ⟨w.heap.size, 0, none⟩ = some (.pointer u) := by rw [hb0.cell]; rfl
  have c1 : W.cell? ⟨w.heap.size + 1, 0, none⟩ = some (.pointer none) := by rw [hb1.cell]; rfl
  have f1 : W.frozen? ⟨w.heap.size + 1, 0, none⟩ = false := hb1.frozen 0
  have e := T.size_eq t
  have CT := Lib.hid (find_any _ _ _ _ (hin.nx n1) key)
  have hl := find_look key t hs
  have lk := look_hit key t.pairs
  have B1 := Lib.hid hb1
  have B0 := Lib.hid hb0
  have N1 := Lib.hid n1
  have HH := Lib.hid hh
  have HS := Lib.hid hs
  have HIN := Lib.hid (hin.nx n1)
  have HE := Lib.hid e
  by_cases hf : t.find key = .nil
  · have HNO : Hid (era key t.pairs = t.pairs) := by
      rw [hf] at hl
      rw [← hl] at lk
      unfold era
      rw [← lk]; rfl
    have FIN : Hid (BlkIs (W.setCell ⟨w.heap.size + 1, 0, none⟩ (.pointer u)) (w.heap.size + 1) 24 #[.pointer u] ∧ Tb (W.setCell ⟨w.heap.size + 1, 0, none⟩ (.pointer u)) (.agg #[.pointer u]) (era key t.pairs) ∧ Nx w (W.setCell ⟨w.heap.size + 1, 0, none⟩ (.pointer u))) := by
      have n2 := n1.set (w.heap.size + 1) 0 (.pointer u) (by omega)
      refine ⟨hb1.set 0 _, ?_, n2⟩
      rw [HNO.out]
      exact HT.out.nx n2
    rw [hf] at CT
    clear hin n1 hs hb0 hb1 hh hl lk HT
    go_enter Try.func14, Try.ntmps14
    go_wp2_with fail
    refine CT.out.mono ?_
    rintro e w' ⟨⟨u', rfl, hin'⟩, rfl⟩
    obtain rfl : u' = none := by simpa [In] using hin'
    clear CT hin'
    go_wp2_with fail
    refine bodyPost_ret (results_cell_row rfl _ _ (w.heap.size + 1) 24 #[.pointer u] (0, 0) _ rfl FIN.out.1 Try.underlying24 rfl (by kernel_rfl)) rfl ?_
    exact ⟨_, rfl, FIN.out.2⟩
  · have hh2 := has_of_find key t hf
    have DR := Lib.hid (drop_any key t W _ _ (hin.nx n1) (by omega) hh2)
    have hit1 : hit key t.pairs = true := by
      rw [← lk, ← hl]
      cases hft : t.find key with
      | nil => exact absurd hft hf
      | nd l k x r => rfl
    have FIN : Hid (∀ u' w', In0 w' (.pointer u') (t.drop key) → Nx W w' → BlkIs (w'.setCell ⟨w.heap.size + 1, 0, none⟩ (.pointer u')) (w.heap.size + 1) 24 #[.pointer u'] ∧ Tb (w'.setCell ⟨w.heap.size + 1, 0, none⟩ (.pointer u')) (.agg #[.pointer u']) (era key t.pairs) ∧ Nx w (w'.setCell ⟨w.heap.size + 1, 0, none⟩ (.pointer u'))) := fun u' w' hi' hn' => by
      have n2 := (n1.trans hn').set (w.heap.size + 1) 0 (.pointer u') (by omega)
      refine ⟨(hb1.nx hn').set 0 _, ⟨u', t.drop key, rfl, ?_, drop_heap key t hs HH.out, drop_pairs key t hs, era_srt hs⟩, n2⟩
      exact hi'.set (hb1.nx hn') (by decide) 0 _
    clear hin n1 hs hb0 hh hl lk HT
    go_enter Try.func14, Try.ntmps14
    go_wp2_with fail
    refine CT.out.mono ?_
    rintro e w' ⟨⟨u', rfl, hin'⟩, rfl⟩
    have hu : ∃ b, u' = some b := by
      cases hft : t.find key with
      | nil => exact absurd hft hf
      | nd l k x r =>
        rw [hft] at hin'
        obtain ⟨b, _, _, e, _⟩ := hin'
        exact ⟨_, by simpa using e⟩
    obtain ⟨b, rfl⟩ := hu
    clear CT hin'
    go_wp2_with fail
    refine DR.out.mono ?_
    rintro e w' ⟨v', rfl, hin2, hn2⟩
    obtain ⟨u', rfl⟩ := hin2.ptr
    obtain ⟨g1, g2⟩ := FIN.out u' w' hin2 hn2
    have c1 : w'.cell? ⟨w.heap.size + 1, 0, none⟩ = some (.pointer none) := by rw [(B1.out.nx hn2).cell]; rfl
    have f1 : w'.frozen? ⟨w.heap.size + 1, 0, none⟩ = false := (B1.out.nx hn2).frozen 0
    have G1 := Lib.hid g1
    have G2 := Lib.hid g2
    clear DR hin2 hn2 g1 g2
    go_wp2_with fail
    refine bodyPost_ret (results_cell_row rfl _ _ (w.heap.size + 1) 24 #[.pointer u'] (0, 0) _ rfl G1.out Try.underlying24 rfl (by kernel_rfl)) rfl ?_
    exact ⟨_, rfl, G2.out⟩
end Go.Proofs.Ytekcphpeaoaaaaa
