/- Package tree: Rename. -/
import Derived.Test.YtodnckflobefpaaTrK
import Derived.Deep.RegionHeld3
namespace Go.Proofs.Ytodnckflobefpaa
open Go.RowKit Go.Maps
set_option linter.unusedVariables false

theorem find_at2 {tb : Nat} {s : St} {g : Gh} {k : Nat} (ok : Ok k s) (p q : Str) (hp : p.length ≤ 10000) {s1 : St} {r : Option Nat} {er : Int} (hf : Found s p [q] s1 r er) (W : World) (h : TreeAt W tb s g) (b : Nat) (hb : BlkIs W b 9 #[.string (S q)]) (h0 : g.tag b = 0) :
    Calls Try.prog 35 #[.pointer (some ⟨tb, 0, none⟩), .string (S p), .slice (some ⟨b, 0, none⟩) 1 1] W fun e w' => e = .returned (.tuple #[optP g r, .int .i64 er]) ∧ TreeAt w' tb s1 g ∧ Chd (fun j => j = tb ∨ j = b) W w' := by
  have X := find_any W tb s g h ok.f0 ok.f1 p (by omega) (some ⟨b, 0, none⟩) 1 1 [q] (by decide) ⟨rfl, .inr ⟨b, 1, _, rfl, Nat.zero_le _, hb, Nat.le_refl _, by decide, rfl, rfl⟩⟩ (fun j hj => by
    have : some b = some j := hj
    rw [Option.some.injEq] at this
    rw [← this]; exact h0)
  rw [hf.eq] at X
  exact X.mono fun e w' ⟨a, b, c⟩ => ⟨a, b, c.mono fun j _ hj => hj.imp id (fun e => by
    have : some _ = some j := e
    rw [Option.some.injEq] at this
    exact this.symm)⟩
def renameR (s1 : St) (p q : Str) (er : Int) : Option Nat → St × Int
  | some f => if p = q then (s1, 0) else ((s1.free q).record (.mv p q f), 0)
  | none => (s1, er)
theorem rename_eq (s : St) (p q : Str) {s1 : St} {r : Option Nat} {er : Int} (h : Found s p [q] s1 r er) : s.rename p q = renameR s1 p q er r := by
  unfold St.rename
  rw [h.eq]
  cases r <;> rfl

set_option maxRecDepth 100000 in
theorem rename_any (w : World) (tb : Nat) (s : St) (g : Gh) {k : Nat} (hk : k + 1 ≤ 1000) (h : TreeAt w tb s g) (ok : Ok k s) (p q : Str) (hp : p.length ≤ 10000) (hq : q.length ≤ 10000) :
    Calls Try.prog 13 #[.pointer (some ⟨tb, 0, none⟩), .string (S p), .string (S q)] w fun e w' => e = .returned (.int .i64 (s.rename p q).2) ∧ ∃ g', TreeAt w' tb (s.rename p q).1 g' ∧ Chd (Mine g) w w' ∧ Gh.le w g g' := by
  obtain ⟨s1, r, er, hf⟩ := found s p [q]
  rw [rename_eq s p q hf]
  have FA := Lib.hid (fun W hW b hb h0 => find_at2 (tb := tb) (g := g) ok p q hp hf W hW b hb h0)
  have ok1 : Ok k s1 := by have := ok.find p [q]; rwa [hf.eq] at this
  have FR := Lib.hid (fun W hW => free_any W tb s1 g (by omega) hW ok1 q (by omega))
  have okf := Lib.hid (ok1.free (by omega) q)
  have hfid : Hid (∀ f, r = some f → f < (s1.free q).fil.length) := fun f e => by
    rw [(free_same s1 q).2.1]
    exact ok1.fs _ (look_mem (hf.yes f e).2)
  have HF := Lib.hid hf
  have H := Lib.hid h
  have HP := Lib.hid hp
  have HQ := Lib.hid hq
  have hsz : (S p).size ≤ 1000000000000 := by rw [S_size]; omega
  have hsz2 : (S q).size ≤ 1000000000000 := by rw [S_size]; omega
  have CL1 := Lib.hid (fun W => clone_any W (S p) hsz)
  have CL2 := Lib.hid (fun W => clone_any W (S q) hsz2)
  have bl : Below w.heap.size w (((w.alloc (.cells #[.string (S p)] 9)).alloc (.cells #[.string (S q)] 9)).alloc (.cells #[.string (S q)] 9)) := (((Below.refl _ w).alloc (Nat.le_refl _) _).alloc (by simp) _).alloc (by simp; omega) _
  have T1 := Lib.hid (h.nx bl)
  have X1 := Lib.hid (((BlkIs.new w 9 #[.string (S p)]).alloc (.cells #[.string (S q)] 9)).alloc (.cells #[.string (S q)] 9))
  have Y1 : Hid (BlkIs (((w.alloc (.cells #[.string (S p)] 9)).alloc (.cells #[.string (S q)] 9)).alloc (.cells #[.string (S q)] 9)) (w.heap.size + 1) 9 #[.string (S q)]) := by
    have := (BlkIs.new (w.alloc (.cells #[.string (S p)] 9)) 9 #[.string (S q)]).alloc (.cells #[.string (S q)] 9)
    rw [World.size_alloc] at this
    exact this
  have Z1 : Hid (BlkIs (((w.alloc (.cells #[.string (S p)] 9)).alloc (.cells #[.string (S q)] 9)).alloc (.cells #[.string (S q)] 9)) (w.heap.size + 2) 9 #[.string (S q)]) := by
    have := (BlkIs.new ((w.alloc (.cells #[.string (S p)] 9)).alloc (.cells #[.string (S q)] 9)) 9 #[.string (S q)])
    rw [World.size_alloc, World.size_alloc] at this
    exact this
  have CB := Lib.hid (Chd.of_below bl : Chd (fun j => j = tb) w _)
  have hpq : Hid ((S p = S q) ↔ p = q) := S_inj
  clear hf h hp hq hsz hsz2 ok ok1 bl
  generalize hsp : S p = sp at *
  generalize hsq : S q = sq at *
  have HSP := Lib.hid hsp
  have HSQ := Lib.hid hsq
  clear hsp hsq
  generalize hR : renameR s1 p q er r = R
  have HR := Lib.hid hR
  clear hR
  go_enter Try.func13, Try.ntmps13
  go_wp2_with fail
  refine (FA.out _ T1.out (w.heap.size + 2) Z1.out (new_zero H.out (by omega))).mono ?_
  rintro e w2 ⟨rfl, ht2, hc2⟩
  have htb := H.out.top.lt
  have hb0 : ¬ (w.heap.size = tb ∨ w.heap.size = w.heap.size + 2) := by omega
  have hb1 : ¬ (w.heap.size + 1 = tb ∨ w.heap.size + 1 = w.heap.size + 2) := by omega
  have T2 := Lib.hid ht2
  have C2 := Lib.hid ((CB.out.mono fun _ _ e => .inl e).trans hc2)
  have x2 := X1.out.chd hc2 hb0
  have y2 := Y1.out.chd hc2 hb1
  have dx2 : ∀ o, (w2.alloc o).cell? ⟨w.heap.size, 0, none⟩ = some (.string sp) := fun o => by rw [(x2.alloc o).cell]; rfl
  have dy2 : ∀ o, (w2.alloc o).cell? ⟨w.heap.size + 1, 0, none⟩ = some (.string sq) := fun o => by rw [(y2.alloc o).cell]; rfl
  have X2 := Lib.hid x2
  have Y2 := Lib.hid y2
  have HTB := Lib.hid htb
  clear ht2 hc2 T1 X1 Y1 Z1 FA CB x2 y2 hb0 hb1 htb
  cases r with
  | none =>
    have hR : (s1, er) = R := HR.out
    subst hR
    have hne : (er != 0) = true := by have := HF.out.no rfl; simpa using this
    clear HR HF
    unfold optP
    go_wp2
    go_ret
    refine ⟨rfl, g, T2.out.nx ((Below.refl _ w2).alloc (Nat.le_refl _) _), ?_, Gh.le_refl _ _⟩
    have a1 : Chd (Mine g) w w2 := C2.out.mono (fun j hj e => by
      rcases e with e | e
      · rw [e]; exact (mine_cv H.out).1
      · omega)
    exact a1.trans (Chd.of_below ((Below.refl _ w2).alloc (Nat.le_refl _) _))
  | some f =>
    obtain rfl : er = 0 := (HF.out.yes f rfl).1
    have HFL : Hid (f < (s1.free q).fil.length) := hfid.out f rfl
    unfold optP fptr
    by_cases hq : p = q
    · have hR : (s1, (0 : Int)) = R := by have := HR.out; simp only [renameR, if_pos hq] at this; exact this
      subst hR
      have hs : (sp.toList == sq.toList) = true := by rw [hpq.out.2 hq]; simp
      clear HR HF hfid hq
      go_wp2
      go_ret
      refine ⟨rfl, g, T2.out.nx ((Below.refl _ w2).alloc (Nat.le_refl _) _), ?_, Gh.le_refl _ _⟩
      have a1 : Chd (Mine g) w w2 := C2.out.mono (fun j hj e => by
        rcases e with e | e
        · rw [e]; exact (mine_cv H.out).1
        · omega)
      exact a1.trans (Chd.of_below ((Below.refl _ w2).alloc (Nat.le_refl _) _))
    have hR : ((s1.free q).record (.mv p q f), (0 : Int)) = R := by have := HR.out; simp only [renameR, if_neg hq] at this; exact this
    subst hR
    have hs : (sp.toList == sq.toList) = false := by
      have h1 : sp.toList = p := by rw [← HSP.out, S_toList]
      have h2 : sq.toList = q := by rw [← HSQ.out, S_toList]
      rw [h1, h2]
      simpa using hq
    clear HR HF hfid
    go_wp2_with fail
    refine (FR.out _ (T2.out.nx ((Below.refl _ w2).alloc (Nat.le_refl _) _))).mono ?_
    rintro e w3 ⟨rfl, ht3, hc3⟩
    have C3 := Lib.hid ((C2.out.trans (Chd.of_below ((Below.refl _ w2).alloc (Nat.le_refl _) (.cells #[fptr (g.blk f)] 66)))).trans (hc3.mono fun _ _ e => .inl e))
    have htb := HTB.out
    have x3 := (X2.out.alloc (.cells #[fptr (g.blk f)] 66)).chd hc3 (by omega)
    have y3 := (Y2.out.alloc (.cells #[fptr (g.blk f)] 66)).chd hc3 (by omega)
    have z3 := (BlkIs.new w2 66 #[fptr (g.blk f)]).chd hc3 (by have := X2.out.lt; omega)
    have hlt : Hid (w.heap.size + 1 < w2.heap.size) := Y2.out.lt
    have T3 := Lib.hid ht3
    have dx3 := x3.cell 0
    have dy3 := y3.cell 0
    simp only [List.getElem?_toArray, List.getElem?_cons_zero] at dx3 dy3
    have d3 := And.intro dx3 dy3
    have l3 := Lib.hid (And.intro x3.lt y3.lt)
    have X3 := Lib.hid x3
    have Y3 := Lib.hid y3
    have Z3 := Lib.hid z3
    clear ht3 hc3 x3 y3 z3 T2 C2 X2 Y2 dx2 dy2 dx3 dy3 FR htb
    go_upto_region 5 with fail
    refine wp_region_held_drew (S := (fun W => W.cell? ⟨w.heap.size, 0, none⟩ = some (.string sp) ∧ W.cell? ⟨w.heap.size + 1, 0, none⟩ = some (.string sq))) (by kernel_rfl) ⟨d3.1, d3.2⟩ (fun hHeld => ?_)
    change wpAnyH _ _ _ _ _ 6 (Array.replicate 6 false) _ _
    refine wpAnyH_take (i := 0) (oi := { dst := some 28, op := Op.load 9 (Operand.tmp 4), type := 9, pos := "operation.go:78", after := #[], guard := none }) (v := ?va0) rfl (by kernel_rfl) (by kernel_rfl) (by kernel_rfl) (fun _ _ _ h => h) (Or.inl ⟨by rfl, ?hya0⟩) hHeld ?resta0
    case hya0 =>
      intro W hSw
      have s1 := hSw.1
      have s2 := hSw.2
      go_simp
      try with_reducible rfl
    try simp only [Act.put, List.setIfInBounds_toArray, List.set_cons_zero, List.set_cons_succ]
    refine wpAnyH_take (i := 2) (oi := { dst := some 30, op := Op.load 9 (Operand.tmp 5), type := 9, pos := "operation.go:78", after := #[], guard := none }) (v := ?va2) rfl (by kernel_rfl) (by kernel_rfl) (by kernel_rfl) (fun _ _ _ h => h) (Or.inl ⟨by rfl, ?hya2⟩) hHeld ?resta2
    case hya2 =>
      intro W hSw
      have s1 := hSw.1
      have s2 := hSw.2
      go_simp
      try with_reducible rfl
    try simp only [Act.put, List.setIfInBounds_toArray, List.set_cons_zero, List.set_cons_succ]
    refine wpAnyH_ready (rs := [1]) (by kernel_rfl) (by simp) ?_
    refine AllReadyH.cons (o := { dst := some 29, op := Op.call { callee := Callee.value (Operand.func 32), args := #[Operand.tmp 28], argTypes := #[9] }, type := 9, pos := "operation.go:78", after := #[{ on := 0, ground := Ground.data }], guard := none }) rfl (fun K' hK => ?_) AllReadyH.nil
    go_simp
    refine (CL1.out w3.drew).mono ?_
    rintro e w4 ⟨rfl, hb⟩
    have B4 := Lib.hid (Nx.trans (Nx.drew (Nx.refl w3)) hb)
    clear hb
    show K' _ w4
    refine hK.out _ _ ⟨(B4.out.cell (l3.out.1)).trans d3.1, (B4.out.cell (l3.out.2)).trans d3.2⟩ (fun hHeld => ?_)
    clear hK K'
    try simp only [Act.put, List.setIfInBounds_toArray, List.set_cons_zero, List.set_cons_succ]
    refine wpAnyH_ready (rs := [3]) (by kernel_rfl) (by simp) ?_
    refine AllReadyH.cons (o := { dst := some 31, op := Op.call { callee := Callee.value (Operand.func 32), args := #[Operand.tmp 30], argTypes := #[9] }, type := 9, pos := "operation.go:78", after := #[{ on := 2, ground := Ground.data }, { on := 1, ground := Ground.chain }], guard := none }) rfl (fun K' hK => ?_) AllReadyH.nil
    go_simp
    refine (CL2.out w4).mono ?_
    rintro e w5 ⟨rfl, hb⟩
    have B5 := Lib.hid (Nx.trans B4.out hb)
    have x5 := X3.out.nx B5.out
    have y5 := Y3.out.nx B5.out
    have z5 := Z3.out.nx B5.out
    have X5 := Lib.hid x5
    have Y5 := Lib.hid y5
    have Z5 := Lib.hid z5
    have dx5 := x5.cell 0
    have fx5 := x5.frozen 0
    have dy5 := y5.cell 0
    have fy5 := y5.frozen 0
    simp only [List.getElem?_toArray, List.getElem?_cons_zero] at dx5 dy5
    clear hb x5 y5 z5
    show K' _ w5
    refine hK.out _ _ ⟨dx5, dy5⟩ (fun hHeld => ?_)
    clear hK K'
    try simp only [Act.put, List.setIfInBounds_toArray, List.set_cons_zero, List.set_cons_succ]
    refine wpAnyH_ready (rs := [4]) (by kernel_rfl) (by simp) ?_
    refine AllReadyH.cons (o := { dst := none, op := Op.store 9 (Operand.tmp 4) (Operand.tmp 29), type := 0, pos := "operation.go:78", after := #[{ on := 1, ground := Ground.data }, { on := 3, ground := Ground.chain }, { on := 0, ground := Ground.phase }, { on := 1, ground := Ground.phase }, { on := 2, ground := Ground.textOnly Departure.inlinedCapture }, { on := 3, ground := Ground.textOnly Departure.lateStoresUnsure }], guard := none }) rfl (fun K' hK => ?_) AllReadyH.nil
    go_simp
    refine hK.out _ _ ⟨by rw [show (w5.setCell ⟨w.heap.size, 0, none⟩ (.string sp)).cell? ⟨w.heap.size, 0, none⟩ = (#[Value.string sp])[0]? from (X5.out.set 0 (.string sp)).cell 0]; rfl, by rw [(Y5.out.chd (Chd.set w5 w.heap.size 0 (.string sp)) (by omega)).cell 0]; rfl⟩ (fun hHeld => ?_)
    clear hK K'
    try simp only [Act.put, List.setIfInBounds_toArray, List.set_cons_zero, List.set_cons_succ]
    have X7 := Lib.hid ((X5.out.set 0 (.string sp)).chd (Chd.set _ (w.heap.size + 1) 0 (.string sq)) (by omega))
    have Y7 := Lib.hid ((Y5.out.chd (Chd.set w5 w.heap.size 0 (.string sp)) (by omega)).set 0 (.string sq))
    refine wpAnyH_ready (rs := [5]) (by kernel_rfl) (by simp) ?_
    refine AllReadyH.cons (o := { dst := none, op := Op.store 9 (Operand.tmp 5) (Operand.tmp 31), type := 0, pos := "operation.go:78", after := #[{ on := 3, ground := Ground.data }, { on := 4, ground := Ground.chain }, { on := 0, ground := Ground.phase }, { on := 1, ground := Ground.phase }, { on := 2, ground := Ground.phase }, { on := 3, ground := Ground.phase }, { on := 4, ground := Ground.phase }], guard := none }) rfl (fun K' hK => ?_) AllReadyH.nil
    go_simp
    refine hK.out _ _ ⟨by rw [X7.out.cell 0]; rfl, by rw [Y7.out.cell 0]; rfl⟩ (fun hHeld => ?_)
    clear hK K'
    try simp only [Act.put]
    refine wpAnyH_done (by kernel_rfl) ?_ _
    go_wp2_with fail
    have hlt' := hlt.out
    have l3' := Z3.out.lt
    have hsz5 := B5.out.size
    obtain ⟨w7, hw7⟩ : ∃ w7, (w5.setCell ⟨w.heap.size, 0, none⟩ (.string sp)).setCell ⟨w.heap.size + 1, 0, none⟩ (.string sq) = w7 := ⟨_, rfl⟩
    have C57 : Chd (fun j => j = w.heap.size ∨ j = w.heap.size + 1) w5 w7 := by
      subst hw7
      exact ((Chd.set w5 w.heap.size 0 _).mono fun _ _ e => .inl e).trans ((Chd.set _ (w.heap.size + 1) 0 _).mono fun _ _ e => .inr e)
    have x7 := X7.out
    have y7 := Y7.out
    have z7 : BlkIs w7 w2.heap.size 66 #[fptr (g.blk f)] := Z5.out.chd C57 (by omega)
    rw [hw7] at x7 y7
    rw [hw7]
    have tz : ∀ j, w.heap.size ≤ j → g.tag j = 0 := fun j hj => new_zero H.out hj
    have T7 := ((T3.out.nx B5.out).chd C57 (fun j e => tz j (by omega))).boxes [w.heap.size, w2.heap.size, w.heap.size + 1] (fun j e => by
      simp only [List.mem_cons, List.not_mem_nil, or_false] at e
      rcases e with e | e | e <;> subst e
      · exact ⟨tz _ (Nat.le_refl _), x7.lt⟩
      · exact ⟨tz _ (by omega), z7.lt⟩
      · exact ⟨tz _ (by omega), y7.lt⟩)
    have tb5 : ∀ j, (j = w.heap.size ∨ j = w2.heap.size ∨ j = w.heap.size + 1) → (g.boxes [w.heap.size, w2.heap.size, w.heap.size + 1]).tag j = 5 := fun j e => if_pos (by simpa using e)
    have hv : ChAt w7 (g.boxes [w.heap.size, w2.heap.size, w.heap.size + 1]).tag (g.boxes [w.heap.size, w2.heap.size, w.heap.size + 1]).blk (.func (.func 40) #[] #[.pointer (some ⟨w.heap.size, 0, none⟩), .pointer (some ⟨w2.heap.size, 0, none⟩), .pointer (some ⟨w.heap.size + 1, 0, none⟩)]) (.mv p q f) :=
      ⟨w.heap.size, w2.heap.size, w.heap.size + 1, rfl, ⟨by rw [show (⟨p.toArray⟩ : ByteArray) = sp from HSP.out]; exact x7, tb5 _ (.inl rfl)⟩, ⟨z7, tb5 _ (.inr (.inl rfl))⟩, ⟨by rw [show (⟨q.toArray⟩ : ByteArray) = sq from HSQ.out]; exact y7, tb5 _ (.inr (.inr rfl))⟩⟩
    have RC := record_any _ tb _ _ hk T7 okf.out _ (.mv p q f) ⟨HP.out, HQ.out, HFL.out⟩ hv
    refine RC.mono ?_
    rintro e w8 ⟨rfl, ⟨cv, T8, hcv⟩, C8⟩
    have hC7 := C57.size
    have hC3 := C3.out.size
    have CF : Chd (Mine g) w w8 := by
      have a1 : Chd (Mine g) w w3 := C3.out.mono (fun j hj e => by
        rcases e with e | e
        · rw [e]; exact (mine_cv H.out).1
        · omega)
      have a2 : Chd (Mine g) w w7 := (a1.trans (Nx.chd B5.out)).then_ C57 (fun j hj e => by omega)
      exact a2.then_ C8 (fun j hj e => by
        rcases e with e | e | e
        · rw [e]; exact (mine_cv H.out).1
        · rw [e]; exact (mine_cv H.out).2.1
        · exact (mine_cv H.out).2.2.2 j e)
    have hle : Gh.le w g ((g.boxes [w.heap.size, w2.heap.size, w.heap.size + 1]).more cv (.func (.func 40) #[] #[.pointer (some ⟨w.heap.size, 0, none⟩), .pointer (some ⟨w2.heap.size, 0, none⟩), .pointer (some ⟨w.heap.size + 1, 0, none⟩)])) := fun j hj => by
      have hj' : (if cv.ownBlock = some j then 4 else if j ∈ [w.heap.size, w2.heap.size, w.heap.size + 1] then 5 else g.tag j) ≠ 0 := hj
      split at hj'
      · rename_i e
        rcases hcv with e2 | ⟨i, e2, hi⟩
        · exact .inl ((mine_cv H.out).2.2.2 j (by rw [e2.symm] at e; exact e))
        · rw [e2, Option.some.injEq] at e
          right
          omega
      · split at hj'
        · rename_i e
          simp only [List.mem_cons, List.not_mem_nil, or_false] at e
          right
          omega
        · exact .inl hj'
    have T8' := Lib.hid T8
    have CF' := Lib.hid CF
    have HLE := Lib.hid hle
    clear T8 CF hle C8 hcv RC hv T7 tb5 tz x7 y7 z7 C57 hw7 hC7 hC3 hsz5 l3' hlt' hHeld
    go_wp2
    go_ret
    exact ⟨rfl, _, T8'.out, CF'.out, HLE.out⟩
end Go.Proofs.Ytodnckflobefpaa
