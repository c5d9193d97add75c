/- Package wal: the function literals that are steps. -/
import Derived.Test.YtiikjdjpodmpcaaGreatWlB
import Derived.Deep.RegionHeld3
namespace Go.Proofs.YtiikjdjpodmpcaaGreat
open Go.RowKit Go.Maps
set_option linter.unusedVariables false

theorem LivZ.drew {w W : World} {tb k : Nat} {s : St} {Z : List (Nat × Obj)} (h : LivZ w tb s k Z W) : LivZ w tb s k Z W.drew := h.next (Nx.drew (Nx.refl _))
def boxO (t : TypeId) (v : Value) : Obj := .cells #[v] t (0, 0)
theorem LivZ.box {w W : World} {tb k b : Nat} {s : St} {Z : List (Nat × Obj)} {t : TypeId} {v : Value} (h : LivZ w tb s k Z W) (hm : (b, boxO t v) ∈ Z) : W.cell? ⟨b, 0, none⟩ = some v := by
  have hb : BlkIs W b t #[v] := h.at_ _ hm
  rw [hb.cell]
  rfl
theorem arg_in {Z0 : List (Nat × Obj)} {z0 : Nat × Obj} {W : World} {A : Option Addr} {n c : Nat} {b : Str} (hA : A = none ∧ n = 0 ∧ c = 0 ∧ b = [] ∨ ∃ j o, A = some ⟨j, 0, none⟩ ∧ (j, o) ∈ Z0) : ∀ j o, A = some ⟨j, o, none⟩ → W.heap.size ≤ j ∨ ∃ z ∈ z0 :: Z0, z.1 = j := fun j o e => by
  rcases hA with ⟨h1, _⟩ | ⟨j2, o2, h1, h2⟩
  · rw [h1] at e; cases e
  · rw [h1] at e
    simp only [Option.some.injEq, Addr.mk.injEq] at e
    exact .inr ⟨_, List.mem_cons_of_mem _ h2, e.1⟩
theorem stepv_clean {w : World} {tb lb : Nat} {L : Lg} {Z0 : List (Nat × Obj)} (e1 : isPath L.path = true) :
    StepV w tb ((lb, logO tb L) :: Z0) (.func (.func 101) #[.pointer (some ⟨lb, 0, none⟩)] #[]) (cleanS (tmpOf L.path)) :=
  ⟨_, _, _, rfl, .inl rfl, fun W s k h hk => lclean_any h hk e1⟩
theorem stepv_syncPaths {w : World} {tb : Nat} {Z : List (Nat × Obj)} :
    StepV w tb Z (.func (.func 109) #[.pointer (some ⟨tb, 0, none⟩)] #[]) (fun s => s.syncPaths) :=
  ⟨_, _, _, rfl, .inr (.inr (.inr (.inr (.inr (.inl rfl))))), fun W s k h hk => livz_syncPaths h hk⟩

set_option maxRecDepth 100000 in
set_option maxHeartbeats 2000000 in
theorem stepv_make {w : World} {tb lb bl bt : Nat} {L : Lg} {Z0 : List (Nat × Obj)} {tp : Str} (htp : tp.length ≤ 10000) (h_bl : (bl, boxO 28 (.pointer (some ⟨lb, 0, none⟩))) ∈ Z0) (h_bt : (bt, boxO 9 (.string (S tp))) ∈ Z0) :
    StepV w tb ((lb, logO tb L) :: Z0) (.func (.func 102) #[] #[.pointer (some ⟨bl, 0, none⟩), .pointer (some ⟨bt, 0, none⟩)]) (fun s => s.make tp) := by
  refine ⟨_, _, _, rfl, .inr (.inl rfl), fun W s k h hk => ?_⟩
  have X := Lib.hid (livz_make h.drew hk tp htp)
  have NF : Hid (∀ (s' : St) (k' : Nat) (W' : World), LivZ w tb s' k' ((lb, logO tb L) :: Z0) W' → (fun W => W.cell? ⟨lb, 1, none⟩ = some (.pointer (some ⟨tb, 0, none⟩)) ∧ W.cell? ⟨bl, 0, none⟩ = some (.pointer (some ⟨lb, 0, none⟩)) ∧ W.cell? ⟨bt, 0, none⟩ = some (.string (S tp))) W') := fun s' k' W' h' => ⟨h'.logAt.log.c1, h'.box (List.mem_cons_of_mem _ h_bl), h'.box (List.mem_cons_of_mem _ h_bt)⟩
  have FS := Lib.hid (NF.out s k W.drew h.drew)
  clear h h_bl h_bt
  change Calls _ _ #[.pointer (some ⟨bl, 0, none⟩), .pointer (some ⟨bt, 0, none⟩)] W _
  go_enter Tryz.func102, Tryz.ntmps102
  go_upto_region 1 with fail
  refine wp_region_held_drew (S := (fun W => W.cell? ⟨lb, 1, none⟩ = some (.pointer (some ⟨tb, 0, none⟩)) ∧ W.cell? ⟨bl, 0, none⟩ = some (.pointer (some ⟨lb, 0, none⟩)) ∧ W.cell? ⟨bt, 0, none⟩ = some (.string (S tp)))) (by kernel_rfl) FS.out (fun hHeld => ?_)
  change wpAnyH _ _ _ _ _ 7 (Array.replicate 7 false) _ _
  refine wpAnyH_take (i := 0) (oi := { dst := some 3, op := Op.load 28 (Operand.tmp 0), type := 28, pos := "file.go:42", after := #[], guard := none }) (v := ?vmake0) rfl (by kernel_rfl) (by kernel_rfl) (by kernel_rfl) (fun _ _ _ h => h) (Or.inl ⟨by rfl, ?hymake0⟩) hHeld ?restmake0
  case hymake0 =>
    intro W hSw
    have x0 := hSw.1
    have x1 := hSw.2.1
    have x2 := hSw.2.2
    go_simp
    try with_reducible rfl
  try simp only [Act.put, List.setIfInBounds_toArray, List.set_cons_zero, List.set_cons_succ]
  refine wpAnyH_take (i := 1) (oi := { dst := some 4, op := Op.nilCheck (Operand.tmp 3), type := 0, pos := "file.go:42", after := #[{ on := 0, ground := Ground.data }], guard := none }) (v := ?vmake1) rfl (by kernel_rfl) (by kernel_rfl) (by kernel_rfl) (fun _ _ _ h => h) (Or.inl ⟨by rfl, ?hymake1⟩) hHeld ?restmake1
  case hymake1 =>
    intro W hSw
    have x0 := hSw.1
    have x1 := hSw.2.1
    have x2 := hSw.2.2
    go_simp
    try with_reducible rfl
  try simp only [Act.put, List.setIfInBounds_toArray, List.set_cons_zero, List.set_cons_succ]
  refine wpAnyH_take (i := 2) (oi := { dst := some 5, op := Op.fieldAddr 74 (Operand.tmp 4) 1, type := 0, pos := "file.go:42", after := #[{ on := 1, ground := Ground.data }], guard := none }) (v := ?vmake2) rfl (by kernel_rfl) (by kernel_rfl) (by kernel_rfl) (fun _ _ _ h => h) (Or.inl ⟨by rfl, ?hymake2⟩) hHeld ?restmake2
  case hymake2 =>
    intro W hSw
    have x0 := hSw.1
    have x1 := hSw.2.1
    have x2 := hSw.2.2
    go_simp
    try with_reducible rfl
  try simp only [Act.put, List.setIfInBounds_toArray, List.set_cons_zero, List.set_cons_succ]
  refine wpAnyH_take (i := 3) (oi := { dst := some 6, op := Op.load 40 (Operand.tmp 5), type := 40, pos := "file.go:42", after := #[{ on := 2, ground := Ground.data }], guard := none }) (v := ?vmake3) rfl (by kernel_rfl) (by kernel_rfl) (by kernel_rfl) (fun _ _ _ h => h) (Or.inl ⟨by rfl, ?hymake3⟩) hHeld ?restmake3
  case hymake3 =>
    intro W hSw
    have x0 := hSw.1
    have x1 := hSw.2.1
    have x2 := hSw.2.2
    go_simp
    try with_reducible rfl
  try simp only [Act.put, List.setIfInBounds_toArray, List.set_cons_zero, List.set_cons_succ]
  refine wpAnyH_take (i := 4) (oi := { dst := some 7, op := Op.load 9 (Operand.tmp 1), type := 9, pos := "file.go:42", after := #[], guard := none }) (v := ?vmake4) rfl (by kernel_rfl) (by kernel_rfl) (by kernel_rfl) (fun _ _ _ h => h) (Or.inl ⟨by rfl, ?hymake4⟩) hHeld ?restmake4
  case hymake4 =>
    intro W hSw
    have x0 := hSw.1
    have x1 := hSw.2.1
    have x2 := hSw.2.2
    go_simp
    try with_reducible rfl
  try simp only [Act.put, List.setIfInBounds_toArray, List.set_cons_zero, List.set_cons_succ]
  refine wpAnyH_ready (rs := [5]) (by kernel_rfl) (by simp) ?_
  refine AllReadyH.cons (o := { dst := some 8, op := Op.call { callee := Callee.value (Operand.func 103), args := #[Operand.tmp 6, Operand.tmp 7], argTypes := #[40, 9] }, type := 25, pos := "file.go:42", after := #[{ on := 3, ground := Ground.data }, { on := 4, ground := Ground.data }], guard := none }) rfl (fun K' hK => ?_) AllReadyH.nil
  go_simp
  refine X.out.mono ?_
  rintro e w2 ⟨rfl, hl⟩
  have HL := Lib.hid hl
  clear hl
  show K' _ w2
  refine hK.out _ _ (NF.out _ _ w2 HL.out) (fun hHeld => ?_)
  clear hK K'
  try simp only [Act.put, List.setIfInBounds_toArray, List.set_cons_zero, List.set_cons_succ]
  refine wpAnyH_take (i := 6) (oi := { dst := some 2, op := Op.assign (Operand.tmp 8), type := 25, pos := "file.go:42", after := #[{ on := 5, ground := Ground.data }, { on := 5, ground := Ground.chain }, { on := 0, ground := Ground.phase }, { on := 1, ground := Ground.phase }, { on := 2, ground := Ground.phase }, { on := 3, ground := Ground.phase }, { on := 4, ground := Ground.phase }, { on := 5, ground := Ground.phase }], guard := none }) (v := ?vmake6) rfl (by kernel_rfl) (by kernel_rfl) (by kernel_rfl) (fun _ _ _ h => h) (Or.inl ⟨by rfl, ?hymake6⟩) hHeld ?restmake6
  case hymake6 =>
    intro W hSw
    have x0 := hSw.1
    have x1 := hSw.2.1
    have x2 := hSw.2.2
    go_simp
    try with_reducible rfl
  try simp only [Act.put, List.setIfInBounds_toArray, List.set_cons_zero, List.set_cons_succ]
  refine wpAnyH_done (by kernel_rfl) ?_ _
  go_wp2
  go_ret
  exact ⟨rfl, HL.out⟩

set_option maxRecDepth 100000 in
set_option maxHeartbeats 2000000 in
theorem stepv_write {w : World} {tb lb bl bt bb : Nat} {L : Lg} {Z0 : List (Nat × Obj)} {tp b : Str} {A : Option Addr} {n c : Nat} (htp : tp.length ≤ 10000) (hA : A = none ∧ n = 0 ∧ c = 0 ∧ b = [] ∨ ∃ j o, A = some ⟨j, 0, none⟩ ∧ (j, o) ∈ Z0) (hb : ∀ W, (∀ z ∈ Z0, W.heap[z.1]? = some z.2) → Arg W A n c b) (hbl : b.length ≤ 10000) (h_bl : (bl, boxO 28 (.pointer (some ⟨lb, 0, none⟩))) ∈ Z0) (h_bt : (bt, boxO 9 (.string (S tp))) ∈ Z0) (h_bb : (bb, boxO 22 (.slice A n c)) ∈ Z0) :
    StepV w tb ((lb, logO tb L) :: Z0) (.func (.func 104) #[] #[.pointer (some ⟨bl, 0, none⟩), .pointer (some ⟨bt, 0, none⟩), .pointer (some ⟨bb, 0, none⟩)]) (fun s => s.write tp b) := by
  refine ⟨_, _, _, rfl, .inr (.inr (.inl rfl)), fun W s k h hk => ?_⟩
  have X := Lib.hid (livz_write h.drew (Nx.refl _) hk tp htp A n c b (hb _ fun z hz => h.drew.at_ z (List.mem_cons_of_mem _ hz)) hbl (fun e => by rcases hA with h1 | ⟨j, o, h1, _⟩ <;> simp_all) (arg_in hA))
  have NF : Hid (∀ (s' : St) (k' : Nat) (W' : World), LivZ w tb s' k' ((lb, logO tb L) :: Z0) W' → (fun W => W.cell? ⟨lb, 1, none⟩ = some (.pointer (some ⟨tb, 0, none⟩)) ∧ W.cell? ⟨bl, 0, none⟩ = some (.pointer (some ⟨lb, 0, none⟩)) ∧ W.cell? ⟨bt, 0, none⟩ = some (.string (S tp)) ∧ W.cell? ⟨bb, 0, none⟩ = some (.slice A n c)) W') := fun s' k' W' h' => ⟨h'.logAt.log.c1, h'.box (List.mem_cons_of_mem _ h_bl), h'.box (List.mem_cons_of_mem _ h_bt), h'.box (List.mem_cons_of_mem _ h_bb)⟩
  have FS := Lib.hid (NF.out s k W.drew h.drew)
  clear h h_bl h_bt h_bb
  change Calls _ _ #[.pointer (some ⟨bl, 0, none⟩), .pointer (some ⟨bt, 0, none⟩), .pointer (some ⟨bb, 0, none⟩)] W _
  go_enter Tryz.func104, Tryz.ntmps104
  go_upto_region 1 with fail
  refine wp_region_held_drew (S := (fun W => W.cell? ⟨lb, 1, none⟩ = some (.pointer (some ⟨tb, 0, none⟩)) ∧ W.cell? ⟨bl, 0, none⟩ = some (.pointer (some ⟨lb, 0, none⟩)) ∧ W.cell? ⟨bt, 0, none⟩ = some (.string (S tp)) ∧ W.cell? ⟨bb, 0, none⟩ = some (.slice A n c))) (by kernel_rfl) FS.out (fun hHeld => ?_)
  change wpAnyH _ _ _ _ _ 8 (Array.replicate 8 false) _ _
  refine wpAnyH_take (i := 0) (oi := { dst := some 4, op := Op.load 28 (Operand.tmp 0), type := 28, pos := "file.go:43", after := #[], guard := none }) (v := ?vwrite0) rfl (by kernel_rfl) (by kernel_rfl) (by kernel_rfl) (fun _ _ _ h => h) (Or.inl ⟨by rfl, ?hywrite0⟩) hHeld ?restwrite0
  case hywrite0 =>
    intro W hSw
    have x0 := hSw.1
    have x1 := hSw.2.1
    have x2 := hSw.2.2.1
    have x3 := hSw.2.2.2
    go_simp
    try with_reducible rfl
  try simp only [Act.put, List.setIfInBounds_toArray, List.set_cons_zero, List.set_cons_succ]
  refine wpAnyH_take (i := 1) (oi := { dst := some 5, op := Op.nilCheck (Operand.tmp 4), type := 0, pos := "file.go:43", after := #[{ on := 0, ground := Ground.data }], guard := none }) (v := ?vwrite1) rfl (by kernel_rfl) (by kernel_rfl) (by kernel_rfl) (fun _ _ _ h => h) (Or.inl ⟨by rfl, ?hywrite1⟩) hHeld ?restwrite1
  case hywrite1 =>
    intro W hSw
    have x0 := hSw.1
    have x1 := hSw.2.1
    have x2 := hSw.2.2.1
    have x3 := hSw.2.2.2
    go_simp
    try with_reducible rfl
  try simp only [Act.put, List.setIfInBounds_toArray, List.set_cons_zero, List.set_cons_succ]
  refine wpAnyH_take (i := 2) (oi := { dst := some 6, op := Op.fieldAddr 74 (Operand.tmp 5) 1, type := 0, pos := "file.go:43", after := #[{ on := 1, ground := Ground.data }], guard := none }) (v := ?vwrite2) rfl (by kernel_rfl) (by kernel_rfl) (by kernel_rfl) (fun _ _ _ h => h) (Or.inl ⟨by rfl, ?hywrite2⟩) hHeld ?restwrite2
  case hywrite2 =>
    intro W hSw
    have x0 := hSw.1
    have x1 := hSw.2.1
    have x2 := hSw.2.2.1
    have x3 := hSw.2.2.2
    go_simp
    try with_reducible rfl
  try simp only [Act.put, List.setIfInBounds_toArray, List.set_cons_zero, List.set_cons_succ]
  refine wpAnyH_take (i := 3) (oi := { dst := some 7, op := Op.load 40 (Operand.tmp 6), type := 40, pos := "file.go:43", after := #[{ on := 2, ground := Ground.data }], guard := none }) (v := ?vwrite3) rfl (by kernel_rfl) (by kernel_rfl) (by kernel_rfl) (fun _ _ _ h => h) (Or.inl ⟨by rfl, ?hywrite3⟩) hHeld ?restwrite3
  case hywrite3 =>
    intro W hSw
    have x0 := hSw.1
    have x1 := hSw.2.1
    have x2 := hSw.2.2.1
    have x3 := hSw.2.2.2
    go_simp
    try with_reducible rfl
  try simp only [Act.put, List.setIfInBounds_toArray, List.set_cons_zero, List.set_cons_succ]
  refine wpAnyH_take (i := 4) (oi := { dst := some 8, op := Op.load 9 (Operand.tmp 1), type := 9, pos := "file.go:43", after := #[], guard := none }) (v := ?vwrite4) rfl (by kernel_rfl) (by kernel_rfl) (by kernel_rfl) (fun _ _ _ h => h) (Or.inl ⟨by rfl, ?hywrite4⟩) hHeld ?restwrite4
  case hywrite4 =>
    intro W hSw
    have x0 := hSw.1
    have x1 := hSw.2.1
    have x2 := hSw.2.2.1
    have x3 := hSw.2.2.2
    go_simp
    try with_reducible rfl
  try simp only [Act.put, List.setIfInBounds_toArray, List.set_cons_zero, List.set_cons_succ]
  refine wpAnyH_take (i := 5) (oi := { dst := some 9, op := Op.load 22 (Operand.tmp 2), type := 22, pos := "file.go:43", after := #[], guard := none }) (v := ?vwrite5) rfl (by kernel_rfl) (by kernel_rfl) (by kernel_rfl) (fun _ _ _ h => h) (Or.inl ⟨by rfl, ?hywrite5⟩) hHeld ?restwrite5
  case hywrite5 =>
    intro W hSw
    have x0 := hSw.1
    have x1 := hSw.2.1
    have x2 := hSw.2.2.1
    have x3 := hSw.2.2.2
    go_simp
    try with_reducible rfl
  try simp only [Act.put, List.setIfInBounds_toArray, List.set_cons_zero, List.set_cons_succ]
  refine wpAnyH_ready (rs := [6]) (by kernel_rfl) (by simp) ?_
  refine AllReadyH.cons (o := { dst := some 10, op := Op.call { callee := Callee.value (Operand.func 105), args := #[Operand.tmp 7, Operand.tmp 8, Operand.tmp 9], argTypes := #[40, 9, 22] }, type := 25, pos := "file.go:43", after := #[{ on := 3, ground := Ground.data }, { on := 4, ground := Ground.data }, { on := 5, ground := Ground.data }], guard := none }) rfl (fun K' hK => ?_) AllReadyH.nil
  go_simp
  refine X.out.mono ?_
  rintro e w2 ⟨rfl, hl⟩
  have HL := Lib.hid hl
  clear hl
  show K' _ w2
  refine hK.out _ _ (NF.out _ _ w2 HL.out) (fun hHeld => ?_)
  clear hK K'
  try simp only [Act.put, List.setIfInBounds_toArray, List.set_cons_zero, List.set_cons_succ]
  refine wpAnyH_take (i := 7) (oi := { dst := some 3, op := Op.assign (Operand.tmp 10), type := 25, pos := "file.go:43", after := #[{ on := 6, ground := Ground.data }, { on := 6, ground := Ground.chain }, { on := 0, ground := Ground.phase }, { on := 1, ground := Ground.phase }, { on := 2, ground := Ground.phase }, { on := 3, ground := Ground.phase }, { on := 4, ground := Ground.phase }, { on := 5, ground := Ground.phase }, { on := 6, ground := Ground.phase }], guard := none }) (v := ?vwrite7) rfl (by kernel_rfl) (by kernel_rfl) (by kernel_rfl) (fun _ _ _ h => h) (Or.inl ⟨by rfl, ?hywrite7⟩) hHeld ?restwrite7
  case hywrite7 =>
    intro W hSw
    have x0 := hSw.1
    have x1 := hSw.2.1
    have x2 := hSw.2.2.1
    have x3 := hSw.2.2.2
    go_simp
    try with_reducible rfl
  try simp only [Act.put, List.setIfInBounds_toArray, List.set_cons_zero, List.set_cons_succ]
  refine wpAnyH_done (by kernel_rfl) ?_ _
  go_wp2
  go_ret
  exact ⟨rfl, HL.out⟩

set_option maxRecDepth 100000 in
set_option maxHeartbeats 2000000 in
theorem stepv_sync {w : World} {tb lb bl bt : Nat} {L : Lg} {Z0 : List (Nat × Obj)} {tp : Str} (htp : tp.length ≤ 10000) (h_bl : (bl, boxO 28 (.pointer (some ⟨lb, 0, none⟩))) ∈ Z0) (h_bt : (bt, boxO 9 (.string (S tp))) ∈ Z0) :
    StepV w tb ((lb, logO tb L) :: Z0) (.func (.func 106) #[] #[.pointer (some ⟨bl, 0, none⟩), .pointer (some ⟨bt, 0, none⟩)]) (fun s => s.sync tp) := by
  refine ⟨_, _, _, rfl, .inr (.inr (.inr (.inl rfl))), fun W s k h hk => ?_⟩
  have X := Lib.hid (livz_sync h.drew hk tp htp)
  have NF : Hid (∀ (s' : St) (k' : Nat) (W' : World), LivZ w tb s' k' ((lb, logO tb L) :: Z0) W' → (fun W => W.cell? ⟨lb, 1, none⟩ = some (.pointer (some ⟨tb, 0, none⟩)) ∧ W.cell? ⟨bl, 0, none⟩ = some (.pointer (some ⟨lb, 0, none⟩)) ∧ W.cell? ⟨bt, 0, none⟩ = some (.string (S tp))) W') := fun s' k' W' h' => ⟨h'.logAt.log.c1, h'.box (List.mem_cons_of_mem _ h_bl), h'.box (List.mem_cons_of_mem _ h_bt)⟩
  have FS := Lib.hid (NF.out s k W.drew h.drew)
  clear h h_bl h_bt
  change Calls _ _ #[.pointer (some ⟨bl, 0, none⟩), .pointer (some ⟨bt, 0, none⟩)] W _
  go_enter Tryz.func106, Tryz.ntmps106
  go_upto_region 1 with fail
  refine wp_region_held_drew (S := (fun W => W.cell? ⟨lb, 1, none⟩ = some (.pointer (some ⟨tb, 0, none⟩)) ∧ W.cell? ⟨bl, 0, none⟩ = some (.pointer (some ⟨lb, 0, none⟩)) ∧ W.cell? ⟨bt, 0, none⟩ = some (.string (S tp)))) (by kernel_rfl) FS.out (fun hHeld => ?_)
  change wpAnyH _ _ _ _ _ 7 (Array.replicate 7 false) _ _
  refine wpAnyH_take (i := 0) (oi := { dst := some 3, op := Op.load 28 (Operand.tmp 0), type := 28, pos := "file.go:44", after := #[], guard := none }) (v := ?vsync0) rfl (by kernel_rfl) (by kernel_rfl) (by kernel_rfl) (fun _ _ _ h => h) (Or.inl ⟨by rfl, ?hysync0⟩) hHeld ?restsync0
  case hysync0 =>
    intro W hSw
    have x0 := hSw.1
    have x1 := hSw.2.1
    have x2 := hSw.2.2
    go_simp
    try with_reducible rfl
  try simp only [Act.put, List.setIfInBounds_toArray, List.set_cons_zero, List.set_cons_succ]
  refine wpAnyH_take (i := 1) (oi := { dst := some 4, op := Op.nilCheck (Operand.tmp 3), type := 0, pos := "file.go:44", after := #[{ on := 0, ground := Ground.data }], guard := none }) (v := ?vsync1) rfl (by kernel_rfl) (by kernel_rfl) (by kernel_rfl) (fun _ _ _ h => h) (Or.inl ⟨by rfl, ?hysync1⟩) hHeld ?restsync1
  case hysync1 =>
    intro W hSw
    have x0 := hSw.1
    have x1 := hSw.2.1
    have x2 := hSw.2.2
    go_simp
    try with_reducible rfl
  try simp only [Act.put, List.setIfInBounds_toArray, List.set_cons_zero, List.set_cons_succ]
  refine wpAnyH_take (i := 2) (oi := { dst := some 5, op := Op.fieldAddr 74 (Operand.tmp 4) 1, type := 0, pos := "file.go:44", after := #[{ on := 1, ground := Ground.data }], guard := none }) (v := ?vsync2) rfl (by kernel_rfl) (by kernel_rfl) (by kernel_rfl) (fun _ _ _ h => h) (Or.inl ⟨by rfl, ?hysync2⟩) hHeld ?restsync2
  case hysync2 =>
    intro W hSw
    have x0 := hSw.1
    have x1 := hSw.2.1
    have x2 := hSw.2.2
    go_simp
    try with_reducible rfl
  try simp only [Act.put, List.setIfInBounds_toArray, List.set_cons_zero, List.set_cons_succ]
  refine wpAnyH_take (i := 3) (oi := { dst := some 6, op := Op.load 40 (Operand.tmp 5), type := 40, pos := "file.go:44", after := #[{ on := 2, ground := Ground.data }], guard := none }) (v := ?vsync3) rfl (by kernel_rfl) (by kernel_rfl) (by kernel_rfl) (fun _ _ _ h => h) (Or.inl ⟨by rfl, ?hysync3⟩) hHeld ?restsync3
  case hysync3 =>
    intro W hSw
    have x0 := hSw.1
    have x1 := hSw.2.1
    have x2 := hSw.2.2
    go_simp
    try with_reducible rfl
  try simp only [Act.put, List.setIfInBounds_toArray, List.set_cons_zero, List.set_cons_succ]
  refine wpAnyH_take (i := 4) (oi := { dst := some 7, op := Op.load 9 (Operand.tmp 1), type := 9, pos := "file.go:44", after := #[], guard := none }) (v := ?vsync4) rfl (by kernel_rfl) (by kernel_rfl) (by kernel_rfl) (fun _ _ _ h => h) (Or.inl ⟨by rfl, ?hysync4⟩) hHeld ?restsync4
  case hysync4 =>
    intro W hSw
    have x0 := hSw.1
    have x1 := hSw.2.1
    have x2 := hSw.2.2
    go_simp
    try with_reducible rfl
  try simp only [Act.put, List.setIfInBounds_toArray, List.set_cons_zero, List.set_cons_succ]
  refine wpAnyH_ready (rs := [5]) (by kernel_rfl) (by simp) ?_
  refine AllReadyH.cons (o := { dst := some 8, op := Op.call { callee := Callee.value (Operand.func 62), args := #[Operand.tmp 6, Operand.tmp 7], argTypes := #[40, 9] }, type := 25, pos := "file.go:44", after := #[{ on := 3, ground := Ground.data }, { on := 4, ground := Ground.data }], guard := none }) rfl (fun K' hK => ?_) AllReadyH.nil
  go_simp
  refine X.out.mono ?_
  rintro e w2 ⟨rfl, hl⟩
  have HL := Lib.hid hl
  clear hl
  show K' _ w2
  refine hK.out _ _ (NF.out _ _ w2 HL.out) (fun hHeld => ?_)
  clear hK K'
  try simp only [Act.put, List.setIfInBounds_toArray, List.set_cons_zero, List.set_cons_succ]
  refine wpAnyH_take (i := 6) (oi := { dst := some 2, op := Op.assign (Operand.tmp 8), type := 25, pos := "file.go:44", after := #[{ on := 5, ground := Ground.data }, { on := 5, ground := Ground.chain }, { on := 0, ground := Ground.phase }, { on := 1, ground := Ground.phase }, { on := 2, ground := Ground.phase }, { on := 3, ground := Ground.phase }, { on := 4, ground := Ground.phase }, { on := 5, ground := Ground.phase }], guard := none }) (v := ?vsync6) rfl (by kernel_rfl) (by kernel_rfl) (by kernel_rfl) (fun _ _ _ h => h) (Or.inl ⟨by rfl, ?hysync6⟩) hHeld ?restsync6
  case hysync6 =>
    intro W hSw
    have x0 := hSw.1
    have x1 := hSw.2.1
    have x2 := hSw.2.2
    go_simp
    try with_reducible rfl
  try simp only [Act.put, List.setIfInBounds_toArray, List.set_cons_zero, List.set_cons_succ]
  refine wpAnyH_done (by kernel_rfl) ?_ _
  go_wp2
  go_ret
  exact ⟨rfl, HL.out⟩

set_option maxRecDepth 100000 in
set_option maxHeartbeats 2000000 in
theorem stepv_rename {w : World} {tb lb bl bt : Nat} {L : Lg} {Z0 : List (Nat × Obj)} {tp : Str} (htp : tp.length ≤ 10000) (hlp : L.path.length ≤ 10000) (h_bl : (bl, boxO 28 (.pointer (some ⟨lb, 0, none⟩))) ∈ Z0) (h_bt : (bt, boxO 9 (.string (S tp))) ∈ Z0) :
    StepV w tb ((lb, logO tb L) :: Z0) (.func (.func 107) #[] #[.pointer (some ⟨bl, 0, none⟩), .pointer (some ⟨bt, 0, none⟩)]) (fun s => s.rename tp L.path) := by
  refine ⟨_, _, _, rfl, .inr (.inr (.inr (.inr (.inl rfl)))), fun W s k h hk => ?_⟩
  have X := Lib.hid (livz_rename h.drew hk tp L.path htp hlp)
  have NF : Hid (∀ (s' : St) (k' : Nat) (W' : World), LivZ w tb s' k' ((lb, logO tb L) :: Z0) W' → (fun W => W.cell? ⟨lb, 1, none⟩ = some (.pointer (some ⟨tb, 0, none⟩)) ∧ W.cell? ⟨lb, 2, none⟩ = some (.string (S L.path)) ∧ W.cell? ⟨bl, 0, none⟩ = some (.pointer (some ⟨lb, 0, none⟩)) ∧ W.cell? ⟨bt, 0, none⟩ = some (.string (S tp))) W') := fun s' k' W' h' => ⟨h'.logAt.log.c1, h'.logAt.log.c2, h'.box (List.mem_cons_of_mem _ h_bl), h'.box (List.mem_cons_of_mem _ h_bt)⟩
  have FS := Lib.hid (NF.out s k W.drew h.drew)
  clear h h_bl h_bt
  change Calls _ _ #[.pointer (some ⟨bl, 0, none⟩), .pointer (some ⟨bt, 0, none⟩)] W _
  go_enter Tryz.func107, Tryz.ntmps107
  go_upto_region 1 with fail
  refine wp_region_held_drew (S := (fun W => W.cell? ⟨lb, 1, none⟩ = some (.pointer (some ⟨tb, 0, none⟩)) ∧ W.cell? ⟨lb, 2, none⟩ = some (.string (S L.path)) ∧ W.cell? ⟨bl, 0, none⟩ = some (.pointer (some ⟨lb, 0, none⟩)) ∧ W.cell? ⟨bt, 0, none⟩ = some (.string (S tp)))) (by kernel_rfl) FS.out (fun hHeld => ?_)
  change wpAnyH _ _ _ _ _ 11 (Array.replicate 11 false) _ _
  refine wpAnyH_take (i := 0) (oi := { dst := some 3, op := Op.load 28 (Operand.tmp 0), type := 28, pos := "file.go:45", after := #[], guard := none }) (v := ?vrename0) rfl (by kernel_rfl) (by kernel_rfl) (by kernel_rfl) (fun _ _ _ h => h) (Or.inl ⟨by rfl, ?hyrename0⟩) hHeld ?restrename0
  case hyrename0 =>
    intro W hSw
    have x0 := hSw.1
    have x1 := hSw.2.1
    have x2 := hSw.2.2.1
    have x3 := hSw.2.2.2
    go_simp
    try with_reducible rfl
  try simp only [Act.put, List.setIfInBounds_toArray, List.set_cons_zero, List.set_cons_succ]
  refine wpAnyH_take (i := 1) (oi := { dst := some 4, op := Op.nilCheck (Operand.tmp 3), type := 0, pos := "file.go:45", after := #[{ on := 0, ground := Ground.data }], guard := none }) (v := ?vrename1) rfl (by kernel_rfl) (by kernel_rfl) (by kernel_rfl) (fun _ _ _ h => h) (Or.inl ⟨by rfl, ?hyrename1⟩) hHeld ?restrename1
  case hyrename1 =>
    intro W hSw
    have x0 := hSw.1
    have x1 := hSw.2.1
    have x2 := hSw.2.2.1
    have x3 := hSw.2.2.2
    go_simp
    try with_reducible rfl
  try simp only [Act.put, List.setIfInBounds_toArray, List.set_cons_zero, List.set_cons_succ]
  refine wpAnyH_take (i := 2) (oi := { dst := some 5, op := Op.fieldAddr 74 (Operand.tmp 4) 1, type := 0, pos := "file.go:45", after := #[{ on := 1, ground := Ground.data }], guard := none }) (v := ?vrename2) rfl (by kernel_rfl) (by kernel_rfl) (by kernel_rfl) (fun _ _ _ h => h) (Or.inl ⟨by rfl, ?hyrename2⟩) hHeld ?restrename2
  case hyrename2 =>
    intro W hSw
    have x0 := hSw.1
    have x1 := hSw.2.1
    have x2 := hSw.2.2.1
    have x3 := hSw.2.2.2
    go_simp
    try with_reducible rfl
  try simp only [Act.put, List.setIfInBounds_toArray, List.set_cons_zero, List.set_cons_succ]
  refine wpAnyH_take (i := 3) (oi := { dst := some 6, op := Op.load 40 (Operand.tmp 5), type := 40, pos := "file.go:45", after := #[{ on := 2, ground := Ground.data }], guard := none }) (v := ?vrename3) rfl (by kernel_rfl) (by kernel_rfl) (by kernel_rfl) (fun _ _ _ h => h) (Or.inl ⟨by rfl, ?hyrename3⟩) hHeld ?restrename3
  case hyrename3 =>
    intro W hSw
    have x0 := hSw.1
    have x1 := hSw.2.1
    have x2 := hSw.2.2.1
    have x3 := hSw.2.2.2
    go_simp
    try with_reducible rfl
  try simp only [Act.put, List.setIfInBounds_toArray, List.set_cons_zero, List.set_cons_succ]
  refine wpAnyH_take (i := 4) (oi := { dst := some 7, op := Op.load 9 (Operand.tmp 1), type := 9, pos := "file.go:45", after := #[], guard := none }) (v := ?vrename4) rfl (by kernel_rfl) (by kernel_rfl) (by kernel_rfl) (fun _ _ _ h => h) (Or.inl ⟨by rfl, ?hyrename4⟩) hHeld ?restrename4
  case hyrename4 =>
    intro W hSw
    have x0 := hSw.1
    have x1 := hSw.2.1
    have x2 := hSw.2.2.1
    have x3 := hSw.2.2.2
    go_simp
    try with_reducible rfl
  try simp only [Act.put, List.setIfInBounds_toArray, List.set_cons_zero, List.set_cons_succ]
  refine wpAnyH_take (i := 5) (oi := { dst := some 8, op := Op.load 28 (Operand.tmp 0), type := 28, pos := "file.go:45", after := #[], guard := none }) (v := ?vrename5) rfl (by kernel_rfl) (by kernel_rfl) (by kernel_rfl) (fun _ _ _ h => h) (Or.inl ⟨by rfl, ?hyrename5⟩) hHeld ?restrename5
  case hyrename5 =>
    intro W hSw
    have x0 := hSw.1
    have x1 := hSw.2.1
    have x2 := hSw.2.2.1
    have x3 := hSw.2.2.2
    go_simp
    try with_reducible rfl
  try simp only [Act.put, List.setIfInBounds_toArray, List.set_cons_zero, List.set_cons_succ]
  refine wpAnyH_take (i := 6) (oi := { dst := some 9, op := Op.nilCheck (Operand.tmp 8), type := 0, pos := "file.go:45", after := #[{ on := 5, ground := Ground.data }], guard := none }) (v := ?vrename6) rfl (by kernel_rfl) (by kernel_rfl) (by kernel_rfl) (fun _ _ _ h => h) (Or.inl ⟨by rfl, ?hyrename6⟩) hHeld ?restrename6
  case hyrename6 =>
    intro W hSw
    have x0 := hSw.1
    have x1 := hSw.2.1
    have x2 := hSw.2.2.1
    have x3 := hSw.2.2.2
    go_simp
    try with_reducible rfl
  try simp only [Act.put, List.setIfInBounds_toArray, List.set_cons_zero, List.set_cons_succ]
  refine wpAnyH_take (i := 7) (oi := { dst := some 10, op := Op.fieldAddr 74 (Operand.tmp 9) 2, type := 0, pos := "file.go:45", after := #[{ on := 6, ground := Ground.data }], guard := none }) (v := ?vrename7) rfl (by kernel_rfl) (by kernel_rfl) (by kernel_rfl) (fun _ _ _ h => h) (Or.inl ⟨by rfl, ?hyrename7⟩) hHeld ?restrename7
  case hyrename7 =>
    intro W hSw
    have x0 := hSw.1
    have x1 := hSw.2.1
    have x2 := hSw.2.2.1
    have x3 := hSw.2.2.2
    go_simp
    try with_reducible rfl
  try simp only [Act.put, List.setIfInBounds_toArray, List.set_cons_zero, List.set_cons_succ]
  refine wpAnyH_take (i := 8) (oi := { dst := some 11, op := Op.load 9 (Operand.tmp 10), type := 9, pos := "file.go:45", after := #[{ on := 7, ground := Ground.data }], guard := none }) (v := ?vrename8) rfl (by kernel_rfl) (by kernel_rfl) (by kernel_rfl) (fun _ _ _ h => h) (Or.inl ⟨by rfl, ?hyrename8⟩) hHeld ?restrename8
  case hyrename8 =>
    intro W hSw
    have x0 := hSw.1
    have x1 := hSw.2.1
    have x2 := hSw.2.2.1
    have x3 := hSw.2.2.2
    go_simp
    try with_reducible rfl
  try simp only [Act.put, List.setIfInBounds_toArray, List.set_cons_zero, List.set_cons_succ]
  refine wpAnyH_ready (rs := [9]) (by kernel_rfl) (by simp) ?_
  refine AllReadyH.cons (o := { dst := some 12, op := Op.call { callee := Callee.value (Operand.func 108), args := #[Operand.tmp 6, Operand.tmp 7, Operand.tmp 11], argTypes := #[40, 9, 9] }, type := 25, pos := "file.go:45", after := #[{ on := 3, ground := Ground.data }, { on := 4, ground := Ground.data }, { on := 8, ground := Ground.data }], guard := none }) rfl (fun K' hK => ?_) AllReadyH.nil
  go_simp
  refine X.out.mono ?_
  rintro e w2 ⟨rfl, hl⟩
  have HL := Lib.hid hl
  clear hl
  show K' _ w2
  refine hK.out _ _ (NF.out _ _ w2 HL.out) (fun hHeld => ?_)
  clear hK K'
  try simp only [Act.put, List.setIfInBounds_toArray, List.set_cons_zero, List.set_cons_succ]
  refine wpAnyH_take (i := 10) (oi := { dst := some 2, op := Op.assign (Operand.tmp 12), type := 25, pos := "file.go:45", after := #[{ on := 9, ground := Ground.data }, { on := 9, ground := Ground.chain }, { on := 0, ground := Ground.phase }, { on := 1, ground := Ground.phase }, { on := 2, ground := Ground.phase }, { on := 3, ground := Ground.phase }, { on := 4, ground := Ground.phase }, { on := 5, ground := Ground.phase }, { on := 6, ground := Ground.phase }, { on := 7, ground := Ground.phase }, { on := 8, ground := Ground.phase }, { on := 9, ground := Ground.phase }], guard := none }) (v := ?vrename10) rfl (by kernel_rfl) (by kernel_rfl) (by kernel_rfl) (fun _ _ _ h => h) (Or.inl ⟨by rfl, ?hyrename10⟩) hHeld ?restrename10
  case hyrename10 =>
    intro W hSw
    have x0 := hSw.1
    have x1 := hSw.2.1
    have x2 := hSw.2.2.1
    have x3 := hSw.2.2.2
    go_simp
    try with_reducible rfl
  try simp only [Act.put, List.setIfInBounds_toArray, List.set_cons_zero, List.set_cons_succ]
  refine wpAnyH_done (by kernel_rfl) ?_ _
  go_wp2
  go_ret
  exact ⟨rfl, HL.out⟩

set_option maxRecDepth 100000 in
set_option maxHeartbeats 2000000 in
theorem stepv_append {w : World} {tb lb bl bb : Nat} {L : Lg} {Z0 : List (Nat × Obj)} {b : Str} {A : Option Addr} {n c : Nat} (hlp : L.path.length ≤ 10000) (hA : A = none ∧ n = 0 ∧ c = 0 ∧ b = [] ∨ ∃ j o, A = some ⟨j, 0, none⟩ ∧ (j, o) ∈ Z0) (hb : ∀ W, (∀ z ∈ Z0, W.heap[z.1]? = some z.2) → Arg W A n c b) (hbl : b.length ≤ 10000) (h_bl : (bl, boxO 28 (.pointer (some ⟨lb, 0, none⟩))) ∈ Z0) (h_bb : (bb, boxO 22 (.slice A n c)) ∈ Z0) :
    StepV w tb ((lb, logO tb L) :: Z0) (.func (.func 60) #[] #[.pointer (some ⟨bl, 0, none⟩), .pointer (some ⟨bb, 0, none⟩)]) (fun s => s.append_ L.path b) := by
  refine ⟨_, _, _, rfl, .inr (.inr (.inr (.inr (.inr (.inr (.inl rfl)))))), fun W s k h hk => ?_⟩
  have X := Lib.hid (livz_append h.drew (Nx.refl _) hk L.path hlp A n c b (hb _ fun z hz => h.drew.at_ z (List.mem_cons_of_mem _ hz)) hbl (arg_in hA))
  have NF : Hid (∀ (s' : St) (k' : Nat) (W' : World), LivZ w tb s' k' ((lb, logO tb L) :: Z0) W' → (fun W => W.cell? ⟨lb, 1, none⟩ = some (.pointer (some ⟨tb, 0, none⟩)) ∧ W.cell? ⟨lb, 2, none⟩ = some (.string (S L.path)) ∧ W.cell? ⟨bl, 0, none⟩ = some (.pointer (some ⟨lb, 0, none⟩)) ∧ W.cell? ⟨bb, 0, none⟩ = some (.slice A n c)) W') := fun s' k' W' h' => ⟨h'.logAt.log.c1, h'.logAt.log.c2, h'.box (List.mem_cons_of_mem _ h_bl), h'.box (List.mem_cons_of_mem _ h_bb)⟩
  have FS := Lib.hid (NF.out s k W.drew h.drew)
  clear h h_bl h_bb
  change Calls _ _ #[.pointer (some ⟨bl, 0, none⟩), .pointer (some ⟨bb, 0, none⟩)] W _
  go_enter Tryz.func60, Tryz.ntmps60
  go_upto_region 1 with fail
  refine wp_region_held_drew (S := (fun W => W.cell? ⟨lb, 1, none⟩ = some (.pointer (some ⟨tb, 0, none⟩)) ∧ W.cell? ⟨lb, 2, none⟩ = some (.string (S L.path)) ∧ W.cell? ⟨bl, 0, none⟩ = some (.pointer (some ⟨lb, 0, none⟩)) ∧ W.cell? ⟨bb, 0, none⟩ = some (.slice A n c))) (by kernel_rfl) FS.out (fun hHeld => ?_)
  change wpAnyH _ _ _ _ _ 11 (Array.replicate 11 false) _ _
  refine wpAnyH_take (i := 0) (oi := { dst := some 3, op := Op.load 28 (Operand.tmp 0), type := 28, pos := "wal.go:46", after := #[], guard := none }) (v := ?vappend0) rfl (by kernel_rfl) (by kernel_rfl) (by kernel_rfl) (fun _ _ _ h => h) (Or.inl ⟨by rfl, ?hyappend0⟩) hHeld ?restappend0
  case hyappend0 =>
    intro W hSw
    have x0 := hSw.1
    have x1 := hSw.2.1
    have x2 := hSw.2.2.1
    have x3 := hSw.2.2.2
    go_simp
    try with_reducible rfl
  try simp only [Act.put, List.setIfInBounds_toArray, List.set_cons_zero, List.set_cons_succ]
  refine wpAnyH_take (i := 1) (oi := { dst := some 4, op := Op.nilCheck (Operand.tmp 3), type := 0, pos := "wal.go:46", after := #[{ on := 0, ground := Ground.data }], guard := none }) (v := ?vappend1) rfl (by kernel_rfl) (by kernel_rfl) (by kernel_rfl) (fun _ _ _ h => h) (Or.inl ⟨by rfl, ?hyappend1⟩) hHeld ?restappend1
  case hyappend1 =>
    intro W hSw
    have x0 := hSw.1
    have x1 := hSw.2.1
    have x2 := hSw.2.2.1
    have x3 := hSw.2.2.2
    go_simp
    try with_reducible rfl
  try simp only [Act.put, List.setIfInBounds_toArray, List.set_cons_zero, List.set_cons_succ]
  refine wpAnyH_take (i := 2) (oi := { dst := some 5, op := Op.fieldAddr 74 (Operand.tmp 4) 1, type := 0, pos := "wal.go:46", after := #[{ on := 1, ground := Ground.data }], guard := none }) (v := ?vappend2) rfl (by kernel_rfl) (by kernel_rfl) (by kernel_rfl) (fun _ _ _ h => h) (Or.inl ⟨by rfl, ?hyappend2⟩) hHeld ?restappend2
  case hyappend2 =>
    intro W hSw
    have x0 := hSw.1
    have x1 := hSw.2.1
    have x2 := hSw.2.2.1
    have x3 := hSw.2.2.2
    go_simp
    try with_reducible rfl
  try simp only [Act.put, List.setIfInBounds_toArray, List.set_cons_zero, List.set_cons_succ]
  refine wpAnyH_take (i := 3) (oi := { dst := some 6, op := Op.load 40 (Operand.tmp 5), type := 40, pos := "wal.go:46", after := #[{ on := 2, ground := Ground.data }], guard := none }) (v := ?vappend3) rfl (by kernel_rfl) (by kernel_rfl) (by kernel_rfl) (fun _ _ _ h => h) (Or.inl ⟨by rfl, ?hyappend3⟩) hHeld ?restappend3
  case hyappend3 =>
    intro W hSw
    have x0 := hSw.1
    have x1 := hSw.2.1
    have x2 := hSw.2.2.1
    have x3 := hSw.2.2.2
    go_simp
    try with_reducible rfl
  try simp only [Act.put, List.setIfInBounds_toArray, List.set_cons_zero, List.set_cons_succ]
  refine wpAnyH_take (i := 4) (oi := { dst := some 7, op := Op.load 28 (Operand.tmp 0), type := 28, pos := "wal.go:46", after := #[], guard := none }) (v := ?vappend4) rfl (by kernel_rfl) (by kernel_rfl) (by kernel_rfl) (fun _ _ _ h => h) (Or.inl ⟨by rfl, ?hyappend4⟩) hHeld ?restappend4
  case hyappend4 =>
    intro W hSw
    have x0 := hSw.1
    have x1 := hSw.2.1
    have x2 := hSw.2.2.1
    have x3 := hSw.2.2.2
    go_simp
    try with_reducible rfl
  try simp only [Act.put, List.setIfInBounds_toArray, List.set_cons_zero, List.set_cons_succ]
  refine wpAnyH_take (i := 5) (oi := { dst := some 8, op := Op.nilCheck (Operand.tmp 7), type := 0, pos := "wal.go:46", after := #[{ on := 4, ground := Ground.data }], guard := none }) (v := ?vappend5) rfl (by kernel_rfl) (by kernel_rfl) (by kernel_rfl) (fun _ _ _ h => h) (Or.inl ⟨by rfl, ?hyappend5⟩) hHeld ?restappend5
  case hyappend5 =>
    intro W hSw
    have x0 := hSw.1
    have x1 := hSw.2.1
    have x2 := hSw.2.2.1
    have x3 := hSw.2.2.2
    go_simp
    try with_reducible rfl
  try simp only [Act.put, List.setIfInBounds_toArray, List.set_cons_zero, List.set_cons_succ]
  refine wpAnyH_take (i := 6) (oi := { dst := some 9, op := Op.fieldAddr 74 (Operand.tmp 8) 2, type := 0, pos := "wal.go:46", after := #[{ on := 5, ground := Ground.data }], guard := none }) (v := ?vappend6) rfl (by kernel_rfl) (by kernel_rfl) (by kernel_rfl) (fun _ _ _ h => h) (Or.inl ⟨by rfl, ?hyappend6⟩) hHeld ?restappend6
  case hyappend6 =>
    intro W hSw
    have x0 := hSw.1
    have x1 := hSw.2.1
    have x2 := hSw.2.2.1
    have x3 := hSw.2.2.2
    go_simp
    try with_reducible rfl
  try simp only [Act.put, List.setIfInBounds_toArray, List.set_cons_zero, List.set_cons_succ]
  refine wpAnyH_take (i := 7) (oi := { dst := some 10, op := Op.load 9 (Operand.tmp 9), type := 9, pos := "wal.go:46", after := #[{ on := 6, ground := Ground.data }], guard := none }) (v := ?vappend7) rfl (by kernel_rfl) (by kernel_rfl) (by kernel_rfl) (fun _ _ _ h => h) (Or.inl ⟨by rfl, ?hyappend7⟩) hHeld ?restappend7
  case hyappend7 =>
    intro W hSw
    have x0 := hSw.1
    have x1 := hSw.2.1
    have x2 := hSw.2.2.1
    have x3 := hSw.2.2.2
    go_simp
    try with_reducible rfl
  try simp only [Act.put, List.setIfInBounds_toArray, List.set_cons_zero, List.set_cons_succ]
  refine wpAnyH_take (i := 8) (oi := { dst := some 11, op := Op.load 22 (Operand.tmp 1), type := 22, pos := "wal.go:46", after := #[], guard := none }) (v := ?vappend8) rfl (by kernel_rfl) (by kernel_rfl) (by kernel_rfl) (fun _ _ _ h => h) (Or.inl ⟨by rfl, ?hyappend8⟩) hHeld ?restappend8
  case hyappend8 =>
    intro W hSw
    have x0 := hSw.1
    have x1 := hSw.2.1
    have x2 := hSw.2.2.1
    have x3 := hSw.2.2.2
    go_simp
    try with_reducible rfl
  try simp only [Act.put, List.setIfInBounds_toArray, List.set_cons_zero, List.set_cons_succ]
  refine wpAnyH_ready (rs := [9]) (by kernel_rfl) (by simp) ?_
  refine AllReadyH.cons (o := { dst := some 12, op := Op.call { callee := Callee.value (Operand.func 50), args := #[Operand.tmp 6, Operand.tmp 10, Operand.tmp 11], argTypes := #[40, 9, 22] }, type := 25, pos := "wal.go:46", after := #[{ on := 3, ground := Ground.data }, { on := 7, ground := Ground.data }, { on := 8, ground := Ground.data }], guard := none }) rfl (fun K' hK => ?_) AllReadyH.nil
  go_simp
  refine X.out.mono ?_
  rintro e w2 ⟨rfl, hl⟩
  have HL := Lib.hid hl
  clear hl
  show K' _ w2
  refine hK.out _ _ (NF.out _ _ w2 HL.out) (fun hHeld => ?_)
  clear hK K'
  try simp only [Act.put, List.setIfInBounds_toArray, List.set_cons_zero, List.set_cons_succ]
  refine wpAnyH_take (i := 10) (oi := { dst := some 2, op := Op.assign (Operand.tmp 12), type := 25, pos := "wal.go:46", after := #[{ on := 9, ground := Ground.data }, { on := 9, ground := Ground.chain }, { on := 0, ground := Ground.phase }, { on := 1, ground := Ground.phase }, { on := 2, ground := Ground.phase }, { on := 3, ground := Ground.phase }, { on := 4, ground := Ground.phase }, { on := 5, ground := Ground.phase }, { on := 6, ground := Ground.phase }, { on := 7, ground := Ground.phase }, { on := 8, ground := Ground.phase }, { on := 9, ground := Ground.phase }], guard := none }) (v := ?vappend10) rfl (by kernel_rfl) (by kernel_rfl) (by kernel_rfl) (fun _ _ _ h => h) (Or.inl ⟨by rfl, ?hyappend10⟩) hHeld ?restappend10
  case hyappend10 =>
    intro W hSw
    have x0 := hSw.1
    have x1 := hSw.2.1
    have x2 := hSw.2.2.1
    have x3 := hSw.2.2.2
    go_simp
    try with_reducible rfl
  try simp only [Act.put, List.setIfInBounds_toArray, List.set_cons_zero, List.set_cons_succ]
  refine wpAnyH_done (by kernel_rfl) ?_ _
  go_wp2
  go_ret
  exact ⟨rfl, HL.out⟩

set_option maxRecDepth 100000 in
set_option maxHeartbeats 2000000 in
theorem stepv_logSync {w : World} {tb lb bl : Nat} {L : Lg} {Z0 : List (Nat × Obj)} (hlp : L.path.length ≤ 10000) (h_bl : (bl, boxO 28 (.pointer (some ⟨lb, 0, none⟩))) ∈ Z0) :
    StepV w tb ((lb, logO tb L) :: Z0) (.func (.func 61) #[] #[.pointer (some ⟨bl, 0, none⟩)]) (fun s => s.sync L.path) := by
  refine ⟨_, _, _, rfl, .inr (.inr (.inr (.inr (.inr (.inr (.inr rfl)))))), fun W s k h hk => ?_⟩
  have X := Lib.hid (livz_sync h.drew hk L.path hlp)
  have NF : Hid (∀ (s' : St) (k' : Nat) (W' : World), LivZ w tb s' k' ((lb, logO tb L) :: Z0) W' → (fun W => W.cell? ⟨lb, 1, none⟩ = some (.pointer (some ⟨tb, 0, none⟩)) ∧ W.cell? ⟨lb, 2, none⟩ = some (.string (S L.path)) ∧ W.cell? ⟨bl, 0, none⟩ = some (.pointer (some ⟨lb, 0, none⟩))) W') := fun s' k' W' h' => ⟨h'.logAt.log.c1, h'.logAt.log.c2, h'.box (List.mem_cons_of_mem _ h_bl)⟩
  have FS := Lib.hid (NF.out s k W.drew h.drew)
  clear h h_bl
  change Calls _ _ #[.pointer (some ⟨bl, 0, none⟩)] W _
  go_enter Tryz.func61, Tryz.ntmps61
  go_upto_region 1 with fail
  refine wp_region_held_drew (S := (fun W => W.cell? ⟨lb, 1, none⟩ = some (.pointer (some ⟨tb, 0, none⟩)) ∧ W.cell? ⟨lb, 2, none⟩ = some (.string (S L.path)) ∧ W.cell? ⟨bl, 0, none⟩ = some (.pointer (some ⟨lb, 0, none⟩)))) (by kernel_rfl) FS.out (fun hHeld => ?_)
  change wpAnyH _ _ _ _ _ 10 (Array.replicate 10 false) _ _
  refine wpAnyH_take (i := 0) (oi := { dst := some 2, op := Op.load 28 (Operand.tmp 0), type := 28, pos := "wal.go:59", after := #[], guard := none }) (v := ?vlogSync0) rfl (by kernel_rfl) (by kernel_rfl) (by kernel_rfl) (fun _ _ _ h => h) (Or.inl ⟨by rfl, ?hylogSync0⟩) hHeld ?restlogSync0
  case hylogSync0 =>
    intro W hSw
    have x0 := hSw.1
    have x1 := hSw.2.1
    have x2 := hSw.2.2
    go_simp
    try with_reducible rfl
  try simp only [Act.put, List.setIfInBounds_toArray, List.set_cons_zero, List.set_cons_succ]
  refine wpAnyH_take (i := 1) (oi := { dst := some 3, op := Op.nilCheck (Operand.tmp 2), type := 0, pos := "wal.go:59", after := #[{ on := 0, ground := Ground.data }], guard := none }) (v := ?vlogSync1) rfl (by kernel_rfl) (by kernel_rfl) (by kernel_rfl) (fun _ _ _ h => h) (Or.inl ⟨by rfl, ?hylogSync1⟩) hHeld ?restlogSync1
  case hylogSync1 =>
    intro W hSw
    have x0 := hSw.1
    have x1 := hSw.2.1
    have x2 := hSw.2.2
    go_simp
    try with_reducible rfl
  try simp only [Act.put, List.setIfInBounds_toArray, List.set_cons_zero, List.set_cons_succ]
  refine wpAnyH_take (i := 2) (oi := { dst := some 4, op := Op.fieldAddr 74 (Operand.tmp 3) 1, type := 0, pos := "wal.go:59", after := #[{ on := 1, ground := Ground.data }], guard := none }) (v := ?vlogSync2) rfl (by kernel_rfl) (by kernel_rfl) (by kernel_rfl) (fun _ _ _ h => h) (Or.inl ⟨by rfl, ?hylogSync2⟩) hHeld ?restlogSync2
  case hylogSync2 =>
    intro W hSw
    have x0 := hSw.1
    have x1 := hSw.2.1
    have x2 := hSw.2.2
    go_simp
    try with_reducible rfl
  try simp only [Act.put, List.setIfInBounds_toArray, List.set_cons_zero, List.set_cons_succ]
  refine wpAnyH_take (i := 3) (oi := { dst := some 5, op := Op.load 40 (Operand.tmp 4), type := 40, pos := "wal.go:59", after := #[{ on := 2, ground := Ground.data }], guard := none }) (v := ?vlogSync3) rfl (by kernel_rfl) (by kernel_rfl) (by kernel_rfl) (fun _ _ _ h => h) (Or.inl ⟨by rfl, ?hylogSync3⟩) hHeld ?restlogSync3
  case hylogSync3 =>
    intro W hSw
    have x0 := hSw.1
    have x1 := hSw.2.1
    have x2 := hSw.2.2
    go_simp
    try with_reducible rfl
  try simp only [Act.put, List.setIfInBounds_toArray, List.set_cons_zero, List.set_cons_succ]
  refine wpAnyH_take (i := 4) (oi := { dst := some 6, op := Op.load 28 (Operand.tmp 0), type := 28, pos := "wal.go:59", after := #[], guard := none }) (v := ?vlogSync4) rfl (by kernel_rfl) (by kernel_rfl) (by kernel_rfl) (fun _ _ _ h => h) (Or.inl ⟨by rfl, ?hylogSync4⟩) hHeld ?restlogSync4
  case hylogSync4 =>
    intro W hSw
    have x0 := hSw.1
    have x1 := hSw.2.1
    have x2 := hSw.2.2
    go_simp
    try with_reducible rfl
  try simp only [Act.put, List.setIfInBounds_toArray, List.set_cons_zero, List.set_cons_succ]
  refine wpAnyH_take (i := 5) (oi := { dst := some 7, op := Op.nilCheck (Operand.tmp 6), type := 0, pos := "wal.go:59", after := #[{ on := 4, ground := Ground.data }], guard := none }) (v := ?vlogSync5) rfl (by kernel_rfl) (by kernel_rfl) (by kernel_rfl) (fun _ _ _ h => h) (Or.inl ⟨by rfl, ?hylogSync5⟩) hHeld ?restlogSync5
  case hylogSync5 =>
    intro W hSw
    have x0 := hSw.1
    have x1 := hSw.2.1
    have x2 := hSw.2.2
    go_simp
    try with_reducible rfl
  try simp only [Act.put, List.setIfInBounds_toArray, List.set_cons_zero, List.set_cons_succ]
  refine wpAnyH_take (i := 6) (oi := { dst := some 8, op := Op.fieldAddr 74 (Operand.tmp 7) 2, type := 0, pos := "wal.go:59", after := #[{ on := 5, ground := Ground.data }], guard := none }) (v := ?vlogSync6) rfl (by kernel_rfl) (by kernel_rfl) (by kernel_rfl) (fun _ _ _ h => h) (Or.inl ⟨by rfl, ?hylogSync6⟩) hHeld ?restlogSync6
  case hylogSync6 =>
    intro W hSw
    have x0 := hSw.1
    have x1 := hSw.2.1
    have x2 := hSw.2.2
    go_simp
    try with_reducible rfl
  try simp only [Act.put, List.setIfInBounds_toArray, List.set_cons_zero, List.set_cons_succ]
  refine wpAnyH_take (i := 7) (oi := { dst := some 9, op := Op.load 9 (Operand.tmp 8), type := 9, pos := "wal.go:59", after := #[{ on := 6, ground := Ground.data }], guard := none }) (v := ?vlogSync7) rfl (by kernel_rfl) (by kernel_rfl) (by kernel_rfl) (fun _ _ _ h => h) (Or.inl ⟨by rfl, ?hylogSync7⟩) hHeld ?restlogSync7
  case hylogSync7 =>
    intro W hSw
    have x0 := hSw.1
    have x1 := hSw.2.1
    have x2 := hSw.2.2
    go_simp
    try with_reducible rfl
  try simp only [Act.put, List.setIfInBounds_toArray, List.set_cons_zero, List.set_cons_succ]
  refine wpAnyH_ready (rs := [8]) (by kernel_rfl) (by simp) ?_
  refine AllReadyH.cons (o := { dst := some 10, op := Op.call { callee := Callee.value (Operand.func 62), args := #[Operand.tmp 5, Operand.tmp 9], argTypes := #[40, 9] }, type := 25, pos := "wal.go:59", after := #[{ on := 3, ground := Ground.data }, { on := 7, ground := Ground.data }], guard := none }) rfl (fun K' hK => ?_) AllReadyH.nil
  go_simp
  refine X.out.mono ?_
  rintro e w2 ⟨rfl, hl⟩
  have HL := Lib.hid hl
  clear hl
  show K' _ w2
  refine hK.out _ _ (NF.out _ _ w2 HL.out) (fun hHeld => ?_)
  clear hK K'
  try simp only [Act.put, List.setIfInBounds_toArray, List.set_cons_zero, List.set_cons_succ]
  refine wpAnyH_take (i := 9) (oi := { dst := some 1, op := Op.assign (Operand.tmp 10), type := 25, pos := "wal.go:59", after := #[{ on := 8, ground := Ground.data }, { on := 8, ground := Ground.chain }, { on := 0, ground := Ground.phase }, { on := 1, ground := Ground.phase }, { on := 2, ground := Ground.phase }, { on := 3, ground := Ground.phase }, { on := 4, ground := Ground.phase }, { on := 5, ground := Ground.phase }, { on := 6, ground := Ground.phase }, { on := 7, ground := Ground.phase }, { on := 8, ground := Ground.phase }], guard := none }) (v := ?vlogSync9) rfl (by kernel_rfl) (by kernel_rfl) (by kernel_rfl) (fun _ _ _ h => h) (Or.inl ⟨by rfl, ?hylogSync9⟩) hHeld ?restlogSync9
  case hylogSync9 =>
    intro W hSw
    have x0 := hSw.1
    have x1 := hSw.2.1
    have x2 := hSw.2.2
    go_simp
    try with_reducible rfl
  try simp only [Act.put, List.setIfInBounds_toArray, List.set_cons_zero, List.set_cons_succ]
  refine wpAnyH_done (by kernel_rfl) ?_ _
  go_wp2
  go_ret
  exact ⟨rfl, HL.out⟩

end Go.Proofs.YtiikjdjpodmpcaaGreat
