/- Package wal: replace. -/
import Derived.Test.YtiikjdjpodmpcaaGreatWlC
namespace Go.Proofs.YtiikjdjpodmpcaaGreat
open Go.RowKit Go.Maps
set_option linter.unusedVariables false

theorem LivZ.mem_at {w W : World} {tb k : Nat} {s : St} {Z : List (Nat × Obj)} (h : LivZ w tb s k Z W) : ∀ z ∈ Z, W.heap[z.1]? = some z.2 := h.at_
/-- A slice of bytes that lies in one of the blocks Z, or is nil. -/
structure ArgZ (Z : List (Nat × Obj)) (A : Option Addr) (n c : Nat) (b : Str) : Prop where
  at_ : A = none ∧ n = 0 ∧ c = 0 ∧ b = [] ∨ ∃ j o, A = some ⟨j, 0, none⟩ ∧ (j, o) ∈ Z
  arg : ∀ W : World, (∀ z ∈ Z, W.heap[z.1]? = some z.2) → Arg W A n c b
  len : b.length ≤ 10000
theorem ArgZ.nil (Z : List (Nat × Obj)) : ArgZ Z none 0 0 [] := ⟨.inl ⟨rfl, rfl, rfl, rfl⟩, fun W _ => ⟨rfl, Nat.le_refl _, Nat.zero_le _, fun e => by omega⟩, Nat.zero_le _⟩
theorem ArgZ.more {Z Z' : List (Nat × Obj)} {A : Option Addr} {n c : Nat} {b : Str} (h : ArgZ Z A n c b) (hs : ∀ z ∈ Z, z ∈ Z') : ArgZ Z' A n c b :=
  ⟨by rcases h.at_ with h1 | ⟨j, o, h1, h2⟩
      · exact .inl h1
      · exact .inr ⟨j, o, h1, hs _ h2⟩, fun W hW => h.arg W fun z hz => hW z (hs z hz), h.len⟩

def stepVals (lb tb bl bt bb : Nat) : List Value := [.func (.func 101) #[.pointer (some ⟨lb, 0, none⟩)] #[],
  .func (.func 102) #[] #[.pointer (some ⟨bl, 0, none⟩), .pointer (some ⟨bt, 0, none⟩)],
  .func (.func 104) #[] #[.pointer (some ⟨bl, 0, none⟩), .pointer (some ⟨bt, 0, none⟩), .pointer (some ⟨bb, 0, none⟩)],
  .func (.func 106) #[] #[.pointer (some ⟨bl, 0, none⟩), .pointer (some ⟨bt, 0, none⟩)],
  .func (.func 107) #[] #[.pointer (some ⟨bl, 0, none⟩), .pointer (some ⟨bt, 0, none⟩)],
  .func (.func 109) #[.pointer (some ⟨tb, 0, none⟩)] #[]]
theorem steps_replace {w : World} {tb lb bl bt bb : Nat} {L : Lg} {Z0 : List (Nat × Obj)} {A : Option Addr} {n c : Nat} {b : Str} (e1 : isPath L.path = true) (hA : ArgZ Z0 A n c b)
    (h1 : (bl, boxO 28 (.pointer (some ⟨lb, 0, none⟩))) ∈ Z0) (h2 : (bt, boxO 9 (.string (S (tmpOf L.path)))) ∈ Z0) (h3 : (bb, boxO 22 (.slice A n c)) ∈ Z0) :
    ∀ (i : Nat) (v : Value) (f : Stp), (stepVals lb tb bl bt bb)[i]? = some v → (replS L.path b)[i]? = some f → StepV w tb ((lb, logO tb L) :: Z0) v f := by
  have htp := tmpOf_len e1
  have hlp := isPath_len e1
  intro i v f hv hf
  match i with
  | 0 => cases hv; cases hf; exact stepv_clean e1
  | 1 => cases hv; cases hf; exact stepv_make (by omega) h1 h2
  | 2 => cases hv; cases hf; exact stepv_write (by omega) hA.at_ hA.arg hA.len h1 h2 h3
  | 3 => cases hv; cases hf; exact stepv_sync (by omega) h1 h2
  | 4 => cases hv; cases hf; exact stepv_rename (by omega) (by omega) h1 h2
  | 5 => cases hv; cases hf; exact stepv_syncPaths
  | i + 6 => cases hv

set_option maxRecDepth 100000 in
set_option maxHeartbeats 4000000 in
theorem lreplace_any (w W : World) (tb lb k : Nat) (s : St) (L : Lg) (Z : List (Nat × Obj)) (A : Option Addr) (n c : Nat) (b : Str) (cnt : Int)
    (h : LivZ w tb s k ((lb, logO tb L) :: Z) W) (hk : k + 12 ≤ 1000) (e1 : isPath L.path = true) (hA : ArgZ Z A n c b) :
    Calls Tryz.prog 64 #[.pointer (some ⟨lb, 0, none⟩), .slice A n c, .int .i64 cnt] W fun e w' => e = .returned (.int .i64 (L.replace s b cnt).1.e) ∧ LivZ w tb (L.replace s b cnt).2 (k + 12) ((lb, logO tb (L.replace s b cnt).1) :: Z) w' := by
  have hn : b.length = n := (hA.arg W fun z hz => h.at_ z (List.mem_cons_of_mem _ hz)).len
  have h1 := (h.alloc (boxO 28 (.pointer (some ⟨lb, 0, none⟩)))).alloc (boxO 22 (.slice A n c))
  obtain ⟨W1, hW1⟩ : ∃ W1, (W.alloc (boxO 28 (.pointer (some ⟨lb, 0, none⟩)))).alloc (boxO 22 (.slice A n c)) = W1 := ⟨_, rfl⟩
  rw [hW1] at h1
  have hsz : (W.alloc (boxO 28 (.pointer (some ⟨lb, 0, none⟩)))).heap.size = W.heap.size + 1 := by simp
  rw [hsz] at h1
  obtain ⟨bl, hbl⟩ : ∃ bl, W.heap.size = bl := ⟨_, rfl⟩
  rw [hbl] at h1
  have T := Lib.hid (ltemp_any ((h1.perm (Z' := (lb, logO tb L) :: (bl + 1, boxO 22 (.slice A n c)) :: (bl, boxO 28 (.pointer (some ⟨lb, 0, none⟩))) :: Z) (by
    refine List.Perm.trans ?_ (List.Perm.swap _ _ _)
    exact List.Perm.cons _ (List.Perm.swap _ _ _))).logAt.log) e1)
  have cl := h1.box (b := bl) (List.mem_cons_of_mem _ List.mem_cons_self)
  have H1 := Lib.hid h1
  have HA := Lib.hid hA
  have E1 := Lib.hid e1
  have HN := Lib.hid hn
  have HK := Lib.hid hk
  have hlen : n ≤ 10000 := by rw [← hn]; exact hA.len
  have HL := Lib.hid hlen
  have i1 : (n : Int) ≤ 10000 := by omega
  clear h h1 hA e1 hn hk hsz
  generalize hst : S (tmpOf L.path) = st at *
  have HST := Lib.hid hst
  clear hst
  unfold boxO at hW1
  have HW := Lib.hid hW1
  clear hW1
  have HB := Lib.hid hbl
  clear hbl
  go_enter Tryz.func64, Tryz.ntmps64
  go_wp2_with fail
  rw [HW.out, HB.out]
  refine T.out.mono ?_
  rintro e w1 ⟨rfl, hn1⟩
  have h1 := H1.out.next hn1
  have h2 := h1.alloc (boxO 9 (.string st))
  obtain ⟨W2, hW2⟩ : ∃ W2, w1.alloc (boxO 9 (.string st)) = W2 := ⟨_, rfl⟩
  rw [hW2] at h2
  obtain ⟨bt, hbt⟩ : ∃ bt, w1.heap.size = bt := ⟨_, rfl⟩
  rw [hbt] at h2
  unfold boxO at hW2
  have HW2 := Lib.hid hW2
  have HBT := Lib.hid hbt
  clear hW2 hbt h1 hn1 T H1
  have h3 := h2.perm (Z' := (lb, logO tb L) :: (bt, boxO 9 (.string st)) :: (bl + 1, boxO 22 (.slice A n c)) :: (bl, boxO 28 (.pointer (some ⟨lb, 0, none⟩))) :: Z) (by
    refine List.Perm.trans (List.Perm.cons _ (List.Perm.cons _ (List.Perm.swap _ _ _))) ?_
    refine List.Perm.trans (List.Perm.cons _ (List.Perm.swap _ _ _)) ?_
    exact List.Perm.swap _ _ _)
  have H3 := Lib.hid h3
  have hl3 := h3.logAt.log
  have d1 := hl3.c1
  have dl := h3.box (b := bl) (List.mem_cons_of_mem _ (List.mem_cons_of_mem _ (List.mem_cons_of_mem _ List.mem_cons_self)))
  clear h2 h3 hl3 cl
  go_upto_region 2 with fail
  have h4 := H3.out.alloc (fnsO (stepVals lb tb bl bt (bl + 1)))
  obtain ⟨rb, hrb⟩ : ∃ rb, W2.heap.size = rb := ⟨_, rfl⟩
  rw [hrb] at h4
  have h4' := h4.swap.drew
  have H4 := Lib.hid h4'
  have HRB := Lib.hid hrb
  have x := do_any w _ tb lb k s L ((rb, fnsO (stepVals lb tb bl bt (bl + 1))) :: (bt, boxO 9 (.string st)) :: (bl + 1, boxO 22 (.slice A n c)) :: (bl, boxO 28 (.pointer (some ⟨lb, 0, none⟩))) :: Z) (replS L.path b) (stepVals lb tb bl bt (bl + 1)) rb 6 h4' List.mem_cons_self rfl rfl (Nat.le_refl _) HK.out
    (steps_replace (L := { L with e := 0 }) E1.out (HA.out.more fun z hz => List.mem_cons_of_mem _ (List.mem_cons_of_mem _ (List.mem_cons_of_mem _ (List.mem_cons_of_mem _ hz))))
      (List.mem_cons_of_mem _ (List.mem_cons_of_mem _ (List.mem_cons_of_mem _ List.mem_cons_self)))
      (by show (bt, boxO 9 (.string (S (tmpOf L.path)))) ∈ _; rw [HST.out]; exact List.mem_cons_of_mem _ List.mem_cons_self)
      (List.mem_cons_of_mem _ (List.mem_cons_of_mem _ List.mem_cons_self)))
  have X := Lib.hid x
  clear x h4 h4' H3 hrb
  rw [HW2.out, HBT.out]
  refine wp_region_held_drew (S := (fun W => W.cell? ⟨bl, 0, none⟩ = some (.pointer (some ⟨lb, 0, none⟩)) ∧ W.cell? ⟨lb, 1, none⟩ = some (.pointer (some ⟨tb, 0, none⟩)))) (by kernel_rfl) ⟨dl, d1⟩ (fun hHeld => ?_)
  change wpAnyH _ _ _ _ _ 17 (Array.replicate 17 false) _ _
  refine wpAnyH_take (i := 0) (oi := { dst := some 11, op := Op.load 28 (Operand.tmp 3), type := 28, pos := "file.go:40", after := #[], guard := none }) (v := ?va0) rfl (by kernel_rfl) (by kernel_rfl) (by kernel_rfl) (fun _ _ _ h => h) (Or.inl ⟨by rfl, ?hya0⟩) hHeld ?resta0
  case hya0 =>
    intro W hSw
    have x0 := hSw.1
    have x1 := hSw.2
    go_simp
    try with_reducible rfl
  try simp only [Act.put, List.setIfInBounds_toArray, List.set_cons_zero, List.set_cons_succ]
  refine wpAnyH_take (i := 1) (oi := { dst := some 12, op := Op.nilCheck (Operand.tmp 11), type := 0, pos := "file.go:40", after := #[{ on := 0, ground := Ground.data }], guard := none }) (v := ?va1) rfl (by kernel_rfl) (by kernel_rfl) (by kernel_rfl) (fun _ _ _ h => h) (Or.inl ⟨by rfl, ?hya1⟩) hHeld ?resta1
  case hya1 =>
    intro W hSw
    have x0 := hSw.1
    have x1 := hSw.2
    go_simp
    try with_reducible rfl
  try simp only [Act.put, List.setIfInBounds_toArray, List.set_cons_zero, List.set_cons_succ]
  refine wpAnyH_take (i := 2) (oi := { dst := some 13, op := Op.fieldAddr 74 (Operand.tmp 12) 0, type := 0, pos := "file.go:40", after := #[{ on := 1, ground := Ground.data }], guard := none }) (v := ?va2) rfl (by kernel_rfl) (by kernel_rfl) (by kernel_rfl) (fun _ _ _ h => h) (Or.inl ⟨by rfl, ?hya2⟩) hHeld ?resta2
  case hya2 =>
    intro W hSw
    have x0 := hSw.1
    have x1 := hSw.2
    go_simp
    try with_reducible rfl
  try simp only [Act.put, List.setIfInBounds_toArray, List.set_cons_zero, List.set_cons_succ]
  refine wpAnyH_take (i := 3) (oi := { dst := some 14, op := Op.load 28 (Operand.tmp 3), type := 28, pos := "file.go:40", after := #[], guard := none }) (v := ?va3) rfl (by kernel_rfl) (by kernel_rfl) (by kernel_rfl) (fun _ _ _ h => h) (Or.inl ⟨by rfl, ?hya3⟩) hHeld ?resta3
  case hya3 =>
    intro W hSw
    have x0 := hSw.1
    have x1 := hSw.2
    go_simp
    try with_reducible rfl
  try simp only [Act.put, List.setIfInBounds_toArray, List.set_cons_zero, List.set_cons_succ]
  refine wpAnyH_take (i := 4) (oi := { dst := some 15, op := Op.makeFunc (Fn.func 101) #[Operand.tmp 14] #[], type := 60, pos := "file.go:40", after := #[{ on := 3, ground := Ground.data }], guard := none }) (v := ?va4) rfl (by kernel_rfl) (by kernel_rfl) (by kernel_rfl) (fun _ _ _ h => h) (Or.inl ⟨by rfl, ?hya4⟩) hHeld ?resta4
  case hya4 =>
    intro W hSw
    have x0 := hSw.1
    have x1 := hSw.2
    go_simp
    try with_reducible rfl
  try simp only [Act.put, List.setIfInBounds_toArray, List.set_cons_zero, List.set_cons_succ]
  refine wpAnyH_take (i := 5) (oi := { dst := some 16, op := Op.makeFunc (Fn.func 102) #[] #[Operand.tmp 3, Operand.tmp 7], type := 60, pos := "file.go:40", after := #[], guard := none }) (v := ?va5) rfl (by kernel_rfl) (by kernel_rfl) (by kernel_rfl) (fun _ _ _ h => h) (Or.inl ⟨by rfl, ?hya5⟩) hHeld ?resta5
  case hya5 =>
    intro W hSw
    have x0 := hSw.1
    have x1 := hSw.2
    go_simp
    try with_reducible rfl
  try simp only [Act.put, List.setIfInBounds_toArray, List.set_cons_zero, List.set_cons_succ]
  refine wpAnyH_take (i := 6) (oi := { dst := some 17, op := Op.makeFunc (Fn.func 104) #[] #[Operand.tmp 3, Operand.tmp 7, Operand.tmp 4], type := 60, pos := "file.go:40", after := #[], guard := none }) (v := ?va6) rfl (by kernel_rfl) (by kernel_rfl) (by kernel_rfl) (fun _ _ _ h => h) (Or.inl ⟨by rfl, ?hya6⟩) hHeld ?resta6
  case hya6 =>
    intro W hSw
    have x0 := hSw.1
    have x1 := hSw.2
    go_simp
    try with_reducible rfl
  try simp only [Act.put, List.setIfInBounds_toArray, List.set_cons_zero, List.set_cons_succ]
  refine wpAnyH_take (i := 7) (oi := { dst := some 18, op := Op.makeFunc (Fn.func 106) #[] #[Operand.tmp 3, Operand.tmp 7], type := 60, pos := "file.go:40", after := #[], guard := none }) (v := ?va7) rfl (by kernel_rfl) (by kernel_rfl) (by kernel_rfl) (fun _ _ _ h => h) (Or.inl ⟨by rfl, ?hya7⟩) hHeld ?resta7
  case hya7 =>
    intro W hSw
    have x0 := hSw.1
    have x1 := hSw.2
    go_simp
    try with_reducible rfl
  try simp only [Act.put, List.setIfInBounds_toArray, List.set_cons_zero, List.set_cons_succ]
  refine wpAnyH_take (i := 8) (oi := { dst := some 19, op := Op.makeFunc (Fn.func 107) #[] #[Operand.tmp 3, Operand.tmp 7], type := 60, pos := "file.go:40", after := #[], guard := none }) (v := ?va8) rfl (by kernel_rfl) (by kernel_rfl) (by kernel_rfl) (fun _ _ _ h => h) (Or.inl ⟨by rfl, ?hya8⟩) hHeld ?resta8
  case hya8 =>
    intro W hSw
    have x0 := hSw.1
    have x1 := hSw.2
    go_simp
    try with_reducible rfl
  try simp only [Act.put, List.setIfInBounds_toArray, List.set_cons_zero, List.set_cons_succ]
  refine wpAnyH_take (i := 9) (oi := { dst := some 20, op := Op.load 28 (Operand.tmp 3), type := 28, pos := "file.go:40", after := #[], guard := none }) (v := ?va9) rfl (by kernel_rfl) (by kernel_rfl) (by kernel_rfl) (fun _ _ _ h => h) (Or.inl ⟨by rfl, ?hya9⟩) hHeld ?resta9
  case hya9 =>
    intro W hSw
    have x0 := hSw.1
    have x1 := hSw.2
    go_simp
    try with_reducible rfl
  try simp only [Act.put, List.setIfInBounds_toArray, List.set_cons_zero, List.set_cons_succ]
  refine wpAnyH_take (i := 10) (oi := { dst := some 21, op := Op.nilCheck (Operand.tmp 20), type := 0, pos := "file.go:40", after := #[{ on := 9, ground := Ground.data }], guard := none }) (v := ?va10) rfl (by kernel_rfl) (by kernel_rfl) (by kernel_rfl) (fun _ _ _ h => h) (Or.inl ⟨by rfl, ?hya10⟩) hHeld ?resta10
  case hya10 =>
    intro W hSw
    have x0 := hSw.1
    have x1 := hSw.2
    go_simp
    try with_reducible rfl
  try simp only [Act.put, List.setIfInBounds_toArray, List.set_cons_zero, List.set_cons_succ]
  refine wpAnyH_take (i := 11) (oi := { dst := some 22, op := Op.fieldAddr 74 (Operand.tmp 21) 1, type := 0, pos := "file.go:40", after := #[{ on := 10, ground := Ground.data }], guard := none }) (v := ?va11) rfl (by kernel_rfl) (by kernel_rfl) (by kernel_rfl) (fun _ _ _ h => h) (Or.inl ⟨by rfl, ?hya11⟩) hHeld ?resta11
  case hya11 =>
    intro W hSw
    have x0 := hSw.1
    have x1 := hSw.2
    go_simp
    try with_reducible rfl
  try simp only [Act.put, List.setIfInBounds_toArray, List.set_cons_zero, List.set_cons_succ]
  refine wpAnyH_take (i := 12) (oi := { dst := some 23, op := Op.load 40 (Operand.tmp 22), type := 40, pos := "file.go:40", after := #[{ on := 11, ground := Ground.data }], guard := none }) (v := ?va12) rfl (by kernel_rfl) (by kernel_rfl) (by kernel_rfl) (fun _ _ _ h => h) (Or.inl ⟨by rfl, ?hya12⟩) hHeld ?resta12
  case hya12 =>
    intro W hSw
    have x0 := hSw.1
    have x1 := hSw.2
    go_simp
    try with_reducible rfl
  try simp only [Act.put, List.setIfInBounds_toArray, List.set_cons_zero, List.set_cons_succ]
  refine wpAnyH_take (i := 13) (oi := { dst := some 24, op := Op.makeFunc (Fn.func 109) #[Operand.tmp 23] #[], type := 60, pos := "file.go:40", after := #[{ on := 12, ground := Ground.data }], guard := none }) (v := ?va13) rfl (by kernel_rfl) (by kernel_rfl) (by kernel_rfl) (fun _ _ _ h => h) (Or.inl ⟨by rfl, ?hya13⟩) hHeld ?resta13
  case hya13 =>
    intro W hSw
    have x0 := hSw.1
    have x1 := hSw.2
    go_simp
    try with_reducible rfl
  try simp only [Act.put, List.setIfInBounds_toArray, List.set_cons_zero, List.set_cons_succ]
  refine wpAnyH_ready (rs := [14]) (by kernel_rfl) (by simp) ?_
  refine AllReadyH.cons (o := { dst := some 25, op := Op.buildSlice 136 6 #[(0, Operand.tmp 15), (1, Operand.tmp 16), (2, Operand.tmp 17), (3, Operand.tmp 18), (4, Operand.tmp 19), (5, Operand.tmp 24)], type := 136, pos := "file.go:40", after := #[{ on := 4, ground := Ground.data }, { on := 5, ground := Ground.data }, { on := 6, ground := Ground.data }, { on := 7, ground := Ground.data }, { on := 8, ground := Ground.data }, { on := 13, ground := Ground.data }], guard := none }) rfl (fun K' hK => ?_) AllReadyH.nil
  go_simp
  show K' _ _
  refine hK.out _ _ ⟨(H4.out.box (b := bl) (List.mem_cons_of_mem _ (List.mem_cons_of_mem _ (List.mem_cons_of_mem _ (List.mem_cons_of_mem _ List.mem_cons_self))))), H4.out.logAt.log.c1⟩ (fun hHeld => ?_)
  clear hK K'
  try simp only [Act.put, List.setIfInBounds_toArray, List.set_cons_zero, List.set_cons_succ]
  refine wpAnyH_ready (rs := [15]) (by kernel_rfl) (by simp) ?_
  refine AllReadyH.cons (o := { dst := some 26, op := Op.call { callee := Callee.value (Operand.func 59), args := #[Operand.tmp 13, Operand.tmp 25], argTypes := #[72, 136] }, type := 25, pos := "file.go:40", after := #[{ on := 2, ground := Ground.data }, { on := 14, ground := Ground.data }], guard := none }) rfl (fun K' hK => ?_) AllReadyH.nil
  go_simp
  rw [HRB.out]
  refine X.out.mono ?_
  rintro e w5 ⟨rfl, hl⟩
  have H5 := Lib.hid hl
  clear hl
  show K' _ w5
  refine hK.out _ _ ⟨(H5.out.box (b := bl) (List.mem_cons_of_mem _ (List.mem_cons_of_mem _ (List.mem_cons_of_mem _ (List.mem_cons_of_mem _ List.mem_cons_self))))), H5.out.logAt.log.c1⟩ (fun hHeld => ?_)
  clear hK K'
  try simp only [Act.put, List.setIfInBounds_toArray, List.set_cons_zero, List.set_cons_succ]
  refine wpAnyH_take (i := 16) (oi := { dst := some 8, op := Op.assign (Operand.tmp 26), type := 25, pos := "file.go:40", after := #[{ on := 15, ground := Ground.data }, { on := 15, ground := Ground.chain }, { on := 0, ground := Ground.phase }, { on := 1, ground := Ground.phase }, { on := 2, ground := Ground.phase }, { on := 3, ground := Ground.phase }, { on := 4, ground := Ground.phase }, { on := 5, ground := Ground.phase }, { on := 6, ground := Ground.phase }, { on := 7, ground := Ground.phase }, { on := 8, ground := Ground.phase }, { on := 9, ground := Ground.phase }, { on := 10, ground := Ground.phase }, { on := 11, ground := Ground.phase }, { on := 12, ground := Ground.phase }, { on := 13, ground := Ground.phase }, { on := 14, ground := Ground.phase }, { on := 15, ground := Ground.phase }], guard := none }) (v := ?va16) rfl (by kernel_rfl) (by kernel_rfl) (by kernel_rfl) (fun _ _ _ h => h) (Or.inl ⟨by rfl, ?hya16⟩) hHeld ?resta16
  case hya16 =>
    intro W hSw
    have x0 := hSw.1
    have x1 := hSw.2
    go_simp
    try with_reducible rfl
  try simp only [Act.put, List.setIfInBounds_toArray, List.set_cons_zero, List.set_cons_succ]
  refine wpAnyH_done (by kernel_rfl) ?_ _
  clear hHeld
  have hD : Hid ((L.replace s b cnt).1 = (if (doS (replS L.path b) s L.e).2 = 0 then { L with size := b.length, count := cnt, e := (doS (replS L.path b) s L.e).2 } else { L with e := (doS (replS L.path b) s L.e).2 }) ∧ (L.replace s b cnt).2 = (doS (replS L.path b) s L.e).1) := by
    unfold Hid Lg.replace
    generalize doS (replS L.path b) s L.e = r
    obtain ⟨s', e⟩ := r
    simp only
    split <;> exact ⟨rfl, rfl⟩
  clear X
  generalize hdd : doS (replS L.path b) s L.e = D at *
  obtain ⟨s2, e2⟩ := D
  clear hdd
  simp only at hD H5 ⊢
  by_cases h0 : e2 = 0
  · subst h0
    have h5 := H5.out
    have gl := h5.box (b := bl) (List.mem_cons_of_mem _ (List.mem_cons_of_mem _ (List.mem_cons_of_mem _ (List.mem_cons_of_mem _ List.mem_cons_self))))
    have gb := h5.box (b := bl + 1) (List.mem_cons_of_mem _ (List.mem_cons_of_mem _ (List.mem_cons_of_mem _ List.mem_cons_self)))
    have h6 := h5.drew.set 3 (.int .i64 (n : Int))
    have h7 := h6.set 4 (.int .i64 cnt)
    have fz3 := h5.logAt.log.fz 3
    have k3 := h5.logAt.log.c3
    have k4 := h5.logAt.log.c4
    have fz4 := h5.logAt.log.fz 4
    have H6 := Lib.hid h6
    have H7 := Lib.hid h7
    clear h5 h6 h7
    go_upto_region 4 with fail
    refine wp_region_held_drew (S := (fun W => W.cell? ⟨bl, 0, none⟩ = some (.pointer (some ⟨lb, 0, none⟩)) ∧ W.cell? ⟨bl + 1, 0, none⟩ = some (.slice A n c))) (by kernel_rfl) ⟨gl, gb⟩ (fun hHeld => ?_)
    change wpAnyH _ _ _ _ _ 11 (Array.replicate 11 false) _ _
    refine wpAnyH_take (i := 0) (oi := { dst := some 29, op := Op.load 28 (Operand.tmp 3), type := 28, pos := "file.go:49", after := #[], guard := none }) (v := ?vb0) rfl (by kernel_rfl) (by kernel_rfl) (by kernel_rfl) (fun _ _ _ h => h) (Or.inl ⟨by rfl, ?hyb0⟩) hHeld ?restb0
    case hyb0 =>
      intro W hSw
      have x0 := hSw.1
      have x1 := hSw.2
      go_simp
      try with_reducible rfl
    try simp only [Act.put, List.setIfInBounds_toArray, List.set_cons_zero, List.set_cons_succ]
    refine wpAnyH_take (i := 1) (oi := { dst := some 30, op := Op.load 28 (Operand.tmp 3), type := 28, pos := "file.go:49", after := #[{ on := 7, ground := Ground.gcOnly Departure.lateStores }], guard := none }) (v := ?vb1) rfl (by kernel_rfl) (by kernel_rfl) (by kernel_rfl) (fun _ _ _ h => h) (Or.inl ⟨by rfl, ?hyb1⟩) hHeld ?restb1
    case hyb1 =>
      intro W hSw
      have x0 := hSw.1
      have x1 := hSw.2
      go_simp
      try with_reducible rfl
    try simp only [Act.put, List.setIfInBounds_toArray, List.set_cons_zero, List.set_cons_succ]
    refine wpAnyH_take (i := 2) (oi := { dst := some 31, op := Op.load 22 (Operand.tmp 4), type := 22, pos := "file.go:49", after := #[], guard := none }) (v := ?vb2) rfl (by kernel_rfl) (by kernel_rfl) (by kernel_rfl) (fun _ _ _ h => h) (Or.inl ⟨by rfl, ?hyb2⟩) hHeld ?restb2
    case hyb2 =>
      intro W hSw
      have x0 := hSw.1
      have x1 := hSw.2
      go_simp
      try with_reducible rfl
    try simp only [Act.put, List.setIfInBounds_toArray, List.set_cons_zero, List.set_cons_succ]
    refine wpAnyH_take (i := 3) (oi := { dst := some 32, op := Op.call { callee := Callee.builtin Builtin.len, args := #[Operand.tmp 31], argTypes := #[22] }, type := 3, pos := "file.go:49", after := #[{ on := 2, ground := Ground.data }], guard := none }) (v := ?vb3) rfl (by kernel_rfl) (by kernel_rfl) (by kernel_rfl) (fun _ _ _ h => h) (Or.inl ⟨by rfl, ?hyb3⟩) hHeld ?restb3
    case hyb3 =>
      intro W hSw
      have x0 := hSw.1
      have x1 := hSw.2
      go_simp
      try with_reducible rfl
    try simp only [Act.put, List.setIfInBounds_toArray, List.set_cons_zero, List.set_cons_succ]
    refine wpAnyH_take (i := 4) (oi := { dst := some 33, op := Op.move (Operand.tmp 2), type := 3, pos := "file.go:49", after := #[{ on := 7, ground := Ground.gcOnly Departure.lateStores }], guard := none }) (v := ?vb4) rfl (by kernel_rfl) (by kernel_rfl) (by kernel_rfl) (fun _ _ _ h => h) (Or.inl ⟨by rfl, ?hyb4⟩) hHeld ?restb4
    case hyb4 =>
      intro W hSw
      have x0 := hSw.1
      have x1 := hSw.2
      go_simp
      try with_reducible rfl
    try simp only [Act.put, List.setIfInBounds_toArray, List.set_cons_zero, List.set_cons_succ]
    refine wpAnyH_take (i := 5) (oi := { dst := some 34, op := Op.nilCheck (Operand.tmp 29), type := 0, pos := "file.go:49", after := #[{ on := 0, ground := Ground.data }, { on := 0, ground := Ground.phase }, { on := 1, ground := Ground.textOnly Departure.lateStores }, { on := 2, ground := Ground.phase }, { on := 3, ground := Ground.phase }, { on := 4, ground := Ground.textOnly Departure.lateStores }], guard := none }) (v := ?vb5) rfl (by kernel_rfl) (by kernel_rfl) (by kernel_rfl) (fun _ _ _ h => h) (Or.inl ⟨by rfl, ?hyb5⟩) hHeld ?restb5
    case hyb5 =>
      intro W hSw
      have x0 := hSw.1
      have x1 := hSw.2
      go_simp
      try with_reducible rfl
    try simp only [Act.put, List.setIfInBounds_toArray, List.set_cons_zero, List.set_cons_succ]
    refine wpAnyH_take (i := 6) (oi := { dst := some 35, op := Op.fieldAddr 74 (Operand.tmp 34) 3, type := 0, pos := "file.go:49", after := #[{ on := 5, ground := Ground.data }, { on := 0, ground := Ground.phase }, { on := 1, ground := Ground.textOnly Departure.lateStores }, { on := 2, ground := Ground.phase }, { on := 3, ground := Ground.phase }, { on := 4, ground := Ground.textOnly Departure.lateStores }], guard := none }) (v := ?vb6) rfl (by kernel_rfl) (by kernel_rfl) (by kernel_rfl) (fun _ _ _ h => h) (Or.inl ⟨by rfl, ?hyb6⟩) hHeld ?restb6
    case hyb6 =>
      intro W hSw
      have x0 := hSw.1
      have x1 := hSw.2
      go_simp
      try with_reducible rfl
    try simp only [Act.put, List.setIfInBounds_toArray, List.set_cons_zero, List.set_cons_succ]
    refine wpAnyH_ready (rs := [7]) (by kernel_rfl) (by simp) ?_
    refine AllReadyH.cons (o := { dst := none, op := Op.store 3 (Operand.tmp 35) (Operand.tmp 32), type := 0, pos := "file.go:49", after := #[{ on := 6, ground := Ground.data }, { on := 3, ground := Ground.data }, { on := 0, ground := Ground.phase }, { on := 1, ground := Ground.textOnly Departure.lateStores }, { on := 2, ground := Ground.phase }, { on := 3, ground := Ground.phase }, { on := 4, ground := Ground.textOnly Departure.lateStores }], guard := none }) rfl (fun K' hK => ?_) AllReadyH.nil
    go_simp
    refine hK.out _ _ ⟨(H6.out.box (b := bl) (List.mem_cons_of_mem _ (List.mem_cons_of_mem _ (List.mem_cons_of_mem _ (List.mem_cons_of_mem _ List.mem_cons_self))))), (H6.out.box (b := bl + 1) (List.mem_cons_of_mem _ (List.mem_cons_of_mem _ (List.mem_cons_of_mem _ List.mem_cons_self))))⟩ (fun hHeld => ?_)
    clear hK K'
    try simp only [Act.put, List.setIfInBounds_toArray, List.set_cons_zero, List.set_cons_succ]
    refine wpAnyH_take (i := 8) (oi := { dst := some 36, op := Op.nilCheck (Operand.tmp 30), type := 0, pos := "file.go:49", after := #[{ on := 1, ground := Ground.data }, { on := 0, ground := Ground.phase }, { on := 1, ground := Ground.phase }, { on := 2, ground := Ground.phase }, { on := 3, ground := Ground.phase }, { on := 4, ground := Ground.phase }, { on := 5, ground := Ground.phase }, { on := 6, ground := Ground.phase }, { on := 7, ground := Ground.phase }], guard := none }) (v := ?vb8) rfl (by kernel_rfl) (by kernel_rfl) (by kernel_rfl) (fun _ _ _ h => h) (Or.inl ⟨by rfl, ?hyb8⟩) hHeld ?restb8
    case hyb8 =>
      intro W hSw
      have x0 := hSw.1
      have x1 := hSw.2
      go_simp
      try with_reducible rfl
    try simp only [Act.put, List.setIfInBounds_toArray, List.set_cons_zero, List.set_cons_succ]
    refine wpAnyH_take (i := 9) (oi := { dst := some 37, op := Op.fieldAddr 74 (Operand.tmp 36) 4, type := 0, pos := "file.go:49", after := #[{ on := 8, ground := Ground.data }, { on := 0, ground := Ground.phase }, { on := 1, ground := Ground.phase }, { on := 2, ground := Ground.phase }, { on := 3, ground := Ground.phase }, { on := 4, ground := Ground.phase }, { on := 5, ground := Ground.phase }, { on := 6, ground := Ground.phase }, { on := 7, ground := Ground.phase }], guard := none }) (v := ?vb9) rfl (by kernel_rfl) (by kernel_rfl) (by kernel_rfl) (fun _ _ _ h => h) (Or.inl ⟨by rfl, ?hyb9⟩) hHeld ?restb9
    case hyb9 =>
      intro W hSw
      have x0 := hSw.1
      have x1 := hSw.2
      go_simp
      try with_reducible rfl
    try simp only [Act.put, List.setIfInBounds_toArray, List.set_cons_zero, List.set_cons_succ]
    refine wpAnyH_ready (rs := [10]) (by kernel_rfl) (by simp) ?_
    refine AllReadyH.cons (o := { dst := none, op := Op.store 3 (Operand.tmp 37) (Operand.tmp 33), type := 0, pos := "file.go:49", after := #[{ on := 9, ground := Ground.data }, { on := 4, ground := Ground.data }, { on := 7, ground := Ground.chain }, { on := 0, ground := Ground.phase }, { on := 1, ground := Ground.phase }, { on := 2, ground := Ground.phase }, { on := 3, ground := Ground.phase }, { on := 4, ground := Ground.phase }, { on := 5, ground := Ground.phase }, { on := 6, ground := Ground.phase }, { on := 7, ground := Ground.phase }], guard := none }) rfl (fun K' hK => ?_) AllReadyH.nil
    go_simp
    refine hK.out _ _ ⟨(H7.out.box (b := bl) (List.mem_cons_of_mem _ (List.mem_cons_of_mem _ (List.mem_cons_of_mem _ (List.mem_cons_of_mem _ List.mem_cons_self))))), (H7.out.box (b := bl + 1) (List.mem_cons_of_mem _ (List.mem_cons_of_mem _ (List.mem_cons_of_mem _ List.mem_cons_self))))⟩ (fun hHeld => ?_)
    clear hK K'
    try simp only [Act.put]
    refine wpAnyH_done (by kernel_rfl) ?_ _
    clear hHeld
    go_wp2
    go_ret
    rw [hD.out.1, hD.out.2, if_pos trivial, HN.out]
    refine ⟨rfl, H7.out.sub ?_⟩
    exact List.Sublist.cons_cons _ (List.Sublist.cons _ (List.Sublist.cons _ (List.Sublist.cons _ (List.Sublist.cons _ (List.Sublist.refl _)))))
  · go_wp2
    go_ret
    rw [hD.out.1, hD.out.2, if_neg h0]
    refine ⟨rfl, H5.out.sub ?_⟩
    exact List.Sublist.cons_cons _ (List.Sublist.cons _ (List.Sublist.cons _ (List.Sublist.cons _ (List.Sublist.cons _ (List.Sublist.refl _)))))
end Go.Proofs.YtiikjdjpodmpcaaGreat
