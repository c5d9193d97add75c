/- Package wal: check, begin, Open. -/
import Derived.Test.YtiikjdjpodmpcaaGreatWlG
import Derived.Test.YtiikjdjpodmpcaaGreatAll2
namespace Go.Proofs.YtiikjdjpodmpcaaGreat
open Go.RowKit Go.Maps
set_option linter.unusedVariables false

/-- A slice of strings that lies in one of the blocks Z, or is nil. -/
structure StrZ (Z : List (Nat × Obj)) (A : Option Addr) (m c : Nat) (ps : List Str) : Prop where
  arg : ∀ W : World, (∀ z ∈ Z, W.heap[z.1]? = some z.2) → StrRow W 0 A m c ps
  le : m ≤ 1000000
theorem StrZ.nil (Z : List (Nat × Obj)) : StrZ Z none 0 0 [] := ⟨fun W _ => ⟨rfl, .inl ⟨rfl, rfl⟩⟩, Nat.zero_le _⟩
theorem StrZ.more {Z Z' : List (Nat × Obj)} {A : Option Addr} {m c : Nat} {ps : List Str} (h : StrZ Z A m c ps) (hs : ∀ z ∈ Z, z ∈ Z') : StrZ Z' A m c ps := ⟨fun W hW => h.arg W fun z hz => hW z (hs z hz), h.le⟩
theorem StrZ.strs {Z : List (Nat × Obj)} {A : Option Addr} {m c : Nat} {ps : List Str} (h : StrZ Z A m c ps) {W : World} (hW : ∀ z ∈ Z, W.heap[z.1]? = some z.2) : Strs W A m ps := (h.arg W hW).strs h.le
theorem StrZ.len {Z : List (Nat × Obj)} {A : Option Addr} {m c : Nat} {ps : List Str} (h : StrZ Z A m c ps) {W : World} (hW : ∀ z ∈ Z, W.heap[z.1]? = some z.2) : ps.length = m := (h.strs hW).len
theorem row_strZ {w : World} {B m c : Nat} {A : Option Addr} {ps : List Str} {Z : List (Nat × Obj)} (ho : StrRow w B A m c ps) (hm : m ≤ 1000000) :
    (StrZ Z A m c ps) ∨ ∃ g o, B ≤ g ∧ w.heap[g]? = some o ∧ StrZ ((g, o) :: Z) A m c ps := by
  obtain ⟨h1, h2⟩ := ho
  rcases h2 with ⟨hv, hn⟩ | ⟨g, cap, cur, hv, hB, hg, r1, r2, r3, r4⟩
  · exact .inl ⟨fun W _ => ⟨h1, .inl ⟨hv, hn⟩⟩, hm⟩
  · right
    refine ⟨g, _, hB, hg, ⟨fun W hW => ?_, hm⟩⟩
    have hg2 := hW _ List.mem_cons_self
    exact ⟨h1, .inr ⟨g, _, _, hv, Nat.zero_le _, hg2, r1, r2, r3, r4⟩⟩
section
variable {w W W0 : World} {tb lb k : Nat} {s : St} {L : Lg} {Z : List (Nat × Obj)}
theorem LivZ.ownS {x : Nat × Obj} {A : Option Addr} {m c : Nat} {ps : List Str} (h : LivZ w tb s k (x :: Z) W0) (hn : Nx W0 W) (ho : StrRow W W0.heap.size A m c ps) (hm : m ≤ 1000000) :
    ∃ Z1, Z.Sublist Z1 ∧ LivZ w tb s k (x :: Z1) W ∧ StrZ Z1 A m c ps := by
  rcases row_strZ (Z := Z) ho hm with h1 | ⟨g, o, hB, hg, h1⟩
  · exact ⟨Z, List.Sublist.refl _, h.next hn, h1⟩
  · exact ⟨(g, o) :: Z, List.sublist_cons_self _ _, (h.add hn hB hg).swap, h1⟩
theorem own_form2 {w : World} {B n c : Nat} {A : Option Addr} {l : Str} (h : Own w B A n c l) : (A = none ∧ n = 0 ∧ c = 0) ∨ ∃ g, A = some ⟨g, 0, none⟩ := by
  rcases h.2 with ⟨hv, h0⟩ | ⟨g, cap, cur, hv, _⟩
  · simp only [Value.slice.injEq] at hv
    exact .inl ⟨hv.1, hv.2.1, hv.2.2⟩
  · simp only [Value.slice.injEq] at hv
    exact .inr ⟨g, hv.1⟩
theorem livz_read2 {x : Nat × Obj} (h : LivZ w tb s k (x :: Z) W) (hk : k + 1 ≤ 1000) (p : Str) (hp : p.length ≤ 10000) (hl : (s.read p).2.1.length ≤ 10000) :
    Calls Tryz.prog 72 #[.pointer (some ⟨tb, 0, none⟩), .string (S p)] W fun e w' => ∃ A n c Z1, e = .returned (.tuple #[.slice A n c, .int .i64 (s.read p).2.2]) ∧ Z.Sublist Z1 ∧ LivZ w tb (s.read p).1 k (x :: Z1) w' ∧ ArgZ Z1 A n c (s.read p).2.1 ∧ ((A = none ∧ n = 0 ∧ c = 0) ∨ ∃ g, A = some ⟨g, 0, none⟩) := by
  have hnw := h.nx.size
  obtain ⟨g, hT, h0, hz⟩ := h.ex
  refine (read_any W tb s g (by omega) hT h.good.ok p hp).mono ?_
  rintro e w' ⟨A, n, c, e1, e2, hT', hC⟩
  have htb := hT.topT
  have hL : LivZ w tb (s.read p).1 k (x :: Z) w' := by
    refine ⟨⟨g, hT', h0, hz⟩, fun z hm => ?_, h.new, h.nd, ?_, h.good.read p⟩
    · rw [hC.block z.1 (h.lt hm) (fun e => by have := hz z hm; rw [e, htb] at this; omega)]
      exact h.at_ z hm
    · have c : Chd (fun _ => False) w w' := (Chd.of_below h.nx).then_ hC (fun j hj e => by
        have := h0 tb (by rw [htb]; omega)
        omega)
      exact c.below (Nat.le_refl _) (fun _ _ e => e)
  rcases own_argZ (Z := Z) e2 hl with h1 | ⟨gb, o, hB, hg, h1⟩
  · exact ⟨A, n, c, Z, e1, List.Sublist.refl _, hL, h1, own_form2 e2⟩
  · refine ⟨A, n, c, (gb, o) :: Z, e1, List.sublist_cons_self _ _, ?_, h1, own_form2 e2⟩
    refine LivZ.swap ⟨⟨g, hT', h0, fun z hm => ?_⟩, fun z hm => ?_, fun z hm => ?_, ?_, hL.nx, hL.good⟩
    · rcases List.mem_cons.1 hm with rfl | hm
      · exact new_zero hT hB
      · exact hz z hm
    · rcases List.mem_cons.1 hm with rfl | hm
      · exact hg
      · exact hL.at_ z hm
    · rcases List.mem_cons.1 hm with rfl | hm
      · exact Nat.le_trans hnw hB
      · exact h.new z hm
    · refine List.pairwise_cons.2 ⟨fun z hm e => ?_, h.nd⟩
      have := h.lt hm
      simp only at e
      omega
theorem check_nil (W : World) (p : Str) :
    Calls Tryz.prog 38 #[.pointer none, .string (S p)] W fun e w' => e = .returned (.int .i64 1) ∧ Nx W w' := by
  have X := Lib.hid (read_nil W [])
  rw [S_nil] at X
  generalize S p = sp
  go_enter Tryz.func38, Tryz.ntmps38
  go_wp2_with fail
  refine X.out.mono ?_
  rintro e w1 ⟨rfl, hb⟩
  have H := Lib.hid hb
  clear hb X
  go_wp2
  go_ret
  exact ⟨rfl, H.out⟩
theorem read_empty (s : St) : s.read [] = (s, [], 2) := by
  have : okP [] = false := by decide +kernel
  unfold St.read St.find St.begin_
  simp [this]
theorem lcheck_any (h : LivZ w tb s k Z W) (hk : k + 1 ≤ 1000) (p : Str) :
    Calls Tryz.prog 38 #[.pointer (some ⟨tb, 0, none⟩), .string (S p)] W fun e w' => e = .returned (.int .i64 (chk p)) ∧ LivZ w tb s k Z w' := by
  have X := livz_read h hk [] (by decide)
  rw [read_empty, S_nil] at X
  simp only at X
  have X := Lib.hid X
  have Y := Lib.hid (fun W => check_any W p)
  clear h
  generalize S p = sp at *
  generalize chk p = v at *
  go_enter Tryz.func38, Tryz.ntmps38
  go_wp2_with fail
  refine X.out.mono ?_
  rintro e w1 ⟨⟨A, n, c, rfl, ho⟩, hl⟩
  have HL := Lib.hid hl
  clear hl ho X
  go_wp2_with fail
  refine (Y.out w1).mono ?_
  rintro e w2 ⟨rfl, hb⟩
  have H := Lib.hid (HL.out.next hb)
  clear hb Y HL
  go_wp2
  go_ret
  exact ⟨rfl, H.out⟩

theorem begin_yes (L : Lg) (s : St) (h : (s.stat L.path).2.2 = true) : ((s.read L.path).2.2 ≠ 0 → L.begin_ s = (L, (s.read L.path).1, [], (s.read L.path).2.2)) ∧
    ((s.read L.path).2.2 = 0 → ((scan (s.read L.path).2.1).2.2 ≠ 0 → L.begin_ s = (L, (s.read L.path).1, [], (((scan (s.read L.path).2.1).2.2 : Nat) : Int))) ∧
     ((scan (s.read L.path).2.1).2.2 = 0 → L.begin_ s = ((L.mend (s.read L.path).1 (s.read L.path).2.1 (scan (s.read L.path).2.1).2.1 ((scan (s.read L.path).2.1).1.length : Nat)).1, (L.mend (s.read L.path).1 (s.read L.path).2.1 (scan (s.read L.path).2.1).2.1 ((scan (s.read L.path).2.1).1.length : Nat)).2, (scan (s.read L.path).2.1).1, (L.mend (s.read L.path).1 (s.read L.path).2.1 (scan (s.read L.path).2.1).2.1 ((scan (s.read L.path).2.1).1.length : Nat)).1.e))) := by
  unfold Lg.begin_
  rw [if_pos h]
  generalize s.read L.path = r
  obtain ⟨s1, b, e⟩ := r
  simp only
  refine ⟨fun h => by rw [if_neg h], fun h => ?_⟩
  rw [if_pos h]
  exact ⟨fun h => by rw [if_neg h], fun h => by rw [if_pos h]⟩

set_option maxRecDepth 100000 in
set_option maxHeartbeats 4000000 in
theorem lbegin_any (h : LivZ w tb s k ((lb, logO tb L) :: Z) W) (hk : k + 12 ≤ 1000) (e1 : isPath L.path = true) (hl : (s.read L.path).2.1.length ≤ 10000) :
    Calls Tryz.prog 40 #[.pointer (some ⟨lb, 0, none⟩)] W fun e w' => ∃ A m c Z1, e = .returned (.tuple #[.slice A m c, .int .i64 (L.begin_ s).2.2.2]) ∧ Z.Sublist Z1 ∧ LivZ w tb (L.begin_ s).2.1 (k + 12) ((lb, logO tb (L.begin_ s).1) :: Z1) w' ∧ StrZ Z1 A m c (L.begin_ s).2.2.1 := by
  have hlp := isPath_len e1
  have HH := Lib.hid (lhas_any h h.logAt.log L.path (by omega))
  have c2 := h.logAt.log.c2
  cases hst : (s.stat L.path).2.2 with
  | false =>
    rw [hst] at HH
    have hb : L.begin_ s = ((L.replace s [] 0).1, (L.replace s [] 0).2, [], (L.replace s [] 0).1.e) := by unfold Lg.begin_; rw [hst]; rfl
    have RP : Hid (∀ m, Calls Tryz.prog 64 #[.pointer (some ⟨lb, 0, none⟩), .slice none 0 0, .int .i64 0] (W.drewN m) fun e w' => e = .returned (.int .i64 (L.replace s [] 0).1.e) ∧ LivZ w tb (L.replace s [] 0).2 (k + 12) ((lb, logO tb (L.replace s [] 0).1) :: Z) w') := fun m => lreplace_any w _ tb lb k s L Z none 0 0 [] 0 (h.drewN m) hk e1 (ArgZ.nil Z)
    rw [hb]
    clear h e1 hl hlp hst hb
    generalize L.replace s [] 0 = q at *
    obtain ⟨L2, s2⟩ := q
    generalize S L.path = sp at *
    simp only at *
    go_enter Tryz.func40, Tryz.ntmps40
    go_wp2_with fail
    refine HH.out.mono ?_
    rintro e w1 ⟨rfl, m, hm⟩
    rw [hm]
    go_wp2_with fail
    refine (RP.out m).mono ?_
    rintro e w2 ⟨rfl, hl⟩
    have HL := Lib.hid hl
    clear hl RP HH hm
    go_wp2
    go_ret2
    exact ⟨none, 0, 0, Z, rfl, List.Sublist.refl _, HL.out, StrZ.nil Z⟩
  | true =>
    rw [hst] at HH
    have hb := begin_yes L s hst
    have RD : Hid (∀ m, Calls Tryz.prog 72 #[.pointer (some ⟨tb, 0, none⟩), .string (S L.path)] (W.drewN m).drew fun e w' => ∃ A n c Z1, e = .returned (.tuple #[.slice A n c, .int .i64 (s.read L.path).2.2]) ∧ Z.Sublist Z1 ∧ LivZ w tb (s.read L.path).1 k ((lb, logO tb L) :: Z1) w' ∧ ArgZ Z1 A n c (s.read L.path).2.1 ∧ ((A = none ∧ n = 0 ∧ c = 0) ∨ ∃ g, A = some ⟨g, 0, none⟩)) := fun m => livz_read2 (h.drewN m).drew (by omega) L.path (by omega) hl
    have hdr : Hid (∀ m, (W.drewN m).cell? ⟨lb, 1, none⟩ = some (.pointer (some ⟨tb, 0, none⟩)) ∧ (W.drewN m).cell? ⟨lb, 2, none⟩ = some (.string (S L.path))) := fun m => ⟨(h.drewN m).logAt.log.c1, (h.drewN m).logAt.log.c2⟩
    have HB := Lib.hid hb
    have E1 := Lib.hid e1
    have HLL := Lib.hid hl
    have HK := Lib.hid hk
    clear h e1 hl hlp hst hb hk
    generalize hrd : s.read L.path = r at *
    obtain ⟨s1, b, er⟩ := r
    clear hrd
    generalize hsp : S L.path = sp at *
    have HSP := Lib.hid hsp
    clear hsp
    simp only at HB RD HLL
    go_enter Tryz.func40, Tryz.ntmps40
    go_wp2_with fail
    refine HH.out.mono ?_
    rintro e w1 ⟨rfl, m, hm⟩
    have d1 := (hdr.out m).1
    have d2 := (hdr.out m).2
    rw [← hm] at d1 d2
    have RD1 := RD.out m
    rw [← hm] at RD1
    have X := Lib.hid RD1
    clear RD1 RD HH hm hdr c2
    go_upto_region 3 with fail
    refine wp_region_held_drew (S := (fun W => W.cell? ⟨lb, 1, none⟩ = some (.pointer (some ⟨tb, 0, none⟩)) ∧ W.cell? ⟨lb, 2, none⟩ = some (.string sp))) (by kernel_rfl) ⟨d1, d2⟩ (fun hHeld => ?_)
    change wpAnyH _ _ _ _ _ 14 (Array.replicate 14 false) _ _
    refine wpAnyH_take (i := 0) (oi := { dst := some 18, op := Op.move (Operand.tmp 0), type := 28, pos := "file.go:14", after := #[], guard := none }) (v := ?va0) rfl (by kernel_rfl) (by kernel_rfl) (by kernel_rfl) (fun _ _ _ h => h) (Or.inl ⟨by rfl, ?hya0⟩) hHeld ?resta0
    case hya0 =>
      intro W hSw
      have x0 := hSw.1
      have x1 := hSw.2
      go_simp
      try with_reducible rfl
    try simp only [Act.put, List.setIfInBounds_toArray, List.set_cons_zero, List.set_cons_succ]
    refine wpAnyH_take (i := 1) (oi := { dst := some 19, op := Op.nilCheck (Operand.tmp 18), type := 0, pos := "file.go:14", after := #[{ on := 0, ground := Ground.data }], guard := none }) (v := ?va1) rfl (by kernel_rfl) (by kernel_rfl) (by kernel_rfl) (fun _ _ _ h => h) (Or.inl ⟨by rfl, ?hya1⟩) hHeld ?resta1
    case hya1 =>
      intro W hSw
      have x0 := hSw.1
      have x1 := hSw.2
      go_simp
      try with_reducible rfl
    try simp only [Act.put, List.setIfInBounds_toArray, List.set_cons_zero, List.set_cons_succ]
    refine wpAnyH_take (i := 2) (oi := { dst := some 20, op := Op.fieldAddr 74 (Operand.tmp 19) 1, type := 0, pos := "file.go:14", after := #[{ on := 1, ground := Ground.data }], guard := none }) (v := ?va2) rfl (by kernel_rfl) (by kernel_rfl) (by kernel_rfl) (fun _ _ _ h => h) (Or.inl ⟨by rfl, ?hya2⟩) hHeld ?resta2
    case hya2 =>
      intro W hSw
      have x0 := hSw.1
      have x1 := hSw.2
      go_simp
      try with_reducible rfl
    try simp only [Act.put, List.setIfInBounds_toArray, List.set_cons_zero, List.set_cons_succ]
    refine wpAnyH_take (i := 3) (oi := { dst := some 21, op := Op.load 40 (Operand.tmp 20), type := 40, pos := "file.go:14", after := #[{ on := 2, ground := Ground.data }], guard := none }) (v := ?va3) rfl (by kernel_rfl) (by kernel_rfl) (by kernel_rfl) (fun _ _ _ h => h) (Or.inl ⟨by rfl, ?hya3⟩) hHeld ?resta3
    case hya3 =>
      intro W hSw
      have x0 := hSw.1
      have x1 := hSw.2
      go_simp
      try with_reducible rfl
    try simp only [Act.put, List.setIfInBounds_toArray, List.set_cons_zero, List.set_cons_succ]
    refine wpAnyH_take (i := 4) (oi := { dst := some 22, op := Op.move (Operand.tmp 0), type := 28, pos := "file.go:14", after := #[], guard := none }) (v := ?va4) rfl (by kernel_rfl) (by kernel_rfl) (by kernel_rfl) (fun _ _ _ h => h) (Or.inl ⟨by rfl, ?hya4⟩) hHeld ?resta4
    case hya4 =>
      intro W hSw
      have x0 := hSw.1
      have x1 := hSw.2
      go_simp
      try with_reducible rfl
    try simp only [Act.put, List.setIfInBounds_toArray, List.set_cons_zero, List.set_cons_succ]
    refine wpAnyH_take (i := 5) (oi := { dst := some 23, op := Op.nilCheck (Operand.tmp 22), type := 0, pos := "file.go:14", after := #[{ on := 4, ground := Ground.data }], guard := none }) (v := ?va5) rfl (by kernel_rfl) (by kernel_rfl) (by kernel_rfl) (fun _ _ _ h => h) (Or.inl ⟨by rfl, ?hya5⟩) hHeld ?resta5
    case hya5 =>
      intro W hSw
      have x0 := hSw.1
      have x1 := hSw.2
      go_simp
      try with_reducible rfl
    try simp only [Act.put, List.setIfInBounds_toArray, List.set_cons_zero, List.set_cons_succ]
    refine wpAnyH_take (i := 6) (oi := { dst := some 24, op := Op.fieldAddr 74 (Operand.tmp 23) 2, type := 0, pos := "file.go:14", after := #[{ on := 5, ground := Ground.data }], guard := none }) (v := ?va6) rfl (by kernel_rfl) (by kernel_rfl) (by kernel_rfl) (fun _ _ _ h => h) (Or.inl ⟨by rfl, ?hya6⟩) hHeld ?resta6
    case hya6 =>
      intro W hSw
      have x0 := hSw.1
      have x1 := hSw.2
      go_simp
      try with_reducible rfl
    try simp only [Act.put, List.setIfInBounds_toArray, List.set_cons_zero, List.set_cons_succ]
    refine wpAnyH_take (i := 7) (oi := { dst := some 25, op := Op.load 9 (Operand.tmp 24), type := 9, pos := "file.go:14", after := #[{ on := 6, ground := Ground.data }], guard := none }) (v := ?va7) rfl (by kernel_rfl) (by kernel_rfl) (by kernel_rfl) (fun _ _ _ h => h) (Or.inl ⟨by rfl, ?hya7⟩) hHeld ?resta7
    case hya7 =>
      intro W hSw
      have x0 := hSw.1
      have x1 := hSw.2
      go_simp
      try with_reducible rfl
    try simp only [Act.put, List.setIfInBounds_toArray, List.set_cons_zero, List.set_cons_succ]
    refine wpAnyH_ready (rs := [8]) (by kernel_rfl) (by simp) ?_
    refine AllReadyH.cons (o := { dst := some 26, op := Op.call { callee := Callee.value (Operand.func 72), args := #[Operand.tmp 21, Operand.tmp 25], argTypes := #[40, 9] }, type := 105, pos := "file.go:14", after := #[{ on := 3, ground := Ground.data }, { on := 7, ground := Ground.data }], guard := none }) rfl (fun K' hK => ?_) AllReadyH.nil
    go_simp
    refine X.out.mono ?_
    rintro e w2 ⟨A, n, c, Z1, rfl, hs, hl, ha, hf⟩
    have HL := Lib.hid hl
    have HS := Lib.hid hs
    have HA := Lib.hid ha
    have HF := Lib.hid hf
    have t1 := hl.logAt.log.c1
    have t2 := hl.logAt.log.c2
    rw [HSP.out] at t2
    clear hl hs ha hf X
    show K' _ w2
    refine hK.out _ _ ⟨t1, t2⟩ (fun hHeld => ?_)
    clear hK K'
    try simp only [Act.put, List.setIfInBounds_toArray, List.set_cons_zero, List.set_cons_succ]
    refine wpAnyH_take (i := 9) (oi := { dst := some 17, op := Op.move (Operand.tmp 26), type := 105, pos := "file.go:14", after := #[{ on := 8, ground := Ground.data }], guard := none }) (v := ?va9) rfl (by kernel_rfl) (by kernel_rfl) (by kernel_rfl) (fun _ _ _ h => h) (Or.inl ⟨by rfl, ?hya9⟩) hHeld ?resta9
    case hya9 =>
      intro W hSw
      have x0 := hSw.1
      have x1 := hSw.2
      go_simp
      try with_reducible rfl
    try simp only [Act.put, List.setIfInBounds_toArray, List.set_cons_zero, List.set_cons_succ]
    refine wpAnyH_take (i := 10) (oi := { dst := some 27, op := Op.extract (Operand.tmp 17) 0, type := 22, pos := "file.go:14", after := #[{ on := 9, ground := Ground.data }], guard := none }) (v := ?va10) rfl (by kernel_rfl) (by kernel_rfl) (by kernel_rfl) (fun _ _ _ h => h) (Or.inl ⟨by rfl, ?hya10⟩) hHeld ?resta10
    case hya10 =>
      intro W hSw
      have x0 := hSw.1
      have x1 := hSw.2
      go_simp
      try with_reducible rfl
    try simp only [Act.put, List.setIfInBounds_toArray, List.set_cons_zero, List.set_cons_succ]
    refine wpAnyH_take (i := 11) (oi := { dst := some 28, op := Op.extract (Operand.tmp 17) 1, type := 25, pos := "file.go:14", after := #[{ on := 9, ground := Ground.data }, { on := 12, ground := Ground.gcOnly Departure.lateStores }], guard := none }) (v := ?va11) rfl (by kernel_rfl) (by kernel_rfl) (by kernel_rfl) (fun _ _ _ h => h) (Or.inl ⟨by rfl, ?hya11⟩) hHeld ?resta11
    case hya11 =>
      intro W hSw
      have x0 := hSw.1
      have x1 := hSw.2
      go_simp
      try with_reducible rfl
    try simp only [Act.put, List.setIfInBounds_toArray, List.set_cons_zero, List.set_cons_succ]
    refine wpAnyH_take (i := 12) (oi := { dst := some 4, op := Op.assign (Operand.tmp 27), type := 22, pos := "file.go:14", after := #[{ on := 10, ground := Ground.data }, { on := 8, ground := Ground.chain }, { on := 0, ground := Ground.phase }, { on := 1, ground := Ground.phase }, { on := 2, ground := Ground.phase }, { on := 3, ground := Ground.phase }, { on := 4, ground := Ground.phase }, { on := 5, ground := Ground.phase }, { on := 6, ground := Ground.phase }, { on := 7, ground := Ground.phase }, { on := 8, ground := Ground.phase }, { on := 9, ground := Ground.phase }, { on := 10, ground := Ground.phase }, { on := 11, ground := Ground.textOnly Departure.lateStores }], guard := none }) (v := ?va12) rfl (by kernel_rfl) (by kernel_rfl) (by kernel_rfl) (fun _ _ _ h => h) (Or.inl ⟨by rfl, ?hya12⟩) hHeld ?resta12
    case hya12 =>
      intro W hSw
      have x0 := hSw.1
      have x1 := hSw.2
      go_simp
      try with_reducible rfl
    try simp only [Act.put, List.setIfInBounds_toArray, List.set_cons_zero, List.set_cons_succ]
    refine wpAnyH_take (i := 13) (oi := { dst := some 5, op := Op.assign (Operand.tmp 28), type := 25, pos := "file.go:14", after := #[{ on := 11, ground := Ground.data }, { on := 12, ground := Ground.chain }, { on := 0, ground := Ground.phase }, { on := 1, ground := Ground.phase }, { on := 2, ground := Ground.phase }, { on := 3, ground := Ground.phase }, { on := 4, ground := Ground.phase }, { on := 5, ground := Ground.phase }, { on := 6, ground := Ground.phase }, { on := 7, ground := Ground.phase }, { on := 8, ground := Ground.phase }, { on := 9, ground := Ground.phase }, { on := 10, ground := Ground.phase }, { on := 11, ground := Ground.phase }, { on := 12, ground := Ground.phase }], guard := none }) (v := ?va13) rfl (by kernel_rfl) (by kernel_rfl) (by kernel_rfl) (fun _ _ _ h => h) (Or.inl ⟨by rfl, ?hya13⟩) hHeld ?resta13
    case hya13 =>
      intro W hSw
      have x0 := hSw.1
      have x1 := hSw.2
      go_simp
      try with_reducible rfl
    try simp only [Act.put, List.setIfInBounds_toArray, List.set_cons_zero, List.set_cons_succ]
    refine wpAnyH_done (by kernel_rfl) ?_ _
    clear hHeld
    by_cases h0 : er = 0
    · subst h0
      have hlen := (HA.out.arg w2 fun z hz => HL.out.at_ z (List.mem_cons_of_mem _ hz)).len
      have hb9 := HLL.out
      have hbyt := (HA.out.arg w2 fun z hz => HL.out.at_ z (List.mem_cons_of_mem _ hz)).byt
      have SC := Lib.hid (scan_any w2 w2.heap.size A n c b hbyt (Nat.le_refl _) (RowForm.of HF.out) (by omega))
      have hsn := scan_le b.length b rfl
      have hse := scan_ends b.length b rfl
      have HSN := Lib.hid hsn
      have HNN := Lib.hid hlen
      have hB := HB.out.2 rfl
      have HB2 := Lib.hid hB
      clear hbyt hlen hb9 HB hB hsn
      generalize hscv : scan b = sc at *
      obtain ⟨rs, whole, ee⟩ := sc
      clear hscv
      simp only at SC HB2 hse HSN
      go_wp2_with fail
      refine SC.out.mono ?_
      rintro e w3 ⟨A3, m3, c3, rfl, hrow, hm3, hn3⟩
      obtain ⟨Z2, hsub2, hl3, hstz⟩ := HL.out.ownS hn3 hrow (by have := HLL.out; have := HNN.out; omega)
      have HL3 := Lib.hid hl3
      have HS2 := Lib.hid hsub2
      have HZ := Lib.hid hstz
      have hml : rs.length = m3 := hstz.len (fun z hz => hl3.at_ z (List.mem_cons_of_mem _ hz))
      clear hl3 hsub2 hstz hrow hn3 SC HL
      rcases hse with rfl | rfl
      · have MD := Lib.hid (lmend_any HL3.out HK.out E1.out A n c b (HA.out.more fun z hz => HS2.out.subset hz) whole (by have := HSN.out.1; have := HNN.out; omega) (m3 : Int))
        have hB3 := HB2.out.2 rfl
        rw [hml] at hB3
        have HB3 := Lib.hid hB3
        clear hB3 HB2 hml
        go_wp2_with fail
        refine MD.out.mono ?_
        rintro e w4 ⟨rfl, hl4⟩
        have HL4 := Lib.hid hl4
        clear hl4 MD HL3
        go_wp2
        go_ret2
        rw [HB3.out]
        exact ⟨A3, m3, c3, Z2, rfl, HS.out.trans HS2.out, HL4.out, HZ.out⟩
      · have hB3 := HB2.out.1 (by decide)
        have HB3 := Lib.hid hB3
        clear hB3 HB2 hml
        go_wp2
        go_ret2
        rw [HB3.out]
        exact ⟨none, 0, 0, Z2, rfl, HS.out.trans HS2.out, HL3.out.up (by omega), StrZ.nil _⟩
    · have hB3 := HB.out.1 h0
      have HB3 := Lib.hid hB3
      clear hB3 HB
      go_wp2
      go_ret2
      rw [HB3.out]
      exact ⟨none, 0, 0, Z1, rfl, HS.out, HL.out.up (by omega), StrZ.nil _⟩
end
end Go.Proofs.YtiikjdjpodmpcaaGreat
