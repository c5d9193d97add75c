/- The reference: block. -/
import Derived.Test.YtpgjnmakpghamaaDoorRfSched
import Derived.Test.YtpgjnmakpghamaaDoorDgBlock
namespace Go.Proofs.YtpgjnmakpghamaaDoor
open Go.RowKit
set_option linter.unusedVariables false

/-- What the walk of block keeps: the constants, the state, the result, the words, the bytes. -/
structure RB (w wr : World) (k s W : List Nat) (A : Option Addr) (c : Nat) (l : List UInt8) : Prop where
  k0 : BlkIs wr w.heap.size 31 (u32s k)
  s0 : BlkIs wr (w.heap.size + 1) 29 (u32s s)
  r0 : BlkIs wr (w.heap.size + 1 + 1) 29 (u32s (filled H0 0))
  w0 : BlkIs wr (w.heap.size + 1 + 1 + 1) 31 (u32s W)
  by0 : Byt wr w.heap.size A 64 c l
  here : Below w.heap.size w wr
theorem RB.below {w wr w' : World} {k s W : List Nat} {A : Option Addr} {c : Nat} {l : List UInt8} (h : RB w wr k s W A c l) (hb : Below wr.heap.size wr w') : RB w w' k s W A c l :=
  ⟨h.k0.here hb, h.s0.here hb, h.r0.here hb, h.w0.here hb, h.by0.below hb h.here.size, Below.onR h.here hb⟩
theorem RB.drew {w wr : World} {k s W : List Nat} {A : Option Addr} {c : Nat} {l : List UInt8} (h : RB w wr k s W A c l) : RB w wr.drew k s W A c l := ⟨h.k0, h.s0, h.r0, h.w0, h.by0.drew, h.here.drew⟩
theorem RB.setw {w wr : World} {k s W : List Nat} {A : Option Addr} {c : Nat} {l : List UInt8} (h : RB w wr k s W A c l) (t x : Nat) : RB w (wr.setCell ⟨w.heap.size + 1 + 1 + 1, t, none⟩ (.int .u32 (x : Int))) k s (W.set t x) A c l := by
  have g := grown_set wr (w.heap.size + 1 + 1 + 1) t (.int .u32 (x : Int))
  refine ⟨h.k0.grown g (by intro e; injection e with e; omega), h.s0.grown g (by intro e; injection e with e; omega), h.r0.grown g (by intro e; injection e with e; omega), ?_, h.by0.keep fun p hp => ?_, h.here.grown g h.here.size (by intro q hq; injection hq with hq; omega)⟩
  · have := h.w0.set t (.int .u32 (x : Int))
    rwa [u32s_set] at this
  · have hb := g.block p.block (Nat.lt_of_lt_of_le hp h.here.size) (by intro e; injection e with e; omega)
    unfold World.cell?
    rw [hb]
theorem cell_of_heap {W W' : World} {g : Nat} (h : W.heap[g]? = W'.heap[g]?) (o : Nat) : W.cell? ⟨g, o, none⟩ = W'.cell? ⟨g, o, none⟩ := by
  unfold World.cell?
  rw [h]
theorem RB.heap {w wr wr' : World} {k s W : List Nat} {A : Option Addr} {c : Nat} {l : List UInt8} (h : RB w wr k s W A c l) (e : wr'.heap = wr.heap) (e1 : wr'.os = wr.os) (e2 : wr'.tape = wr.tape) (e3 : wr'.output = wr.output) : RB w wr' k s W A c l := by
  refine h.below ⟨e1, e2, e3, by rw [e]; exact Nat.le_refl _, fun k _ => by rw [e]⟩
theorem right2 (w : World) (x g a b : Nat) (hx : x < 4294967296) (ha : 1 ≤ a ∧ a ≤ 31) (hb : 1 ≤ b ∧ b ≤ 31) (h : BlkIs w g 3 #[.int .i64 (a : Int), .int .i64 (b : Int)]) :
    Calls Tryd.prog 47 #[.int .u32 x, .slice (some ⟨g, 0, none⟩) 2 2] w fun e w' => e = .returned (.int .u32 (rotN x [a, b] : Nat)) ∧ Below w.heap.size w w' :=
  right_any w x g [a, b] hx (by simp) (by intro n hn; simp only [List.mem_cons, List.not_mem_nil, or_false] at hn; rcases hn with rfl | rfl <;> assumption) (fun j hj => by
    rw [h.cell]
    rcases j with _ | _ | j
    · rfl
    · rfl
    · simp at hj; omega)
theorem held_set (W : World) (g t a b x y v : Nat) (ha : t ≠ a) (hb : t ≠ b) (h1 : W.cell? ⟨g, a, none⟩ = some (.int .u32 (x : Int))) (h2 : W.cell? ⟨g, b, none⟩ = some (.int .u32 (y : Int))) :
    (W.setCell ⟨g, t, none⟩ (.int .u32 (v : Int))).cell? ⟨g, a, none⟩ = some (.int .u32 (x : Int)) ∧ (W.setCell ⟨g, t, none⟩ (.int .u32 (v : Int))).cell? ⟨g, b, none⟩ = some (.int .u32 (y : Int)) := by
  constructor
  · rw [World.cell?_setCell_other (h := by intro e; injection e with _ e; omega)]
    exact h1
  · rw [World.cell?_setCell_other (h := by intro e; injection e with _ e; omega)]
    exact h2
theorem RB.start (w : World) (k s : List Nat) (A : Option Addr) (c : Nat) (l : List UInt8) (h : Byt w w.heap.size A 64 c l) :
    RB w ((((w.alloc (.cells (u32s k) 31)).alloc (.cells (u32s s) 29)).alloc (.cells (u32s (filled H0 0)) 29)).alloc (.cells (u32s (filled K0 0)) 31)) k s (List.replicate 64 0) A c l := by
  have hb : Below w.heap.size w ((((w.alloc (.cells (u32s k) 31)).alloc (.cells (u32s s) 29)).alloc (.cells (u32s (filled H0 0)) 29)).alloc (.cells (u32s (filled K0 0)) 31)) :=
    ((((Below.refl _ _).alloc (Nat.le_refl _) _).alloc (by simp) _).alloc (by simp; omega) _).alloc (by simp; omega) _
  refine ⟨?_, ?_, ?_, ?_, h.same hb, hb⟩
  · exact (BlkIs.new w _ _).here ((((Below.refl _ _).alloc (Nat.le_refl _) _).alloc (by simp) _).alloc (by simp <;> omega) _)
  · have h1 := BlkIs.new (w.alloc (.cells (u32s k) 31)) 29 (u32s s)
    have h2 := h1.here (((Below.refl _ _).alloc (Nat.le_refl _) (.cells (u32s (filled H0 0)) 29)).alloc (by simp) (.cells (u32s (filled K0 0)) 31))
    simpa using h2
  · have h1 := BlkIs.new ((w.alloc (.cells (u32s k) 31)).alloc (.cells (u32s s) 29)) 29 (u32s (filled H0 0))
    have h2 := h1.here ((Below.refl _ _).alloc (Nat.le_refl _) (.cells (u32s (filled K0 0)) 31))
    simpa using h2
  · have h1 := BlkIs.new (((w.alloc (.cells (u32s k) 31)).alloc (.cells (u32s s) 29)).alloc (.cells (u32s (filled H0 0)) 29)) 31 (u32s (filled K0 0))
    rw [show List.replicate 64 0 = filled K0 0 by rw [filled_zero, K0_length]]
    simpa using h1

/-- What the rounds keep beside the state in the block g. -/
structure RX (w wr : World) (g : Nat) (k s r W x : List Nat) : Prop where
  k0 : BlkIs wr w.heap.size 31 (u32s k)
  s0 : BlkIs wr (w.heap.size + 1) 29 (u32s s)
  r0 : BlkIs wr (w.heap.size + 1 + 1) 29 (u32s r)
  w0 : BlkIs wr (w.heap.size + 1 + 1 + 1) 31 (u32s W)
  x0 : BlkIs wr g 29 (u32s x)
  far : w.heap.size + 1 + 1 + 1 < g
  here : Below w.heap.size w wr
theorem RX.below {w wr w' : World} {g : Nat} {k s r W x : List Nat} (h : RX w wr g k s r W x) (hb : Below wr.heap.size wr w') : RX w w' g k s r W x :=
  ⟨h.k0.here hb, h.s0.here hb, h.r0.here hb, h.w0.here hb, h.x0.here hb, h.far, Below.onR h.here hb⟩
theorem RX.heap {w wr wr' : World} {g : Nat} {k s r W x : List Nat} (h : RX w wr g k s r W x) (e : wr'.heap = wr.heap) (e1 : wr'.os = wr.os) (e2 : wr'.tape = wr.tape) (e3 : wr'.output = wr.output) : RX w wr' g k s r W x :=
  h.below ⟨e1, e2, e3, by rw [e]; exact Nat.le_refl _, fun k _ => by rw [e]⟩
theorem RX.drew {w wr : World} {g : Nat} {k s r W x : List Nat} (h : RX w wr g k s r W x) : RX w wr.drew g k s r W x := h.heap rfl rfl rfl rfl
theorem RX.setRow {w wr : World} {g : Nat} {k s r W x : List Nat} (h : RX w wr g k s r W x) (y : List Nat) : RX w (wr.setRow g (u32s y)) g k s r W y := by
  have G := grown_setRow wr g (u32s y)
  have hf := h.far
  exact ⟨h.k0.grown G (by intro e; injection e with e; omega), h.s0.grown G (by intro e; injection e with e; omega), h.r0.grown G (by intro e; injection e with e; omega), h.w0.grown G (by intro e; injection e with e; omega), heap_setRow_same h.x0 _, h.far, h.here.grown G h.here.size (by intro q hq; injection hq with hq; omega)⟩
theorem RX.setx {w wr : World} {g : Nat} {k s r W x : List Nat} (h : RX w wr g k s r W x) (i v : Nat) : RX w (wr.setCell ⟨g, i, none⟩ (.int .u32 (v : Int))) g k s r W (x.set i v) := by
  have G := grown_set wr g i (.int .u32 (v : Int))
  have hf := h.far
  have hx := h.x0.set i (.int .u32 (v : Int))
  rw [u32s_set] at hx
  exact ⟨h.k0.grown G (by intro e; injection e with e; omega), h.s0.grown G (by intro e; injection e with e; omega), h.r0.grown G (by intro e; injection e with e; omega), h.w0.grown G (by intro e; injection e with e; omega), hx, h.far, h.here.grown G h.here.size (by intro q hq; injection hq with hq; omega)⟩
theorem right3 (w : World) (x g a b d : Nat) (hx : x < 4294967296) (ha : 1 ≤ a ∧ a ≤ 31) (hb : 1 ≤ b ∧ b ≤ 31) (hd : 1 ≤ d ∧ d ≤ 31) (h : BlkIs w g 3 #[.int .i64 (a : Int), .int .i64 (b : Int), .int .i64 (d : Int)]) :
    Calls Tryd.prog 47 #[.int .u32 x, .slice (some ⟨g, 0, none⟩) 3 3] w fun e w' => e = .returned (.int .u32 (rotN x [a, b, d] : Nat)) ∧ Below w.heap.size w w' :=
  right_any w x g [a, b, d] hx (by simp) (by intro n hn; simp only [List.mem_cons, List.not_mem_nil, or_false] at hn; rcases hn with rfl | rfl | rfl <;> assumption) (fun j hj => by
    rw [h.cell]
    rcases j with _ | _ | _ | j
    · rfl
    · rfl
    · rfl
    · simp at hj; omega)
theorem plus_turn (s r : List Nat) (hs : s.length = 8) (hr : r.length = 8) : plusGo r s 8 = plusGo s r 8 := by
  match s, r, hs, hr with
  | [a, b, c, d, e, f, g, h], [a', b', c', d', e', f', g', h'], _, _ =>
    simp [plusGo, add32, Nat.add_comm]

set_option maxRecDepth 100000 in
set_option maxHeartbeats 20000000 in
theorem rblock_any (w : World) (k s : List Nat) (A : Option Addr) (c : Nat) (l : List UInt8) (hk : k.length = 64) (hkw : Words k) (hs : s.length = 8) (hsw : Words s) (hb : Byt w w.heap.size A 64 c l) :
    Calls Tryd.prog 38 #[.agg (u32s k), .agg (u32s s), .slice A 64 c] w fun e w' => e = .returned (.agg (u32s (mixedN s (nums l) k))) ∧ Below w.heap.size w w' := by
  have hst := RB.start w k s A c l hb
  have Hk := Lib.hid hk
  have Hkw := Lib.hid hkw
  have Hs := Lib.hid hs
  have Hsw := Lib.hid hsw
  have Hst := Lib.hid hst
  have Hnb := Lib.hid (nums_bytes l)
  have Hll := Lib.hid hb.len
  obtain ⟨gb, ob, rfl, hgb, -⟩ := hb.lies (by omega)
  have hle := hb.le
  have hcap := hb.cap
  unfold maxLen at hcap
  clear hk hkw hs hsw hst hb
  go_enter Tryd.func38, Tryd.ntmps38
  go_upto_region 2 with fail
  rw [← zeros8, ← zeros64]
  generalize (((w.alloc (.cells (u32s k) 31)).alloc (.cells (u32s s) 29)).alloc (.cells (u32s (filled H0 0)) 29)).alloc (.cells (u32s (filled K0 0)) 31) = W0 at *
  go_wp2
  go_loopw [8] (fun x wr => ∃ t : Nat, x = .int .i64 t ∧ t ≤ 64 ∧ RB w wr k s (rsGo (nums l) t) (some ⟨gb, ob, none⟩) c l) (fun x _ => 64 - (intOf x).toNat)
  case atStart => exact ⟨0, rfl, by omega, Hst.out⟩
  case round =>
    obtain ⟨t, rfl, ht, hrel⟩ := hrel
    clear Hst
    have Hrel := Lib.hid hrel
    clear hrel
    by_cases hlt : t < 64
    · have d1 : decide ((t : Int) < 64) = true := by simp; omega
      have hW : ∀ j, j < 64 → wr.drew.cell? ⟨w.heap.size + 1 + 1 + 1, j, none⟩ = some (.int .u32 ((rsGo (nums l) t).getD j 0 : Nat)) := fun j hj => by
        show wr.cell? _ = _
        rw [Hrel.out.w0.cell]
        exact u32s_get _ _ (by rw [rsGo_length]; exact hj)
      have HW := Lib.hid hW
      have hc1 := hW t hlt
      have hf1 := Hrel.out.drew.w0.frozen t
      clear hW
      by_cases h16 : t < 16
      · have d2 : decide ((t : Int) < 16) = true := by simp; omega
        have hcell : ∀ j, j < 64 → wr.drew.cell? ⟨gb, ob + j, none⟩ = some (.int .u8 ((nums l).getD j 0 : Nat)) := by
          obtain ⟨b', o', e', _, hall⟩ := Hrel.out.drew.by0.lies (by omega)
          injection e' with e'
          injection e' with e1 e2 e3
          subst e1 e2
          intro j hj
          rw [hall j hj]
          congr 2
          unfold nth nums
          rw [List.getD, List.getD, List.getElem?_map]
          cases l[j]? <;> rfl
        have b0 := Hnb.out (4 * t)
        have b1 := Hnb.out (4 * t + 1)
        have b2 := Hnb.out (4 * t + 2)
        have b3 := Hnb.out (4 * t + 3)
        have hs0 := hcell (4 * t) (by omega)
        have hs1 := hcell (4 * t + 1) (by omega)
        have hs2 := hcell (4 * t + 2) (by omega)
        have hs3 := hcell (4 * t + 3) (by omega)
        have hset : rsGo (nums l) (t + 1) = (rsGo (nums l) t).set t (wd (nums l) t) := by rw [rsGo, if_pos h16]
        have Hset := Lib.hid hset
        have hwd : wd (nums l) t = (nums l).getD (4 * t) 0 * 16777216 + (nums l).getD (4 * t + 1) 0 * 65536 + (nums l).getD (4 * t + 2) 0 * 256 + (nums l).getD (4 * t + 3) 0 := rfl
        generalize wd (nums l) t = wv at *
        generalize (nums l).getD (4 * t) 0 = v0 at *
        generalize (nums l).getD (4 * t + 1) 0 = v1 at *
        generalize (nums l).getD (4 * t + 2) 0 = v2 at *
        generalize (nums l).getD (4 * t + 3) 0 = v3 at *
        have Hwd := Lib.hid hwd
        obtain ⟨j0, hj0⟩ : ∃ j, 4 * t = j := ⟨_, rfl⟩
        obtain ⟨j1, hj1⟩ : ∃ j, j0 + 1 = j := ⟨_, rfl⟩
        obtain ⟨j2, hj2⟩ : ∃ j, j0 + 2 = j := ⟨_, rfl⟩
        obtain ⟨j3, hj3⟩ : ∃ j, j0 + 3 = j := ⟨_, rfl⟩
        rw [hj0] at hs0 hs1 hs2 hs3
        rw [hj1] at hs1
        rw [hj2] at hs2
        rw [hj3] at hs3
        have m0 : IntKind.i64.wrap (4 * (t : Int)) = (j0 : Int) := by rw [IntWalk.i64_in _ (by omega)]; omega
        have m1 : IntKind.i64.wrap ((j0 : Int) + 1) = (j1 : Int) := by rw [IntWalk.i64_in _ (by omega)]; omega
        have m2 : IntKind.i64.wrap ((j0 : Int) + 2) = (j2 : Int) := by rw [IntWalk.i64_in _ (by omega)]; omega
        have m3 : IntKind.i64.wrap ((j0 : Int) + 3) = (j3 : Int) := by rw [IntWalk.i64_in _ (by omega)]; omega
        have n0 : (j0 : Int) < 64 := by omega
        have n1 : (j1 : Int) < 64 := by omega
        have n2 : (j2 : Int) < 64 := by omega
        have n3 : (j3 : Int) < 64 := by omega
        have o0 : j0 < 64 := by omega
        have o1 : j1 < 64 := by omega
        have o2 : j2 < 64 := by omega
        have o3 : j3 < 64 := by omega
        clear hj0 hj1 hj2 hj3
        have it : (t : Int) < 64 := by omega
        obtain ⟨x0, hx0⟩ : ∃ x, v0 * 16777216 = x := ⟨_, rfl⟩
        obtain ⟨x1, hx1⟩ : ∃ x, v1 * 65536 = x := ⟨_, rfl⟩
        obtain ⟨x2, hx2⟩ : ∃ x, v2 * 256 = x := ⟨_, rfl⟩
        obtain ⟨y1, hy1⟩ : ∃ y, x0 + x1 = y := ⟨_, rfl⟩
        obtain ⟨y2, hy2⟩ : ∃ y, y1 + x2 = y := ⟨_, rfl⟩
        rw [hx0, hx1, hx2, hy1, hy2] at hwd
        have p0 : IntKind.u32.wrap (v0 : Int) = (v0 : Int) := IntWalk.u32_in _ (by omega)
        have p1 : IntKind.u32.wrap (v1 : Int) = (v1 : Int) := IntWalk.u32_in _ (by omega)
        have p2 : IntKind.u32.wrap (v2 : Int) = (v2 : Int) := IntWalk.u32_in _ (by omega)
        have p3 : IntKind.u32.wrap (v3 : Int) = (v3 : Int) := IntWalk.u32_in _ (by omega)
        have s0 : IntKind.u32.wrap ((v0 : Int) * 16777216) = (x0 : Int) := by rw [IntWalk.u32_in _ (by omega)]; omega
        have s1 : IntKind.u32.wrap ((v1 : Int) * 65536) = (x1 : Int) := by rw [IntWalk.u32_in _ (by omega)]; omega
        have s2 : IntKind.u32.wrap ((v2 : Int) * 256) = (x2 : Int) := by rw [IntWalk.u32_in _ (by omega)]; omega
        have a1 : IntKind.u32.wrap ((x0 : Int) + (x1 : Int)) = (y1 : Int) := by rw [IntWalk.u32_in _ (by omega)]; omega
        have a2 : IntKind.u32.wrap ((y1 : Int) + (x2 : Int)) = (y2 : Int) := by rw [IntWalk.u32_in _ (by omega)]; omega
        have a3 : IntKind.u32.wrap ((y2 : Int) + (v3 : Int)) = (wv : Int) := by rw [IntWalk.u32_in _ (by omega)]; omega
        clear hx0 hx1 hx2 hy1 hy2
        have Hcell2 : Hid (∀ o u, (wr.setCell ⟨w.heap.size + 1 + 1 + 1, t, none⟩ u).drew.cell? ⟨gb, o, none⟩ = wr.drew.cell? ⟨gb, o, none⟩) := fun o u => by
          have g := grown_set wr (w.heap.size + 1 + 1 + 1) t u
          have hb := g.block gb (Nat.lt_of_lt_of_le hgb Hrel.out.here.size) (by intro e; injection e with e; omega)
          exact cell_of_heap hb o
        have H4 := Lib.hid (And.intro hs0 (And.intro hs1 (And.intro hs2 hs3)))
        clear hcell hset hs0 hs1 hs2 hs3 hwd
        go_upto_region 6 with fail
        refine wp_region_held_drew (S := fun W => W.cell? ⟨gb, ob + j0, none⟩ = some (.int .u8 (v0 : Int)) ∧ W.cell? ⟨gb, ob + j1, none⟩ = some (.int .u8 (v1 : Int)) ∧ W.cell? ⟨gb, ob + j2, none⟩ = some (.int .u8 (v2 : Int)) ∧ W.cell? ⟨gb, ob + j3, none⟩ = some (.int .u8 (v3 : Int))) (by kernel_rfl) H4.out (fun hHeld => ?_)
        change wpAnyH _ _ _ _ _ 36 (Array.replicate 36 false) _ _
        refine wpAnyH_take (i := 0) (oi := { dst := some 24, op := Op.move (Operand.tmp 8), type := 3, pos := "ref.go:83", after := #[], guard := none }) (v := ?va0) rfl (by kernel_rfl) (by kernel_rfl) (by kernel_rfl) (fun _ _ _ h => h) (Or.inl ⟨by rfl, ?hya0⟩) hHeld ?resta0
        case hya0 =>
          intro W hSw
          go_simp
          try with_reducible rfl
        try simp only [Act.put, List.setIfInBounds_toArray, List.set_cons_zero, List.set_cons_succ]
        refine wpAnyH_take (i := 1) (oi := { dst := some 25, op := Op.move (Operand.tmp 2), type := 33, pos := "ref.go:83", after := #[], guard := none }) (v := ?va1) rfl (by kernel_rfl) (by kernel_rfl) (by kernel_rfl) (fun _ _ _ h => h) (Or.inl ⟨by rfl, ?hya1⟩) hHeld ?resta1
        case hya1 =>
          intro W hSw
          go_simp
          try with_reducible rfl
        try simp only [Act.put, List.setIfInBounds_toArray, List.set_cons_zero, List.set_cons_succ]
        refine wpAnyH_take (i := 2) (oi := { dst := some 26, op := Op.move (Operand.tmp 8), type := 3, pos := "ref.go:83", after := #[], guard := none }) (v := ?va2) rfl (by kernel_rfl) (by kernel_rfl) (by kernel_rfl) (fun _ _ _ h => h) (Or.inl ⟨by rfl, ?hya2⟩) hHeld ?resta2
        case hya2 =>
          intro W hSw
          go_simp
          try with_reducible rfl
        try simp only [Act.put, List.setIfInBounds_toArray, List.set_cons_zero, List.set_cons_succ]
        refine wpAnyH_take (i := 3) (oi := { dst := some 27, op := Op.binOp BinOp.mul 3 (Operand.const (Value.int IntKind.i64 4)) (Operand.tmp 26) 3, type := 3, pos := "ref.go:83", after := #[{ on := 2, ground := Ground.data }], guard := none }) (v := ?va3) rfl (by kernel_rfl) (by kernel_rfl) (by kernel_rfl) (fun _ _ _ h => h) (Or.inl ⟨by rfl, ?hya3⟩) hHeld ?resta3
        case hya3 =>
          intro W hSw
          go_simp
          try with_reducible rfl
        try simp only [Act.put, List.setIfInBounds_toArray, List.set_cons_zero, List.set_cons_succ]
        refine wpAnyH_take (i := 4) (oi := { dst := some 28, op := Op.indexAddr 33 (Operand.tmp 25) (Operand.tmp 27), type := 0, pos := "ref.go:83", after := #[{ on := 1, ground := Ground.data }, { on := 3, ground := Ground.data }], guard := none }) (v := ?va4) rfl (by kernel_rfl) (by kernel_rfl) (by kernel_rfl) (fun _ _ _ h => h) (Or.inl ⟨by rfl, ?hya4⟩) hHeld ?resta4
        case hya4 =>
          intro W hSw
          go_simp
          try with_reducible rfl
        try simp only [Act.put, List.setIfInBounds_toArray, List.set_cons_zero, List.set_cons_succ]
        refine wpAnyH_take (i := 5) (oi := { dst := some 29, op := Op.load 5 (Operand.tmp 28), type := 5, pos := "ref.go:83", after := #[{ on := 4, ground := Ground.data }], guard := none }) (v := ?va5) rfl (by kernel_rfl) (by kernel_rfl) (by kernel_rfl) (fun _ _ _ h => h) (Or.inl ⟨by rfl, ?hya5⟩) hHeld ?resta5
        case hya5 =>
          intro W hSw
          obtain ⟨q0, q1, q2, q3⟩ := (hSw : W.cell? ⟨gb, ob + j0, none⟩ = some (.int .u8 (v0 : Int)) ∧ W.cell? ⟨gb, ob + j1, none⟩ = some (.int .u8 (v1 : Int)) ∧ W.cell? ⟨gb, ob + j2, none⟩ = some (.int .u8 (v2 : Int)) ∧ W.cell? ⟨gb, ob + j3, none⟩ = some (.int .u8 (v3 : Int)))
          go_simp
          try with_reducible rfl
        try simp only [Act.put, List.setIfInBounds_toArray, List.set_cons_zero, List.set_cons_succ]
        refine wpAnyH_take (i := 6) (oi := { dst := some 30, op := Op.convert 5 28 (Operand.tmp 29), type := 28, pos := "ref.go:83", after := #[{ on := 5, ground := Ground.data }], guard := none }) (v := ?va6) rfl (by kernel_rfl) (by kernel_rfl) (by kernel_rfl) (fun _ _ _ h => h) (Or.inl ⟨by rfl, ?hya6⟩) hHeld ?resta6
        case hya6 =>
          intro W hSw
          go_simp
          try with_reducible rfl
        try simp only [Act.put, List.setIfInBounds_toArray, List.set_cons_zero, List.set_cons_succ]
        refine wpAnyH_take (i := 7) (oi := { dst := some 31, op := Op.binOp BinOp.shl 28 (Operand.tmp 30) (Operand.const (Value.int IntKind.u64 24)) 50, type := 28, pos := "ref.go:83", after := #[{ on := 6, ground := Ground.data }], guard := none }) (v := ?va7) rfl (by kernel_rfl) (by kernel_rfl) (by kernel_rfl) (fun _ _ _ h => h) (Or.inl ⟨by rfl, ?hya7⟩) hHeld ?resta7
        case hya7 =>
          intro W hSw
          go_simp
          try with_reducible rfl
        try simp only [Act.put, List.setIfInBounds_toArray, List.set_cons_zero, List.set_cons_succ]
        refine wpAnyH_take (i := 8) (oi := { dst := some 32, op := Op.move (Operand.tmp 2), type := 33, pos := "ref.go:83", after := #[], guard := none }) (v := ?va8) rfl (by kernel_rfl) (by kernel_rfl) (by kernel_rfl) (fun _ _ _ h => h) (Or.inl ⟨by rfl, ?hya8⟩) hHeld ?resta8
        case hya8 =>
          intro W hSw
          go_simp
          try with_reducible rfl
        try simp only [Act.put, List.setIfInBounds_toArray, List.set_cons_zero, List.set_cons_succ]
        refine wpAnyH_take (i := 9) (oi := { dst := some 33, op := Op.move (Operand.tmp 8), type := 3, pos := "ref.go:83", after := #[], guard := none }) (v := ?va9) rfl (by kernel_rfl) (by kernel_rfl) (by kernel_rfl) (fun _ _ _ h => h) (Or.inl ⟨by rfl, ?hya9⟩) hHeld ?resta9
        case hya9 =>
          intro W hSw
          go_simp
          try with_reducible rfl
        try simp only [Act.put, List.setIfInBounds_toArray, List.set_cons_zero, List.set_cons_succ]
        refine wpAnyH_take (i := 10) (oi := { dst := some 34, op := Op.binOp BinOp.mul 3 (Operand.const (Value.int IntKind.i64 4)) (Operand.tmp 33) 3, type := 3, pos := "ref.go:83", after := #[{ on := 9, ground := Ground.data }], guard := none }) (v := ?va10) rfl (by kernel_rfl) (by kernel_rfl) (by kernel_rfl) (fun _ _ _ h => h) (Or.inl ⟨by rfl, ?hya10⟩) hHeld ?resta10
        case hya10 =>
          intro W hSw
          go_simp
          try with_reducible rfl
        try simp only [Act.put, List.setIfInBounds_toArray, List.set_cons_zero, List.set_cons_succ]
        refine wpAnyH_take (i := 11) (oi := { dst := some 35, op := Op.binOp BinOp.add 3 (Operand.tmp 34) (Operand.const (Value.int IntKind.i64 1)) 3, type := 3, pos := "ref.go:83", after := #[{ on := 10, ground := Ground.data }], guard := none }) (v := ?va11) rfl (by kernel_rfl) (by kernel_rfl) (by kernel_rfl) (fun _ _ _ h => h) (Or.inl ⟨by rfl, ?hya11⟩) hHeld ?resta11
        case hya11 =>
          intro W hSw
          go_simp
          try with_reducible rfl
        try simp only [Act.put, List.setIfInBounds_toArray, List.set_cons_zero, List.set_cons_succ]
        refine wpAnyH_take (i := 12) (oi := { dst := some 36, op := Op.indexAddr 33 (Operand.tmp 32) (Operand.tmp 35), type := 0, pos := "ref.go:83", after := #[{ on := 8, ground := Ground.data }, { on := 11, ground := Ground.data }], guard := none }) (v := ?va12) rfl (by kernel_rfl) (by kernel_rfl) (by kernel_rfl) (fun _ _ _ h => h) (Or.inl ⟨by rfl, ?hya12⟩) hHeld ?resta12
        case hya12 =>
          intro W hSw
          go_simp
          try with_reducible rfl
        try simp only [Act.put, List.setIfInBounds_toArray, List.set_cons_zero, List.set_cons_succ]
        refine wpAnyH_take (i := 13) (oi := { dst := some 37, op := Op.load 5 (Operand.tmp 36), type := 5, pos := "ref.go:83", after := #[{ on := 12, ground := Ground.data }], guard := none }) (v := ?va13) rfl (by kernel_rfl) (by kernel_rfl) (by kernel_rfl) (fun _ _ _ h => h) (Or.inl ⟨by rfl, ?hya13⟩) hHeld ?resta13
        case hya13 =>
          intro W hSw
          obtain ⟨q0, q1, q2, q3⟩ := (hSw : W.cell? ⟨gb, ob + j0, none⟩ = some (.int .u8 (v0 : Int)) ∧ W.cell? ⟨gb, ob + j1, none⟩ = some (.int .u8 (v1 : Int)) ∧ W.cell? ⟨gb, ob + j2, none⟩ = some (.int .u8 (v2 : Int)) ∧ W.cell? ⟨gb, ob + j3, none⟩ = some (.int .u8 (v3 : Int)))
          go_simp
          try with_reducible rfl
        try simp only [Act.put, List.setIfInBounds_toArray, List.set_cons_zero, List.set_cons_succ]
        refine wpAnyH_take (i := 14) (oi := { dst := some 38, op := Op.convert 5 28 (Operand.tmp 37), type := 28, pos := "ref.go:83", after := #[{ on := 13, ground := Ground.data }], guard := none }) (v := ?va14) rfl (by kernel_rfl) (by kernel_rfl) (by kernel_rfl) (fun _ _ _ h => h) (Or.inl ⟨by rfl, ?hya14⟩) hHeld ?resta14
        case hya14 =>
          intro W hSw
          go_simp
          try with_reducible rfl
        try simp only [Act.put, List.setIfInBounds_toArray, List.set_cons_zero, List.set_cons_succ]
        refine wpAnyH_take (i := 15) (oi := { dst := some 39, op := Op.binOp BinOp.shl 28 (Operand.tmp 38) (Operand.const (Value.int IntKind.u64 16)) 50, type := 28, pos := "ref.go:83", after := #[{ on := 14, ground := Ground.data }], guard := none }) (v := ?va15) rfl (by kernel_rfl) (by kernel_rfl) (by kernel_rfl) (fun _ _ _ h => h) (Or.inl ⟨by rfl, ?hya15⟩) hHeld ?resta15
        case hya15 =>
          intro W hSw
          go_simp
          try with_reducible rfl
        try simp only [Act.put, List.setIfInBounds_toArray, List.set_cons_zero, List.set_cons_succ]
        refine wpAnyH_take (i := 16) (oi := { dst := some 40, op := Op.binOp BinOp.add 28 (Operand.tmp 31) (Operand.tmp 39) 28, type := 28, pos := "ref.go:83", after := #[{ on := 7, ground := Ground.data }, { on := 15, ground := Ground.data }], guard := none }) (v := ?va16) rfl (by kernel_rfl) (by kernel_rfl) (by kernel_rfl) (fun _ _ _ h => h) (Or.inl ⟨by rfl, ?hya16⟩) hHeld ?resta16
        case hya16 =>
          intro W hSw
          go_simp
          try with_reducible rfl
        try simp only [Act.put, List.setIfInBounds_toArray, List.set_cons_zero, List.set_cons_succ]
        refine wpAnyH_take (i := 17) (oi := { dst := some 41, op := Op.move (Operand.tmp 2), type := 33, pos := "ref.go:83", after := #[], guard := none }) (v := ?va17) rfl (by kernel_rfl) (by kernel_rfl) (by kernel_rfl) (fun _ _ _ h => h) (Or.inl ⟨by rfl, ?hya17⟩) hHeld ?resta17
        case hya17 =>
          intro W hSw
          go_simp
          try with_reducible rfl
        try simp only [Act.put, List.setIfInBounds_toArray, List.set_cons_zero, List.set_cons_succ]
        refine wpAnyH_take (i := 18) (oi := { dst := some 42, op := Op.move (Operand.tmp 8), type := 3, pos := "ref.go:83", after := #[], guard := none }) (v := ?va18) rfl (by kernel_rfl) (by kernel_rfl) (by kernel_rfl) (fun _ _ _ h => h) (Or.inl ⟨by rfl, ?hya18⟩) hHeld ?resta18
        case hya18 =>
          intro W hSw
          go_simp
          try with_reducible rfl
        try simp only [Act.put, List.setIfInBounds_toArray, List.set_cons_zero, List.set_cons_succ]
        refine wpAnyH_take (i := 19) (oi := { dst := some 43, op := Op.binOp BinOp.mul 3 (Operand.const (Value.int IntKind.i64 4)) (Operand.tmp 42) 3, type := 3, pos := "ref.go:83", after := #[{ on := 18, ground := Ground.data }], guard := none }) (v := ?va19) rfl (by kernel_rfl) (by kernel_rfl) (by kernel_rfl) (fun _ _ _ h => h) (Or.inl ⟨by rfl, ?hya19⟩) hHeld ?resta19
        case hya19 =>
          intro W hSw
          go_simp
          try with_reducible rfl
        try simp only [Act.put, List.setIfInBounds_toArray, List.set_cons_zero, List.set_cons_succ]
        refine wpAnyH_take (i := 20) (oi := { dst := some 44, op := Op.binOp BinOp.add 3 (Operand.tmp 43) (Operand.const (Value.int IntKind.i64 2)) 3, type := 3, pos := "ref.go:83", after := #[{ on := 19, ground := Ground.data }], guard := none }) (v := ?va20) rfl (by kernel_rfl) (by kernel_rfl) (by kernel_rfl) (fun _ _ _ h => h) (Or.inl ⟨by rfl, ?hya20⟩) hHeld ?resta20
        case hya20 =>
          intro W hSw
          go_simp
          try with_reducible rfl
        try simp only [Act.put, List.setIfInBounds_toArray, List.set_cons_zero, List.set_cons_succ]
        refine wpAnyH_take (i := 21) (oi := { dst := some 45, op := Op.indexAddr 33 (Operand.tmp 41) (Operand.tmp 44), type := 0, pos := "ref.go:83", after := #[{ on := 17, ground := Ground.data }, { on := 20, ground := Ground.data }], guard := none }) (v := ?va21) rfl (by kernel_rfl) (by kernel_rfl) (by kernel_rfl) (fun _ _ _ h => h) (Or.inl ⟨by rfl, ?hya21⟩) hHeld ?resta21
        case hya21 =>
          intro W hSw
          go_simp
          try with_reducible rfl
        try simp only [Act.put, List.setIfInBounds_toArray, List.set_cons_zero, List.set_cons_succ]
        refine wpAnyH_take (i := 22) (oi := { dst := some 46, op := Op.load 5 (Operand.tmp 45), type := 5, pos := "ref.go:83", after := #[{ on := 21, ground := Ground.data }], guard := none }) (v := ?va22) rfl (by kernel_rfl) (by kernel_rfl) (by kernel_rfl) (fun _ _ _ h => h) (Or.inl ⟨by rfl, ?hya22⟩) hHeld ?resta22
        case hya22 =>
          intro W hSw
          obtain ⟨q0, q1, q2, q3⟩ := (hSw : W.cell? ⟨gb, ob + j0, none⟩ = some (.int .u8 (v0 : Int)) ∧ W.cell? ⟨gb, ob + j1, none⟩ = some (.int .u8 (v1 : Int)) ∧ W.cell? ⟨gb, ob + j2, none⟩ = some (.int .u8 (v2 : Int)) ∧ W.cell? ⟨gb, ob + j3, none⟩ = some (.int .u8 (v3 : Int)))
          go_simp
          try with_reducible rfl
        try simp only [Act.put, List.setIfInBounds_toArray, List.set_cons_zero, List.set_cons_succ]
        refine wpAnyH_take (i := 23) (oi := { dst := some 47, op := Op.convert 5 28 (Operand.tmp 46), type := 28, pos := "ref.go:83", after := #[{ on := 22, ground := Ground.data }], guard := none }) (v := ?va23) rfl (by kernel_rfl) (by kernel_rfl) (by kernel_rfl) (fun _ _ _ h => h) (Or.inl ⟨by rfl, ?hya23⟩) hHeld ?resta23
        case hya23 =>
          intro W hSw
          go_simp
          try with_reducible rfl
        try simp only [Act.put, List.setIfInBounds_toArray, List.set_cons_zero, List.set_cons_succ]
        refine wpAnyH_take (i := 24) (oi := { dst := some 48, op := Op.binOp BinOp.shl 28 (Operand.tmp 47) (Operand.const (Value.int IntKind.u64 8)) 50, type := 28, pos := "ref.go:83", after := #[{ on := 23, ground := Ground.data }], guard := none }) (v := ?va24) rfl (by kernel_rfl) (by kernel_rfl) (by kernel_rfl) (fun _ _ _ h => h) (Or.inl ⟨by rfl, ?hya24⟩) hHeld ?resta24
        case hya24 =>
          intro W hSw
          go_simp
          try with_reducible rfl
        try simp only [Act.put, List.setIfInBounds_toArray, List.set_cons_zero, List.set_cons_succ]
        refine wpAnyH_take (i := 25) (oi := { dst := some 49, op := Op.binOp BinOp.add 28 (Operand.tmp 40) (Operand.tmp 48) 28, type := 28, pos := "ref.go:83", after := #[{ on := 16, ground := Ground.data }, { on := 24, ground := Ground.data }], guard := none }) (v := ?va25) rfl (by kernel_rfl) (by kernel_rfl) (by kernel_rfl) (fun _ _ _ h => h) (Or.inl ⟨by rfl, ?hya25⟩) hHeld ?resta25
        case hya25 =>
          intro W hSw
          go_simp
          try with_reducible rfl
        try simp only [Act.put, List.setIfInBounds_toArray, List.set_cons_zero, List.set_cons_succ]
        refine wpAnyH_take (i := 26) (oi := { dst := some 50, op := Op.move (Operand.tmp 2), type := 33, pos := "ref.go:83", after := #[], guard := none }) (v := ?va26) rfl (by kernel_rfl) (by kernel_rfl) (by kernel_rfl) (fun _ _ _ h => h) (Or.inl ⟨by rfl, ?hya26⟩) hHeld ?resta26
        case hya26 =>
          intro W hSw
          go_simp
          try with_reducible rfl
        try simp only [Act.put, List.setIfInBounds_toArray, List.set_cons_zero, List.set_cons_succ]
        refine wpAnyH_take (i := 27) (oi := { dst := some 51, op := Op.move (Operand.tmp 8), type := 3, pos := "ref.go:83", after := #[], guard := none }) (v := ?va27) rfl (by kernel_rfl) (by kernel_rfl) (by kernel_rfl) (fun _ _ _ h => h) (Or.inl ⟨by rfl, ?hya27⟩) hHeld ?resta27
        case hya27 =>
          intro W hSw
          go_simp
          try with_reducible rfl
        try simp only [Act.put, List.setIfInBounds_toArray, List.set_cons_zero, List.set_cons_succ]
        refine wpAnyH_take (i := 28) (oi := { dst := some 52, op := Op.binOp BinOp.mul 3 (Operand.const (Value.int IntKind.i64 4)) (Operand.tmp 51) 3, type := 3, pos := "ref.go:83", after := #[{ on := 27, ground := Ground.data }], guard := none }) (v := ?va28) rfl (by kernel_rfl) (by kernel_rfl) (by kernel_rfl) (fun _ _ _ h => h) (Or.inl ⟨by rfl, ?hya28⟩) hHeld ?resta28
        case hya28 =>
          intro W hSw
          go_simp
          try with_reducible rfl
        try simp only [Act.put, List.setIfInBounds_toArray, List.set_cons_zero, List.set_cons_succ]
        refine wpAnyH_take (i := 29) (oi := { dst := some 53, op := Op.binOp BinOp.add 3 (Operand.tmp 52) (Operand.const (Value.int IntKind.i64 3)) 3, type := 3, pos := "ref.go:83", after := #[{ on := 28, ground := Ground.data }], guard := none }) (v := ?va29) rfl (by kernel_rfl) (by kernel_rfl) (by kernel_rfl) (fun _ _ _ h => h) (Or.inl ⟨by rfl, ?hya29⟩) hHeld ?resta29
        case hya29 =>
          intro W hSw
          go_simp
          try with_reducible rfl
        try simp only [Act.put, List.setIfInBounds_toArray, List.set_cons_zero, List.set_cons_succ]
        refine wpAnyH_take (i := 30) (oi := { dst := some 54, op := Op.indexAddr 33 (Operand.tmp 50) (Operand.tmp 53), type := 0, pos := "ref.go:83", after := #[{ on := 26, ground := Ground.data }, { on := 29, ground := Ground.data }], guard := none }) (v := ?va30) rfl (by kernel_rfl) (by kernel_rfl) (by kernel_rfl) (fun _ _ _ h => h) (Or.inl ⟨by rfl, ?hya30⟩) hHeld ?resta30
        case hya30 =>
          intro W hSw
          go_simp
          try with_reducible rfl
        try simp only [Act.put, List.setIfInBounds_toArray, List.set_cons_zero, List.set_cons_succ]
        refine wpAnyH_take (i := 31) (oi := { dst := some 55, op := Op.load 5 (Operand.tmp 54), type := 5, pos := "ref.go:83", after := #[{ on := 30, ground := Ground.data }], guard := none }) (v := ?va31) rfl (by kernel_rfl) (by kernel_rfl) (by kernel_rfl) (fun _ _ _ h => h) (Or.inl ⟨by rfl, ?hya31⟩) hHeld ?resta31
        case hya31 =>
          intro W hSw
          obtain ⟨q0, q1, q2, q3⟩ := (hSw : W.cell? ⟨gb, ob + j0, none⟩ = some (.int .u8 (v0 : Int)) ∧ W.cell? ⟨gb, ob + j1, none⟩ = some (.int .u8 (v1 : Int)) ∧ W.cell? ⟨gb, ob + j2, none⟩ = some (.int .u8 (v2 : Int)) ∧ W.cell? ⟨gb, ob + j3, none⟩ = some (.int .u8 (v3 : Int)))
          go_simp
          try with_reducible rfl
        try simp only [Act.put, List.setIfInBounds_toArray, List.set_cons_zero, List.set_cons_succ]
        refine wpAnyH_take (i := 32) (oi := { dst := some 56, op := Op.convert 5 28 (Operand.tmp 55), type := 28, pos := "ref.go:83", after := #[{ on := 31, ground := Ground.data }], guard := none }) (v := ?va32) rfl (by kernel_rfl) (by kernel_rfl) (by kernel_rfl) (fun _ _ _ h => h) (Or.inl ⟨by rfl, ?hya32⟩) hHeld ?resta32
        case hya32 =>
          intro W hSw
          go_simp
          try with_reducible rfl
        try simp only [Act.put, List.setIfInBounds_toArray, List.set_cons_zero, List.set_cons_succ]
        refine wpAnyH_take (i := 33) (oi := { dst := some 57, op := Op.binOp BinOp.add 28 (Operand.tmp 49) (Operand.tmp 56) 28, type := 28, pos := "ref.go:83", after := #[{ on := 25, ground := Ground.data }, { on := 32, ground := Ground.data }], guard := none }) (v := ?va33) rfl (by kernel_rfl) (by kernel_rfl) (by kernel_rfl) (fun _ _ _ h => h) (Or.inl ⟨by rfl, ?hya33⟩) hHeld ?resta33
        case hya33 =>
          intro W hSw
          go_simp
          try with_reducible rfl
        try simp only [Act.put, List.setIfInBounds_toArray, List.set_cons_zero, List.set_cons_succ]
        refine wpAnyH_take (i := 34) (oi := { dst := some 58, op := Op.indexAddr 31 (Operand.tmp 7) (Operand.tmp 24), type := 0, pos := "ref.go:83", after := #[{ on := 0, ground := Ground.data }, { on := 0, ground := Ground.phase }, { on := 1, ground := Ground.phase }, { on := 2, ground := Ground.phase }, { on := 3, ground := Ground.phase }, { on := 4, ground := Ground.phase }, { on := 5, ground := Ground.phase }, { on := 6, ground := Ground.phase }, { on := 7, ground := Ground.phase }, { on := 8, ground := Ground.phase }, { on := 9, ground := Ground.phase }, { on := 10, ground := Ground.phase }, { on := 11, ground := Ground.phase }, { on := 12, ground := Ground.phase }, { on := 13, ground := Ground.phase }, { on := 14, ground := Ground.phase }, { on := 15, ground := Ground.phase }, { on := 16, ground := Ground.phase }, { on := 17, ground := Ground.phase }, { on := 18, ground := Ground.phase }, { on := 19, ground := Ground.phase }, { on := 20, ground := Ground.phase }, { on := 21, ground := Ground.phase }, { on := 22, ground := Ground.phase }, { on := 23, ground := Ground.phase }, { on := 24, ground := Ground.phase }, { on := 25, ground := Ground.phase }, { on := 26, ground := Ground.phase }, { on := 27, ground := Ground.phase }, { on := 28, ground := Ground.phase }, { on := 29, ground := Ground.phase }, { on := 30, ground := Ground.phase }, { on := 31, ground := Ground.phase }, { on := 32, ground := Ground.phase }, { on := 33, ground := Ground.phase }], guard := none }) (v := ?va34) rfl (by kernel_rfl) (by kernel_rfl) (by kernel_rfl) (fun _ _ _ h => h) (Or.inl ⟨by rfl, ?hya34⟩) hHeld ?resta34
        case hya34 =>
          intro W hSw
          go_simp
          try with_reducible rfl
        try simp only [Act.put, List.setIfInBounds_toArray, List.set_cons_zero, List.set_cons_succ]
        refine wpAnyH_ready (rs := [35]) (by kernel_rfl) (by simp) ?_
        refine AllReadyH.cons (o := { dst := none, op := Op.store 28 (Operand.tmp 58) (Operand.tmp 57), type := 0, pos := "ref.go:83", after := #[{ on := 34, ground := Ground.data }, { on := 33, ground := Ground.data }, { on := 0, ground := Ground.phase }, { on := 1, ground := Ground.phase }, { on := 2, ground := Ground.phase }, { on := 3, ground := Ground.phase }, { on := 4, ground := Ground.phase }, { on := 5, ground := Ground.phase }, { on := 6, ground := Ground.phase }, { on := 7, ground := Ground.phase }, { on := 8, ground := Ground.phase }, { on := 9, ground := Ground.phase }, { on := 10, ground := Ground.phase }, { on := 11, ground := Ground.phase }, { on := 12, ground := Ground.phase }, { on := 13, ground := Ground.phase }, { on := 14, ground := Ground.phase }, { on := 15, ground := Ground.phase }, { on := 16, ground := Ground.phase }, { on := 17, ground := Ground.phase }, { on := 18, ground := Ground.phase }, { on := 19, ground := Ground.phase }, { on := 20, ground := Ground.phase }, { on := 21, ground := Ground.phase }, { on := 22, ground := Ground.phase }, { on := 23, ground := Ground.phase }, { on := 24, ground := Ground.phase }, { on := 25, ground := Ground.phase }, { on := 26, ground := Ground.phase }, { on := 27, ground := Ground.phase }, { on := 28, ground := Ground.phase }, { on := 29, ground := Ground.phase }, { on := 30, ground := Ground.phase }, { on := 31, ground := Ground.phase }, { on := 32, ground := Ground.phase }, { on := 33, ground := Ground.phase }], guard := none }) rfl (fun K' hK => ?_) AllReadyH.nil
        go_simp
        refine hK.out _ _ (by rw [Hcell2.out, Hcell2.out, Hcell2.out, Hcell2.out]; exact H4.out) (fun hHeld => ?_)
        clear hK K'
        try simp only [Act.put]
        refine wpAnyH_done (by kernel_rfl) ?_ _
        clear hHeld
        have hend := (Hrel.out.setw t wv).drew
        rw [← Hset.out] at hend
        have Hend := Lib.hid hend
        clear hend Hset Hwd HW hc1 hf1 H4 Hcell2
        go_wp2
        go_roundw
        case rel => exact ⟨t + 1, by go_num, by omega, Hend.out⟩
        case measure => simp [intOf]; omega
      · have d2 : decide ((t : Int) < 16) = false := by simp; omega
        have hset : rsGo (nums l) (t + 1) = (rsGo (nums l) t).set t (add32 (add32 (add32 (small1N ((rsGo (nums l) t).getD (t - 2) 0)) ((rsGo (nums l) t).getD (t - 7) 0)) (small0N ((rsGo (nums l) t).getD (t - 15) 0))) ((rsGo (nums l) t).getD (t - 16) 0)) := by rw [rsGo, if_neg h16]
        have hword := rsGo_words (nums l) Hnb.out t
        obtain ⟨ja, hja⟩ : ∃ j, t - 2 = j := ⟨_, rfl⟩
        obtain ⟨jb, hjb⟩ : ∃ j, t - 15 = j := ⟨_, rfl⟩
        obtain ⟨jc, hjc⟩ : ∃ j, t - 7 = j := ⟨_, rfl⟩
        obtain ⟨jd, hjd⟩ : ∃ j, t - 16 = j := ⟨_, rfl⟩
        rw [hja, hjb, hjc, hjd] at hset
        have ea : (t : Int) - 2 = (ja : Int) := by omega
        have eb : (t : Int) - 15 = (jb : Int) := by omega
        have ec : IntKind.i64.wrap ((t : Int) - 7) = (jc : Int) := by rw [IntWalk.i64_in _ (by omega)]; omega
        have ed : IntKind.i64.wrap ((t : Int) - 16) = (jd : Int) := by rw [IntWalk.i64_in _ (by omega)]; omega
        have na : (ja : Int) < 64 := by omega
        have nb : (jb : Int) < 64 := by omega
        have nc : (jc : Int) < 64 := by omega
        have nd : (jd : Int) < 64 := by omega
        have it : (t : Int) < 64 := by omega
        have nt1 : t ≠ jc := by omega
        have nt2 : t ≠ jd := by omega
        have ha := HW.out ja (by omega)
        have ha1 : wr.cell? ⟨w.heap.size + 1 + 1 + 1, ja, none⟩ = some (.int .u32 ((rsGo (nums l) t).getD ja 0 : Nat)) := ha
        have hb' := HW.out jb (by omega)
        have hb1 : wr.cell? ⟨w.heap.size + 1 + 1 + 1, jb, none⟩ = some (.int .u32 ((rsGo (nums l) t).getD jb 0 : Nat)) := hb'
        have hcell : ∀ W : World, BlkIs W (w.heap.size + 1 + 1 + 1) 31 (u32s (rsGo (nums l) t)) → ∀ j, j < 64 → W.cell? ⟨w.heap.size + 1 + 1 + 1, j, none⟩ = some (.int .u32 ((rsGo (nums l) t).getD j 0 : Nat)) := fun W h j hj => by
          rw [h.cell]
          exact u32s_get _ _ (by rw [rsGo_length]; exact hj)
        have hcc := fun W h => hcell W h jc (by omega)
        have hcd := fun W h => hcell W h jd (by omega)
        have hct := fun W h => hcell W h t hlt
        have hx := hword ja
        have hy := hword jb
        have hc3 := hword jc
        have hd3 := hword jd
        generalize (rsGo (nums l) t).getD ja 0 = x at *
        generalize (rsGo (nums l) t).getD jb 0 = y at *
        generalize (rsGo (nums l) t).getD jc 0 = wc at *
        generalize (rsGo (nums l) t).getD jd 0 = wd' at *
        have Hset := Lib.hid hset
        have Hcc := Lib.hid hcc
        have Hcd := Lib.hid hcd
        have Hct := Lib.hid hct
        clear hset hword hja hjb hjc hjd hcell hcc hcd hct hc1 hf1 HW
        go_upto_region 7 with fail
        go_quiet (fail)
        clear ha hb' ha1 hb1
        go_upto_region 8 with fail
        have R0 : RB w (wr.drewN nq) k s (rsGo (nums l) t) (some ⟨gb, ob, none⟩) c l := Hrel.out.heap rfl rfl rfl rfl
        generalize wr.drewN nq = W1 at *
        have R1 := Lib.hid R0.drew
        have q1 : rotN x [17, 19] < 4294967296 := rotN_lt x hx _
        have q2 : rotN y [7, 18] < 4294967296 := rotN_lt y hy _
        have hx6 : bits .xor .u32 ((rotN x [17, 19] : Nat) : Int) ((x : Int) / 1024) = ((small1N x : Nat) : Int) := by
          rw [show (x : Int) / 1024 = ((x / 1024 : Nat) : Int) by omega, u32_xor_nat _ _ q1 (by omega)]
          rfl
        have hy6 : bits .xor .u32 ((rotN y [7, 18] : Nat) : Int) ((y : Int) / 8) = ((small0N y : Nat) : Int) := by
          rw [show (y : Int) / 8 = ((y / 8 : Nat) : Int) by omega, u32_xor_nat _ _ q2 (by omega)]
          rfl
        have e1 := add32_cast (small1N x) wc
        have e2 := add32_cast (add32 (small1N x) wc) (small0N y)
        have e3 := add32_cast (add32 (add32 (small1N x) wc) (small0N y)) wd'
        have Hx6 := Lib.hid hx6
        have Hy6 := Lib.hid hy6
        have X1 := Lib.hid (fun W g h => right2 W x g 17 19 hx (by decide) (by decide) h)
        have X2 := Lib.hid (fun W g h => right2 W y g 7 18 hy (by decide) (by decide) h)
        generalize rotN x [17, 19] = r1 at *
        generalize rotN y [7, 18] = r2 at *
        generalize small1N x = sx at *
        generalize small0N y = sy at *
        generalize add32 sx wc = A1 at *
        generalize add32 A1 sy = A2 at *
        generalize add32 A2 wd' = A3 at *
        clear Hx6 Hy6 R0 Hrel q1 q2
        refine wp_region_held_drew (S := fun W => W.cell? ⟨w.heap.size + 1 + 1 + 1, jc, none⟩ = some (.int .u32 (wc : Int)) ∧ W.cell? ⟨w.heap.size + 1 + 1 + 1, jd, none⟩ = some (.int .u32 (wd' : Int))) (by kernel_rfl) ⟨Hcc.out _ R1.out.w0, Hcd.out _ R1.out.w0⟩ (fun hHeld => ?_)
        change wpAnyH _ _ _ _ _ 26 (Array.replicate 26 false) _ _
        generalize W1.drew = Wd at *
        refine wpAnyH_take (i := 0) (oi := { dst := some 67, op := Op.move (Operand.tmp 8), type := 3, pos := "ref.go:87", after := #[], guard := none }) (v := ?vp0) rfl (by kernel_rfl) (by kernel_rfl) (by kernel_rfl) (fun _ _ _ h => h) (Or.inl ⟨by rfl, ?hyp0⟩) hHeld ?restp0
        case hyp0 =>
          intro W hSw
          go_simp
          try with_reducible rfl
        try simp only [Act.put, List.setIfInBounds_toArray, List.set_cons_zero, List.set_cons_succ]
        refine wpAnyH_take (i := 1) (oi := { dst := some 68, op := Op.move (Operand.tmp 9), type := 28, pos := "ref.go:87", after := #[], guard := none }) (v := ?vp1) rfl (by kernel_rfl) (by kernel_rfl) (by kernel_rfl) (fun _ _ _ h => h) (Or.inl ⟨by rfl, ?hyp1⟩) hHeld ?restp1
        case hyp1 =>
          intro W hSw
          go_simp
          try with_reducible rfl
        try simp only [Act.put, List.setIfInBounds_toArray, List.set_cons_zero, List.set_cons_succ]
        refine wpAnyH_take (i := 4) (oi := { dst := some 71, op := Op.move (Operand.tmp 9), type := 28, pos := "ref.go:87", after := #[], guard := none }) (v := ?vp4) rfl (by kernel_rfl) (by kernel_rfl) (by kernel_rfl) (fun _ _ _ h => h) (Or.inl ⟨by rfl, ?hyp4⟩) hHeld ?restp4
        case hyp4 =>
          intro W hSw
          go_simp
          try with_reducible rfl
        try simp only [Act.put, List.setIfInBounds_toArray, List.set_cons_zero, List.set_cons_succ]
        refine wpAnyH_take (i := 5) (oi := { dst := some 72, op := Op.binOp BinOp.shr 28 (Operand.tmp 71) (Operand.const (Value.int IntKind.u64 10)) 50, type := 28, pos := "ref.go:87", after := #[{ on := 4, ground := Ground.data }], guard := none }) (v := ?vp5) rfl (by kernel_rfl) (by kernel_rfl) (by kernel_rfl) (fun _ _ _ h => h) (Or.inl ⟨by rfl, ?hyp5⟩) hHeld ?restp5
        case hyp5 =>
          intro W hSw
          go_simp
          try with_reducible rfl
        try simp only [Act.put, List.setIfInBounds_toArray, List.set_cons_zero, List.set_cons_succ]
        refine wpAnyH_take (i := 7) (oi := { dst := some 74, op := Op.move (Operand.tmp 8), type := 3, pos := "ref.go:87", after := #[], guard := none }) (v := ?vp7) rfl (by kernel_rfl) (by kernel_rfl) (by kernel_rfl) (fun _ _ _ h => h) (Or.inl ⟨by rfl, ?hyp7⟩) hHeld ?restp7
        case hyp7 =>
          intro W hSw
          go_simp
          try with_reducible rfl
        try simp only [Act.put, List.setIfInBounds_toArray, List.set_cons_zero, List.set_cons_succ]
        refine wpAnyH_take (i := 8) (oi := { dst := some 75, op := Op.binOp BinOp.sub 3 (Operand.tmp 74) (Operand.const (Value.int IntKind.i64 7)) 3, type := 3, pos := "ref.go:87", after := #[{ on := 7, ground := Ground.data }], guard := none }) (v := ?vp8) rfl (by kernel_rfl) (by kernel_rfl) (by kernel_rfl) (fun _ _ _ h => h) (Or.inl ⟨by rfl, ?hyp8⟩) hHeld ?restp8
        case hyp8 =>
          intro W hSw
          go_simp
          try with_reducible rfl
        try simp only [Act.put, List.setIfInBounds_toArray, List.set_cons_zero, List.set_cons_succ]
        refine wpAnyH_take (i := 9) (oi := { dst := some 76, op := Op.indexAddr 31 (Operand.tmp 7) (Operand.tmp 75), type := 0, pos := "ref.go:87", after := #[{ on := 8, ground := Ground.data }], guard := none }) (v := ?vp9) rfl (by kernel_rfl) (by kernel_rfl) (by kernel_rfl) (fun _ _ _ h => h) (Or.inl ⟨by rfl, ?hyp9⟩) hHeld ?restp9
        case hyp9 =>
          intro W hSw
          go_simp
          try with_reducible rfl
        try simp only [Act.put, List.setIfInBounds_toArray, List.set_cons_zero, List.set_cons_succ]
        refine wpAnyH_take (i := 10) (oi := { dst := some 77, op := Op.load 28 (Operand.tmp 76), type := 28, pos := "ref.go:87", after := #[{ on := 9, ground := Ground.data }], guard := none }) (v := ?vp10) rfl (by kernel_rfl) (by kernel_rfl) (by kernel_rfl) (fun _ _ _ h => h) (Or.inl ⟨by rfl, ?hyp10⟩) hHeld ?restp10
        case hyp10 =>
          intro W hSw
          obtain ⟨z1, z2⟩ := (hSw : W.cell? ⟨w.heap.size + 1 + 1 + 1, jc, none⟩ = some (.int .u32 (wc : Int)) ∧ W.cell? ⟨w.heap.size + 1 + 1 + 1, jd, none⟩ = some (.int .u32 (wd' : Int)))
          go_simp
          try with_reducible rfl
        try simp only [Act.put, List.setIfInBounds_toArray, List.set_cons_zero, List.set_cons_succ]
        refine wpAnyH_take (i := 12) (oi := { dst := some 79, op := Op.move (Operand.tmp 10), type := 28, pos := "ref.go:87", after := #[], guard := none }) (v := ?vp12) rfl (by kernel_rfl) (by kernel_rfl) (by kernel_rfl) (fun _ _ _ h => h) (Or.inl ⟨by rfl, ?hyp12⟩) hHeld ?restp12
        case hyp12 =>
          intro W hSw
          go_simp
          try with_reducible rfl
        try simp only [Act.put, List.setIfInBounds_toArray, List.set_cons_zero, List.set_cons_succ]
        refine wpAnyH_take (i := 15) (oi := { dst := some 82, op := Op.move (Operand.tmp 10), type := 28, pos := "ref.go:87", after := #[], guard := none }) (v := ?vp15) rfl (by kernel_rfl) (by kernel_rfl) (by kernel_rfl) (fun _ _ _ h => h) (Or.inl ⟨by rfl, ?hyp15⟩) hHeld ?restp15
        case hyp15 =>
          intro W hSw
          go_simp
          try with_reducible rfl
        try simp only [Act.put, List.setIfInBounds_toArray, List.set_cons_zero, List.set_cons_succ]
        refine wpAnyH_take (i := 16) (oi := { dst := some 83, op := Op.binOp BinOp.shr 28 (Operand.tmp 82) (Operand.const (Value.int IntKind.u64 3)) 50, type := 28, pos := "ref.go:87", after := #[{ on := 15, ground := Ground.data }], guard := none }) (v := ?vp16) rfl (by kernel_rfl) (by kernel_rfl) (by kernel_rfl) (fun _ _ _ h => h) (Or.inl ⟨by rfl, ?hyp16⟩) hHeld ?restp16
        case hyp16 =>
          intro W hSw
          go_simp
          try with_reducible rfl
        try simp only [Act.put, List.setIfInBounds_toArray, List.set_cons_zero, List.set_cons_succ]
        refine wpAnyH_take (i := 19) (oi := { dst := some 86, op := Op.move (Operand.tmp 8), type := 3, pos := "ref.go:87", after := #[], guard := none }) (v := ?vp19) rfl (by kernel_rfl) (by kernel_rfl) (by kernel_rfl) (fun _ _ _ h => h) (Or.inl ⟨by rfl, ?hyp19⟩) hHeld ?restp19
        case hyp19 =>
          intro W hSw
          go_simp
          try with_reducible rfl
        try simp only [Act.put, List.setIfInBounds_toArray, List.set_cons_zero, List.set_cons_succ]
        refine wpAnyH_take (i := 20) (oi := { dst := some 87, op := Op.binOp BinOp.sub 3 (Operand.tmp 86) (Operand.const (Value.int IntKind.i64 16)) 3, type := 3, pos := "ref.go:87", after := #[{ on := 19, ground := Ground.data }], guard := none }) (v := ?vp20) rfl (by kernel_rfl) (by kernel_rfl) (by kernel_rfl) (fun _ _ _ h => h) (Or.inl ⟨by rfl, ?hyp20⟩) hHeld ?restp20
        case hyp20 =>
          intro W hSw
          go_simp
          try with_reducible rfl
        try simp only [Act.put, List.setIfInBounds_toArray, List.set_cons_zero, List.set_cons_succ]
        refine wpAnyH_take (i := 21) (oi := { dst := some 88, op := Op.indexAddr 31 (Operand.tmp 7) (Operand.tmp 87), type := 0, pos := "ref.go:87", after := #[{ on := 20, ground := Ground.data }], guard := none }) (v := ?vp21) rfl (by kernel_rfl) (by kernel_rfl) (by kernel_rfl) (fun _ _ _ h => h) (Or.inl ⟨by rfl, ?hyp21⟩) hHeld ?restp21
        case hyp21 =>
          intro W hSw
          go_simp
          try with_reducible rfl
        try simp only [Act.put, List.setIfInBounds_toArray, List.set_cons_zero, List.set_cons_succ]
        refine wpAnyH_take (i := 22) (oi := { dst := some 89, op := Op.load 28 (Operand.tmp 88), type := 28, pos := "ref.go:87", after := #[{ on := 21, ground := Ground.data }], guard := none }) (v := ?vp22) rfl (by kernel_rfl) (by kernel_rfl) (by kernel_rfl) (fun _ _ _ h => h) (Or.inl ⟨by rfl, ?hyp22⟩) hHeld ?restp22
        case hyp22 =>
          intro W hSw
          obtain ⟨z1, z2⟩ := (hSw : W.cell? ⟨w.heap.size + 1 + 1 + 1, jc, none⟩ = some (.int .u32 (wc : Int)) ∧ W.cell? ⟨w.heap.size + 1 + 1 + 1, jd, none⟩ = some (.int .u32 (wd' : Int)))
          go_simp
          try with_reducible rfl
        try simp only [Act.put, List.setIfInBounds_toArray, List.set_cons_zero, List.set_cons_succ]
        refine wpAnyH_ready (rs := [2, 13]) (by kernel_rfl) (by simp) ?_
        refine AllReadyH.cons (o := { dst := some 69, op := Op.buildSlice 49 2 #[(0, Operand.const (Value.int IntKind.i64 17)), (1, Operand.const (Value.int IntKind.i64 19))], type := 49, pos := "ref.go:87", after := #[], guard := none }) rfl (fun K' hK => ?ql2) (AllReadyH.cons (o := { dst := some 80, op := Op.buildSlice 49 2 #[(0, Operand.const (Value.int IntKind.i64 7)), (1, Operand.const (Value.int IntKind.i64 18))], type := 49, pos := "ref.go:87", after := #[], guard := none }) rfl (fun K' hK => ?qr13) AllReadyH.nil)
        case ql2 =>
          go_simp
          have K104 := Lib.hid (BlkIs.new (Wd) 3 #[.int .i64 17, .int .i64 19])
          have R102 := Lib.hid (R1.out.below ((Below.refl _ _).alloc (Nat.le_refl _) (.cells #[.int .i64 17, .int .i64 19] 3)))
          obtain ⟨g101, hg101⟩ : ∃ g, (Wd).heap.size = g := ⟨_, rfl⟩
          rw [hg101] at K104 ⊢
          clear hg101
          generalize ((Wd).alloc (.cells #[.int .i64 17, .int .i64 19] 3)) = W103 at *
          refine hK.out _ _ ⟨Hcc.out _ R102.out.w0, Hcd.out _ R102.out.w0⟩ (fun hHeld => ?_)
          clear hK K'
          try simp only [Act.put, List.setIfInBounds_toArray, List.set_cons_zero, List.set_cons_succ]
          refine wpAnyH_ready (rs := [3, 13]) (by kernel_rfl) (by simp) ?_
          refine AllReadyH.cons (o := { dst := some 70, op := Op.call { callee := Callee.value (Operand.func 47), args := #[Operand.tmp 68, Operand.tmp 69], argTypes := #[28, 49] }, type := 28, pos := "ref.go:87", after := #[{ on := 1, ground := Ground.data }, { on := 2, ground := Ground.data }], guard := none }) rfl (fun K' hK => ?qll3) (AllReadyH.cons (o := { dst := some 80, op := Op.buildSlice 49 2 #[(0, Operand.const (Value.int IntKind.i64 7)), (1, Operand.const (Value.int IntKind.i64 18))], type := 49, pos := "ref.go:87", after := #[], guard := none }) rfl (fun K' hK => ?qlr13) AllReadyH.nil)
          case qll3 =>
            go_simp
            refine (X1.out _ _ K104.out).mono ?_
            rintro e W109 ⟨rfl, hb2⟩
            have R110 := Lib.hid (R102.out.below hb2)
            have K111 := Lib.hid (K104.out.here hb2)
            clear hb2
            go_wp2_with fail
            refine hK.out _ _ ⟨Hcc.out _ R110.out.w0, Hcd.out _ R110.out.w0⟩ (fun hHeld => ?_)
            clear hK K'
            try simp only [Act.put, List.setIfInBounds_toArray, List.set_cons_zero, List.set_cons_succ]
            refine wpAnyH_take (i := 6) (oi := { dst := some 73, op := Op.binOp BinOp.xor 28 (Operand.tmp 70) (Operand.tmp 72) 28, type := 28, pos := "ref.go:87", after := #[{ on := 3, ground := Ground.data }, { on := 5, ground := Ground.data }], guard := none }) (v := ?vqll6) rfl (by kernel_rfl) (by kernel_rfl) (by kernel_rfl) (fun _ _ _ h => h) (Or.inl ⟨by rfl, ?hyqll6⟩) hHeld ?restqll6
            case hyqll6 =>
              intro W hSw
              go_simp
              try with_reducible rfl
            try simp only [Act.put, List.setIfInBounds_toArray, List.set_cons_zero, List.set_cons_succ]
            refine wpAnyH_take (i := 11) (oi := { dst := some 78, op := Op.binOp BinOp.add 28 (Operand.tmp 73) (Operand.tmp 77) 28, type := 28, pos := "ref.go:87", after := #[{ on := 6, ground := Ground.data }, { on := 10, ground := Ground.data }], guard := none }) (v := ?vqll11) rfl (by kernel_rfl) (by kernel_rfl) (by kernel_rfl) (fun _ _ _ h => h) (Or.inl ⟨by rfl, ?hyqll11⟩) hHeld ?restqll11
            case hyqll11 =>
              intro W hSw
              go_simp
              try with_reducible rfl
            try simp only [Act.put, List.setIfInBounds_toArray, List.set_cons_zero, List.set_cons_succ]
            refine wpAnyH_ready (rs := [13]) (by kernel_rfl) (by simp) ?_
            refine AllReadyH.cons (o := { dst := some 80, op := Op.buildSlice 49 2 #[(0, Operand.const (Value.int IntKind.i64 7)), (1, Operand.const (Value.int IntKind.i64 18))], type := 49, pos := "ref.go:87", after := #[], guard := none }) rfl (fun K' hK => ?_) AllReadyH.nil
            go_simp
            have K121 := Lib.hid (BlkIs.new (W109) 3 #[.int .i64 7, .int .i64 18])
            have R118 := Lib.hid (R110.out.below ((Below.refl _ _).alloc (Nat.le_refl _) (.cells #[.int .i64 7, .int .i64 18] 3)))
            have K120 := Lib.hid (K111.out.here ((Below.refl _ _).alloc (Nat.le_refl _) (.cells #[.int .i64 7, .int .i64 18] 3)))
            obtain ⟨g117, hg117⟩ : ∃ g, (W109).heap.size = g := ⟨_, rfl⟩
            rw [hg117] at K121 ⊢
            clear hg117
            generalize ((W109).alloc (.cells #[.int .i64 7, .int .i64 18] 3)) = W119 at *
            refine hK.out _ _ ⟨Hcc.out _ R118.out.w0, Hcd.out _ R118.out.w0⟩ (fun hHeld => ?_)
            clear hK K'
            try simp only [Act.put, List.setIfInBounds_toArray, List.set_cons_zero, List.set_cons_succ]
            refine wpAnyH_ready (rs := [14]) (by kernel_rfl) (by simp) ?_
            refine AllReadyH.cons (o := { dst := some 81, op := Op.call { callee := Callee.value (Operand.func 47), args := #[Operand.tmp 79, Operand.tmp 80], argTypes := #[28, 49] }, type := 28, pos := "ref.go:87", after := #[{ on := 12, ground := Ground.data }, { on := 13, ground := Ground.data }, { on := 3, ground := Ground.chain }], guard := none }) rfl (fun K' hK => ?_) AllReadyH.nil
            go_simp
            refine (X2.out _ _ K121.out).mono ?_
            rintro e W122 ⟨rfl, hb2⟩
            have R123 := Lib.hid (R118.out.below hb2)
            have K124 := Lib.hid (K120.out.here hb2)
            have K125 := Lib.hid (K121.out.here hb2)
            clear hb2
            go_wp2_with fail
            refine hK.out _ _ ⟨Hcc.out _ R123.out.w0, Hcd.out _ R123.out.w0⟩ (fun hHeld => ?_)
            clear hK K'
            try simp only [Act.put, List.setIfInBounds_toArray, List.set_cons_zero, List.set_cons_succ]
            refine wpAnyH_take (i := 17) (oi := { dst := some 84, op := Op.binOp BinOp.xor 28 (Operand.tmp 81) (Operand.tmp 83) 28, type := 28, pos := "ref.go:87", after := #[{ on := 14, ground := Ground.data }, { on := 16, ground := Ground.data }], guard := none }) (v := ?vqllz17) rfl (by kernel_rfl) (by kernel_rfl) (by kernel_rfl) (fun _ _ _ h => h) (Or.inl ⟨by rfl, ?hyqllz17⟩) hHeld ?restqllz17
            case hyqllz17 =>
              intro W hSw
              go_simp
              try with_reducible rfl
            try simp only [Act.put, List.setIfInBounds_toArray, List.set_cons_zero, List.set_cons_succ]
            refine wpAnyH_take (i := 18) (oi := { dst := some 85, op := Op.binOp BinOp.add 28 (Operand.tmp 78) (Operand.tmp 84) 28, type := 28, pos := "ref.go:87", after := #[{ on := 11, ground := Ground.data }, { on := 17, ground := Ground.data }], guard := none }) (v := ?vqllz18) rfl (by kernel_rfl) (by kernel_rfl) (by kernel_rfl) (fun _ _ _ h => h) (Or.inl ⟨by rfl, ?hyqllz18⟩) hHeld ?restqllz18
            case hyqllz18 =>
              intro W hSw
              go_simp
              try with_reducible rfl
            try simp only [Act.put, List.setIfInBounds_toArray, List.set_cons_zero, List.set_cons_succ]
            refine wpAnyH_take (i := 23) (oi := { dst := some 90, op := Op.binOp BinOp.add 28 (Operand.tmp 85) (Operand.tmp 89) 28, type := 28, pos := "ref.go:87", after := #[{ on := 18, ground := Ground.data }, { on := 22, ground := Ground.data }], guard := none }) (v := ?vqllz23) rfl (by kernel_rfl) (by kernel_rfl) (by kernel_rfl) (fun _ _ _ h => h) (Or.inl ⟨by rfl, ?hyqllz23⟩) hHeld ?restqllz23
            case hyqllz23 =>
              intro W hSw
              go_simp
              try with_reducible rfl
            try simp only [Act.put, List.setIfInBounds_toArray, List.set_cons_zero, List.set_cons_succ]
            refine wpAnyH_take (i := 24) (oi := { dst := some 91, op := Op.indexAddr 31 (Operand.tmp 7) (Operand.tmp 67), type := 0, pos := "ref.go:87", after := #[{ on := 0, ground := Ground.data }, { on := 0, ground := Ground.phase }, { on := 1, ground := Ground.phase }, { on := 2, ground := Ground.phase }, { on := 3, ground := Ground.phase }, { on := 4, ground := Ground.phase }, { on := 5, ground := Ground.phase }, { on := 6, ground := Ground.phase }, { on := 7, ground := Ground.phase }, { on := 8, ground := Ground.phase }, { on := 9, ground := Ground.phase }, { on := 10, ground := Ground.phase }, { on := 11, ground := Ground.phase }, { on := 12, ground := Ground.phase }, { on := 13, ground := Ground.phase }, { on := 14, ground := Ground.phase }, { on := 15, ground := Ground.phase }, { on := 16, ground := Ground.phase }, { on := 17, ground := Ground.phase }, { on := 18, ground := Ground.phase }, { on := 19, ground := Ground.phase }, { on := 20, ground := Ground.phase }, { on := 21, ground := Ground.phase }, { on := 22, ground := Ground.phase }, { on := 23, ground := Ground.phase }], guard := none }) (v := ?vqllz24) rfl (by kernel_rfl) (by kernel_rfl) (by kernel_rfl) (fun _ _ _ h => h) (Or.inl ⟨by rfl, ?hyqllz24⟩) hHeld ?restqllz24
            case hyqllz24 =>
              intro W hSw
              go_simp
              try with_reducible rfl
            try simp only [Act.put, List.setIfInBounds_toArray, List.set_cons_zero, List.set_cons_succ]
            have hc1 : (W122).cell? ⟨w.heap.size + 1 + 1 + 1, t, none⟩ = _ := Hct.out _ R123.out.w0
            have hf1 := R123.out.w0.frozen t
            have hend := R123.out.setw t A3
            rw [← Hset.out] at hend
            have Hend := Lib.hid hend
            have hs2 : ∀ W : World, BlkIs W (w.heap.size + 1 + 1 + 1) 31 (u32s (rsGo (nums l) (t + 1))) → True := fun _ _ => trivial
            clear hend hs2
            refine wpAnyH_ready (rs := [25]) (by kernel_rfl) (by simp) ?_
            refine AllReadyH.cons (o := { dst := none, op := Op.store 28 (Operand.tmp 91) (Operand.tmp 90), type := 0, pos := "ref.go:87", after := #[{ on := 24, ground := Ground.data }, { on := 23, ground := Ground.data }, { on := 14, ground := Ground.chain }, { on := 0, ground := Ground.phase }, { on := 1, ground := Ground.phase }, { on := 2, ground := Ground.phase }, { on := 3, ground := Ground.phase }, { on := 4, ground := Ground.phase }, { on := 5, ground := Ground.phase }, { on := 6, ground := Ground.phase }, { on := 7, ground := Ground.phase }, { on := 8, ground := Ground.phase }, { on := 9, ground := Ground.phase }, { on := 10, ground := Ground.phase }, { on := 11, ground := Ground.phase }, { on := 12, ground := Ground.phase }, { on := 13, ground := Ground.phase }, { on := 14, ground := Ground.phase }, { on := 15, ground := Ground.phase }, { on := 16, ground := Ground.phase }, { on := 17, ground := Ground.phase }, { on := 18, ground := Ground.phase }, { on := 19, ground := Ground.phase }, { on := 20, ground := Ground.phase }, { on := 21, ground := Ground.phase }, { on := 22, ground := Ground.phase }, { on := 23, ground := Ground.phase }], guard := none }) rfl (fun K' hK => ?_) AllReadyH.nil
            go_simp
            refine hK.out _ _ (held_set (W122) (w.heap.size + 1 + 1 + 1) t jc jd wc wd' A3 nt1 nt2 (Hcc.out _ R123.out.w0) (Hcd.out _ R123.out.w0)) (fun hHeld => ?_)
            clear hK K'
            try simp only [Act.put]
            refine wpAnyH_done (by kernel_rfl) ?_ _
            clear hHeld
            go_wp2
            go_roundw
            case rel => exact ⟨t + 1, by go_num, by omega, Hend.out⟩
            case measure => simp [intOf]; omega
          case qlr13 =>
            go_simp
            have K116 := Lib.hid (BlkIs.new (W103) 3 #[.int .i64 7, .int .i64 18])
            have R113 := Lib.hid (R102.out.below ((Below.refl _ _).alloc (Nat.le_refl _) (.cells #[.int .i64 7, .int .i64 18] 3)))
            have K115 := Lib.hid (K104.out.here ((Below.refl _ _).alloc (Nat.le_refl _) (.cells #[.int .i64 7, .int .i64 18] 3)))
            obtain ⟨g112, hg112⟩ : ∃ g, (W103).heap.size = g := ⟨_, rfl⟩
            rw [hg112] at K116 ⊢
            clear hg112
            generalize ((W103).alloc (.cells #[.int .i64 7, .int .i64 18] 3)) = W114 at *
            refine hK.out _ _ ⟨Hcc.out _ R113.out.w0, Hcd.out _ R113.out.w0⟩ (fun hHeld => ?_)
            clear hK K'
            try simp only [Act.put, List.setIfInBounds_toArray, List.set_cons_zero, List.set_cons_succ]
            refine wpAnyH_ready (rs := [3]) (by kernel_rfl) (by simp) ?_
            refine AllReadyH.cons (o := { dst := some 70, op := Op.call { callee := Callee.value (Operand.func 47), args := #[Operand.tmp 68, Operand.tmp 69], argTypes := #[28, 49] }, type := 28, pos := "ref.go:87", after := #[{ on := 1, ground := Ground.data }, { on := 2, ground := Ground.data }], guard := none }) rfl (fun K' hK => ?_) AllReadyH.nil
            go_simp
            refine (X1.out _ _ K115.out).mono ?_
            rintro e W126 ⟨rfl, hb2⟩
            have R127 := Lib.hid (R113.out.below hb2)
            have K128 := Lib.hid (K115.out.here hb2)
            have K129 := Lib.hid (K116.out.here hb2)
            clear hb2
            go_wp2_with fail
            refine hK.out _ _ ⟨Hcc.out _ R127.out.w0, Hcd.out _ R127.out.w0⟩ (fun hHeld => ?_)
            clear hK K'
            try simp only [Act.put, List.setIfInBounds_toArray, List.set_cons_zero, List.set_cons_succ]
            refine wpAnyH_take (i := 6) (oi := { dst := some 73, op := Op.binOp BinOp.xor 28 (Operand.tmp 70) (Operand.tmp 72) 28, type := 28, pos := "ref.go:87", after := #[{ on := 3, ground := Ground.data }, { on := 5, ground := Ground.data }], guard := none }) (v := ?vqlr6) rfl (by kernel_rfl) (by kernel_rfl) (by kernel_rfl) (fun _ _ _ h => h) (Or.inl ⟨by rfl, ?hyqlr6⟩) hHeld ?restqlr6
            case hyqlr6 =>
              intro W hSw
              go_simp
              try with_reducible rfl
            try simp only [Act.put, List.setIfInBounds_toArray, List.set_cons_zero, List.set_cons_succ]
            refine wpAnyH_take (i := 11) (oi := { dst := some 78, op := Op.binOp BinOp.add 28 (Operand.tmp 73) (Operand.tmp 77) 28, type := 28, pos := "ref.go:87", after := #[{ on := 6, ground := Ground.data }, { on := 10, ground := Ground.data }], guard := none }) (v := ?vqlr11) rfl (by kernel_rfl) (by kernel_rfl) (by kernel_rfl) (fun _ _ _ h => h) (Or.inl ⟨by rfl, ?hyqlr11⟩) hHeld ?restqlr11
            case hyqlr11 =>
              intro W hSw
              go_simp
              try with_reducible rfl
            try simp only [Act.put, List.setIfInBounds_toArray, List.set_cons_zero, List.set_cons_succ]
            refine wpAnyH_ready (rs := [14]) (by kernel_rfl) (by simp) ?_
            refine AllReadyH.cons (o := { dst := some 81, op := Op.call { callee := Callee.value (Operand.func 47), args := #[Operand.tmp 79, Operand.tmp 80], argTypes := #[28, 49] }, type := 28, pos := "ref.go:87", after := #[{ on := 12, ground := Ground.data }, { on := 13, ground := Ground.data }, { on := 3, ground := Ground.chain }], guard := none }) rfl (fun K' hK => ?_) AllReadyH.nil
            go_simp
            refine (X2.out _ _ K129.out).mono ?_
            rintro e W130 ⟨rfl, hb2⟩
            have R131 := Lib.hid (R127.out.below hb2)
            have K132 := Lib.hid (K128.out.here hb2)
            have K133 := Lib.hid (K129.out.here hb2)
            clear hb2
            go_wp2_with fail
            refine hK.out _ _ ⟨Hcc.out _ R131.out.w0, Hcd.out _ R131.out.w0⟩ (fun hHeld => ?_)
            clear hK K'
            try simp only [Act.put, List.setIfInBounds_toArray, List.set_cons_zero, List.set_cons_succ]
            refine wpAnyH_take (i := 17) (oi := { dst := some 84, op := Op.binOp BinOp.xor 28 (Operand.tmp 81) (Operand.tmp 83) 28, type := 28, pos := "ref.go:87", after := #[{ on := 14, ground := Ground.data }, { on := 16, ground := Ground.data }], guard := none }) (v := ?vqlrz17) rfl (by kernel_rfl) (by kernel_rfl) (by kernel_rfl) (fun _ _ _ h => h) (Or.inl ⟨by rfl, ?hyqlrz17⟩) hHeld ?restqlrz17
            case hyqlrz17 =>
              intro W hSw
              go_simp
              try with_reducible rfl
            try simp only [Act.put, List.setIfInBounds_toArray, List.set_cons_zero, List.set_cons_succ]
            refine wpAnyH_take (i := 18) (oi := { dst := some 85, op := Op.binOp BinOp.add 28 (Operand.tmp 78) (Operand.tmp 84) 28, type := 28, pos := "ref.go:87", after := #[{ on := 11, ground := Ground.data }, { on := 17, ground := Ground.data }], guard := none }) (v := ?vqlrz18) rfl (by kernel_rfl) (by kernel_rfl) (by kernel_rfl) (fun _ _ _ h => h) (Or.inl ⟨by rfl, ?hyqlrz18⟩) hHeld ?restqlrz18
            case hyqlrz18 =>
              intro W hSw
              go_simp
              try with_reducible rfl
            try simp only [Act.put, List.setIfInBounds_toArray, List.set_cons_zero, List.set_cons_succ]
            refine wpAnyH_take (i := 23) (oi := { dst := some 90, op := Op.binOp BinOp.add 28 (Operand.tmp 85) (Operand.tmp 89) 28, type := 28, pos := "ref.go:87", after := #[{ on := 18, ground := Ground.data }, { on := 22, ground := Ground.data }], guard := none }) (v := ?vqlrz23) rfl (by kernel_rfl) (by kernel_rfl) (by kernel_rfl) (fun _ _ _ h => h) (Or.inl ⟨by rfl, ?hyqlrz23⟩) hHeld ?restqlrz23
            case hyqlrz23 =>
              intro W hSw
              go_simp
              try with_reducible rfl
            try simp only [Act.put, List.setIfInBounds_toArray, List.set_cons_zero, List.set_cons_succ]
            refine wpAnyH_take (i := 24) (oi := { dst := some 91, op := Op.indexAddr 31 (Operand.tmp 7) (Operand.tmp 67), type := 0, pos := "ref.go:87", after := #[{ on := 0, ground := Ground.data }, { on := 0, ground := Ground.phase }, { on := 1, ground := Ground.phase }, { on := 2, ground := Ground.phase }, { on := 3, ground := Ground.phase }, { on := 4, ground := Ground.phase }, { on := 5, ground := Ground.phase }, { on := 6, ground := Ground.phase }, { on := 7, ground := Ground.phase }, { on := 8, ground := Ground.phase }, { on := 9, ground := Ground.phase }, { on := 10, ground := Ground.phase }, { on := 11, ground := Ground.phase }, { on := 12, ground := Ground.phase }, { on := 13, ground := Ground.phase }, { on := 14, ground := Ground.phase }, { on := 15, ground := Ground.phase }, { on := 16, ground := Ground.phase }, { on := 17, ground := Ground.phase }, { on := 18, ground := Ground.phase }, { on := 19, ground := Ground.phase }, { on := 20, ground := Ground.phase }, { on := 21, ground := Ground.phase }, { on := 22, ground := Ground.phase }, { on := 23, ground := Ground.phase }], guard := none }) (v := ?vqlrz24) rfl (by kernel_rfl) (by kernel_rfl) (by kernel_rfl) (fun _ _ _ h => h) (Or.inl ⟨by rfl, ?hyqlrz24⟩) hHeld ?restqlrz24
            case hyqlrz24 =>
              intro W hSw
              go_simp
              try with_reducible rfl
            try simp only [Act.put, List.setIfInBounds_toArray, List.set_cons_zero, List.set_cons_succ]
            have hc1 : (W130).cell? ⟨w.heap.size + 1 + 1 + 1, t, none⟩ = _ := Hct.out _ R131.out.w0
            have hf1 := R131.out.w0.frozen t
            have hend := R131.out.setw t A3
            rw [← Hset.out] at hend
            have Hend := Lib.hid hend
            have hs2 : ∀ W : World, BlkIs W (w.heap.size + 1 + 1 + 1) 31 (u32s (rsGo (nums l) (t + 1))) → True := fun _ _ => trivial
            clear hend hs2
            refine wpAnyH_ready (rs := [25]) (by kernel_rfl) (by simp) ?_
            refine AllReadyH.cons (o := { dst := none, op := Op.store 28 (Operand.tmp 91) (Operand.tmp 90), type := 0, pos := "ref.go:87", after := #[{ on := 24, ground := Ground.data }, { on := 23, ground := Ground.data }, { on := 14, ground := Ground.chain }, { on := 0, ground := Ground.phase }, { on := 1, ground := Ground.phase }, { on := 2, ground := Ground.phase }, { on := 3, ground := Ground.phase }, { on := 4, ground := Ground.phase }, { on := 5, ground := Ground.phase }, { on := 6, ground := Ground.phase }, { on := 7, ground := Ground.phase }, { on := 8, ground := Ground.phase }, { on := 9, ground := Ground.phase }, { on := 10, ground := Ground.phase }, { on := 11, ground := Ground.phase }, { on := 12, ground := Ground.phase }, { on := 13, ground := Ground.phase }, { on := 14, ground := Ground.phase }, { on := 15, ground := Ground.phase }, { on := 16, ground := Ground.phase }, { on := 17, ground := Ground.phase }, { on := 18, ground := Ground.phase }, { on := 19, ground := Ground.phase }, { on := 20, ground := Ground.phase }, { on := 21, ground := Ground.phase }, { on := 22, ground := Ground.phase }, { on := 23, ground := Ground.phase }], guard := none }) rfl (fun K' hK => ?_) AllReadyH.nil
            go_simp
            refine hK.out _ _ (held_set (W130) (w.heap.size + 1 + 1 + 1) t jc jd wc wd' A3 nt1 nt2 (Hcc.out _ R131.out.w0) (Hcd.out _ R131.out.w0)) (fun hHeld => ?_)
            clear hK K'
            try simp only [Act.put]
            refine wpAnyH_done (by kernel_rfl) ?_ _
            clear hHeld
            go_wp2
            go_roundw
            case rel => exact ⟨t + 1, by go_num, by omega, Hend.out⟩
            case measure => simp [intOf]; omega
        case qr13 =>
          go_simp
          have K108 := Lib.hid (BlkIs.new (Wd) 3 #[.int .i64 7, .int .i64 18])
          have R106 := Lib.hid (R1.out.below ((Below.refl _ _).alloc (Nat.le_refl _) (.cells #[.int .i64 7, .int .i64 18] 3)))
          obtain ⟨g105, hg105⟩ : ∃ g, (Wd).heap.size = g := ⟨_, rfl⟩
          rw [hg105] at K108 ⊢
          clear hg105
          generalize ((Wd).alloc (.cells #[.int .i64 7, .int .i64 18] 3)) = W107 at *
          refine hK.out _ _ ⟨Hcc.out _ R106.out.w0, Hcd.out _ R106.out.w0⟩ (fun hHeld => ?_)
          clear hK K'
          try simp only [Act.put, List.setIfInBounds_toArray, List.set_cons_zero, List.set_cons_succ]
          refine wpAnyH_ready (rs := [2]) (by kernel_rfl) (by simp) ?_
          refine AllReadyH.cons (o := { dst := some 69, op := Op.buildSlice 49 2 #[(0, Operand.const (Value.int IntKind.i64 17)), (1, Operand.const (Value.int IntKind.i64 19))], type := 49, pos := "ref.go:87", after := #[], guard := none }) rfl (fun K' hK => ?_) AllReadyH.nil
          go_simp
          have K138 := Lib.hid (BlkIs.new (W107) 3 #[.int .i64 17, .int .i64 19])
          have R135 := Lib.hid (R106.out.below ((Below.refl _ _).alloc (Nat.le_refl _) (.cells #[.int .i64 17, .int .i64 19] 3)))
          have K137 := Lib.hid (K108.out.here ((Below.refl _ _).alloc (Nat.le_refl _) (.cells #[.int .i64 17, .int .i64 19] 3)))
          obtain ⟨g134, hg134⟩ : ∃ g, (W107).heap.size = g := ⟨_, rfl⟩
          rw [hg134] at K138 ⊢
          clear hg134
          generalize ((W107).alloc (.cells #[.int .i64 17, .int .i64 19] 3)) = W136 at *
          refine hK.out _ _ ⟨Hcc.out _ R135.out.w0, Hcd.out _ R135.out.w0⟩ (fun hHeld => ?_)
          clear hK K'
          try simp only [Act.put, List.setIfInBounds_toArray, List.set_cons_zero, List.set_cons_succ]
          refine wpAnyH_ready (rs := [3]) (by kernel_rfl) (by simp) ?_
          refine AllReadyH.cons (o := { dst := some 70, op := Op.call { callee := Callee.value (Operand.func 47), args := #[Operand.tmp 68, Operand.tmp 69], argTypes := #[28, 49] }, type := 28, pos := "ref.go:87", after := #[{ on := 1, ground := Ground.data }, { on := 2, ground := Ground.data }], guard := none }) rfl (fun K' hK => ?_) AllReadyH.nil
          go_simp
          refine (X1.out _ _ K138.out).mono ?_
          rintro e W139 ⟨rfl, hb2⟩
          have R140 := Lib.hid (R135.out.below hb2)
          have K141 := Lib.hid (K137.out.here hb2)
          have K142 := Lib.hid (K138.out.here hb2)
          clear hb2
          go_wp2_with fail
          refine hK.out _ _ ⟨Hcc.out _ R140.out.w0, Hcd.out _ R140.out.w0⟩ (fun hHeld => ?_)
          clear hK K'
          try simp only [Act.put, List.setIfInBounds_toArray, List.set_cons_zero, List.set_cons_succ]
          refine wpAnyH_take (i := 6) (oi := { dst := some 73, op := Op.binOp BinOp.xor 28 (Operand.tmp 70) (Operand.tmp 72) 28, type := 28, pos := "ref.go:87", after := #[{ on := 3, ground := Ground.data }, { on := 5, ground := Ground.data }], guard := none }) (v := ?vqr6) rfl (by kernel_rfl) (by kernel_rfl) (by kernel_rfl) (fun _ _ _ h => h) (Or.inl ⟨by rfl, ?hyqr6⟩) hHeld ?restqr6
          case hyqr6 =>
            intro W hSw
            go_simp
            try with_reducible rfl
          try simp only [Act.put, List.setIfInBounds_toArray, List.set_cons_zero, List.set_cons_succ]
          refine wpAnyH_take (i := 11) (oi := { dst := some 78, op := Op.binOp BinOp.add 28 (Operand.tmp 73) (Operand.tmp 77) 28, type := 28, pos := "ref.go:87", after := #[{ on := 6, ground := Ground.data }, { on := 10, ground := Ground.data }], guard := none }) (v := ?vqr11) rfl (by kernel_rfl) (by kernel_rfl) (by kernel_rfl) (fun _ _ _ h => h) (Or.inl ⟨by rfl, ?hyqr11⟩) hHeld ?restqr11
          case hyqr11 =>
            intro W hSw
            go_simp
            try with_reducible rfl
          try simp only [Act.put, List.setIfInBounds_toArray, List.set_cons_zero, List.set_cons_succ]
          refine wpAnyH_ready (rs := [14]) (by kernel_rfl) (by simp) ?_
          refine AllReadyH.cons (o := { dst := some 81, op := Op.call { callee := Callee.value (Operand.func 47), args := #[Operand.tmp 79, Operand.tmp 80], argTypes := #[28, 49] }, type := 28, pos := "ref.go:87", after := #[{ on := 12, ground := Ground.data }, { on := 13, ground := Ground.data }, { on := 3, ground := Ground.chain }], guard := none }) rfl (fun K' hK => ?_) AllReadyH.nil
          go_simp
          refine (X2.out _ _ K141.out).mono ?_
          rintro e W143 ⟨rfl, hb2⟩
          have R144 := Lib.hid (R140.out.below hb2)
          have K145 := Lib.hid (K141.out.here hb2)
          have K146 := Lib.hid (K142.out.here hb2)
          clear hb2
          go_wp2_with fail
          refine hK.out _ _ ⟨Hcc.out _ R144.out.w0, Hcd.out _ R144.out.w0⟩ (fun hHeld => ?_)
          clear hK K'
          try simp only [Act.put, List.setIfInBounds_toArray, List.set_cons_zero, List.set_cons_succ]
          refine wpAnyH_take (i := 17) (oi := { dst := some 84, op := Op.binOp BinOp.xor 28 (Operand.tmp 81) (Operand.tmp 83) 28, type := 28, pos := "ref.go:87", after := #[{ on := 14, ground := Ground.data }, { on := 16, ground := Ground.data }], guard := none }) (v := ?vqrz17) rfl (by kernel_rfl) (by kernel_rfl) (by kernel_rfl) (fun _ _ _ h => h) (Or.inl ⟨by rfl, ?hyqrz17⟩) hHeld ?restqrz17
          case hyqrz17 =>
            intro W hSw
            go_simp
            try with_reducible rfl
          try simp only [Act.put, List.setIfInBounds_toArray, List.set_cons_zero, List.set_cons_succ]
          refine wpAnyH_take (i := 18) (oi := { dst := some 85, op := Op.binOp BinOp.add 28 (Operand.tmp 78) (Operand.tmp 84) 28, type := 28, pos := "ref.go:87", after := #[{ on := 11, ground := Ground.data }, { on := 17, ground := Ground.data }], guard := none }) (v := ?vqrz18) rfl (by kernel_rfl) (by kernel_rfl) (by kernel_rfl) (fun _ _ _ h => h) (Or.inl ⟨by rfl, ?hyqrz18⟩) hHeld ?restqrz18
          case hyqrz18 =>
            intro W hSw
            go_simp
            try with_reducible rfl
          try simp only [Act.put, List.setIfInBounds_toArray, List.set_cons_zero, List.set_cons_succ]
          refine wpAnyH_take (i := 23) (oi := { dst := some 90, op := Op.binOp BinOp.add 28 (Operand.tmp 85) (Operand.tmp 89) 28, type := 28, pos := "ref.go:87", after := #[{ on := 18, ground := Ground.data }, { on := 22, ground := Ground.data }], guard := none }) (v := ?vqrz23) rfl (by kernel_rfl) (by kernel_rfl) (by kernel_rfl) (fun _ _ _ h => h) (Or.inl ⟨by rfl, ?hyqrz23⟩) hHeld ?restqrz23
          case hyqrz23 =>
            intro W hSw
            go_simp
            try with_reducible rfl
          try simp only [Act.put, List.setIfInBounds_toArray, List.set_cons_zero, List.set_cons_succ]
          refine wpAnyH_take (i := 24) (oi := { dst := some 91, op := Op.indexAddr 31 (Operand.tmp 7) (Operand.tmp 67), type := 0, pos := "ref.go:87", after := #[{ on := 0, ground := Ground.data }, { on := 0, ground := Ground.phase }, { on := 1, ground := Ground.phase }, { on := 2, ground := Ground.phase }, { on := 3, ground := Ground.phase }, { on := 4, ground := Ground.phase }, { on := 5, ground := Ground.phase }, { on := 6, ground := Ground.phase }, { on := 7, ground := Ground.phase }, { on := 8, ground := Ground.phase }, { on := 9, ground := Ground.phase }, { on := 10, ground := Ground.phase }, { on := 11, ground := Ground.phase }, { on := 12, ground := Ground.phase }, { on := 13, ground := Ground.phase }, { on := 14, ground := Ground.phase }, { on := 15, ground := Ground.phase }, { on := 16, ground := Ground.phase }, { on := 17, ground := Ground.phase }, { on := 18, ground := Ground.phase }, { on := 19, ground := Ground.phase }, { on := 20, ground := Ground.phase }, { on := 21, ground := Ground.phase }, { on := 22, ground := Ground.phase }, { on := 23, ground := Ground.phase }], guard := none }) (v := ?vqrz24) rfl (by kernel_rfl) (by kernel_rfl) (by kernel_rfl) (fun _ _ _ h => h) (Or.inl ⟨by rfl, ?hyqrz24⟩) hHeld ?restqrz24
          case hyqrz24 =>
            intro W hSw
            go_simp
            try with_reducible rfl
          try simp only [Act.put, List.setIfInBounds_toArray, List.set_cons_zero, List.set_cons_succ]
          have hc1 : (W143).cell? ⟨w.heap.size + 1 + 1 + 1, t, none⟩ = _ := Hct.out _ R144.out.w0
          have hf1 := R144.out.w0.frozen t
          have hend := R144.out.setw t A3
          rw [← Hset.out] at hend
          have Hend := Lib.hid hend
          have hs2 : ∀ W : World, BlkIs W (w.heap.size + 1 + 1 + 1) 31 (u32s (rsGo (nums l) (t + 1))) → True := fun _ _ => trivial
          clear hend hs2
          refine wpAnyH_ready (rs := [25]) (by kernel_rfl) (by simp) ?_
          refine AllReadyH.cons (o := { dst := none, op := Op.store 28 (Operand.tmp 91) (Operand.tmp 90), type := 0, pos := "ref.go:87", after := #[{ on := 24, ground := Ground.data }, { on := 23, ground := Ground.data }, { on := 14, ground := Ground.chain }, { on := 0, ground := Ground.phase }, { on := 1, ground := Ground.phase }, { on := 2, ground := Ground.phase }, { on := 3, ground := Ground.phase }, { on := 4, ground := Ground.phase }, { on := 5, ground := Ground.phase }, { on := 6, ground := Ground.phase }, { on := 7, ground := Ground.phase }, { on := 8, ground := Ground.phase }, { on := 9, ground := Ground.phase }, { on := 10, ground := Ground.phase }, { on := 11, ground := Ground.phase }, { on := 12, ground := Ground.phase }, { on := 13, ground := Ground.phase }, { on := 14, ground := Ground.phase }, { on := 15, ground := Ground.phase }, { on := 16, ground := Ground.phase }, { on := 17, ground := Ground.phase }, { on := 18, ground := Ground.phase }, { on := 19, ground := Ground.phase }, { on := 20, ground := Ground.phase }, { on := 21, ground := Ground.phase }, { on := 22, ground := Ground.phase }, { on := 23, ground := Ground.phase }], guard := none }) rfl (fun K' hK => ?_) AllReadyH.nil
          go_simp
          refine hK.out _ _ (held_set (W143) (w.heap.size + 1 + 1 + 1) t jc jd wc wd' A3 nt1 nt2 (Hcc.out _ R144.out.w0) (Hcd.out _ R144.out.w0)) (fun hHeld => ?_)
          clear hK K'
          try simp only [Act.put]
          refine wpAnyH_done (by kernel_rfl) ?_ _
          clear hHeld
          go_wp2
          go_roundw
          case rel => exact ⟨t + 1, by go_num, by omega, Hend.out⟩
          case measure => simp [intOf]; omega
    · obtain rfl : t = 64 := by omega
      have d1 : decide ((64 : Int) < 64) = false := by decide
      have hr0 := Hrel.out
      rw [rs_end _ Hnb.out] at hr0
      obtain ⟨ws, hws⟩ : ∃ ws, schedN (nums l) = ws := ⟨_, rfl⟩
      have hwl : ws.length = 64 := by rw [← hws]; exact schedGo_length (nums l) 48
      have hww : Words ws := by rw [← hws]; exact schedGo_words (nums l) Hnb.out 48
      rw [hws] at hr0
      have Hws := Lib.hid hws
      have Hwl := Lib.hid hwl
      have Hww := Lib.hid hww
      have H0r := Lib.hid hr0
      have hz8 : (u32s (filled H0 0)).size = 8 := by rw [u32s_size, filled_length _ _ (Nat.zero_le _), H0_length]
      have hs8 : (u32s s).size = 8 := by rw [u32s_size, Hs.out]
      have Hz8 := Lib.hid hz8
      have Hs8 := Lib.hid hs8
      have hnew : BlkIs (wr.alloc (.cells (u32s (filled H0 0)) 29)) wr.heap.size 29 (u32s (filled H0 0)) := BlkIs.new _ _ _
      have Hnew := Lib.hid hnew
      have hx1 : RX w ((wr.alloc (.cells (u32s (filled H0 0)) 29)).setRow wr.heap.size (u32s s)) wr.heap.size k s (filled H0 0) ws s := by
        have hb : Below wr.heap.size wr (wr.alloc (.cells (u32s (filled H0 0)) 29)) := (Below.refl _ _).alloc (Nat.le_refl _) _
        have h1 : RX w (wr.alloc (.cells (u32s (filled H0 0)) 29)) wr.heap.size k s (filled H0 0) ws (filled H0 0) :=
          ⟨hr0.k0.here hb, hr0.s0.here hb, hr0.r0.here hb, hr0.w0.here hb, hnew, hr0.w0.lt, Below.onR hr0.here hb⟩
        exact h1.setRow s
      have Hx1 := Lib.hid hx1
      clear hws hwl hww hr0 hz8 hs8 hnew hx1 Hrel
      go_upto_region 10 with (first
        | (refine wpList_load_row rfl 29 (.tmp 4) rfl (w.heap.size + 1) rfl 29 (u32s s) (0, 0) _ H0r.out.s0 Tryd.underlying29 rfl (by rw [info8, Hs8.out]) ?_)
        | (rw [← zeros8]; refine wp_store_blk rfl 29 (.tmp 11) (.tmp 92) rfl wr.heap.size rfl (u32s s) rfl Hnew.out (by rw [info8, Hs8.out]) (by rw [Hz8.out, Hs8.out]) (u32s_one _) ?_)
        | fail)
      generalize (wr.alloc (.cells (u32s (filled H0 0)) 29)).setRow wr.heap.size (u32s s) = Wx at *
      generalize wr.heap.size = g at *
      clear H0r Hnew
      go_wp2
      have hst0 : (St.of s).list = s := by
        have hl := Hs.out
        match s, hl with
        | [a, b, c, d, e, f, g, h], _ => rfl
      have hx2 : RX w Wx g k s (filled H0 0) ws (rounds k ws (St.of s) 0).list := by
        rw [rounds, hst0]
        exact Hx1.out
      have Hx2 := Lib.hid hx2
      clear hx2 Hx1 hst0
      go_loopw [12] (fun x wr => ∃ t : Nat, x = .int .i64 t ∧ t ≤ 64 ∧ RX w wr g k s (filled H0 0) ws (rounds k ws (St.of s) t).list) (fun x _ => 64 - (intOf x).toNat)
      case atStart => exact ⟨0, rfl, by omega, Hx2.out⟩
      case round =>
        obtain ⟨t, rfl, ht, hrel⟩ := hrel
        have Hx := Lib.hid hrel
        clear hrel Hx2
        by_cases hlt : t < 64
        · have hstep : rounds k ws (St.of s) (t + 1) = rnd (rounds k ws (St.of s) t) (k.getD t 0) (ws.getD t 0) := rfl
          have hsw : StW (St.of s) := ⟨Hsw.out 0, Hsw.out 1, Hsw.out 2, Hsw.out 3, Hsw.out 4, Hsw.out 5, Hsw.out 6, Hsw.out 7⟩
          have hv := rounds_w k ws (St.of s) hsw t
          have hk1 := Hkw.out t
          have hw1 := Hww.out t
          have hck : ∀ W : World, BlkIs W w.heap.size 31 (u32s k) → W.cell? ⟨w.heap.size, t, none⟩ = some (.int .u32 (k.getD t 0 : Nat)) := fun W h => by
            rw [h.cell]
            exact u32s_get _ _ (by rw [Hk.out]; exact hlt)
          have hcw : ∀ W : World, BlkIs W (w.heap.size + 1 + 1 + 1) 31 (u32s ws) → W.cell? ⟨w.heap.size + 1 + 1 + 1, t, none⟩ = some (.int .u32 (ws.getD t 0 : Nat)) := fun W h => by
            rw [h.cell]
            exact u32s_get _ _ (by rw [Hwl.out]; exact hlt)
          generalize k.getD t 0 = kt at *
          generalize ws.getD t 0 = wt at *
          obtain ⟨va, vb, vc, vd, ve, vf, vg, vh, hst⟩ : ∃ va vb vc vd ve vf vg vh, rounds k ws (St.of s) t = ⟨va, vb, vc, vd, ve, vf, vg, vh⟩ := ⟨_, _, _, _, _, _, _, _, rfl⟩
          rw [hst] at hv hstep
          have hl8 : (rounds k ws (St.of s) t).list = [va, vb, vc, vd, ve, vf, vg, vh] := by rw [hst]; rfl
          rw [hl8] at Hx
          obtain ⟨T1, hT1⟩ : ∃ T, t1N ⟨va, vb, vc, vd, ve, vf, vg, vh⟩ kt wt = T := ⟨_, rfl⟩
          obtain ⟨T2, hT2⟩ : ∃ T, t2N ⟨va, vb, vc, vd, ve, vf, vg, vh⟩ = T := ⟨_, rfl⟩
          have hres : (rounds k ws (St.of s) (t + 1)).list = [add32 T1 T2, va, vb, vc, add32 vd T1, ve, vf, vg] := by rw [hstep, rnd, hT1, hT2]; rfl
          have va' := hv.a
          have vb' := hv.b
          have vc' := hv.c
          have vd' := hv.d
          have ve' := hv.e
          have vf' := hv.f
          have vg' := hv.g
          have vh' := hv.h
          simp only at va' vb' vc' vd' ve' vf' vg' vh'
          have hxc : ∀ (W : World) (j : Nat), j < 8 → BlkIs W g 29 (u32s [va, vb, vc, vd, ve, vf, vg, vh]) → W.cell? ⟨g, j, none⟩ = some (.int .u32 (([va, vb, vc, vd, ve, vf, vg, vh] : List Nat).getD j 0 : Nat)) := fun W j hj h => by
            rw [h.cell]
            exact u32s_get _ _ hj
          have Hxc := Lib.hid hxc
          have Hck := Lib.hid hck
          have Hcw := Lib.hid hcw
          have Hres := Lib.hid hres
          have HT1 := Lib.hid hT1
          have HT2 := Lib.hid hT2
          have d2 : decide ((t : Int) < 64) = true := by simp; omega
          have it : (t : Int) < 64 := by omega
          clear hstep hsw hv hck hcw hst hl8 hres hxc hT1 hT2
          have c0 : wr.cell? ⟨g, 0, none⟩ = some (.int .u32 (va : Int)) := Hxc.out wr 0 (by decide) Hx.out.x0
          have c4 : wr.cell? ⟨g, 4, none⟩ = some (.int .u32 (ve : Int)) := Hxc.out wr 4 (by decide) Hx.out.x0
          go_upto_region 13 with fail
          go_quiet (fail)
          clear c0 c4
          go_upto_region 14 with fail
          have Hx3 := Lib.hid (Hx.out.heap (wr' := wr.drewN nq) rfl rfl rfl rfl)
          generalize wr.drewN nq = W1 at *
          have Hx4 := Lib.hid Hx3.out.drew
          clear Hx Hx3
          have X1 := Lib.hid (fun W g h => right3 W ve g 6 11 25 ve' (by decide) (by decide) (by decide) h)
          have hbig : rotN ve [6, 11, 25] = big1N ve := rfl
          rw [hbig] at X1
          have hq1 := big1N_lt ve ve'
          have ech : bits .or .u32 (bits .and .u32 (ve : Int) (vf : Int)) (bits .and .u32 (bits .xor .u32 (if IntKind.u32.signed = true then (-1 : Int) else IntKind.u32.max) (ve : Int)) (vg : Int)) = ((chooseN ve vf vg : Nat) : Int) := by
            rw [if_neg (by decide), show IntKind.u32.max = ((4294967295 : Nat) : Int) from rfl, u32_xor_nat _ _ (by omega) ve', u32_and_nat _ _ ve' vf', u32_and_nat _ _ (xor_lt _ _ (by omega) ve') vg', u32_or_nat _ _ (and_lt _ _ ve') (and_lt _ _ (xor_lt _ _ (by omega) ve'))]
            rfl
          have emo : bits .or .u32 (bits .or .u32 (bits .and .u32 (va : Int) (vb : Int)) (bits .and .u32 (va : Int) (vc : Int))) (bits .and .u32 (vb : Int) (vc : Int)) = ((mostN va vb vc : Nat) : Int) := by
            rw [u32_and_nat _ _ va' vb', u32_and_nat _ _ va' vc', u32_and_nat _ _ vb' vc', u32_or_nat _ _ (and_lt _ _ va') (and_lt _ _ va'), u32_or_nat _ _ (or_lt _ _ (and_lt _ _ va') (and_lt _ _ va')) (and_lt _ _ vb')]
            rfl
          have X2 := Lib.hid (fun W g h => right3 W va g 2 13 22 va' (by decide) (by decide) (by decide) h)
          have hbig0 : rotN va [2, 13, 22] = big0N va := rfl
          rw [hbig0] at X2
          have ea1 := add32_cast vh (big1N ve)
          have ea2 := add32_cast (add32 vh (big1N ve)) (chooseN ve vf vg)
          have ea3 := add32_cast (add32 (add32 vh (big1N ve)) (chooseN ve vf vg)) kt
          have ea4 := add32_cast (add32 (add32 (add32 vh (big1N ve)) (chooseN ve vf vg)) kt) wt
          have et1 : add32 (add32 (add32 (add32 vh (big1N ve)) (chooseN ve vf vg)) kt) wt = T1 := HT1.out
          rw [et1] at ea4
          have eb1 := add32_cast (big0N va) (mostN va vb vc)
          have et2 : add32 (big0N va) (mostN va vb vc) = T2 := HT2.out
          rw [et2] at eb1
          have eg1 := add32_cast T1 T2
          have eg2 := add32_cast vd T1
          generalize add32 (add32 (add32 vh (big1N ve)) (chooseN ve vf vg)) kt = A3 at *
          generalize add32 (add32 vh (big1N ve)) (chooseN ve vf vg) = A2 at *
          generalize add32 vh (big1N ve) = A1 at *
          generalize chooseN ve vf vg = ch at *
          generalize mostN va vb vc = mo at *
          generalize big1N ve = bg1 at *
          generalize big0N va = bg0 at *
          have Ea1 := Lib.hid ea1
          have Ea2 := Lib.hid ea2
          have Ea3 := Lib.hid ea3
          have Ea4 := Lib.hid ea4
          have Eb1 := Lib.hid eb1
          have Eg1 := Lib.hid eg1
          have Eg2 := Lib.hid eg2
          have Emo := Lib.hid emo
          clear HT1 HT2 et1 et2 hbig hbig0 hq1 ea1 ea2 ea3 ea4 eb1 eg1 eg2 emo
          refine wp_region_held_drew (S := fun W => W.cell? ⟨g, 7, none⟩ = some (.int .u32 (vh : Int)) ∧ W.cell? ⟨g, 5, none⟩ = some (.int .u32 (vf : Int)) ∧ W.cell? ⟨g, 6, none⟩ = some (.int .u32 (vg : Int)) ∧ W.cell? ⟨w.heap.size, t, none⟩ = some (.int .u32 (kt : Int)) ∧ W.cell? ⟨w.heap.size + 1 + 1 + 1, t, none⟩ = some (.int .u32 (wt : Int))) (by kernel_rfl) ⟨Hxc.out _ 7 (by decide) Hx4.out.x0, Hxc.out _ 5 (by decide) Hx4.out.x0, Hxc.out _ 6 (by decide) Hx4.out.x0, Hck.out _ Hx4.out.k0, Hcw.out _ Hx4.out.w0⟩ (fun hHeld => ?_)
          change wpAnyH _ _ _ _ _ 26 (Array.replicate 26 false) _ _
          generalize W1.drew = Wd at *
          refine wpAnyH_take (i := 0) (oi := { dst := some 101, op := Op.indexAddr 29 (Operand.tmp 11) (Operand.const (Value.int IntKind.i64 7)), type := 0, pos := "ref.go:92", after := #[], guard := none }) (v := ?vu0) rfl (by kernel_rfl) (by kernel_rfl) (by kernel_rfl) (fun _ _ _ h => h) (Or.inl ⟨by rfl, ?hyu0⟩) hHeld ?restu0
          case hyu0 =>
            intro W hSw
            go_simp
            try with_reducible rfl
          try simp only [Act.put, List.setIfInBounds_toArray, List.set_cons_zero, List.set_cons_succ]
          refine wpAnyH_take (i := 1) (oi := { dst := some 102, op := Op.load 28 (Operand.tmp 101), type := 28, pos := "ref.go:92", after := #[{ on := 0, ground := Ground.data }], guard := none }) (v := ?vu1) rfl (by kernel_rfl) (by kernel_rfl) (by kernel_rfl) (fun _ _ _ h => h) (Or.inl ⟨by rfl, ?hyu1⟩) hHeld ?restu1
          case hyu1 =>
            intro W hSw
            obtain ⟨z1, z2, z3, z4, z5⟩ := (hSw : W.cell? ⟨g, 7, none⟩ = some (.int .u32 (vh : Int)) ∧ W.cell? ⟨g, 5, none⟩ = some (.int .u32 (vf : Int)) ∧ W.cell? ⟨g, 6, none⟩ = some (.int .u32 (vg : Int)) ∧ W.cell? ⟨w.heap.size, t, none⟩ = some (.int .u32 (kt : Int)) ∧ W.cell? ⟨w.heap.size + 1 + 1 + 1, t, none⟩ = some (.int .u32 (wt : Int)))
            go_simp
            try with_reducible rfl
          try simp only [Act.put, List.setIfInBounds_toArray, List.set_cons_zero, List.set_cons_succ]
          refine wpAnyH_take (i := 2) (oi := { dst := some 103, op := Op.move (Operand.tmp 14), type := 28, pos := "ref.go:92", after := #[], guard := none }) (v := ?vu2) rfl (by kernel_rfl) (by kernel_rfl) (by kernel_rfl) (fun _ _ _ h => h) (Or.inl ⟨by rfl, ?hyu2⟩) hHeld ?restu2
          case hyu2 =>
            intro W hSw
            go_simp
            try with_reducible rfl
          try simp only [Act.put, List.setIfInBounds_toArray, List.set_cons_zero, List.set_cons_succ]
          refine wpAnyH_take (i := 6) (oi := { dst := some 107, op := Op.move (Operand.tmp 14), type := 28, pos := "ref.go:92", after := #[], guard := none }) (v := ?vu6) rfl (by kernel_rfl) (by kernel_rfl) (by kernel_rfl) (fun _ _ _ h => h) (Or.inl ⟨by rfl, ?hyu6⟩) hHeld ?restu6
          case hyu6 =>
            intro W hSw
            go_simp
            try with_reducible rfl
          try simp only [Act.put, List.setIfInBounds_toArray, List.set_cons_zero, List.set_cons_succ]
          refine wpAnyH_take (i := 7) (oi := { dst := some 108, op := Op.indexAddr 29 (Operand.tmp 11) (Operand.const (Value.int IntKind.i64 5)), type := 0, pos := "ref.go:92", after := #[], guard := none }) (v := ?vu7) rfl (by kernel_rfl) (by kernel_rfl) (by kernel_rfl) (fun _ _ _ h => h) (Or.inl ⟨by rfl, ?hyu7⟩) hHeld ?restu7
          case hyu7 =>
            intro W hSw
            go_simp
            try with_reducible rfl
          try simp only [Act.put, List.setIfInBounds_toArray, List.set_cons_zero, List.set_cons_succ]
          refine wpAnyH_take (i := 8) (oi := { dst := some 109, op := Op.load 28 (Operand.tmp 108), type := 28, pos := "ref.go:92", after := #[{ on := 7, ground := Ground.data }], guard := none }) (v := ?vu8) rfl (by kernel_rfl) (by kernel_rfl) (by kernel_rfl) (fun _ _ _ h => h) (Or.inl ⟨by rfl, ?hyu8⟩) hHeld ?restu8
          case hyu8 =>
            intro W hSw
            obtain ⟨z1, z2, z3, z4, z5⟩ := (hSw : W.cell? ⟨g, 7, none⟩ = some (.int .u32 (vh : Int)) ∧ W.cell? ⟨g, 5, none⟩ = some (.int .u32 (vf : Int)) ∧ W.cell? ⟨g, 6, none⟩ = some (.int .u32 (vg : Int)) ∧ W.cell? ⟨w.heap.size, t, none⟩ = some (.int .u32 (kt : Int)) ∧ W.cell? ⟨w.heap.size + 1 + 1 + 1, t, none⟩ = some (.int .u32 (wt : Int)))
            go_simp
            try with_reducible rfl
          try simp only [Act.put, List.setIfInBounds_toArray, List.set_cons_zero, List.set_cons_succ]
          refine wpAnyH_take (i := 9) (oi := { dst := some 110, op := Op.binOp BinOp.and 28 (Operand.tmp 107) (Operand.tmp 109) 28, type := 28, pos := "ref.go:92", after := #[{ on := 6, ground := Ground.data }, { on := 8, ground := Ground.data }], guard := none }) (v := ?vu9) rfl (by kernel_rfl) (by kernel_rfl) (by kernel_rfl) (fun _ _ _ h => h) (Or.inl ⟨by rfl, ?hyu9⟩) hHeld ?restu9
          case hyu9 =>
            intro W hSw
            go_simp
            try with_reducible rfl
          try simp only [Act.put, List.setIfInBounds_toArray, List.set_cons_zero, List.set_cons_succ]
          refine wpAnyH_take (i := 10) (oi := { dst := some 111, op := Op.move (Operand.tmp 14), type := 28, pos := "ref.go:92", after := #[], guard := none }) (v := ?vu10) rfl (by kernel_rfl) (by kernel_rfl) (by kernel_rfl) (fun _ _ _ h => h) (Or.inl ⟨by rfl, ?hyu10⟩) hHeld ?restu10
          case hyu10 =>
            intro W hSw
            go_simp
            try with_reducible rfl
          try simp only [Act.put, List.setIfInBounds_toArray, List.set_cons_zero, List.set_cons_succ]
          refine wpAnyH_take (i := 11) (oi := { dst := some 112, op := Op.unOp UnOp.xor 28 (Operand.tmp 111), type := 28, pos := "ref.go:92", after := #[{ on := 10, ground := Ground.data }], guard := none }) (v := ?vu11) rfl (by kernel_rfl) (by kernel_rfl) (by kernel_rfl) (fun _ _ _ h => h) (Or.inl ⟨by rfl, ?hyu11⟩) hHeld ?restu11
          case hyu11 =>
            intro W hSw
            go_simp
            try with_reducible rfl
          try simp only [Act.put, List.setIfInBounds_toArray, List.set_cons_zero, List.set_cons_succ]
          refine wpAnyH_take (i := 12) (oi := { dst := some 113, op := Op.indexAddr 29 (Operand.tmp 11) (Operand.const (Value.int IntKind.i64 6)), type := 0, pos := "ref.go:92", after := #[], guard := none }) (v := ?vu12) rfl (by kernel_rfl) (by kernel_rfl) (by kernel_rfl) (fun _ _ _ h => h) (Or.inl ⟨by rfl, ?hyu12⟩) hHeld ?restu12
          case hyu12 =>
            intro W hSw
            go_simp
            try with_reducible rfl
          try simp only [Act.put, List.setIfInBounds_toArray, List.set_cons_zero, List.set_cons_succ]
          refine wpAnyH_take (i := 13) (oi := { dst := some 114, op := Op.load 28 (Operand.tmp 113), type := 28, pos := "ref.go:92", after := #[{ on := 12, ground := Ground.data }], guard := none }) (v := ?vu13) rfl (by kernel_rfl) (by kernel_rfl) (by kernel_rfl) (fun _ _ _ h => h) (Or.inl ⟨by rfl, ?hyu13⟩) hHeld ?restu13
          case hyu13 =>
            intro W hSw
            obtain ⟨z1, z2, z3, z4, z5⟩ := (hSw : W.cell? ⟨g, 7, none⟩ = some (.int .u32 (vh : Int)) ∧ W.cell? ⟨g, 5, none⟩ = some (.int .u32 (vf : Int)) ∧ W.cell? ⟨g, 6, none⟩ = some (.int .u32 (vg : Int)) ∧ W.cell? ⟨w.heap.size, t, none⟩ = some (.int .u32 (kt : Int)) ∧ W.cell? ⟨w.heap.size + 1 + 1 + 1, t, none⟩ = some (.int .u32 (wt : Int)))
            go_simp
            try with_reducible rfl
          try simp only [Act.put, List.setIfInBounds_toArray, List.set_cons_zero, List.set_cons_succ]
          refine wpAnyH_take (i := 14) (oi := { dst := some 115, op := Op.binOp BinOp.and 28 (Operand.tmp 112) (Operand.tmp 114) 28, type := 28, pos := "ref.go:92", after := #[{ on := 11, ground := Ground.data }, { on := 13, ground := Ground.data }], guard := none }) (v := ?vu14) rfl (by kernel_rfl) (by kernel_rfl) (by kernel_rfl) (fun _ _ _ h => h) (Or.inl ⟨by rfl, ?hyu14⟩) hHeld ?restu14
          case hyu14 =>
            intro W hSw
            go_simp
            try with_reducible rfl
          try simp only [Act.put, List.setIfInBounds_toArray, List.set_cons_zero, List.set_cons_succ]
          refine wpAnyH_take (i := 15) (oi := { dst := some 116, op := Op.binOp BinOp.or 28 (Operand.tmp 110) (Operand.tmp 115) 28, type := 28, pos := "ref.go:92", after := #[{ on := 9, ground := Ground.data }, { on := 14, ground := Ground.data }], guard := none }) (v := ?vu15) rfl (by kernel_rfl) (by kernel_rfl) (by kernel_rfl) (fun _ _ _ h => h) (Or.inl ⟨by rfl, ?hyu15⟩) hHeld ?restu15
          case hyu15 =>
            intro W hSw
            go_simp
            try with_reducible rfl
          try simp only [Act.put, List.setIfInBounds_toArray, List.set_cons_zero, List.set_cons_succ]
          refine wpAnyH_take (i := 17) (oi := { dst := some 118, op := Op.move (Operand.tmp 12), type := 3, pos := "ref.go:92", after := #[], guard := none }) (v := ?vu17) rfl (by kernel_rfl) (by kernel_rfl) (by kernel_rfl) (fun _ _ _ h => h) (Or.inl ⟨by rfl, ?hyu17⟩) hHeld ?restu17
          case hyu17 =>
            intro W hSw
            go_simp
            try with_reducible rfl
          try simp only [Act.put, List.setIfInBounds_toArray, List.set_cons_zero, List.set_cons_succ]
          refine wpAnyH_take (i := 18) (oi := { dst := some 119, op := Op.indexAddr 31 (Operand.tmp 3) (Operand.tmp 118), type := 0, pos := "ref.go:92", after := #[{ on := 17, ground := Ground.data }], guard := none }) (v := ?vu18) rfl (by kernel_rfl) (by kernel_rfl) (by kernel_rfl) (fun _ _ _ h => h) (Or.inl ⟨by rfl, ?hyu18⟩) hHeld ?restu18
          case hyu18 =>
            intro W hSw
            go_simp
            try with_reducible rfl
          try simp only [Act.put, List.setIfInBounds_toArray, List.set_cons_zero, List.set_cons_succ]
          refine wpAnyH_take (i := 19) (oi := { dst := some 120, op := Op.load 28 (Operand.tmp 119), type := 28, pos := "ref.go:92", after := #[{ on := 18, ground := Ground.data }], guard := none }) (v := ?vu19) rfl (by kernel_rfl) (by kernel_rfl) (by kernel_rfl) (fun _ _ _ h => h) (Or.inl ⟨by rfl, ?hyu19⟩) hHeld ?restu19
          case hyu19 =>
            intro W hSw
            obtain ⟨z1, z2, z3, z4, z5⟩ := (hSw : W.cell? ⟨g, 7, none⟩ = some (.int .u32 (vh : Int)) ∧ W.cell? ⟨g, 5, none⟩ = some (.int .u32 (vf : Int)) ∧ W.cell? ⟨g, 6, none⟩ = some (.int .u32 (vg : Int)) ∧ W.cell? ⟨w.heap.size, t, none⟩ = some (.int .u32 (kt : Int)) ∧ W.cell? ⟨w.heap.size + 1 + 1 + 1, t, none⟩ = some (.int .u32 (wt : Int)))
            go_simp
            try with_reducible rfl
          try simp only [Act.put, List.setIfInBounds_toArray, List.set_cons_zero, List.set_cons_succ]
          refine wpAnyH_take (i := 21) (oi := { dst := some 122, op := Op.move (Operand.tmp 12), type := 3, pos := "ref.go:92", after := #[], guard := none }) (v := ?vu21) rfl (by kernel_rfl) (by kernel_rfl) (by kernel_rfl) (fun _ _ _ h => h) (Or.inl ⟨by rfl, ?hyu21⟩) hHeld ?restu21
          case hyu21 =>
            intro W hSw
            go_simp
            try with_reducible rfl
          try simp only [Act.put, List.setIfInBounds_toArray, List.set_cons_zero, List.set_cons_succ]
          refine wpAnyH_take (i := 22) (oi := { dst := some 123, op := Op.indexAddr 31 (Operand.tmp 7) (Operand.tmp 122), type := 0, pos := "ref.go:92", after := #[{ on := 21, ground := Ground.data }], guard := none }) (v := ?vu22) rfl (by kernel_rfl) (by kernel_rfl) (by kernel_rfl) (fun _ _ _ h => h) (Or.inl ⟨by rfl, ?hyu22⟩) hHeld ?restu22
          case hyu22 =>
            intro W hSw
            go_simp
            try with_reducible rfl
          try simp only [Act.put, List.setIfInBounds_toArray, List.set_cons_zero, List.set_cons_succ]
          refine wpAnyH_take (i := 23) (oi := { dst := some 124, op := Op.load 28 (Operand.tmp 123), type := 28, pos := "ref.go:92", after := #[{ on := 22, ground := Ground.data }], guard := none }) (v := ?vu23) rfl (by kernel_rfl) (by kernel_rfl) (by kernel_rfl) (fun _ _ _ h => h) (Or.inl ⟨by rfl, ?hyu23⟩) hHeld ?restu23
          case hyu23 =>
            intro W hSw
            obtain ⟨z1, z2, z3, z4, z5⟩ := (hSw : W.cell? ⟨g, 7, none⟩ = some (.int .u32 (vh : Int)) ∧ W.cell? ⟨g, 5, none⟩ = some (.int .u32 (vf : Int)) ∧ W.cell? ⟨g, 6, none⟩ = some (.int .u32 (vg : Int)) ∧ W.cell? ⟨w.heap.size, t, none⟩ = some (.int .u32 (kt : Int)) ∧ W.cell? ⟨w.heap.size + 1 + 1 + 1, t, none⟩ = some (.int .u32 (wt : Int)))
            go_simp
            try with_reducible rfl
          try simp only [Act.put, List.setIfInBounds_toArray, List.set_cons_zero, List.set_cons_succ]
          clear ech
          refine wpAnyH_ready (rs := [3]) (by kernel_rfl) (by simp) ?_
          refine AllReadyH.cons (o := { dst := some 104, op := Op.buildSlice 49 3 #[(0, Operand.const (Value.int IntKind.i64 6)), (1, Operand.const (Value.int IntKind.i64 11)), (2, Operand.const (Value.int IntKind.i64 25))], type := 49, pos := "ref.go:92", after := #[], guard := none }) rfl (fun K' hK => ?_) AllReadyH.nil
          go_simp
          have K1 := Lib.hid (BlkIs.new Wd 3 #[.int .i64 6, .int .i64 11, .int .i64 25])
          have R1 := Lib.hid (Hx4.out.below ((Below.refl _ _).alloc (Nat.le_refl _) (.cells #[.int .i64 6, .int .i64 11, .int .i64 25] 3)))
          obtain ⟨g1, hg1⟩ : ∃ g, Wd.heap.size = g := ⟨_, rfl⟩
          rw [hg1] at K1 ⊢
          clear hg1
          generalize (Wd.alloc (.cells #[.int .i64 6, .int .i64 11, .int .i64 25] 3)) = W2 at *
          refine hK.out _ _ ⟨Hxc.out _ 7 (by decide) R1.out.x0, Hxc.out _ 5 (by decide) R1.out.x0, Hxc.out _ 6 (by decide) R1.out.x0, Hck.out _ R1.out.k0, Hcw.out _ R1.out.w0⟩ (fun hHeld => ?_)
          clear hK K'
          try simp only [Act.put, List.setIfInBounds_toArray, List.set_cons_zero, List.set_cons_succ]
          refine wpAnyH_ready (rs := [4]) (by kernel_rfl) (by simp) ?_
          refine AllReadyH.cons (o := { dst := some 105, op := Op.call { callee := Callee.value (Operand.func 47), args := #[Operand.tmp 103, Operand.tmp 104], argTypes := #[28, 49] }, type := 28, pos := "ref.go:92", after := #[{ on := 2, ground := Ground.data }, { on := 3, ground := Ground.data }], guard := none }) rfl (fun K' hK => ?_) AllReadyH.nil
          go_simp
          refine (X1.out _ _ K1.out).mono ?_
          rintro e W3 ⟨rfl, hb2⟩
          have R2 := Lib.hid (R1.out.below hb2)
          clear hb2
          show K' _ W3
          refine hK.out _ _ ⟨Hxc.out _ 7 (by decide) R2.out.x0, Hxc.out _ 5 (by decide) R2.out.x0, Hxc.out _ 6 (by decide) R2.out.x0, Hck.out _ R2.out.k0, Hcw.out _ R2.out.w0⟩ (fun hHeld => ?_)
          clear hK K'
          try simp only [Act.put, List.setIfInBounds_toArray, List.set_cons_zero, List.set_cons_succ]
          have ea1 := Ea1.out
          have ea2 := Ea2.out
          have ea3 := Ea3.out
          have ea4 := Ea4.out
          refine wpAnyH_take (i := 5) (oi := { dst := some 106, op := Op.binOp BinOp.add 28 (Operand.tmp 102) (Operand.tmp 105) 28, type := 28, pos := "ref.go:92", after := #[{ on := 1, ground := Ground.data }, { on := 4, ground := Ground.data }], guard := none }) (v := ?vu5) rfl (by kernel_rfl) (by kernel_rfl) (by kernel_rfl) (fun _ _ _ h => h) (Or.inl ⟨by rfl, ?hyu5⟩) hHeld ?restu5
          case hyu5 =>
            intro W hSw
            go_simp
            try with_reducible rfl
          try simp only [Act.put, List.setIfInBounds_toArray, List.set_cons_zero, List.set_cons_succ]
          refine wpAnyH_take (i := 16) (oi := { dst := some 117, op := Op.binOp BinOp.add 28 (Operand.tmp 106) (Operand.tmp 116) 28, type := 28, pos := "ref.go:92", after := #[{ on := 5, ground := Ground.data }, { on := 15, ground := Ground.data }], guard := none }) (v := ?vu16) rfl (by kernel_rfl) (by kernel_rfl) (by kernel_rfl) (fun _ _ _ h => h) (Or.inl ⟨by rfl, ?hyu16⟩) hHeld ?restu16
          case hyu16 =>
            intro W hSw
            go_simp
            try with_reducible rfl
          try simp only [Act.put, List.setIfInBounds_toArray, List.set_cons_zero, List.set_cons_succ]
          refine wpAnyH_take (i := 20) (oi := { dst := some 121, op := Op.binOp BinOp.add 28 (Operand.tmp 117) (Operand.tmp 120) 28, type := 28, pos := "ref.go:92", after := #[{ on := 16, ground := Ground.data }, { on := 19, ground := Ground.data }], guard := none }) (v := ?vu20) rfl (by kernel_rfl) (by kernel_rfl) (by kernel_rfl) (fun _ _ _ h => h) (Or.inl ⟨by rfl, ?hyu20⟩) hHeld ?restu20
          case hyu20 =>
            intro W hSw
            go_simp
            try with_reducible rfl
          try simp only [Act.put, List.setIfInBounds_toArray, List.set_cons_zero, List.set_cons_succ]
          refine wpAnyH_take (i := 24) (oi := { dst := some 125, op := Op.binOp BinOp.add 28 (Operand.tmp 121) (Operand.tmp 124) 28, type := 28, pos := "ref.go:92", after := #[{ on := 20, ground := Ground.data }, { on := 23, ground := Ground.data }], guard := none }) (v := ?vu24) rfl (by kernel_rfl) (by kernel_rfl) (by kernel_rfl) (fun _ _ _ h => h) (Or.inl ⟨by rfl, ?hyu24⟩) hHeld ?restu24
          case hyu24 =>
            intro W hSw
            go_simp
            try with_reducible rfl
          try simp only [Act.put, List.setIfInBounds_toArray, List.set_cons_zero, List.set_cons_succ]
          refine wpAnyH_take (i := 25) (oi := { dst := some 15, op := Op.assign (Operand.tmp 125), type := 28, pos := "ref.go:92", after := #[{ on := 24, ground := Ground.data }, { on := 4, ground := Ground.chain }, { on := 0, ground := Ground.phase }, { on := 1, ground := Ground.phase }, { on := 2, ground := Ground.phase }, { on := 3, ground := Ground.phase }, { on := 4, ground := Ground.phase }, { on := 5, ground := Ground.phase }, { on := 6, ground := Ground.phase }, { on := 7, ground := Ground.phase }, { on := 8, ground := Ground.phase }, { on := 9, ground := Ground.phase }, { on := 10, ground := Ground.phase }, { on := 11, ground := Ground.phase }, { on := 12, ground := Ground.phase }, { on := 13, ground := Ground.phase }, { on := 14, ground := Ground.phase }, { on := 15, ground := Ground.phase }, { on := 16, ground := Ground.phase }, { on := 17, ground := Ground.phase }, { on := 18, ground := Ground.phase }, { on := 19, ground := Ground.phase }, { on := 20, ground := Ground.phase }, { on := 21, ground := Ground.phase }, { on := 22, ground := Ground.phase }, { on := 23, ground := Ground.phase }, { on := 24, ground := Ground.phase }], guard := none }) (v := ?vu25) rfl (by kernel_rfl) (by kernel_rfl) (by kernel_rfl) (fun _ _ _ h => h) (Or.inl ⟨by rfl, ?hyu25⟩) hHeld ?restu25
          case hyu25 =>
            intro W hSw
            go_simp
            try with_reducible rfl
          try simp only [Act.put, List.setIfInBounds_toArray, List.set_cons_zero, List.set_cons_succ]
          refine wpAnyH_done (by kernel_rfl) ?_ _
          clear hHeld ea1 ea2 ea3 ea4 Ea1 Ea2 Ea3 Ea4
          go_upto_region 15 with fail
          have R3 := Lib.hid R2.out.drew
          have emo := Emo.out
          refine wp_region_held_drew (S := fun W => W.cell? ⟨g, 1, none⟩ = some (.int .u32 (vb : Int)) ∧ W.cell? ⟨g, 2, none⟩ = some (.int .u32 (vc : Int))) (by kernel_rfl) ⟨Hxc.out _ 1 (by decide) R3.out.x0, Hxc.out _ 2 (by decide) R3.out.x0⟩ (fun hHeld => ?_)
          change wpAnyH _ _ _ _ _ 20 (Array.replicate 20 false) _ _
          generalize W3.drew = We at *
          refine wpAnyH_take (i := 0) (oi := { dst := some 126, op := Op.move (Operand.tmp 13), type := 28, pos := "ref.go:93", after := #[], guard := none }) (v := ?vv0) rfl (by kernel_rfl) (by kernel_rfl) (by kernel_rfl) (fun _ _ _ h => h) (Or.inl ⟨by rfl, ?hyv0⟩) hHeld ?restv0
          case hyv0 =>
            intro W hSw
            go_simp
            try with_reducible rfl
          try simp only [Act.put, List.setIfInBounds_toArray, List.set_cons_zero, List.set_cons_succ]
          refine wpAnyH_take (i := 3) (oi := { dst := some 129, op := Op.move (Operand.tmp 13), type := 28, pos := "ref.go:93", after := #[], guard := none }) (v := ?vv3) rfl (by kernel_rfl) (by kernel_rfl) (by kernel_rfl) (fun _ _ _ h => h) (Or.inl ⟨by rfl, ?hyv3⟩) hHeld ?restv3
          case hyv3 =>
            intro W hSw
            go_simp
            try with_reducible rfl
          try simp only [Act.put, List.setIfInBounds_toArray, List.set_cons_zero, List.set_cons_succ]
          refine wpAnyH_take (i := 4) (oi := { dst := some 130, op := Op.indexAddr 29 (Operand.tmp 11) (Operand.const (Value.int IntKind.i64 1)), type := 0, pos := "ref.go:93", after := #[], guard := none }) (v := ?vv4) rfl (by kernel_rfl) (by kernel_rfl) (by kernel_rfl) (fun _ _ _ h => h) (Or.inl ⟨by rfl, ?hyv4⟩) hHeld ?restv4
          case hyv4 =>
            intro W hSw
            go_simp
            try with_reducible rfl
          try simp only [Act.put, List.setIfInBounds_toArray, List.set_cons_zero, List.set_cons_succ]
          refine wpAnyH_take (i := 5) (oi := { dst := some 131, op := Op.load 28 (Operand.tmp 130), type := 28, pos := "ref.go:93", after := #[{ on := 4, ground := Ground.data }], guard := none }) (v := ?vv5) rfl (by kernel_rfl) (by kernel_rfl) (by kernel_rfl) (fun _ _ _ h => h) (Or.inl ⟨by rfl, ?hyv5⟩) hHeld ?restv5
          case hyv5 =>
            intro W hSw
            obtain ⟨z1, z2⟩ := (hSw : W.cell? ⟨g, 1, none⟩ = some (.int .u32 (vb : Int)) ∧ W.cell? ⟨g, 2, none⟩ = some (.int .u32 (vc : Int)))
            go_simp
            try with_reducible rfl
          try simp only [Act.put, List.setIfInBounds_toArray, List.set_cons_zero, List.set_cons_succ]
          refine wpAnyH_take (i := 6) (oi := { dst := some 132, op := Op.binOp BinOp.and 28 (Operand.tmp 129) (Operand.tmp 131) 28, type := 28, pos := "ref.go:93", after := #[{ on := 3, ground := Ground.data }, { on := 5, ground := Ground.data }], guard := none }) (v := ?vv6) rfl (by kernel_rfl) (by kernel_rfl) (by kernel_rfl) (fun _ _ _ h => h) (Or.inl ⟨by rfl, ?hyv6⟩) hHeld ?restv6
          case hyv6 =>
            intro W hSw
            go_simp
            try with_reducible rfl
          try simp only [Act.put, List.setIfInBounds_toArray, List.set_cons_zero, List.set_cons_succ]
          refine wpAnyH_take (i := 7) (oi := { dst := some 133, op := Op.move (Operand.tmp 13), type := 28, pos := "ref.go:93", after := #[], guard := none }) (v := ?vv7) rfl (by kernel_rfl) (by kernel_rfl) (by kernel_rfl) (fun _ _ _ h => h) (Or.inl ⟨by rfl, ?hyv7⟩) hHeld ?restv7
          case hyv7 =>
            intro W hSw
            go_simp
            try with_reducible rfl
          try simp only [Act.put, List.setIfInBounds_toArray, List.set_cons_zero, List.set_cons_succ]
          refine wpAnyH_take (i := 8) (oi := { dst := some 134, op := Op.indexAddr 29 (Operand.tmp 11) (Operand.const (Value.int IntKind.i64 2)), type := 0, pos := "ref.go:93", after := #[], guard := none }) (v := ?vv8) rfl (by kernel_rfl) (by kernel_rfl) (by kernel_rfl) (fun _ _ _ h => h) (Or.inl ⟨by rfl, ?hyv8⟩) hHeld ?restv8
          case hyv8 =>
            intro W hSw
            go_simp
            try with_reducible rfl
          try simp only [Act.put, List.setIfInBounds_toArray, List.set_cons_zero, List.set_cons_succ]
          refine wpAnyH_take (i := 9) (oi := { dst := some 135, op := Op.load 28 (Operand.tmp 134), type := 28, pos := "ref.go:93", after := #[{ on := 8, ground := Ground.data }], guard := none }) (v := ?vv9) rfl (by kernel_rfl) (by kernel_rfl) (by kernel_rfl) (fun _ _ _ h => h) (Or.inl ⟨by rfl, ?hyv9⟩) hHeld ?restv9
          case hyv9 =>
            intro W hSw
            obtain ⟨z1, z2⟩ := (hSw : W.cell? ⟨g, 1, none⟩ = some (.int .u32 (vb : Int)) ∧ W.cell? ⟨g, 2, none⟩ = some (.int .u32 (vc : Int)))
            go_simp
            try with_reducible rfl
          try simp only [Act.put, List.setIfInBounds_toArray, List.set_cons_zero, List.set_cons_succ]
          refine wpAnyH_take (i := 10) (oi := { dst := some 136, op := Op.binOp BinOp.and 28 (Operand.tmp 133) (Operand.tmp 135) 28, type := 28, pos := "ref.go:93", after := #[{ on := 7, ground := Ground.data }, { on := 9, ground := Ground.data }], guard := none }) (v := ?vv10) rfl (by kernel_rfl) (by kernel_rfl) (by kernel_rfl) (fun _ _ _ h => h) (Or.inl ⟨by rfl, ?hyv10⟩) hHeld ?restv10
          case hyv10 =>
            intro W hSw
            go_simp
            try with_reducible rfl
          try simp only [Act.put, List.setIfInBounds_toArray, List.set_cons_zero, List.set_cons_succ]
          refine wpAnyH_take (i := 11) (oi := { dst := some 137, op := Op.binOp BinOp.or 28 (Operand.tmp 132) (Operand.tmp 136) 28, type := 28, pos := "ref.go:93", after := #[{ on := 6, ground := Ground.data }, { on := 10, ground := Ground.data }], guard := none }) (v := ?vv11) rfl (by kernel_rfl) (by kernel_rfl) (by kernel_rfl) (fun _ _ _ h => h) (Or.inl ⟨by rfl, ?hyv11⟩) hHeld ?restv11
          case hyv11 =>
            intro W hSw
            go_simp
            try with_reducible rfl
          try simp only [Act.put, List.setIfInBounds_toArray, List.set_cons_zero, List.set_cons_succ]
          refine wpAnyH_take (i := 12) (oi := { dst := some 138, op := Op.indexAddr 29 (Operand.tmp 11) (Operand.const (Value.int IntKind.i64 1)), type := 0, pos := "ref.go:93", after := #[], guard := none }) (v := ?vv12) rfl (by kernel_rfl) (by kernel_rfl) (by kernel_rfl) (fun _ _ _ h => h) (Or.inl ⟨by rfl, ?hyv12⟩) hHeld ?restv12
          case hyv12 =>
            intro W hSw
            go_simp
            try with_reducible rfl
          try simp only [Act.put, List.setIfInBounds_toArray, List.set_cons_zero, List.set_cons_succ]
          refine wpAnyH_take (i := 13) (oi := { dst := some 139, op := Op.load 28 (Operand.tmp 138), type := 28, pos := "ref.go:93", after := #[{ on := 12, ground := Ground.data }], guard := none }) (v := ?vv13) rfl (by kernel_rfl) (by kernel_rfl) (by kernel_rfl) (fun _ _ _ h => h) (Or.inl ⟨by rfl, ?hyv13⟩) hHeld ?restv13
          case hyv13 =>
            intro W hSw
            obtain ⟨z1, z2⟩ := (hSw : W.cell? ⟨g, 1, none⟩ = some (.int .u32 (vb : Int)) ∧ W.cell? ⟨g, 2, none⟩ = some (.int .u32 (vc : Int)))
            go_simp
            try with_reducible rfl
          try simp only [Act.put, List.setIfInBounds_toArray, List.set_cons_zero, List.set_cons_succ]
          refine wpAnyH_take (i := 14) (oi := { dst := some 140, op := Op.indexAddr 29 (Operand.tmp 11) (Operand.const (Value.int IntKind.i64 2)), type := 0, pos := "ref.go:93", after := #[], guard := none }) (v := ?vv14) rfl (by kernel_rfl) (by kernel_rfl) (by kernel_rfl) (fun _ _ _ h => h) (Or.inl ⟨by rfl, ?hyv14⟩) hHeld ?restv14
          case hyv14 =>
            intro W hSw
            go_simp
            try with_reducible rfl
          try simp only [Act.put, List.setIfInBounds_toArray, List.set_cons_zero, List.set_cons_succ]
          refine wpAnyH_take (i := 15) (oi := { dst := some 141, op := Op.load 28 (Operand.tmp 140), type := 28, pos := "ref.go:93", after := #[{ on := 14, ground := Ground.data }], guard := none }) (v := ?vv15) rfl (by kernel_rfl) (by kernel_rfl) (by kernel_rfl) (fun _ _ _ h => h) (Or.inl ⟨by rfl, ?hyv15⟩) hHeld ?restv15
          case hyv15 =>
            intro W hSw
            obtain ⟨z1, z2⟩ := (hSw : W.cell? ⟨g, 1, none⟩ = some (.int .u32 (vb : Int)) ∧ W.cell? ⟨g, 2, none⟩ = some (.int .u32 (vc : Int)))
            go_simp
            try with_reducible rfl
          try simp only [Act.put, List.setIfInBounds_toArray, List.set_cons_zero, List.set_cons_succ]
          refine wpAnyH_take (i := 16) (oi := { dst := some 142, op := Op.binOp BinOp.and 28 (Operand.tmp 139) (Operand.tmp 141) 28, type := 28, pos := "ref.go:93", after := #[{ on := 13, ground := Ground.data }, { on := 15, ground := Ground.data }], guard := none }) (v := ?vv16) rfl (by kernel_rfl) (by kernel_rfl) (by kernel_rfl) (fun _ _ _ h => h) (Or.inl ⟨by rfl, ?hyv16⟩) hHeld ?restv16
          case hyv16 =>
            intro W hSw
            go_simp
            try with_reducible rfl
          try simp only [Act.put, List.setIfInBounds_toArray, List.set_cons_zero, List.set_cons_succ]
          refine wpAnyH_take (i := 17) (oi := { dst := some 143, op := Op.binOp BinOp.or 28 (Operand.tmp 137) (Operand.tmp 142) 28, type := 28, pos := "ref.go:93", after := #[{ on := 11, ground := Ground.data }, { on := 16, ground := Ground.data }], guard := none }) (v := ?vv17) rfl (by kernel_rfl) (by kernel_rfl) (by kernel_rfl) (fun _ _ _ h => h) (Or.inl ⟨by rfl, ?hyv17⟩) hHeld ?restv17
          case hyv17 =>
            intro W hSw
            go_simp
            try with_reducible rfl
          try simp only [Act.put, List.setIfInBounds_toArray, List.set_cons_zero, List.set_cons_succ]
          clear emo Emo
          refine wpAnyH_ready (rs := [1]) (by kernel_rfl) (by simp) ?_
          refine AllReadyH.cons (o := { dst := some 127, op := Op.buildSlice 49 3 #[(0, Operand.const (Value.int IntKind.i64 2)), (1, Operand.const (Value.int IntKind.i64 13)), (2, Operand.const (Value.int IntKind.i64 22))], type := 49, pos := "ref.go:93", after := #[], guard := none }) rfl (fun K' hK => ?_) AllReadyH.nil
          go_simp
          have K2 := Lib.hid (BlkIs.new We 3 #[.int .i64 2, .int .i64 13, .int .i64 22])
          have R4 := Lib.hid (R3.out.below ((Below.refl _ _).alloc (Nat.le_refl _) (.cells #[.int .i64 2, .int .i64 13, .int .i64 22] 3)))
          obtain ⟨g2, hg2⟩ : ∃ g, We.heap.size = g := ⟨_, rfl⟩
          rw [hg2] at K2 ⊢
          clear hg2
          generalize (We.alloc (.cells #[.int .i64 2, .int .i64 13, .int .i64 22] 3)) = W4 at *
          refine hK.out _ _ ⟨Hxc.out _ 1 (by decide) R4.out.x0, Hxc.out _ 2 (by decide) R4.out.x0⟩ (fun hHeld => ?_)
          clear hK K'
          try simp only [Act.put, List.setIfInBounds_toArray, List.set_cons_zero, List.set_cons_succ]
          refine wpAnyH_ready (rs := [2]) (by kernel_rfl) (by simp) ?_
          refine AllReadyH.cons (o := { dst := some 128, op := Op.call { callee := Callee.value (Operand.func 47), args := #[Operand.tmp 126, Operand.tmp 127], argTypes := #[28, 49] }, type := 28, pos := "ref.go:93", after := #[{ on := 0, ground := Ground.data }, { on := 1, ground := Ground.data }], guard := none }) rfl (fun K' hK => ?_) AllReadyH.nil
          go_simp
          refine (X2.out _ _ K2.out).mono ?_
          rintro e W5 ⟨rfl, hb2⟩
          have R5 := Lib.hid (R4.out.below hb2)
          clear hb2
          show K' _ W5
          refine hK.out _ _ ⟨Hxc.out _ 1 (by decide) R5.out.x0, Hxc.out _ 2 (by decide) R5.out.x0⟩ (fun hHeld => ?_)
          clear hK K'
          try simp only [Act.put, List.setIfInBounds_toArray, List.set_cons_zero, List.set_cons_succ]
          have eb1 := Eb1.out
          refine wpAnyH_take (i := 18) (oi := { dst := some 144, op := Op.binOp BinOp.add 28 (Operand.tmp 128) (Operand.tmp 143) 28, type := 28, pos := "ref.go:93", after := #[{ on := 2, ground := Ground.data }, { on := 17, ground := Ground.data }], guard := none }) (v := ?vv18) rfl (by kernel_rfl) (by kernel_rfl) (by kernel_rfl) (fun _ _ _ h => h) (Or.inl ⟨by rfl, ?hyv18⟩) hHeld ?restv18
          case hyv18 =>
            intro W hSw
            go_simp
            try with_reducible rfl
          try simp only [Act.put, List.setIfInBounds_toArray, List.set_cons_zero, List.set_cons_succ]
          refine wpAnyH_take (i := 19) (oi := { dst := some 16, op := Op.assign (Operand.tmp 144), type := 28, pos := "ref.go:93", after := #[{ on := 18, ground := Ground.data }, { on := 2, ground := Ground.chain }, { on := 0, ground := Ground.phase }, { on := 1, ground := Ground.phase }, { on := 2, ground := Ground.phase }, { on := 3, ground := Ground.phase }, { on := 4, ground := Ground.phase }, { on := 5, ground := Ground.phase }, { on := 6, ground := Ground.phase }, { on := 7, ground := Ground.phase }, { on := 8, ground := Ground.phase }, { on := 9, ground := Ground.phase }, { on := 10, ground := Ground.phase }, { on := 11, ground := Ground.phase }, { on := 12, ground := Ground.phase }, { on := 13, ground := Ground.phase }, { on := 14, ground := Ground.phase }, { on := 15, ground := Ground.phase }, { on := 16, ground := Ground.phase }, { on := 17, ground := Ground.phase }, { on := 18, ground := Ground.phase }], guard := none }) (v := ?vv19) rfl (by kernel_rfl) (by kernel_rfl) (by kernel_rfl) (fun _ _ _ h => h) (Or.inl ⟨by rfl, ?hyv19⟩) hHeld ?restv19
          case hyv19 =>
            intro W hSw
            go_simp
            try with_reducible rfl
          try simp only [Act.put, List.setIfInBounds_toArray, List.set_cons_zero, List.set_cons_succ]
          refine wpAnyH_done (by kernel_rfl) ?_ _
          clear hHeld eb1 Eb1
          have c1 := Hxc.out _ 1 (by decide) R5.out.x0
          have c2 := Hxc.out _ 2 (by decide) R5.out.x0
          have c3 := Hxc.out _ 3 (by decide) R5.out.x0
          have c5 := Hxc.out _ 5 (by decide) R5.out.x0
          have c6 := Hxc.out _ 6 (by decide) R5.out.x0
          simp only [List.getD_cons_succ, List.getD_cons_zero] at c1 c2 c3 c5 c6
          have hz : (u32s [va, vb, vc, vd, ve, vf, vg, vh]).size = 8 := by rw [u32s_size]; rfl
          have hz2 : (u32s [add32 T1 T2, va, vb, vc, add32 vd T1, ve, vf, vg]).size = 8 := by rw [u32s_size]; rfl
          have Hz := Lib.hid hz
          have Hz2 := Lib.hid hz2
          have eg1 := Eg1.out
          have eg2 := Eg2.out
          clear hz hz2
          go_wp2_with (first
            | (refine wp_store_blk rfl 29 (.tmp 11) (.tmp 162) rfl g rfl (u32s [add32 T1 T2, va, vb, vc, add32 vd T1, ve, vf, vg]) rfl R5.out.x0 (by rw [info8, Hz2.out]) (by rw [Hz.out, Hz2.out]) (u32s_one _) ?_)
            | fail)
          have hend := R5.out.setRow [add32 T1 T2, va, vb, vc, add32 vd T1, ve, vf, vg]
          have Hend := Lib.hid hend
          clear hend
          go_roundw
          case rel => exact ⟨t + 1, by go_num, by omega, by rw [Hres.out]; exact Hend.out⟩
          case measure => simp [intOf]; omega
        · have ht64 : t = 64 := by omega
          have d2 : decide ((t : Int) < 64) = false := by simp; omega
          obtain ⟨X, hX⟩ : ∃ X, (rounds k ws (St.of s) 64).list = X := ⟨_, rfl⟩
          have hXl : X.length = 8 := by rw [← hX]; rfl
          have hmix : mixedN s (nums l) k = plusGo X s 8 := by
            rw [plus_turn s X Hs.out hXl]
            unfold mixedN
            rw [Hws.out, hX]
          have hXw : Words X := by
            have hsw : StW (St.of s) := ⟨Hsw.out 0, Hsw.out 1, Hsw.out 2, Hsw.out 3, Hsw.out 4, Hsw.out 5, Hsw.out 6, Hsw.out 7⟩
            have hv := rounds_w k ws (St.of s) hsw 64
            rw [← hX]
            intro j
            match j with
            | 0 => exact hv.a
            | 1 => exact hv.b
            | 2 => exact hv.c
            | 3 => exact hv.d
            | 4 => exact hv.e
            | 5 => exact hv.f
            | 6 => exact hv.g
            | 7 => exact hv.h
            | j + 8 => simp [St.list]
          rw [ht64, hX] at Hx
          have Hmix := Lib.hid hmix
          have HXl := Lib.hid hXl
          have HXw := Lib.hid hXw
          clear hX hmix hXl hXw ht64 hlt ht
          go_wp2
          go_loopw [17] (fun x wr => ∃ i : Nat, x = .int .i64 i ∧ i ≤ 8 ∧ RX w wr g k s (filled H0 0) ws (plusGo X s i)) (fun x _ => 8 - (intOf x).toNat)
          case atStart => exact ⟨0, rfl, by omega, Hx.out⟩
          case round =>
            obtain ⟨i, rfl, hi, hrel⟩ := hrel
            have Hx5 := Lib.hid hrel
            clear hrel Hx
            by_cases hlt : i < 8
            · have hgl : i < (plusGo X s i).length := by rw [plusGo_length, HXl.out]; exact hlt
              have cx : ∀ W : World, BlkIs W g 29 (u32s (plusGo X s i)) → W.cell? ⟨g, i, none⟩ = some (.int .u32 ((plusGo X s i).getD i 0 : Nat)) := fun W h => by
                rw [h.cell]
                exact u32s_get _ _ hgl
              have cs : ∀ W : World, BlkIs W (w.heap.size + 1) 29 (u32s s) → W.cell? ⟨w.heap.size + 1, i, none⟩ = some (.int .u32 (s.getD i 0 : Nat)) := fun W h => by
                rw [h.cell]
                exact u32s_get _ _ (by rw [Hs.out]; exact hlt)
              have hstep : plusGo X s (i + 1) = (plusGo X s i).set i (add32 ((plusGo X s i).getD i 0) (s.getD i 0)) := rfl
              have Hx6 := Lib.hid Hx5.out.drew
              have k1 := cx _ Hx6.out.x0
              have k2 := cs _ Hx6.out.s0
              have f1 := Hx6.out.x0.frozen i
              generalize (plusGo X s i).getD i 0 = p at *
              generalize s.getD i 0 = q at *
              have E1 := add32_cast p q
              have Hstep := Lib.hid hstep
              have d3 : decide ((i : Int) < 8) = true := by simp; omega
              have i1 : (i : Int) < 8 := by omega
              clear hgl hstep
              have Cx := Lib.hid (fun W h => cx W h)
              have Cs := Lib.hid (fun W h => cs W h)
              clear cx cs k1 k2
              go_upto_region 20 with fail
              refine wp_region_held_drew (S := fun W => W.cell? ⟨w.heap.size + 1, i, none⟩ = some (.int .u32 (q : Int))) (by kernel_rfl) (Cs.out _ Hx6.out.s0) (fun hHeld => ?_)
              change wpAnyH _ _ _ _ _ 10 (Array.replicate 10 false) _ _
              have k1 : wr.drew.cell? ⟨g, i, none⟩ = some (.int .u32 (p : Int)) := Cx.out _ Hx6.out.x0
              generalize wr.drew = Wf at *
              refine wpAnyH_take (i := 0) (oi := { dst := some 167, op := Op.move (Operand.tmp 17), type := 3, pos := "ref.go:97", after := #[], guard := none }) (v := ?vy0) rfl (by kernel_rfl) (by kernel_rfl) (by kernel_rfl) (fun _ _ _ h => h) (Or.inl ⟨by rfl, ?hyy0⟩) hHeld ?resty0
              case hyy0 =>
                intro W hSw
                go_simp
                try with_reducible rfl
              try simp only [Act.put, List.setIfInBounds_toArray, List.set_cons_zero, List.set_cons_succ]
              refine wpAnyH_take (i := 1) (oi := { dst := some 168, op := Op.move (Operand.tmp 17), type := 3, pos := "ref.go:97", after := #[], guard := none }) (v := ?vy1) rfl (by kernel_rfl) (by kernel_rfl) (by kernel_rfl) (fun _ _ _ h => h) (Or.inl ⟨by rfl, ?hyy1⟩) hHeld ?resty1
              case hyy1 =>
                intro W hSw
                go_simp
                try with_reducible rfl
              try simp only [Act.put, List.setIfInBounds_toArray, List.set_cons_zero, List.set_cons_succ]
              refine wpAnyH_take (i := 2) (oi := { dst := some 169, op := Op.indexAddr 29 (Operand.tmp 11) (Operand.tmp 168), type := 0, pos := "ref.go:97", after := #[{ on := 1, ground := Ground.data }], guard := none }) (v := ?vy2) rfl (by kernel_rfl) (by kernel_rfl) (by kernel_rfl) (fun _ _ _ h => h) (Or.inl ⟨by rfl, ?hyy2⟩) hHeld ?resty2
              case hyy2 =>
                intro W hSw
                go_simp
                try with_reducible rfl
              try simp only [Act.put, List.setIfInBounds_toArray, List.set_cons_zero, List.set_cons_succ]
              refine wpAnyH_take (i := 4) (oi := { dst := some 171, op := Op.move (Operand.tmp 17), type := 3, pos := "ref.go:97", after := #[], guard := none }) (v := ?vy4) rfl (by kernel_rfl) (by kernel_rfl) (by kernel_rfl) (fun _ _ _ h => h) (Or.inl ⟨by rfl, ?hyy4⟩) hHeld ?resty4
              case hyy4 =>
                intro W hSw
                go_simp
                try with_reducible rfl
              try simp only [Act.put, List.setIfInBounds_toArray, List.set_cons_zero, List.set_cons_succ]
              refine wpAnyH_take (i := 5) (oi := { dst := some 172, op := Op.indexAddr 29 (Operand.tmp 4) (Operand.tmp 171), type := 0, pos := "ref.go:97", after := #[{ on := 4, ground := Ground.data }], guard := none }) (v := ?vy5) rfl (by kernel_rfl) (by kernel_rfl) (by kernel_rfl) (fun _ _ _ h => h) (Or.inl ⟨by rfl, ?hyy5⟩) hHeld ?resty5
              case hyy5 =>
                intro W hSw
                go_simp
                try with_reducible rfl
              try simp only [Act.put, List.setIfInBounds_toArray, List.set_cons_zero, List.set_cons_succ]
              refine wpAnyH_take (i := 6) (oi := { dst := some 173, op := Op.load 28 (Operand.tmp 172), type := 28, pos := "ref.go:97", after := #[{ on := 5, ground := Ground.data }], guard := none }) (v := ?vy6) rfl (by kernel_rfl) (by kernel_rfl) (by kernel_rfl) (fun _ _ _ h => h) (Or.inl ⟨by rfl, ?hyy6⟩) hHeld ?resty6
              case hyy6 =>
                intro W hSw
                have z2 : W.cell? ⟨w.heap.size + 1, i, none⟩ = some (.int .u32 (q : Int)) := hSw
                go_simp
                try with_reducible rfl
              try simp only [Act.put, List.setIfInBounds_toArray, List.set_cons_zero, List.set_cons_succ]
              refine wpAnyH_ready (rs := [3]) (by kernel_rfl) (by simp) ?_
              refine AllReadyH.cons (o := { dst := some 170, op := Op.load 28 (Operand.tmp 169), type := 28, pos := "ref.go:97", after := #[{ on := 2, ground := Ground.data }], guard := none }) rfl (fun K' hK => ?_) AllReadyH.nil
              go_simp
              refine hK.out _ _ (Cs.out _ Hx6.out.s0) (fun hHeld => ?_)
              clear hK K'
              try simp only [Act.put, List.setIfInBounds_toArray, List.set_cons_zero, List.set_cons_succ]
              refine wpAnyH_take (i := 7) (oi := { dst := some 174, op := Op.binOp BinOp.add 28 (Operand.tmp 170) (Operand.tmp 173) 28, type := 28, pos := "ref.go:97", after := #[{ on := 3, ground := Ground.data }, { on := 6, ground := Ground.data }], guard := none }) (v := ?vy7) rfl (by kernel_rfl) (by kernel_rfl) (by kernel_rfl) (fun _ _ _ h => h) (Or.inl ⟨by rfl, ?hyy7⟩) hHeld ?resty7
              case hyy7 =>
                intro W hSw
                go_simp
                try with_reducible rfl
              try simp only [Act.put, List.setIfInBounds_toArray, List.set_cons_zero, List.set_cons_succ]
              refine wpAnyH_take (i := 8) (oi := { dst := some 175, op := Op.indexAddr 29 (Operand.tmp 11) (Operand.tmp 167), type := 0, pos := "ref.go:97", after := #[{ on := 0, ground := Ground.data }, { on := 0, ground := Ground.phase }, { on := 1, ground := Ground.phase }, { on := 2, ground := Ground.phase }, { on := 3, ground := Ground.phase }, { on := 4, ground := Ground.phase }, { on := 5, ground := Ground.phase }, { on := 6, ground := Ground.phase }, { on := 7, ground := Ground.phase }], guard := none }) (v := ?vy8) rfl (by kernel_rfl) (by kernel_rfl) (by kernel_rfl) (fun _ _ _ h => h) (Or.inl ⟨by rfl, ?hyy8⟩) hHeld ?resty8
              case hyy8 =>
                intro W hSw
                go_simp
                try with_reducible rfl
              try simp only [Act.put, List.setIfInBounds_toArray, List.set_cons_zero, List.set_cons_succ]
              refine wpAnyH_ready (rs := [9]) (by kernel_rfl) (by simp) ?_
              refine AllReadyH.cons (o := { dst := none, op := Op.store 28 (Operand.tmp 175) (Operand.tmp 174), type := 0, pos := "ref.go:97", after := #[{ on := 8, ground := Ground.data }, { on := 7, ground := Ground.data }, { on := 0, ground := Ground.phase }, { on := 1, ground := Ground.phase }, { on := 2, ground := Ground.phase }, { on := 3, ground := Ground.phase }, { on := 4, ground := Ground.phase }, { on := 5, ground := Ground.phase }, { on := 6, ground := Ground.phase }, { on := 7, ground := Ground.phase }], guard := none }) rfl (fun K' hK => ?_) AllReadyH.nil
              go_simp
              have hkeep : (Wf.setCell ⟨g, i, none⟩ (.int .u32 ((add32 p q : Nat) : Int))).cell? ⟨w.heap.size + 1, i, none⟩ = some (.int .u32 (q : Int)) := by
                have hf := Hx6.out.far
                rw [World.cell?_setCell_other (h := by intro e; injection e with e _; omega)]
                exact Cs.out _ Hx6.out.s0
              refine hK.out _ _ hkeep (fun hHeld => ?_)
              clear hK K'
              try simp only [Act.put]
              refine wpAnyH_done (by kernel_rfl) ?_ _
              clear hHeld
              have hend := Hx6.out.setx i (add32 p q)
              rw [← Hstep.out] at hend
              have Hend := Lib.hid hend
              clear hend
              go_wp2
              go_roundw
              case rel => exact ⟨i + 1, by go_num, by omega, Hend.out⟩
              case measure => simp [intOf]; omega
            · obtain rfl : i = 8 := by omega
              have d3 : decide ((8 : Int) < 8) = false := by decide
              rw [← Hmix.out] at Hx5
              have hz1 : (u32s (mixedN s (nums l) k)).size = 8 := by rw [u32s_size, mixedN_length, Hs.out]
              have Hz1 := Lib.hid hz1
              clear hz1 hlt hi
              go_wp2_with (first
                | (refine wpList_load_row rfl 29 (.tmp 11) rfl g rfl 29 (u32s (mixedN s (nums l) k)) (0, 0) _ Hx5.out.x0 Tryd.underlying29 rfl (by rw [info8, Hz1.out]) ?_)
                | (refine wp_store_blk rfl 29 (.tmp 6) (.tmp 176) rfl (w.heap.size + 1 + 1) rfl (u32s (mixedN s (nums l) k)) rfl Hx5.out.r0 (by rw [info8, Hz1.out]) (by rw [Hz8.out, Hz1.out]) (u32s_one _) ?_))
              refine bodyPost_ret (results_cell_row rfl _ _ (w.heap.size + 1 + 1) 29 (u32s (mixedN s (nums l) k)) (0, 0) _ rfl (heap_setRow_same Hx5.out.r0 _) Tryd.underlying29 rfl (by rw [info8, Hz1.out])) rfl ?_
              exact ⟨rfl, Hx5.out.here.grown (grown_setRow _ _ _) Hx5.out.here.size (by intro q hq; injection hq with hq; omega)⟩
end Go.Proofs.YtpgjnmakpghamaaDoor
