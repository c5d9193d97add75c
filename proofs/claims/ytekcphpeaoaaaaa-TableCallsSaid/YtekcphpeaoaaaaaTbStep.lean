/- Package table: a position is moved: step, pass, before. -/
import Derived.Test.YtekcphpeaoaaaaaTbEnter
namespace Go.Proofs.Ytekcphpeaoaaaaa
open Go.RowKit
set_option linter.unusedVariables false

theorem place_empty (xs : List KV) : place [] xs = 0 := by
  cases xs with
  | nil => rfl
  | cons e r => unfold place; rw [lt_nil]; rfl
theorem pos_pop {W : World} {B pb : Nat} {G : Nat → Prop} {e : Nat × T} {s : Stk} {g cap : Nat} {w0 : World} (hp : PosAt W B pb G (e :: s)) (hv : W.cell? ⟨pb, 0, none⟩ = some (.slice (some ⟨g, 0, none⟩) (s.length + 1) cap)) :
    PosAt (W.setCell ⟨pb, 0, none⟩ (.slice (some ⟨g, 0, none⟩) s.length cap)) B pb G s ∧ Mv G W G (W.setCell ⟨pb, 0, none⟩ (.slice (some ⟨g, 0, none⟩) s.length cap)) := by
  have hcel := hp.cel
  obtain ⟨v, hb, hr, hpb, hg⟩ := hp
  obtain ⟨g', cap', rfl, _, _, _, hr2⟩ := pos_last hr
  have : some (Value.slice (some ⟨g', 0, none⟩) (s.length + 1) cap') = some (Value.slice (some ⟨g, 0, none⟩) (s.length + 1) cap) := by rw [← hv, hb.cell]; rfl
  simp only [Option.some.injEq, Value.slice.injEq, Addr.mk.injEq, and_true, true_and] at this
  obtain ⟨rfl, rfl⟩ := this
  have hne : g' ≠ pb := fun e => by
    obtain ⟨_, cs, hc⟩ := own_row_blk hr (j := g') rfl
    rw [e] at hc
    have := hb.symm.trans hc
    simp at this
  have r4 := row_of_blk (W' := W.setCell ⟨pb, 0, none⟩ (.slice (some ⟨g', 0, none⟩) s.length cap')) hr2 (fun j hj => (Chd.set W pb 0 _).block j (by
    obtain ⟨_, cs, hc⟩ := own_row_blk hr2 hj
    exact hc.lt) (fun e => hne (by rw [← e]; simpa [Value.ownBlock] using hj)))
  have P : PosAt (W.setCell ⟨pb, 0, none⟩ (.slice (some ⟨g', 0, none⟩) s.length cap')) B pb G s := ⟨_, hb.set 0 _, r4, hpb, hg⟩
  exact ⟨P, ⟨(Chd.set W pb 0 _).mono fun j _ e => (hg j).2 (.inl e), hcel, fun j hj => ⟨.inl hj, P.cel j hj⟩⟩⟩

set_option maxRecDepth 100000 in
theorem step_any (w0 W : World) (B pb n : Nat) (G : Nat → Prop) (b : Nat) (l : T) (k x : Str) (r : T) (s : Stk) (hB : Below B w0 W) (hB2 : B ≤ W.heap.size) (hs : StkIn w0 B ((b, .nd l k x r) :: s)) (hp : PosAt W B pb G ((b, .nd l k x r) :: s)) (hn : s.length + (T.nd l k x r).size ≤ n) (hn2 : n ≤ 1000000000) :
    Calls Try.prog 64 #[ptrV pb] W fun e W' => e = .returned (.tuple #[]) ∧ Moved w0 B pb n G W (r.pairs ++ flow s) W' := by
  have NX := Lib.hid (next_any W B pb G _ hp (by simp only [List.length_cons]; simp only [T.size] at hn; omega))
  obtain ⟨hin, _, hsr, h100⟩ := hs _ List.mem_cons_self
  obtain ⟨b', pl, pr, e, hb, hk, hl, hr, k1, k2⟩ := hin
  simp only [ptrV, Value.pointer.injEq, Option.some.injEq, Addr.mk.injEq, and_true] at e
  subst e
  obtain ⟨ur, rfl⟩ := hr.ptr
  have hsr2 := (srt_mid.1 hsr).2.1
  have hs2 : StkIn w0 B s := fun e he => hs e (List.mem_cons_of_mem _ he)
  obtain ⟨v, hvb, hvr, hpb, hg⟩ := hp
  obtain ⟨g, cap, rfl, hc, h1, h2, _⟩ := pos_last hvr
  have hbp : b ≠ pb := by omega
  have POP : Hid (∀ W1, Nx W W1 → PosAt (W1.setCell ⟨pb, 0, none⟩ (.slice (some ⟨g, 0, none⟩) s.length cap)) B pb G s ∧ Mv G W G (W1.setCell ⟨pb, 0, none⟩ (.slice (some ⟨g, 0, none⟩) s.length cap)) ∧ (W1.setCell ⟨pb, 0, none⟩ (.slice (some ⟨g, 0, none⟩) s.length cap)).cell? ⟨b, 5, none⟩ = some (.pointer ur)) := fun W1 n1 => by
    have P0 : PosAt W B pb G ((b, .nd l k x r) :: s) := ⟨_, hvb, hvr, hpb, hg⟩
    obtain ⟨p1, p2⟩ := pos_pop (w0 := w0) (P0.nx n1) (g := g) (cap := cap) (by rw [(hvb.nx n1).cell]; rfl)
    refine ⟨p1, (Mv.of_nx n1 P0.cel).trans p2, ?_⟩
    exact (node_at ((((hk.at_ hB hb).nx n1).chd (Chd.set _ pb 0 _) hbp))).c5
  have EN : Hid (∀ W2, PosAt W2 B pb G s → Mv G W G W2 → Calls Try.prog 59 #[ptrV pb, .pointer ur, .string (S [])] W2 fun e W' => e = .returned (.tuple #[]) ∧ Moved w0 B pb n G W2 (r.pairs.drop (place [] r.pairs) ++ flow s) W') := fun W2 p2 m2 => by
    have P0 : PosAt W B pb G ((b, .nd l k x r) :: s) := ⟨_, hvb, hvr, hpb, hg⟩
    exact enter_any w0 W2 B pb n G s _ r [] (hB.trans (mv_below m2 P0.ge hB2)) (Nat.le_trans hB2 m2.chd.size) hs2 hr hsr2 (by simp only [T.size] at h100; omega) p2 (by simp only [T.size] at hn; omega) hn2
  rw [place_empty, List.drop_zero] at EN
  have d0 : ∀ W1, Nx W W1 → W1.cell? ⟨pb, 0, none⟩ = some (.slice (some ⟨g, 0, none⟩) (s.length + 1) cap) ∧ W1.frozen? ⟨pb, 0, none⟩ = false := fun W1 h => ⟨by rw [(hvb.nx h).cell]; rfl, (hvb.nx h).frozen 0⟩
  have D0 := Lib.hid d0
  unfold maxLen at h2
  have hlen : s.length + 1 ≤ 1000000000 := by simp only [T.size] at hn; omega
  have hw2 : IntKind.i64.wrap ((s.length : Int) + 1 - 1) = (s.length : Int) := by rw [IntWalk.i64_in _ (by omega)]; omega
  have HW2 := Lib.hid hw2
  clear hvb hvr hg hpb hk hl hr hs hsr hsr2 hs2 hb hB hB2 hc d0 hw2
  unfold topV ptrV at NX
  unfold ptrV at EN
  unfold ptrV
  go_enter Try.func64, Try.ntmps64
  go_wp2_with fail
  refine NX.out.mono ?_
  rintro e W1 ⟨rfl, q, rfl⟩
  have N1 := Lib.hid (Nx.drewN (Nx.refl W) q)
  obtain ⟨d0, f0⟩ := D0.out _ N1.out
  have hw2 := HW2.out
  generalize W.drewN q = W1 at *
  go_wp2_with fail
  go_region
  obtain ⟨p2, m2, c2⟩ := POP.out W1 N1.out
  replace m2 := m2.trans (Mv.of_nx (Nx.drew (Nx.refl _)) p2.cel)
  replace p2 := p2.nx (Nx.drew (Nx.refl _))
  replace c2 : ((W1.setCell ⟨pb, 0, none⟩ (.slice (some ⟨g, 0, none⟩) s.length cap)).drew).cell? ⟨b, 5, none⟩ = some (.pointer ur) := c2
  generalize (W1.setCell ⟨pb, 0, none⟩ (.slice (some ⟨g, 0, none⟩) s.length cap)).drew = W2 at *
  have EN2 := Lib.hid (EN.out _ p2 m2)
  have M2 := Lib.hid m2
  clear p2 m2 EN POP d0 f0 hw2 D0
  go_wp2_with fail
  refine EN2.out.mono ?_
  rintro e W3 ⟨rfl, hmv⟩
  have FIN : Hid (Moved w0 B pb n G W (r.pairs ++ flow s) W3) := by
    obtain ⟨G', s', a1, a2, a3, a4, a5⟩ := hmv
    exact ⟨G', s', a1, M2.out.trans a2, a3, a4, a5⟩
  clear hmv c2
  go_wp2
  go_end0
  exact ⟨rfl, FIN.out⟩

theorem Moved.stay {w0 W W' : World} {B pb n : Nat} {G : Nat → Prop} {s : Stk} (hp : PosAt W B pb G s) (hs : StkIn w0 B s) (h : Nx W W') (hn : s.length ≤ n) : Moved w0 B pb n G W (flow s) W' :=
  ⟨G, s, hp.nx h, Mv.of_nx h hp.cel, hs, rfl, hn⟩
theorem Moved.after {w0 W W1 W' : World} {B pb n : Nat} {G : Nat → Prop} {xs : List KV} (h : Moved w0 B pb n G W1 xs W') (k : Mv G W G W1) : Moved w0 B pb n G W xs W' := by
  obtain ⟨G', s', a1, a2, a3, a4, a5⟩ := h
  exact ⟨G', s', a1, k.trans a2, a3, a4, a5⟩
theorem Moved.then_ {w0 W W1 W' : World} {B pb n : Nat} {G : Nat → Prop} {xs : List KV} (h : Moved w0 B pb n G W xs W1) (k : Nx W1 W') : Moved w0 B pb n G W xs W' := by
  obtain ⟨G', s', a1, a2, a3, a4, a5⟩ := h
  exact ⟨G', s', a1.nx k, a2.trans (Mv.of_nx k a1.cel), a3, a4, a5⟩
/-- What pass returns. -/
def passV (key : Str) : Stk → Value
  | (b, .nd _ k _ _) :: _ => if k = key then ptrV b else .pointer none
  | _ => .pointer none
def passF (key : Str) : Stk → List KV
  | (b, .nd l k x r) :: s => if k = key then r.pairs ++ flow s else (k, x) :: (r.pairs ++ flow s)
  | s => flow s

set_option maxRecDepth 100000 in
theorem pass_any (w0 W : World) (B pb n : Nat) (G : Nat → Prop) (s : Stk) (key : Str) (hB : Below B w0 W) (hB2 : B ≤ W.heap.size) (hs : StkIn w0 B s) (hp : PosAt W B pb G s) (hn : s.length + (s.head?.map fun e => e.2.size).getD 0 ≤ n) (hn2 : n ≤ 1000000000) :
    Calls Try.prog 51 #[ptrV pb, .string (S key)] W fun e W' => e = .returned (passV key s) ∧ Moved w0 B pb n G W (passF key s) W' := by
  have NX := Lib.hid (next_any W B pb G _ hp (by omega))
  cases s with
  | nil =>
    have ST := Lib.hid (fun W' (h : Nx W W') => Moved.stay hp hs h (show ([] : Stk).length ≤ n by simp))
    unfold topV at NX
    unfold ptrV
    clear hp hs hB hB2
    go_enter Try.func51, Try.ntmps51
    go_wp2_with fail
    refine NX.out.mono ?_
    rintro e W1 ⟨rfl, q, rfl⟩
    go_wp2_with fail
    go_ret
    exact ⟨rfl, ST.out _ (Nx.drewN (Nx.refl _) q)⟩
  | cons e s =>
    obtain ⟨b, t⟩ := e
    obtain ⟨hin, hne, hsr, h100⟩ := hs _ List.mem_cons_self
    cases t with
    | nil => exact absurd rfl hne
    | nd l k x r =>
      obtain ⟨b', pl, pr, e, hb, hk, hl, hr, k1, k2⟩ := hin
      simp only [ptrV, Value.pointer.injEq, Option.some.injEq, Addr.mk.injEq, and_true] at e
      subst e
      have hn' : s.length + (T.nd l k x r).size ≤ n := by simp only [List.length_cons, List.head?_cons, Option.map_some, Option.getD_some] at hn; omega
      have KC := Lib.hid (fun W' (h : Nx W W') => (node_at ((hk.at_ hB hb).nx h)).c0)
      have ST := Lib.hid (fun W' (h : Nx W W') => Moved.stay hp hs h (show ((b, T.nd l k x r) :: s).length ≤ n by simp only [List.length_cons, T.size] at *; omega))
      have SP := Lib.hid (fun W' (h : Nx W W') => step_any w0 W' B pb n G b l k x r s (hB.trans (Below.mono h hB2)) (Nat.le_trans hB2 h.size) hs (hp.nx h) hn' hn2)
      have MV := Lib.hid (fun W' (h : Nx W W') => Mv.of_nx h hp.cel)
      have heq := S_eq k key
      clear hp hs hB hB2 hk hl hr hn hn' hsr hne
      unfold topV at NX
      by_cases e : k = key
      · have ev : passV key ((b, T.nd l k x r) :: s) = ptrV b := by unfold passV; exact if_pos e
        have ef : passF key ((b, T.nd l k x r) :: s) = r.pairs ++ flow s := by unfold passF; exact if_pos e
        rw [ev, ef]
        have heq2 : (!((S k).toList == (S key).toList)) = false := by rw [heq, decide_eq_true e]; rfl
        rw [decide_eq_true e] at heq
        clear e ev ef
        unfold ptrV at *
        go_enter Try.func51, Try.ntmps51
        go_wp2_with fail
        refine NX.out.mono ?_
        rintro e W1 ⟨rfl, q, rfl⟩
        have N1 := Lib.hid (Nx.drewN (Nx.refl W) q)
        have d0 := KC.out _ N1.out
        generalize W.drewN q = W1 at *
        go_wp2_with fail
        refine (SP.out _ N1.out).mono ?_
        rintro e W2 ⟨rfl, hmv⟩
        have FIN := Lib.hid (hmv.after (MV.out _ N1.out))
        clear hmv d0
        go_wp2_with fail
        go_ret
        exact ⟨rfl, FIN.out⟩
      · have ev : passV key ((b, T.nd l k x r) :: s) = .pointer none := by unfold passV; exact if_neg e
        have ef : passF key ((b, T.nd l k x r) :: s) = flow ((b, T.nd l k x r) :: s) := by unfold passF; exact if_neg e
        rw [ev, ef]
        have heq2 : (!((S k).toList == (S key).toList)) = true := by rw [heq, decide_eq_false e]; rfl
        rw [decide_eq_false e] at heq
        clear e ev ef SP
        unfold ptrV at *
        go_enter Try.func51, Try.ntmps51
        go_wp2_with fail
        refine NX.out.mono ?_
        rintro e W1 ⟨rfl, q, rfl⟩
        have N1 := Lib.hid (Nx.drewN (Nx.refl W) q)
        have d0 := KC.out _ N1.out
        generalize W.drewN q = W1 at *
        go_wp2_with fail
        go_ret
        exact ⟨rfl, ST.out _ N1.out⟩

/-- A position that was made. -/
def Made (W : World) (B : Nat) (n : Nat) (xs : List KV) (p : Value) (W' : World) : Prop :=
  ∃ pb G s, p = ptrV pb ∧ PosAt W' B pb G s ∧ Nx W W' ∧ (∀ j, G j → W.heap.size ≤ j) ∧ StkIn W B s ∧ flow s = xs ∧ s.length ≤ n
set_option maxRecDepth 100000 in
theorem before_any (W : World) (B : Nat) (v : Value) (t : T) (key : Str) (hin : In W B v t) (hs : Srt t.pairs) (hB : B ≤ W.heap.size) (hn : t.size ≤ 100000000) :
    Calls Try.prog 46 #[v, .string (S key)] W (Ret (Made W B t.size (t.pairs.drop (place key t.pairs)))) := by
  obtain ⟨u, rfl⟩ := hin.ptr
  obtain ⟨W1, hW1⟩ : ∃ W1, W.alloc (.cells #[.slice none 0 0] 86) = W1 := ⟨_, rfl⟩
  have n1 : Nx W W1 := by rw [← hW1]; exact (Nx.refl W).alloc _
  have P0 : PosAt W1 B W.heap.size (fun j => j = W.heap.size) [] := by
    rw [← hW1]
    exact ⟨_, BlkIs.new W _ _, World.ownsRow_nil _ _ _ _, hB, fun j => ⟨.inl, fun e => e.elim id (fun e => by cases e)⟩⟩
  have EN := Lib.hid (enter_any W W1 B W.heap.size t.size _ [] (.pointer u) t key (Below.mono n1 hB) (Nat.le_trans hB n1.size) (fun e he => by cases he) hin hs hn P0 (by simp) (by omega))
  have HW := Lib.hid hW1
  have N1 := Lib.hid n1
  have P1 := Lib.hid P0.cel
  clear P0 hin hs n1 hW1
  unfold ptrV at EN
  go_enter Try.func46, Try.ntmps46
  go_wp2_with fail
  rw [HW.out]
  refine EN.out.mono ?_
  rintro e W2 ⟨rfl, hmv⟩
  have FIN : Hid (Made W B t.size (t.pairs.drop (place key t.pairs)) (.pointer (some ⟨W.heap.size, 0, none⟩)) W2) := by
    obtain ⟨G', s', a1, a2, a3, a4, a5⟩ := hmv
    refine ⟨W.heap.size, G', s', rfl, a1, ?_, fun j hj => ?_, a3, by rw [a4]; simp [flow], a5⟩
    · have := N1.out.chd.then_ a2.chd (M := fun _ => False) (fun j hj e => by omega)
      exact ⟨this.os, this.tape, this.output, this.size, fun j hj => this.block j hj (fun e => e)⟩
    · have h1 := N1.out.size
      rcases (a2.new j hj).1 with e | e <;> omega
  clear hmv
  go_wp2_with fail
  go_ret
  exact ⟨_, rfl, FIN.out⟩
end Go.Proofs.Ytekcphpeaoaaaaa
