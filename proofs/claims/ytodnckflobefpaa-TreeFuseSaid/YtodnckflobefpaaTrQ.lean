/- Package tree: bytes appended to those of a file. -/
import Derived.Test.YtodnckflobefpaaTrO
namespace Go.Proofs.Ytodnckflobefpaa
open Go.RowKit Go.Maps
set_option linter.unusedVariables false

theorem Own.at_ {w : World} {B n c j : Nat} {b : Str} (h : Own w B (some ⟨j, 0, none⟩) n c b) : B ≤ j ∧ j < w.heap.size := by
  rcases h.2 with ⟨hv, _⟩ | ⟨g, cap, cur, hv, hB, hg, _⟩
  · cases hv
  · simp only [Value.slice.injEq, Option.some.injEq, Addr.mk.injEq] at hv
    rw [hv.1.1]
    exact ⟨hB, (Array.getElem?_eq_some_iff.1 hg).1⟩
theorem Own.form {w : World} {B n c : Nat} {A : Option Addr} {b : Str} (h : Own w B A n c b) : (A = none ∧ n = 0 ∧ c = 0) ∨ ∃ j, A = some ⟨j, 0, none⟩ := by
  rcases h.2 with ⟨hv, h0⟩ | ⟨g, cap, cur, hv, _⟩
  · simp only [Value.slice.injEq] at hv
    exact .inl ⟨hv.1, h0, hv.2.2⟩
  · simp only [Value.slice.injEq] at hv
    exact .inr ⟨g, hv.1⟩
/-- Two slices of one block. -/
theorem Own.same {w w' : World} {B B' j n c n2 c2 N : Nat} {l l2 L : Str} (h : Own w B (some ⟨j, 0, none⟩) n c l) (h2 : Own w B' (some ⟨j, 0, none⟩) n2 c2 l2) (hn : n2 ≤ n) (hN : Own w' B (some ⟨j, 0, none⟩) N c L) (hle : n ≤ N) (hL : L.take n = l) : Own w' B' (some ⟨j, 0, none⟩) n2 c2 l2 := by
  rcases h.2 with ⟨hv, _⟩ | ⟨g, cap, cur, hv, hB, hg, h3, h4, h5, h6⟩
  · cases hv
  rcases h2.2 with ⟨hv2, _⟩ | ⟨g2, cap2, cur2, hv2, hB2, hg2, k3, k4, k5, k6⟩
  · cases hv2
  rcases hN.2 with ⟨hv3, _⟩ | ⟨g3, cap3, cur3, hv3, hB3, hg3, m3, m4, m5, m6⟩
  · cases hv3
  simp only [Value.slice.injEq, Option.some.injEq, Addr.mk.injEq, and_true, true_and] at hv hv2 hv3
  obtain ⟨e1, e2⟩ := hv
  obtain ⟨e3, e4⟩ := hv2
  obtain ⟨e5, e6⟩ := hv3
  subst e1 e2 e3 e4 e5 e6
  rw [hg] at hg2
  simp only [Option.some.injEq, Obj.cells.injEq, and_true] at hg2
  have hcur : cur = cur2 := hg2
  subst hcur
  have hcap : c2 = c := by simp only [Nat.mul_one] at h5 k5; omega
  refine ⟨h2.1, .inr ⟨j, c2, cur3, rfl, hB2, hg3, k3, k4, by rw [m5, hcap], ?_⟩⟩
  rw [← k6]
  have e7 : l2 = l.take n2 := bvs_inj (by rw [← k6]; unfold bvs; rw [List.map_take]; have : l.map (fun b : UInt8 => Value.int .u8 (b.toNat : Int)) = bvs l := rfl; rw [this, ← h6, List.take_take]; congr 1; omega)
  have e8 : cur3.toList.take (n2 * 1) = bvs (L.take n2) := by
    have : bvs (L.take n2) = (bvs L).take n2 := by unfold bvs; rw [List.map_take]
    rw [this, ← m6, List.take_take]
    congr 1
    omega
  rw [e8, k6, e7, ← hL, List.take_take]
  congr 2
  omega
theorem byte_append2 (w : World) (ty : TypeId) (A : Option Addr) (n c : Nat) (l : Str) (hown : Own w 0 A n c l) (A' : Option Addr) (m c' : Nat) (l' : Str) (hr : Arg w A' m c' l') (hb : n + m ≤ 1000000000) :
    ∃ A2 c2 w', (Builtin.append_ #[29, 29] ty #[.slice A n c, .slice A' m c']).run Try.prog w = .ok (.slice A2 (n + m) c2) w' ∧ Own w' 0 A2 (n + m) c2 (l ++ l') ∧
      ((A2 = A ∧ c2 = c ∧ w.grownBy w' (Value.slice A n c).ownBlock) ∨ (A2 = some ⟨w.heap.size, 0, none⟩ ∧ w.grownBy w' none)) := by
  obtain ⟨i, hi, hz, hs, hby⟩ := info_parts byte_info
  have hl' := hr.len
  obtain ⟨A2, c2, w', hrun, ho, hg, h5⟩ := byte_append w ty 0 A n c l hown _ A' m c' l' hr.byt (by omega) (Nat.zero_le _)
  rcases hown.form with ⟨rfl, rfl, rfl⟩ | ⟨j, rfl⟩
  · refine ⟨A2, c2, w', hrun, ho, ?_⟩
    rcases ho.form with ⟨rfl, _, rfl⟩ | ⟨j2, rfl⟩
    · exact .inl ⟨rfl, rfl, hg⟩
    · right
      rcases h5 with h5 | h5
      · cases h5
      · have : j2 = w.heap.size := by simpa [Value.ownBlock] using h5
        subst this
        exact ⟨rfl, hg⟩
  · have hjl := hown.at_.2
    rcases A' with _ | ad
    · obtain ⟨rfl, rfl⟩ := hr.none_eq
      have e := byte_append_nil w ty 0 _ n _ hown c'
      exact ⟨_, _, _, e, by simpa using hown, .inl ⟨rfl, rfl, World.grownBy.refl w _⟩⟩
    · obtain ⟨news, hnl, hnews, hone⟩ : ∃ news : List Value, news.length = m * i.size ∧ (∀ q u, news[q]? = some u → w.cell? (ad.add q) = some u) ∧ (∀ u ∈ news, u.oneCell' = true) := by
        rw [hs]
        rcases Nat.eq_zero_or_pos m with hm | hm
        · subst hm
          exact ⟨[], rfl, fun q u h => by simp at h, fun u h => by cases h⟩
        · obtain ⟨b, o, e, _, hc⟩ := hr.lies hm
          simp only [Option.some.injEq] at e
          subst e
          refine ⟨bvs l', by rw [bvs_length]; omega, fun q u hu => ?_, bvs_one l'⟩
          have hj : q < l'.length := by rw [← bvs_length]; exact (List.getElem?_eq_some_iff.1 hu).1
          rw [add_plain, hc q (by omega), ← bvs_get l' q hj, hu]
      rcases hown.2 with ⟨hv, _⟩ | ⟨g, cap, cur, hv, hB, hgc, h3, h4, h5', h6⟩
      · cases hv
      simp only [Value.slice.injEq, Option.some.injEq, Addr.mk.injEq, and_true, true_and] at hv
      obtain ⟨e1, e2⟩ := hv
      subst e1 e2
      by_cases hroom : n + m ≤ c
      · have e := run_append_room (P := Try.prog) w 29 ty 5 i Try.underlying29 hi j n c cur hgc ad m c' news hnl hnews hone hroom (by rw [hnl, hs, h5']; omega)
        rw [e] at hrun
        simp only [Result.ok.injEq, Value.slice.injEq] at hrun
        obtain ⟨⟨e1, _, e2⟩, e3⟩ := hrun
        subst e1 e2 e3
        exact ⟨_, _, _, e, ho, .inl ⟨rfl, rfl, hg⟩⟩
      · have e := run_append_grow (P := Try.prog) w 29 ty 5 i (.int .u8 0) Try.underlying29 hi hz ⟨j, 0, none⟩ n c (bvs l) (by rw [bvs_length, hs]; have := hown.len; omega)
          (World.ownsRow.cells (w := w) hown (g := j) rfl) ad m c' news hnl hnews (by omega) (by omega) (by rw [hby]; have := growslice_fits (need := n + m) (old := c) (bytes := 1) (by omega) (by omega); simpa using this)
        rw [e] at hrun
        simp only [Result.ok.injEq, Value.slice.injEq] at hrun
        obtain ⟨⟨e1, _, e2⟩, e3⟩ := hrun
        subst e1 e2 e3
        exact ⟨_, _, _, e, ho, .inr ⟨rfl, ⟨rfl, rfl, rfl, by simp, fun k hk _ => heap_alloc_old w.drew _ k hk⟩⟩⟩
theorem wpList_byte_append2 {w : World} {ops : Array Oper} {rest : List Oper} {o : Oper} {a : Act} {Q : Exit → Act → World → Prop} (hgd : o.guard = none) (s x : Operand)
    (ho : o.op = .call { callee := .builtin .append, args := #[s, x], argTypes := #[29, 29] })
    (A : Option Addr) (n c : Nat) (l : Str) (hs : a.eval s = .slice A n c) (hown : Own w 0 A n c l) (A' : Option Addr) (m c' : Nat) (l' : Str) (hx : a.eval x = .slice A' m c') (hr : Arg w A' m c' l') (hb : n + m ≤ 1000000000)
    (h : ∀ A2 c2 w', Own w' 0 A2 (n + m) c2 (l ++ l') → ((A2 = A ∧ c2 = c ∧ w.grownBy w' (Value.slice A n c).ownBlock) ∨ (A2 = some ⟨w.heap.size, 0, none⟩ ∧ w.grownBy w' none)) → wpList Try.prog ops Q rest (a.put o.dst (.slice A2 (n + m) c2)) w') :
    wpList Try.prog ops Q (o :: rest) a w := by
  refine wpList_plain hgd fun K hK => ?_
  obtain ⟨A2, c2, w', hr, h2, h3⟩ := byte_append2 w o.type A n c l hown A' m c' l' hr hb
  unfold Oper.wp execOp
  simp only [ho, resolve, invoke, builtin, Sem.run_bind, Sem.run_pure, Result.andThen_ok, List.map_toArray, List.map_cons, List.map_nil, hs, hx, hr]
  exact hK _ _ (h A2 c2 w' h2 h3)
end Go.Proofs.Ytodnckflobefpaa
