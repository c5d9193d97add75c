/- Bytes in memory: what a slice of bytes reads as, what keeps that, and how such a slice is cut. No function of the program is named here. -/
import Derived.Test.YtlmfjalkgapcgaaDoorRows
import Derived.WalkKit
import Derived.ProofKit
import Derived.OpenShut
import Derived.WalkSpells
import Derived.WalkLawsBesides
import Derived.Maps.AppendAt
import Derived.Deep.AppendLies
import Derived.Deep.Draws
import Derived.Lib.ConvBytes
import Derived.Laws.IdiomStrings
import Derived.Lib.Hide
import Derived.RegionTactic
import Derived.OwnWalk
namespace Go.Proofs.YtlmfjalkgapcgaaDoor
open Go.RowKit

/-! ### Bytes as the model has them -/
/-- Element j of a list of bytes, as a number (0 beyond the end). -/
def nth (l : List UInt8) (j : Nat) : Int := (l.getD j 0).toNat
theorem nth_lo (l : List UInt8) (j : Nat) : 0 ≤ nth l j := by unfold nth; omega
theorem nth_hi (l : List UInt8) (j : Nat) : nth l j ≤ 255 := by
  unfold nth
  have := (l.getD j 0).toNat_lt
  omega
theorem nth_eq (l : List UInt8) (j : Nat) (h : j < l.length) : nth l j = (l[j].toNat : Int) := by simp [nth, List.getD, h]
theorem nth_drop (l : List UInt8) (k j : Nat) : nth (l.drop k) j = nth l (k + j) := by simp [nth, List.getD]
theorem nth_take (l : List UInt8) (k j : Nat) (h : j < k) : nth (l.take k) j = nth l j := by simp [nth, List.getD, h]
theorem nth_append_left (l m : List UInt8) (j : Nat) (h : j < l.length) : nth (l ++ m) j = nth l j := by simp [nth, List.getD, List.getElem?_append, h]
theorem nth_append_right (l m : List UInt8) (j : Nat) : nth (l ++ m) (l.length + j) = nth m j := by simp [nth, List.getD, List.getElem?_append_right (show l.length ≤ l.length + j by omega)]

/-- A list of bytes as cells. -/
def bvs (l : List UInt8) : List Value := l.map fun b => .int .u8 (b.toNat : Int)
theorem bvs_length (l : List UInt8) : (bvs l).length = l.length := by simp [bvs]
theorem bvs_get (l : List UInt8) (j : Nat) (h : j < l.length) : (bvs l)[j]? = some (.int .u8 (nth l j)) := by
  simp [bvs, nth_eq l j h, h]
theorem bvs_append (l m : List UInt8) : bvs (l ++ m) = bvs l ++ bvs m := by simp [bvs]
theorem bvs_one (l : List UInt8) : ∀ u ∈ bvs l, u.oneCell' = true := by
  intro u hu
  simp only [bvs, List.mem_map] at hu
  obtain ⟨b, _, rfl⟩ := hu
  rfl
theorem bvs_inj {l m : List UInt8} (h : bvs l = bvs m) : l = m := by
  have : ∀ l m : List UInt8, bvs l = bvs m → l = m := by
    intro l
    induction l with
    | nil => intro m hm; cases m with
      | nil => rfl
      | cons b m => simp [bvs] at hm
    | cons a l ih => intro m hm; cases m with
      | nil => simp [bvs] at hm
      | cons b m =>
        simp only [bvs, List.map_cons, List.cons.injEq, Value.int.injEq, true_and] at hm
        obtain ⟨h1, h2⟩ := hm
        rw [UInt8.toNat_inj.1 (by omega : a.toNat = b.toNat), ih m h2]
  exact this l m h

theorem add_plain (b o j : Nat) : (⟨b, o, none⟩ : Addr).add j = ⟨b, o + j, none⟩ := by unfold Addr.add; split <;> simp_all

/-! ### A slice that reads as bytes -/
/-- In w the slice value '.slice A n c' reads as the bytes l, and lies below block B. -/
structure Byt (w : World) (B : Nat) (A : Option Addr) (n c : Nat) (l : List UInt8) : Prop where
  len : l.length = n
  le : n ≤ c
  cap : c ≤ maxLen
  lies : 0 < n → ∃ b o, A = some ⟨b, o, none⟩ ∧ b < B ∧ ∀ j, j < n → w.cell? ⟨b, o + j, none⟩ = some (.int .u8 (nth l j))

section
variable {w w' : World} {B B' n c : Nat} {A : Option Addr} {l : List UInt8}
theorem Byt.none_ (w : World) (B : Nat) : Byt w B none 0 0 [] := ⟨rfl, Nat.le_refl _, Nat.zero_le _, fun h => absurd h (by omega)⟩
theorem Byt.keep (h : Byt w B A n c l) (hk : ∀ p : Addr, p.block < B → w'.cell? p = w.cell? p) : Byt w' B A n c l :=
  ⟨h.len, h.le, h.cap, fun hn => by
    obtain ⟨b, o, e, hb, hc⟩ := h.lies hn
    exact ⟨b, o, e, hb, fun j hj => (hk _ hb).trans (hc j hj)⟩⟩
theorem Byt.more (h : Byt w B A n c l) (hB : B ≤ B') : Byt w B' A n c l :=
  ⟨h.len, h.le, h.cap, fun hn => by
    obtain ⟨b, o, e, hb, hc⟩ := h.lies hn
    exact ⟨b, o, e, by omega, hc⟩⟩
theorem Byt.below (h : Byt w B A n c l) (hb : Below B' w w') (hB : B ≤ B') : Byt w' B A n c l := h.keep fun _ hp => hb.cell (by omega)
theorem Byt.same (h : Byt w B A n c l) (hb : Below B w w') : Byt w' B A n c l := h.below hb (Nat.le_refl _)
theorem Byt.drew (h : Byt w B A n c l) : Byt w.drew B A n c l := h.keep fun _ _ => rfl
theorem Byt.alloc (h : Byt w B A n c l) (hB : B ≤ w.heap.size) (o : Obj) : Byt (w.alloc o) B A n c l := h.keep fun p hp => World.cell?_alloc_lt w o p (by omega)
/-- 's[lo:hi]'. -/
theorem Byt.cut (h : Byt w B A n c l) {lo hi : Nat} (h1 : lo ≤ hi) (h2 : hi ≤ n) :
    Byt w B (if c = lo then A else A.map (·.add lo)) (hi - lo) (c - lo) ((l.take hi).drop lo) := by
  have hl := h.len
  refine ⟨by simp; omega, by have := h.le; omega, by have := h.cap; omega, fun hn => ?_⟩
  obtain ⟨b, o, rfl, hb, hc⟩ := h.lies (by omega)
  have := h.le
  rw [if_neg (by omega)]
  refine ⟨b, o + lo, by simp [add_plain], hb, fun j hj => ?_⟩
  rw [nth_drop, nth_take _ _ _ (by omega), Nat.add_assoc]
  exact hc (lo + j) (by omega)
theorem Byt.upto (h : Byt w B A n c l) {hi : Nat} (h2 : hi ≤ n) : Byt w B A hi c (l.take hi) := by
  have hl := h.len
  refine ⟨by simp; omega, by have := h.le; omega, h.cap, fun hn => ?_⟩
  obtain ⟨b, o, rfl, hb, hc⟩ := h.lies (by omega)
  exact ⟨b, o, rfl, hb, fun j hj => by rw [nth_take _ _ _ (by omega)]; exact hc j (by omega)⟩
end

/-! ### A row of bytes of the call's own -/
/-- '.slice A n c' lies at the head of a row of its own, at or beyond block B, and reads as l. -/
def Own (w : World) (B : Nat) (A : Option Addr) (n c : Nat) (l : List UInt8) : Prop := w.ownsRow B 5 1 (.slice A n c) n (bvs l)

section
variable {w w' : World} {B B' n c : Nat} {A : Option Addr} {l : List UInt8}
theorem Own.len (h : Own w B A n c l) : l.length = n := by
  have := h.1
  rw [bvs_length] at this
  omega
theorem Own.byt (h : Own w B A n c l) : Byt w w.heap.size A n c l := by
  have hl := h.len
  rcases h.2 with ⟨hv, hn⟩ | ⟨g, cap, cur, hv, hb, hg, hnc, hcm, hcs, htake⟩
  · simp only [Value.slice.injEq] at hv
    obtain ⟨rfl, rfl, rfl⟩ := hv
    exact ⟨hl, Nat.le_refl _, Nat.zero_le _, fun h => absurd h (by omega)⟩
  · simp only [Value.slice.injEq] at hv
    obtain ⟨rfl, _, rfl⟩ := hv
    refine ⟨hl, hnc, hcm, fun _ => ⟨g, 0, rfl, (Array.getElem?_eq_some_iff.1 hg).1, fun j hj => ?_⟩⟩
    have := World.ownsRow.cells (w := w) h (g := g) rfl j (.int .u8 (nth l j)) (bvs_get l j (by omega))
    rwa [add_plain] at this
theorem Own.more (h : Own w B A n c l) (hB : B' ≤ B) : Own w B' A n c l := by
  refine ⟨h.1, ?_⟩
  rcases h.2 with hv | ⟨g, cap, cur, hv, hb, r⟩
  · exact .inl hv
  · exact .inr ⟨g, cap, cur, hv, Nat.le_trans hB hb, r⟩
theorem Own.block (h : Own w B A n c l) (hn : 0 < n) : ∃ g, A = some ⟨g, 0, none⟩ ∧ B ≤ g ∧ g < w.heap.size := by
  rcases h.2 with ⟨hv, h0⟩ | ⟨g, cap, cur, hv, hb, hg, _⟩
  · omega
  · simp only [Value.slice.injEq] at hv
    exact ⟨g, hv.1, hb, (Array.getElem?_eq_some_iff.1 hg).1⟩
/-- A row of bytes is a row of the call's own, whatever blocks are made beside it. -/
theorem Own.below (h : Own w B A n c l) (hb : Below w.heap.size w w') : Own w' B A n c l := by
  refine ⟨h.1, ?_⟩
  rcases h.2 with hv | ⟨g, cap, cur, hv, hbb, hg, r⟩
  · exact .inl hv
  · exact .inr ⟨g, cap, cur, hv, hbb, (hb.block g (Array.getElem?_eq_some_iff.1 hg).1).trans hg, r⟩
theorem own_form {v : Value} {xs : List Value} (h : w.ownsRow B 5 1 v n xs) : ∃ A c, v = .slice A n c := by
  rcases h.2 with ⟨hv, h0⟩ | ⟨g, cap, cur, hv, _⟩
  · exact ⟨none, 0, by rw [hv, h0]⟩
  · exact ⟨_, _, hv⟩
/-- A row laid by a literal. -/
theorem Own.lit (w : World) (cs : Array Value) (l : List UInt8) (h : cs.toList = bvs l) (hm : l.length ≤ maxLen) : Own (w.alloc (.cells cs 5)) w.heap.size (some ⟨w.heap.size, 0, none⟩) l.length l.length l := by
  have := World.ownsRow_lit (e := 5) (size := 1) w cs l.length (Nat.le_refl _) hm (by rw [← Array.length_toList, h, bvs_length]; omega)
  rw [h] at this
  exact this
end

/-! ### append -/
theorem byte_info : (Tryd.prog.info? 5).map (fun i => (i.zero, i.size, i.bytes)) = some (some (.int .u8 0), 1, 1) := by kernel_rfl

theorem byte_append_nil (w : World) (ty : TypeId) (B : Nat) (v : Value) (n : Nat) (xs : List Value) (hown : w.ownsRow B 5 1 v n xs) (c : Nat) :
    (Builtin.append_ #[34, 34] ty #[v, .slice none 0 c]).run Tryd.prog w = .ok v w := by
  obtain ⟨i, hi, _, _, _⟩ := info_parts byte_info
  rcases hown.2 with ⟨rfl, rfl⟩ | ⟨g, cap, cur, rfl, _, _, hnc, _⟩
  · simp [Builtin.append_, run_underlying Tryd.underlying34, sizeOf, typeInfo, hi, Builtin.lenOf, Builtin.firstCells]
  · simp [Builtin.append_, run_underlying Tryd.underlying34, sizeOf, typeInfo, hi, Builtin.lenOf, Builtin.firstCells, hnc, storeCells]

/-- 'append(out, xs...)' of bytes: out is nil or the call's own; xs reads as bytes, nil or not. -/
theorem byte_append (w : World) (ty : TypeId) (B : Nat) (A : Option Addr) (n c : Nat) (l : List UInt8) (hown : Own w B A n c l)
    (B' : Nat) (A' : Option Addr) (m c' : Nat) (l' : List UInt8) (hr : Byt w B' A' m c' l') (hb : n + m ≤ 140737488355328) (hB : B ≤ w.heap.size) :
    ∃ A2 c2 w', (Builtin.append_ #[34, 34] ty #[.slice A n c, .slice A' m c']).run Tryd.prog w = .ok (.slice A2 (n + m) c2) w' ∧ Own w' B A2 (n + m) c2 (l ++ l') ∧
      w.grownBy w' (Value.slice A n c).ownBlock ∧ ((Value.slice A2 (n + m) c2).ownBlock = (Value.slice A n c).ownBlock ∨ (Value.slice A2 (n + m) c2).ownBlock = some w.heap.size) := by
  obtain ⟨i, hi, hz, hs, hby⟩ := info_parts byte_info
  have hl' := hr.len
  rcases Nat.eq_zero_or_pos m with hm | hm
  · subst hm
    obtain rfl : l' = [] := List.eq_nil_of_length_eq_zero hl'
    rcases A' with _ | ad
    · exact ⟨A, c, w, byte_append_nil w ty B _ n _ hown c', by simpa using hown, World.grownBy.refl w _, .inl rfl⟩
    · obtain ⟨v', w', hrun, h2, h3, _, h5⟩ := run_append_own_at (P := Tryd.prog) w B 34 ty 5 i (.int .u8 0) 1 1 Tryd.underlying34 hi hz hs hby rfl (by decide) _ n _ hown ad 0 c' []
        rfl (by simp) (by simp) (by simp only [maxLen]; omega) (by omega) hB
      obtain ⟨A2, c2, rfl⟩ := own_form h2
      exact ⟨A2, c2, w', hrun, by unfold Own; simpa using h2, h3, h5⟩
  · obtain ⟨b, o, rfl, hlt, hc⟩ := hr.lies hm
    obtain ⟨v', w', hrun, h2, h3, _, h5⟩ := run_append_own_at (P := Tryd.prog) w B 34 ty 5 i (.int .u8 0) 1 1 Tryd.underlying34 hi hz hs hby rfl (by decide) _ n _ hown ⟨b, o, none⟩ m c' (bvs l')
      (by rw [bvs_length]; omega) (fun j u hu => by
        have hj : j < l'.length := by rw [← bvs_length]; exact (List.getElem?_eq_some_iff.1 hu).1
        rw [add_plain, hc j (by omega), ← bvs_get l' j hj, hu]) (bvs_one l') (by simp only [maxLen]; omega) (by omega) hB
    obtain ⟨A2, c2, rfl⟩ := own_form h2
    exact ⟨A2, c2, w', hrun, by unfold Own; rw [bvs_append]; exact h2, h3, h5⟩

theorem wpList_byte_append {w : World} {ops : Array Oper} {rest : List Oper} {o : Oper} {a : Act} {Q : Exit → Act → World → Prop} (hgd : o.guard = none) (s x : Operand)
    (ho : o.op = .call { callee := .builtin .append, args := #[s, x], argTypes := #[34, 34] })
    (B : Nat) (A : Option Addr) (n c : Nat) (l : List UInt8) (hs : a.eval s = .slice A n c) (hown : Own w B A n c l)
    (B' : Nat) (A' : Option Addr) (m c' : Nat) (l' : List UInt8) (hx : a.eval x = .slice A' m c') (hr : Byt w B' A' m c' l') (hb : n + m ≤ 140737488355328) (hB : B ≤ w.heap.size)
    (h : ∀ A2 c2 w', Own w' B A2 (n + m) c2 (l ++ l') → w.grownBy w' (Value.slice A n c).ownBlock →
      ((Value.slice A2 (n + m) c2).ownBlock = (Value.slice A n c).ownBlock ∨ (Value.slice A2 (n + m) c2).ownBlock = some w.heap.size) → wpList Tryd.prog ops Q rest (a.put o.dst (.slice A2 (n + m) c2)) w') :
    wpList Tryd.prog ops Q (o :: rest) a w := by
  refine wpList_plain hgd fun K hK => ?_
  obtain ⟨A2, c2, w', hr, h2, h3, h5⟩ := byte_append w o.type B A n c l hown B' A' m c' l' hr hb hB
  unfold Oper.wp execOp
  simp only [ho, resolve, invoke, builtin, Sem.run_bind, Sem.run_pure, Result.andThen_ok, List.map_toArray, List.map_cons, List.map_nil, hs, hx, hr]
  exact hK _ _ (h A2 c2 w' h2 h3 h5)

/-! ### Conversions between strings and bytes -/
/-- 'string(b)'. -/
theorem run_string_of_bytes {w : World} {B n c : Nat} {A : Option Addr} {l : List UInt8} (h : Byt w B A n c l) :
    (convert 34 9 (.slice A n c)).run Tryd.prog w = .ok (.string ⟨l.toArray⟩) w := by
  have hl := h.len
  rcases Nat.eq_zero_or_pos n with hn | hn
  · subst hn
    obtain rfl : l = [] := List.eq_nil_of_length_eq_zero hl
    rcases A with _ | ad
    · rw [run_convert_bytes_string w 34 9 5 none 0 c Tryd.underlying34 Tryd.underlying5 Tryd.underlying9]
      simp [Conv.bytesToString]
      rfl
    · exact run_convert_bytes_back w 34 9 5 ad c [] Tryd.underlying34 Tryd.underlying5 Tryd.underlying9 (fun j hj => absurd hj (by simp))
  · obtain ⟨b, o, rfl, _, hc⟩ := h.lies hn
    subst hl
    exact run_convert_bytes_back w 34 9 5 ⟨b, o, none⟩ c l Tryd.underlying34 Tryd.underlying5 Tryd.underlying9 (fun j hj => by
      rw [add_plain, hc j hj, nth_eq l j hj])

/-- '[]byte(s)': a new row, read as the string's bytes. -/
theorem run_bytes_of_string' (w : World) (s : ByteArray) (hs : s.size ≤ maxLen) :
    ∃ c w', (convert 9 34 (.string s)).run Tryd.prog w = .ok (.slice (some ⟨w.heap.size, 0, none⟩) s.size c) w' ∧
      Byt w' w'.heap.size (some ⟨w.heap.size, 0, none⟩) s.size c s.data.toList ∧ Below w.heap.size w w' ∧ w'.heap.size = w.heap.size + 1 := by
  refine ⟨_, _, Lib.run_convert_string_bytes w _ _ _ s Tryd.underlying9 Tryd.underlying34 Tryd.underlying5, ?_, ?_, Lib.bytesWorld_size _ _ _⟩
  · refine ⟨rfl, grownCap_ge _ _ _ _, grownCap_le_maxLen _ _ _ _ hs, fun hn => ⟨_, 0, rfl, by rw [Lib.bytesWorld_size]; omega, fun j hj => ?_⟩⟩
    rw [Nat.zero_add, Lib.bytesWorld_cell _ _ _ _ hj]
    rfl
  · exact ⟨rfl, rfl, rfl, by rw [Lib.bytesWorld_size]; omega, fun k hk => Lib.bytesWorld_at_old _ _ _ _ hk⟩
end Go.Proofs.YtlmfjalkgapcgaaDoor
