/- Package tree: one file of a crash. -/
import Derived.Test.YtodnckflobefpaaTrT
namespace Go.Proofs.Ytodnckflobefpaa
open Go.RowKit Go.Maps
set_option linter.unusedVariables false

/-- A slice of numbers that comes as an argument. -/
structure Nums (w : World) (A : Option Addr) (n c : Nat) (ps : List Int) : Prop where
  len : ps.length = n
  le : n ≤ 100000
  ok : ∀ i, ps.getD i 0 ≤ 9223372036854775807
  lies : 0 < n → ∃ j o, A = some ⟨j, o, none⟩ ∧ j < w.heap.size ∧ ∀ i, i < n → w.cell? ⟨j, o + i, none⟩ = some (.int .i64 (ps.getD i 0))
theorem Nums.chd {w w' : World} {M : Nat → Prop} {A : Option Addr} {n c : Nat} {b : List Int} (h : Nums w A n c b) (hc : Chd M w w') (hm : ∀ j o, A = some ⟨j, o, none⟩ → j < w.heap.size → ¬ M j) : Nums w' A n c b := ⟨h.len, h.le, h.ok, fun hn => by
  obtain ⟨j, o, e, hj, hx⟩ := h.lies hn
  exact ⟨j, o, e, Nat.lt_of_lt_of_le hj hc.size, fun i hi => by rw [World.cell?_of_block (hc.block j hj (hm j o e hj))]; exact hx i hi⟩⟩
theorem at_any (w : World) (A : Option Addr) (n c : Nat) (ps : List Int) (h : Nums w A n c ps) (i : Nat) (hi : i ≤ 1000000) :
    Calls Try.prog 47 #[.slice A n c, .int .i64 (i : Int)] w fun e w' => e = .returned (.int .i64 (partAt ps i)) ∧ w = w' := by
  have hle := h.le
  by_cases hlt : i < n
  · obtain ⟨j, o, rfl, hj, hx⟩ := h.lies (by omega)
    have hc := hx i hlt
    have e1 : partAt ps i = ps.getD i 0 := rfl
    rw [e1]
    clear h hx e1
    generalize ps.getD i 0 = v at *
    go_enter Try.func47, Try.ntmps47
    go_wp2
    go_ret
    exact ⟨rfl, rfl⟩
  · have e1 : partAt ps i = 0 := by unfold partAt; simp only [List.getD]; rw [List.getElem?_eq_none (by rw [h.len]; omega)]; rfl
    rw [e1]
    clear h e1
    go_enter Try.func47, Try.ntmps47
    go_wp2
    go_ret
    exact ⟨rfl, rfl⟩

theorem blk_inj {w : World} {tb : Nat} {s : St} {g : Gh} (h : TreeAt w tb s g) {i j : Nat} (hi : i < s.fil.length) (hj : j < s.fil.length) (e : g.blk i = g.blk j) : i = j := by
  have h1 := (h.fil i hi).tg
  have h2 := (h.fil j hj).tg
  rw [e] at h1
  omega
theorem file_size : (Try.prog.info? 69).map (·.size) = some 3 := by kernel_rfl
theorem run_eqIn_ptr_same (w : World) (d : Nat) (a : Addr) : (Op.equalIn (d + 1) 66 (.pointer (some a)) (.pointer (some a))).run Try.prog w = .ok true w := by
  obtain ⟨j, hj, hs⟩ := Option.map_eq_some_iff.1 file_size
  simp [Op.equalIn, run_underlying Try.underlying66, sizeOf, typeInfo, run_sameAddr_same, hj]
theorem run_eqIn_ptr_other (w : World) (d : Nat) {a b : Nat} {ca cb : Array Value} {ta tb : TypeId} (hne : a ≠ b) (ha : BlkIs w a ta ca) (hb : BlkIs w b tb cb) : (Op.equalIn (d + 1) 66 (.pointer (some ⟨a, 0, none⟩)) (.pointer (some ⟨b, 0, none⟩))).run Try.prog w = .ok false w := by
  obtain ⟨j, hj, hs⟩ := Option.map_eq_some_iff.1 file_size
  have hne' : (⟨a, 0, none⟩ : Addr) ≠ ⟨b, 0, none⟩ := fun e => hne (Addr.mk.inj e).1
  simp [Op.equalIn, run_underlying Try.underlying66, sizeOf, typeInfo, hj, hs, run_sameAddr_other w hne' ha hb]
theorem run_neq_ptr_same (w : World) (a : Addr) : (binOp .neq 66 (.pointer (some a)) (.pointer (some a))).run Try.prog w = .ok (.bool false) w := by
  simp only [binOp]
  simp [show Op.equal 66 (.pointer (some a)) (.pointer (some a)) = Op.equalIn (9999 + 1) 66 (.pointer (some a)) (.pointer (some a)) from rfl, run_eqIn_ptr_same w 9999 a]
theorem run_neq_ptr_other (w : World) {a b : Nat} {ca cb : Array Value} {ta tb : TypeId} (hne : a ≠ b) (ha : BlkIs w a ta ca) (hb : BlkIs w b tb cb) : (binOp .neq 66 (.pointer (some ⟨a, 0, none⟩)) (.pointer (some ⟨b, 0, none⟩))).run Try.prog w = .ok (.bool true) w := by
  simp only [binOp]
  simp [show Op.equal 66 (.pointer (some ⟨a, 0, none⟩)) (.pointer (some ⟨b, 0, none⟩)) = Op.equalIn (9999 + 1) 66 (.pointer (some ⟨a, 0, none⟩)) (.pointer (some ⟨b, 0, none⟩)) from rfl, run_eqIn_ptr_other w 9999 hne ha hb]

/-- Whether the file keeps its stamp. -/
def keeps (s : St) (f : Nat) (was : Option Nat) (part : Int) : Bool := decide (was = some f) && ((s.at_ f).rem part == (s.at_ f).now)
theorem restore_yes (s : St) (p : Str) (f : Nat) (was : Option Nat) (part : Int) (h : keeps s f was part = true) :
    s.restore p f was part = { s with used := s.used + (((s.at_ f).rem part).length : Int), fil := s.fil.set f ⟨(s.at_ f).rem part, (s.at_ f).rem part, (s.at_ f).st⟩ } := by
  unfold keeps at h
  simp only [Bool.and_eq_true, decide_eq_true_eq, beq_iff_eq] at h
  unfold St.restore
  exact if_pos h
theorem restore_no (s : St) (p : Str) (f : Nat) (was : Option Nat) (part : Int) (h : keeps s f was part = false) :
    s.restore p f was part = { s with used := s.used + (((s.at_ f).rem part).length : Int), clock := s.clock + 1, fil := s.fil.set f ⟨(s.at_ f).rem part, (s.at_ f).rem part, s.clock + 1⟩ } := by
  unfold keeps at h
  unfold St.restore
  refine if_neg fun h2 => ?_
  rw [decide_eq_true h2.1, beq_iff_eq.2 h2.2] at h
  cases h
theorem restore_end {w w' : World} {tb : Nat} {s : St} {g : Gh} {f : Nat} {A : Option Addr} {n c : Nat} {b : Str} (h : TreeAt w tb s g) (hf : f < s.fil.length) (ho : Own w 0 A n c b) (ht : Tg g.tag A (11 + 2 * f)) {ck st : Nat} {u : Int}
    (hc : Chd (fun j => j = tb ∨ j = g.blk f) w w') (hb : BlkIs w' (g.blk f) 69 #[.slice A n c, .slice A n c, .int .u64 (st : Int)]) (htop : BlkIs w' tb 64 (treeC { s with used := u, clock := ck } g)) :
    TreeAt w' tb { s with used := u, clock := ck, fil := s.fil.set f ⟨b, b, st⟩ } g := by
  have tgb := (h.fil f hf).tg
  have nt : ∀ j, A = some ⟨j, 0, none⟩ → ¬ (j = tb ∨ j = g.blk f) := fun j e hj => by
    have := ht j e
    rcases hj with rfl | rfl
    · rw [h.topT] at this; omega
    · rw [tgb] at this; omega
  have o := own_chd ho hc nt
  exact h.refile (f := f) (x := ⟨b, b, st⟩) hc (fun j e => e.imp id fun e => by rw [e]; exact .inr (.inl tgb)) hf ⟨⟨A, n, c, A, n, c, hb, o, o, fun _ => Nat.le_refl _, ht, ht⟩, tgb⟩ htop rfl rfl rfl rfl
end Go.Proofs.Ytodnckflobefpaa
