/- Texts of one proof, laid together: TrS, TrT, TrU, TrV, TrW, TrX, TrStep, TrY, TrZ, TrLit, TrKeep, TrKeep2, TrInts, TrNil. -/
import Derived.Test.YtiikjdjpodmpcaaGreatAll1
import Derived.Sort.OwnSorted
import Derived.Deep.RegionHeld3
import Derived.Lib.SlBytesConst
import Derived.DataShut

/- Package tree: the paths of a map, ascending. -/
namespace Go.Proofs.YtiikjdjpodmpcaaGreat
open Go.RowKit Go.Maps
set_option linter.unusedVariables false

theorem before_le : ∀ (a b : Str), bytesBefore a b = true → a ≤ b
  | [], _, _ => List.nil_le _
  | _ :: _, [], h => by simp [bytesBefore] at h
  | x :: r, y :: s, h => by
    simp only [bytesBefore, Bool.or_eq_true, decide_eq_true_eq, Bool.and_eq_true, beq_iff_eq] at h
    rw [List.cons_le_cons_iff]
    rcases h with h | ⟨rfl, h⟩
    · exact .inl h
    · exact .inr ⟨rfl, before_le r s h⟩
def Rising (l : Dir) : Prop := l.Pairwise fun a b => bytesBefore a.1 b.1 = true
theorem MapAt.rising {w : World} {b : Nat} {blk : Nat → Nat} {l : Dir} (h : MapAt w b blk l) : Rising l := by
  obtain ⟨es, e, hp, _⟩ := World.ownsMap.canon h strK
  unfold dat at e
  have e := DataW.map.inj e
  subst e
  rw [List.pairwise_map] at hp
  exact hp
theorem rising_sort {l : Dir} (h : Rising l) : (l.map (·.1)).mergeSort (fun x y => decide (x ≤ y)) = l.map (·.1) := by
  refine List.mergeSort_of_pairwise ?_
  rw [List.pairwise_map]
  exact h.imp fun {a b} hab => by simpa using before_le a.1 b.1 hab
theorem rising_look {l : Dir} (h : Rising l) {e : Str × Nat} (he : e ∈ l) : look l e.1 = some e.2 := by
  unfold look
  induction l with
  | nil => cases he
  | cons x l ih =>
    have hx := List.pairwise_cons.1 h
    rcases List.mem_cons.1 he with rfl | he'
    · simp
    · have hne : (x.1 == e.1) = false := by
        have := hx.1 e he'
        rw [beq_eq_false_iff_ne]
        intro e2
        rw [e2, WideAt.bytes_irrefl] at this
        cases this
      rw [List.find?_cons, hne]
      exact ih hx.2 he'
/-- A new slice that holds these strings. -/
def StrRow (w : World) (B : Nat) (A : Option Addr) (n c : Nat) (ps : List Str) : Prop := w.ownsRow B 9 1 (.slice A n c) n (strV ps)
theorem strV_enc (ps : List Str) : ps.map encStr = strV ps := rfl

set_option maxRecDepth 100000 in
theorem sorted_any (w : World) (b : Nat) (blk : Nat → Nat) (l : Dir) (h : MapAt w b blk l) (hl : l.length ≤ 100000) :
    Calls Tryz.prog 52 #[.map (some b)] w fun e w' => ∃ A c, e = .returned (.slice A l.length c) ∧ StrRow w' w.heap.size A l.length c (l.map (·.1)) ∧ Nx w w' := by
  have hr := rising_sort h.rising
  have hsz : Maps.size (dat blk l) = l.length := by show (l.map (ent blk)).length = _; simp
  have hks : strKeys (dat blk l) = l.map (·.1) := by show (l.map (ent blk)).map _ = _; rw [List.map_map]; rfl
  have K := Lib.hid ((callsIn_wide (n := 5)).1 (Tryz.maps_Keys_96 (some b) w))
  have S := Lib.hid ((callsIn_wide (n := 5)).1 (Tryz.slices_Sorted_keys_95_96 b l.length (dat blk l) ptrE w h (by rw [hsz]; unfold maxLen; omega) (by rw [hsz]; omega)))
  have HR := Lib.hid hr
  have HK := Lib.hid hks
  clear h hr hsz hks
  go_enter Tryz.func52, Tryz.ntmps52
  go_wp2_with fail
  refine K.out.mono ?_
  rintro e w1 ⟨rfl, rfl⟩
  go_wp2_with fail
  refine S.out.mono ?_
  rintro e w2 ⟨v, ss, rfl, hperm, hrow, _, hb⟩
  have hss : ss.mergeSort (fun x y => decide (x ≤ y)) = l.map (·.1) := by
    rw [mergeSort_of_perm (hperm.trans (by rw [HK.out])), HR.out]
  have hlen : ss.length = l.length := by have := hperm.length_eq; rw [HK.out, List.length_map] at this; exact this
  rw [hss, hlen, strV_enc] at hrow
  obtain ⟨A, c, rfl⟩ : ∃ A c, v = .slice A l.length c := by
    rcases hrow.2 with ⟨hv, h0⟩ | ⟨g, cap, cur, hv, _⟩
    · exact ⟨none, 0, by rw [hv, h0]⟩
    · exact ⟨_, _, hv⟩
  have hb2 : Nx w w2 := ((Below.refl _ w).alloc (Nat.le_refl _) _).trans (hb.mono (by simp))
  have hrow2 : StrRow w2 w.heap.size A l.length c (l.map (·.1)) := by
    refine ⟨hrow.1, hrow.2.imp id ?_⟩
    rintro ⟨g, cap, cur, e, hB, r⟩
    exact ⟨g, cap, cur, e, Nat.le_trans (by simp) hB, r⟩
  have HR2 := Lib.hid hrow2
  have HB2 := Lib.hid hb2
  clear hss hlen hperm hrow hb hrow2 hb2 K S
  go_wp2
  go_ret
  exact ⟨A, c, rfl, HR2.out, HB2.out⟩
end Go.Proofs.YtiikjdjpodmpcaaGreat

/- Package tree: what a crash leaves of a file. -/
namespace Go.Proofs.YtiikjdjpodmpcaaGreat
open Go.RowKit Go.Maps
set_option linter.unusedVariables false

def ints (b : Str) : List Int := b.map fun x => (x.toNat : Int)
theorem ints_len (b : Str) : (ints b).length = b.length := by simp [ints]
theorem ints_get (b : Str) (i : Nat) (hi : i < b.length) : (ints b).getD i 0 = nth b i := by
  rw [nth_eq b i hi]
  simp [ints, List.getD, hi]
theorem ints_of (b : Str) : Lib.bytesOf (ints b) = b := by
  unfold Lib.bytesOf ints
  rw [List.map_map]
  conv => rhs; rw [← List.map_id b]
  refine List.map_congr_left fun x _ => ?_
  simp
theorem Arg.bytesIn {w : World} {A : Option Addr} {n c : Nat} {b : Str} (h : Arg w A n c b) : Lib.BytesIn w A n (ints b) := fun hn => by
  obtain ⟨j, o, e, _, hx⟩ := h.lies hn
  exact ⟨j, o, e, fun i hi => by rw [hx i hi, ints_get b i (by rw [h.len]; exact hi)]⟩
theorem hasPrefix_at (w : World) {A A2 : Option Addr} {n c n2 c2 : Nat} {b b2 : Str} (h : Arg w A n c b) (h2 : Arg w A2 n2 c2 b2) :
    Calls Tryz.prog 137 #[.slice A n c, .slice A2 n2 c2] w fun e w' => e = .returned (.bool (b2.isPrefixOf b)) ∧ w' = w := by
  have := Tryz.bytes_HasPrefix_all A A2 n c n2 c2 (ints b) (ints b2) w (by rw [ints_len, h.len]) (by rw [ints_len, h2.len]) h.le h.bytesIn h2.bytesIn
  rw [ints_of, ints_of] at this
  exact this
theorem equal_at (w : World) {A A2 : Option Addr} {n c n2 c2 : Nat} {b b2 : Str} (h : Arg w A n c b) (h2 : Arg w A2 n2 c2 b2) :
    Calls Tryz.prog 112 #[.slice A n c, .slice A2 n2 c2] w fun e w' => e = .returned (.bool (b == b2)) ∧ w' = w := by
  have := Tryz.bytes_Equal_all A A2 n c n2 c2 (ints b) (ints b2) w (by rw [ints_len, h.len]) (by rw [ints_len, h2.len]) h.bytesIn h2.bytesIn
  rw [ints_of, ints_of] at this
  exact this
theorem Own.cut {w : World} {B n c : Nat} {A : Option Addr} {b : Str} (h : Own w B A n c b) (m : Nat) (hm : m ≤ n) : Own w B A m c (b.take m) := by
  have hl := h.len
  rcases h.2 with ⟨hv, h0⟩ | ⟨g, cap, cur, hv, hB, hg, h3, h4, h5, h6⟩
  · simp only [Value.slice.injEq] at hv
    obtain ⟨e1, e2, e3⟩ := hv
    have : m = 0 := by omega
    subst this e1 e3
    exact ⟨by simp [bvs], .inl ⟨rfl, rfl⟩⟩
  · simp only [Value.slice.injEq] at hv
    obtain ⟨e1, _, e2⟩ := hv
    subst e1 e2
    refine ⟨by rw [bvs_length, List.length_take]; omega, .inr ⟨g, c, cur, rfl, hB, hg, by omega, h4, h5, ?_⟩⟩
    have : bvs (b.take m) = (bvs b).take m := by unfold bvs; rw [List.map_take]
    rw [this, ← h6, List.take_take]
    congr 1
    omega

set_option maxRecDepth 100000 in
theorem remaining_any (w : World) (tag : Nat → Nat) (fb i : Nat) (x : Fil) (h : FileAt w tag fb i x) (hz : x.now.length ≤ 100000000) (part : Int) (hp : part ≤ 9223372036854775807) :
    Calls Tryz.prog 111 #[fptr fb, .int .i64 part] w fun e w' => ∃ A n c, e = .returned (.slice A n c) ∧ Own w 0 A n c (x.rem part) ∧ Tg tag A (11 + 2 * i) ∧ ∃ m, w' = w.drewN m := by
  obtain ⟨A, n, c, A2, n2, c2, hb, o1, o2, hal, t1, t2⟩ := h.ex
  have d0 : w.cell? ⟨fb, 0, none⟩ = some (.slice A n c) := by rw [hb.cell]; rfl
  have d1 : w.cell? ⟨fb, 1, none⟩ = some (.slice A2 n2 c2) := by rw [hb.cell]; rfl
  have hn : x.now.length = n := o1.len
  have hn2 : x.sf.length = n2 := o2.len
  have PX : Hid (∀ m, Calls Tryz.prog 137 #[.slice A n c, .slice A2 n2 c2] (w.drewN m) fun e w' => e = .returned (.bool (x.sf.isPrefixOf x.now)) ∧ w' = w.drewN m) := fun m =>
    hasPrefix_at (w.drewN m) (o1.arg.nx (Nx.drewN (Nx.refl _) _)) (o2.arg.nx (Nx.drewN (Nx.refl _) _))
  unfold fptr
  cases hpre : x.sf.isPrefixOf x.now with
  | false =>
    have hrem : x.rem part = x.sf := by unfold Fil.rem; rw [hpre]; rfl
    rw [hpre] at PX
    rw [hrem]
    have R := Lib.hid (And.intro o2 t2)
    clear h hb o1 o2 hal t1 t2 hn hn2 hpre hrem
    go_enter Tryz.func111, Tryz.ntmps111
    go_wp2_with fail
    go_quiet ((go_at_call 137; exact Calls.quiet_of_same (PX.out _)))
    go_wp2
    go_ret
    exact ⟨A2, n2, c2, rfl, R.out.1, R.out.2, nq, rfl⟩
  | true =>
    have hle : n2 ≤ n := by
      have := (List.isPrefixOf_iff_prefix.1 hpre).length_le
      omega
    obtain ⟨u, hu, hur⟩ : ∃ u : Nat, upTo part ((n : Int) - (n2 : Int)) = (u : Int) ∧ u ≤ n - n2 := by
      unfold upTo
      have h1 : 0 ≤ max 0 part % ((n : Int) - (n2 : Int) + 1) := Int.emod_nonneg _ (by omega)
      have h2 : max 0 part % ((n : Int) - (n2 : Int) + 1) < (n : Int) - (n2 : Int) + 1 := Int.emod_lt_of_pos _ (by omega)
      exact ⟨(max 0 part % ((n : Int) - (n2 : Int) + 1)).toNat, by omega, by omega⟩
    have hrem : x.rem part = x.now.take (n2 + u) := by
      unfold Fil.rem
      rw [if_pos hpre, hn, hn2, hu]
      simp
    have UX : Hid (∀ m, Calls Tryz.prog 66 #[.int .i64 part, .int .i64 ((n : Int) - (n2 : Int))] (w.drewN m) fun e w' => e = .returned (.int .i64 (u : Int)) ∧ w' = w.drewN m) := fun m => by
      have := upTo_any (w.drewN m) part ((n : Int) - (n2 : Int)) (by omega) (by omega) hp
      rw [hu] at this
      exact this.mono fun _ _ h => ⟨h.1, h.2.symm⟩
    rw [hpre] at PX
    rw [hrem]
    have hcm := o1.byt.cap
    have i1 : ((n2 : Int) + (u : Int)) ≤ (c : Int) := by have := o1.byt.le; omega
    have i2 : n2 ≤ 100000000 := by omega
    have i3 : u ≤ 100000000 := by omega
    have i4 : n ≤ 100000000 := by omega
    have R := Lib.hid (And.intro (o1.cut (n2 + u) (by omega)) t1)
    have HW : Hid (IntKind.i64.wrap ((n : Int) - (n2 : Int)) = (n : Int) - (n2 : Int)) := by show IntKind.i64.wrap ((n : Int) - (n2 : Int)) = (n : Int) - (n2 : Int); rw [IntKind.wrap_i64]; omega
    have i5 : (c : Int) ≤ 9223372036854775807 := by unfold maxLen at hcm; omega
    clear h hb o1 o2 hal t1 t2 hn hn2 hpre hrem hu hcm hz
    go_enter Tryz.func111, Tryz.ntmps111
    go_wp2_with fail
    go_quiet ((go_at_call 137; exact Calls.quiet_of_same (PX.out _)))
    go_wp2_with fail
    obtain ⟨w1, hw1⟩ : ∃ w1, w.drewN nq = w1 := ⟨_, rfl⟩
    have UX1 : Hid (∀ m, Calls Tryz.prog 66 #[.int .i64 part, .int .i64 ((n : Int) - (n2 : Int))] (w1.drewN m) fun e w' => e = .returned (.int .i64 (u : Int)) ∧ w' = w1.drewN m) := by
      subst hw1
      intro m
      rw [World.drewN_drewN]
      exact UX.out _
    have d0' : w1.cell? ⟨fb, 0, none⟩ = some (.slice A n c) := by rw [← hw1]; exact d0
    have d1' : w1.cell? ⟨fb, 1, none⟩ = some (.slice A2 n2 c2) := by rw [← hw1]; exact d1
    rw [hw1]
    have HW1 := Lib.hid hw1
    clear hw1 UX PX d0 d1
    go_quiet ((go_at_call 66; exact Calls.quiet_of_same (UX1.out _)))
    go_wp2
    go_ret
    refine ⟨A, n2 + u, c, ?_, R.out.1, R.out.2, ?_⟩
    · rfl
    · rename_i nq2
      exact ⟨_, by rw [← HW1.out, World.drewN_drewN]⟩
end Go.Proofs.YtiikjdjpodmpcaaGreat

/- Package tree: one file of a crash. -/
namespace Go.Proofs.YtiikjdjpodmpcaaGreat
open Go.RowKit Go.Maps
set_option linter.unusedVariables false

/-- A slice of numbers that comes as an argument. -/
structure Nums (w : World) (A : Option Addr) (n c : Nat) (ps : List Int) : Prop where
  len : ps.length = n
  le : n ≤ 100000
  ok : ∀ i, ps.getD i 0 ≤ 9223372036854775807
  lies : 0 < n → ∃ j o, A = some ⟨j, o, none⟩ ∧ j < w.heap.size ∧ ∀ i, i < n → w.cell? ⟨j, o + i, none⟩ = some (.int .i64 (ps.getD i 0))
theorem Nums.chd {w w' : World} {M : Nat → Prop} {A : Option Addr} {n c : Nat} {b : List Int} (h : Nums w A n c b) (hc : Chd M w w') (hm : ∀ j o, A = some ⟨j, o, none⟩ → j < w.heap.size → ¬ M j) : Nums w' A n c b := ⟨h.len, h.le, h.ok, fun hn => by
  obtain ⟨j, o, e, hj, hx⟩ := h.lies hn
  exact ⟨j, o, e, Nat.lt_of_lt_of_le hj hc.size, fun i hi => by rw [World.cell?_of_block (hc.block j hj (hm j o e hj))]; exact hx i hi⟩⟩
theorem at_any (w : World) (A : Option Addr) (n c : Nat) (ps : List Int) (h : Nums w A n c ps) (i : Nat) (hi : i ≤ 1000000) :
    Calls Tryz.prog 69 #[.slice A n c, .int .i64 (i : Int)] w fun e w' => e = .returned (.int .i64 (partAt ps i)) ∧ w = w' := by
  have hle := h.le
  by_cases hlt : i < n
  · obtain ⟨j, o, rfl, hj, hx⟩ := h.lies (by omega)
    have hc := hx i hlt
    have e1 : partAt ps i = ps.getD i 0 := rfl
    rw [e1]
    clear h hx e1
    generalize ps.getD i 0 = v at *
    go_enter Tryz.func69, Tryz.ntmps69
    go_wp2
    go_ret
    exact ⟨rfl, rfl⟩
  · have e1 : partAt ps i = 0 := by unfold partAt; simp only [List.getD]; rw [List.getElem?_eq_none (by rw [h.len]; omega)]; rfl
    rw [e1]
    clear h e1
    go_enter Tryz.func69, Tryz.ntmps69
    go_wp2
    go_ret
    exact ⟨rfl, rfl⟩

theorem blk_inj {w : World} {tb : Nat} {s : St} {g : Gh} (h : TreeAt w tb s g) {i j : Nat} (hi : i < s.fil.length) (hj : j < s.fil.length) (e : g.blk i = g.blk j) : i = j := by
  have h1 := (h.fil i hi).tg
  have h2 := (h.fil j hj).tg
  rw [e] at h1
  omega
theorem file_size : (Tryz.prog.info? 101).map (·.size) = some 3 := by kernel_rfl
theorem run_eqIn_ptr_same (w : World) (d : Nat) (a : Addr) : (Op.equalIn (d + 1) 102 (.pointer (some a)) (.pointer (some a))).run Tryz.prog w = .ok true w := by
  obtain ⟨j, hj, hs⟩ := Option.map_eq_some_iff.1 file_size
  simp [Op.equalIn, run_underlying Tryz.underlying102, sizeOf, typeInfo, run_sameAddr_same, hj]
theorem run_eqIn_ptr_other (w : World) (d : Nat) {a b : Nat} {ca cb : Array Value} {ta tb : TypeId} (hne : a ≠ b) (ha : BlkIs w a ta ca) (hb : BlkIs w b tb cb) : (Op.equalIn (d + 1) 102 (.pointer (some ⟨a, 0, none⟩)) (.pointer (some ⟨b, 0, none⟩))).run Tryz.prog w = .ok false w := by
  obtain ⟨j, hj, hs⟩ := Option.map_eq_some_iff.1 file_size
  have hne' : (⟨a, 0, none⟩ : Addr) ≠ ⟨b, 0, none⟩ := fun e => hne (Addr.mk.inj e).1
  simp [Op.equalIn, run_underlying Tryz.underlying102, sizeOf, typeInfo, hj, hs, run_sameAddr_other w hne' ha hb]
theorem run_neq_ptr_same (w : World) (a : Addr) : (binOp .neq 102 (.pointer (some a)) (.pointer (some a))).run Tryz.prog w = .ok (.bool false) w := by
  simp only [binOp]
  simp [show Op.equal 102 (.pointer (some a)) (.pointer (some a)) = Op.equalIn (9999 + 1) 102 (.pointer (some a)) (.pointer (some a)) from rfl, run_eqIn_ptr_same w 9999 a]
theorem run_neq_ptr_other (w : World) {a b : Nat} {ca cb : Array Value} {ta tb : TypeId} (hne : a ≠ b) (ha : BlkIs w a ta ca) (hb : BlkIs w b tb cb) : (binOp .neq 102 (.pointer (some ⟨a, 0, none⟩)) (.pointer (some ⟨b, 0, none⟩))).run Tryz.prog w = .ok (.bool true) w := by
  simp only [binOp]
  simp [show Op.equal 102 (.pointer (some ⟨a, 0, none⟩)) (.pointer (some ⟨b, 0, none⟩)) = Op.equalIn (9999 + 1) 102 (.pointer (some ⟨a, 0, none⟩)) (.pointer (some ⟨b, 0, none⟩)) from rfl, run_eqIn_ptr_other w 9999 hne ha hb]

/-- Whether the file keeps its stamp. -/
def keeps (s : St) (f : Nat) (was : Option Nat) (part : Int) : Bool := decide (was = some f) && ((s.at_ f).rem part == (s.at_ f).now)
theorem restore_yes (s : St) (p : Str) (f : Nat) (was : Option Nat) (part : Int) (h : keeps s f was part = true) :
    s.restore p f was part = { s with used := s.used + (((s.at_ f).rem part).length : Int), fil := s.fil.set f ⟨(s.at_ f).rem part, (s.at_ f).rem part, (s.at_ f).st⟩ } := by
  unfold keeps at h
  simp only [Bool.and_eq_true, decide_eq_true_eq, beq_iff_eq] at h
  unfold St.restore
  exact if_pos h
theorem restore_no (s : St) (p : Str) (f : Nat) (was : Option Nat) (part : Int) (h : keeps s f was part = false) :
    s.restore p f was part = { s with used := s.used + (((s.at_ f).rem part).length : Int), clock := s.clock + 1, fil := s.fil.set f ⟨(s.at_ f).rem part, (s.at_ f).rem part, s.clock + 1⟩ } := by
  unfold keeps at h
  unfold St.restore
  refine if_neg fun h2 => ?_
  rw [decide_eq_true h2.1, beq_iff_eq.2 h2.2] at h
  cases h
theorem restore_end {w w' : World} {tb : Nat} {s : St} {g : Gh} {f : Nat} {A : Option Addr} {n c : Nat} {b : Str} (h : TreeAt w tb s g) (hf : f < s.fil.length) (ho : Own w 0 A n c b) (ht : Tg g.tag A (11 + 2 * f)) {ck st : Nat} {u : Int}
    (hc : Chd (fun j => j = tb ∨ j = g.blk f) w w') (hb : BlkIs w' (g.blk f) 101 #[.slice A n c, .slice A n c, .int .u64 (st : Int)]) (htop : BlkIs w' tb 81 (treeC { s with used := u, clock := ck } g)) :
    TreeAt w' tb { s with used := u, clock := ck, fil := s.fil.set f ⟨b, b, st⟩ } g := by
  have tgb := (h.fil f hf).tg
  have nt : ∀ j, A = some ⟨j, 0, none⟩ → ¬ (j = tb ∨ j = g.blk f) := fun j e hj => by
    have := ht j e
    rcases hj with rfl | rfl
    · rw [h.topT] at this; omega
    · rw [tgb] at this; omega
  have o := own_chd ho hc nt
  exact h.refile (f := f) (x := ⟨b, b, st⟩) hc (fun j e => e.imp id fun e => by rw [e]; exact .inr (.inl tgb)) hf ⟨⟨A, n, c, A, n, c, hb, o, o, fun _ => Nat.le_refl _, ht, ht⟩, tgb⟩ htop rfl rfl rfl rfl
end Go.Proofs.YtiikjdjpodmpcaaGreat

/- Package tree: one file of a crash, walked. -/
namespace Go.Proofs.YtiikjdjpodmpcaaGreat
open Go.RowKit Go.Maps
set_option linter.unusedVariables false

theorem BlkIs.drewN {w : World} {g : Nat} {t : TypeId} {cs : Array Value} (h : BlkIs w g t cs) (n : Nat) : BlkIs (w.drewN n) g t cs := h
theorem rem_len (x : Fil) (part : Int) : (x.rem part).length ≤ x.now.length ∨ (x.rem part).length ≤ x.sf.length := by
  unfold Fil.rem
  split
  · left; rw [List.length_take]; omega
  · exact .inr (Nat.le_refl _)
theorem restore_w1 {W : World} {tb : Nat} {s : St} {g : Gh} {f : Nat} {A : Option Addr} {n c : Nat} {b : Str} (h : TreeAt W tb s g) (hf : f < s.fil.length) (ho : Own W 0 A n c b) (ht : Tg g.tag A (11 + 2 * f)) {A1 A2 : Option Addr} {n1 c1 n2 c2 : Nat}
    (hb : BlkIs W (g.blk f) 101 #[.slice A1 n1 c1, .slice A2 n2 c2, .int .u64 ((s.at_ f).st : Int)]) (u : Int) :
    TreeAt (((W.setCell ⟨g.blk f, 0, none⟩ (.slice A n c)).setCell ⟨g.blk f, 1, none⟩ (.slice A n c)).setCell ⟨tb, 1, none⟩ (.int .i64 u)) tb { s with used := u, fil := s.fil.set f ⟨b, b, (s.at_ f).st⟩ } g ∧
      Chd (fun j => j = tb ∨ j = g.blk f) W (((W.setCell ⟨g.blk f, 0, none⟩ (.slice A n c)).setCell ⟨g.blk f, 1, none⟩ (.slice A n c)).setCell ⟨tb, 1, none⟩ (.int .i64 u)) := by
  have hne := blk_ne h hf
  have C2 : Chd (fun j => j = g.blk f) W ((W.setCell ⟨g.blk f, 0, none⟩ (.slice A n c)).setCell ⟨g.blk f, 1, none⟩ (.slice A n c)) := (Chd.set W _ 0 _).trans (Chd.set _ _ 1 _)
  have C3 := Chd.set ((W.setCell ⟨g.blk f, 0, none⟩ (.slice A n c)).setCell ⟨g.blk f, 1, none⟩ (.slice A n c)) tb 1 (.int .i64 u)
  have C : Chd (fun j => j = tb ∨ j = g.blk f) W _ := (C2.mono fun _ _ e => .inr e).trans (C3.mono fun _ _ e => .inl e)
  have B : BlkIs _ (g.blk f) 101 #[.slice A n c, .slice A n c, .int .u64 ((s.at_ f).st : Int)] := ((hb.set 0 (.slice A n c)).set 1 (.slice A n c)).chd C3 hne
  have T : BlkIs _ tb 81 (treeC { s with used := u, clock := s.clock } g) := (h.top.chd C2 (fun e => hne e.symm)).set 1 (.int .i64 u)
  exact ⟨restore_end h hf ho ht C B T, C⟩
theorem restore_w2 {W : World} {tb : Nat} {s : St} {g : Gh} {f : Nat} {A : Option Addr} {n c : Nat} {b : Str} (h : TreeAt W tb s g) (hf : f < s.fil.length) (ho : Own W 0 A n c b) (ht : Tg g.tag A (11 + 2 * f)) {A1 A2 : Option Addr} {n1 c1 n2 c2 : Nat}
    (hb : BlkIs W (g.blk f) 101 #[.slice A1 n1 c1, .slice A2 n2 c2, .int .u64 ((s.at_ f).st : Int)]) (u : Int) :
    TreeAt (((((W.setCell ⟨tb, 2, none⟩ (.int .u64 ((s.clock : Int) + 1))).setCell ⟨g.blk f, 2, none⟩ (.int .u64 ((s.clock : Int) + 1))).setCell ⟨g.blk f, 0, none⟩ (.slice A n c)).setCell ⟨g.blk f, 1, none⟩ (.slice A n c)).setCell ⟨tb, 1, none⟩ (.int .i64 u)) tb
        { s with used := u, clock := s.clock + 1, fil := s.fil.set f ⟨b, b, s.clock + 1⟩ } g ∧
      Chd (fun j => j = tb ∨ j = g.blk f) W (((((W.setCell ⟨tb, 2, none⟩ (.int .u64 ((s.clock : Int) + 1))).setCell ⟨g.blk f, 2, none⟩ (.int .u64 ((s.clock : Int) + 1))).setCell ⟨g.blk f, 0, none⟩ (.slice A n c)).setCell ⟨g.blk f, 1, none⟩ (.slice A n c)).setCell ⟨tb, 1, none⟩ (.int .i64 u)) := by
  have hne := blk_ne h hf
  obtain ⟨w1, hw1⟩ : ∃ w1, (W.setCell ⟨tb, 2, none⟩ (.int .u64 ((s.clock : Int) + 1))) = w1 := ⟨_, rfl⟩
  rw [hw1]
  have C1 : Chd (fun j => j = tb) W w1 := by rw [← hw1]; exact Chd.set W tb 2 _
  have T1 : BlkIs w1 tb 81 (treeC { s with clock := s.clock + 1 } g) := by rw [← hw1]; exact h.top.set 2 _
  have hb1 := hb.chd C1 hne
  obtain ⟨w2, hw2⟩ : ∃ w2, ((w1.setCell ⟨g.blk f, 2, none⟩ (.int .u64 ((s.clock : Int) + 1))).setCell ⟨g.blk f, 0, none⟩ (.slice A n c)).setCell ⟨g.blk f, 1, none⟩ (.slice A n c) = w2 := ⟨_, rfl⟩
  rw [hw2]
  have C2 : Chd (fun j => j = g.blk f) w1 w2 := by rw [← hw2]; exact ((Chd.set w1 _ 2 _).trans (Chd.set _ _ 0 _)).trans (Chd.set _ _ 1 _)
  have B2 : BlkIs w2 (g.blk f) 101 #[.slice A n c, .slice A n c, .int .u64 ((s.clock + 1 : Nat) : Int)] := by rw [← hw2]; exact ((hb1.set 2 _).set 0 (.slice A n c)).set 1 (.slice A n c)
  have C3 := Chd.set w2 tb 1 (.int .i64 u)
  have C : Chd (fun j => j = tb ∨ j = g.blk f) W (w2.setCell ⟨tb, 1, none⟩ (.int .i64 u)) := ((C1.mono fun _ _ e => .inl e).trans (C2.mono fun _ _ e => .inr e)).trans (C3.mono fun _ _ e => .inl e)
  have T : BlkIs (w2.setCell ⟨tb, 1, none⟩ (.int .i64 u)) tb 81 (treeC { s with used := u, clock := s.clock + 1 } g) := (T1.chd C2 (fun e => hne e.symm)).set 1 (.int .i64 u)
  exact ⟨restore_end h hf ho ht C (B2.chd C3 hne) T, C⟩
set_option maxRecDepth 100000 in
theorem restore_any (w : World) (tb : Nat) (s : St) (g : Gh) {k : Nat} (hk : k ≤ 1000) (h : TreeAt w tb s g) (ok : Ok k s) (p : Str) (hp : p.length ≤ 1000000000000) (f : Nat) (hl : look s.files p = some f) (was : Option Nat) (hwas : ∀ i, was = some i → i < s.fil.length) (part : Int) (hpart : part ≤ 9223372036854775807) :
    Calls Tryz.prog 68 #[.pointer (some ⟨tb, 0, none⟩), .string (S p), optP g was, .int .i64 part] w fun e w' =>
      e = .returned (.tuple #[]) ∧ TreeAt w' tb (s.restore p f was part) g ∧ Chd (fun j => j = tb ∨ j = g.blk f) w w' := by
  have hlt : f < s.fil.length := ok.fs _ (look_mem hl)
  have c3 := (top_of h.top).c3
  have hlk := lookup_in h.mfA p hp g rfl
  rw [hl] at hlk
  have RM := Lib.hid (remaining_any w g.tag (g.blk f) f (s.at_ f) (h.fil f hlt) (by have := ok.sz f; omega) part hpart)
  have hlen : ((s.at_ f).rem part).length ≤ 10000000 := by
    have := ok.sz f
    have := ok.sy f
    rcases rem_len (s.at_ f) part with e | e <;> omega
  obtain ⟨A1, n1, c1, A2, n2, c2, hbk, o1, o2, hal, t1, t2⟩ := (h.fil f hlt).ex
  have hne := blk_ne h hlt
  have u0 : -10000000000000 ≤ s.used := by have := ok.u0; omega
  have u1 : s.used ≤ 10000000000000 := by have := ok.u1; omega
  have k1 : (s.clock : Int) ≤ 10000000 := by have := ok.ck; omega
  have E0 : Hid (∀ A n c m, Own w 0 A n c ((s.at_ f).rem part) → Calls Tryz.prog 112 #[.slice A n c, .slice A1 n1 c1] (w.drewN m) fun e w' => e = .returned (.bool ((s.at_ f).rem part == (s.at_ f).now)) ∧ w' = w.drewN m) := fun A n c m ho =>
    equal_at (w.drewN m) (ho.arg.nx (Nx.drewN (Nx.refl _) _)) (o1.arg.nx (Nx.drewN (Nx.refl _) _))
  have PN : Hid (∀ m, (binOp .neq 102 (fptr (g.blk f)) (optP g was)).run Tryz.prog (w.drewN m) = .ok (.bool (!decide (was = some f))) (w.drewN m)) := fun m => by
    cases was with
    | none =>
      have := run_neq_pointer_nil (P := Tryz.prog) (w.drewN m) 102 (some ⟨g.blk f, 0, none⟩) Tryz.underlying102
      simpa [fptr, optP] using this
    | some i =>
      by_cases e : i = f
      · subst e
        have := run_neq_ptr_same (w.drewN m) ⟨g.blk i, 0, none⟩
        simpa [fptr, optP] using this
      · obtain ⟨_, _, _, _, _, _, hbi, _⟩ := (h.fil i (hwas i rfl)).ex
        have := run_neq_ptr_other (w.drewN m) (a := g.blk f) (b := g.blk i) (fun e2 => e (blk_inj h (hwas i rfl) hlt e2.symm)) (hbk.drewN m) (hbi.drewN m)
        rw [show decide (some i = some f) = false from by simpa using e]
        exact this
  have H := Lib.hid h
  have HB := Lib.hid hbk
  have HL := Lib.hid hlt
  clear h ok hwas hl hlt hbk o1 o2 hal t1 t2 hp
  generalize S p = sp at *
  unfold optP at hlk
  simp only at hlk
  generalize hov : optP g was = ov at *
  have HOV := Lib.hid hov
  clear hov
  go_enter Tryz.func68, Tryz.ntmps68
  go_wp2_with fail
  refine RM.out.mono ?_
  rintro e w1 ⟨A, n, c, rfl, ho, ht, m, rfl⟩
  have HO := Lib.hid ho
  have HT := Lib.hid ht
  have hn : n ≤ 10000000 := by have := ho.len; omega
  have HN : Hid (((s.at_ f).rem part).length = n) := ho.len
  clear ho ht RM c3 hlk
  have hpn := PN.out m
  have TM := Lib.hid (H.out.nx (Nx.drewN (Nx.refl w) m))
  have BM := Lib.hid (HB.out.drewN m)
  have OM := Lib.hid (show Own (w.drewN m) 0 A n c ((s.at_ f).rem part) from HO.out)
  have EM := Lib.hid (E0.out A n c m HO.out)
  obtain ⟨W, hW⟩ : ∃ W, w.drewN m = W := ⟨_, rfl⟩
  have CW : Hid (Nx w W) := by rw [← hW]; exact Nx.drewN (Nx.refl w) m
  rw [hW] at hpn TM BM OM EM ⊢
  have cu := (top_of TM.out.top).c1
  have ck := (top_of TM.out.top).c2
  have fu := TM.out.top.frozen 1
  have fk := TM.out.top.frozen 2
  have b0 : W.cell? ⟨g.blk f, 0, none⟩ = some (.slice A1 n1 c1) := by rw [BM.out.cell]; rfl
  have b1 : W.cell? ⟨g.blk f, 1, none⟩ = some (.slice A2 n2 c2) := by rw [BM.out.cell]; rfl
  have b2 : W.cell? ⟨g.blk f, 2, none⟩ = some (.int .u64 ((s.at_ f).st : Int)) := by rw [BM.out.cell]; rfl
  have g0 := BM.out.frozen 0
  have g1 := BM.out.frozen 1
  have g2 := BM.out.frozen 2
  have R1 := Lib.hid (restore_w1 TM.out HL.out OM.out HT.out BM.out (s.used + (n : Int)))
  have R2 := Lib.hid (restore_w2 TM.out HL.out OM.out HT.out BM.out (s.used + (n : Int)))
  have hne2 : tb ≠ g.blk f := fun e => hne e.symm
  have e1 := restore_yes s p f was part
  have e2 := restore_no s p f was part
  rw [HN.out] at e1 e2
  have KP : keeps s f was part = (decide (was = some f) && ((s.at_ f).rem part == (s.at_ f).now)) := rfl
  unfold fptr at hpn ⊢
  have HKP := Lib.hid KP
  have He1 := Lib.hid e1
  have He2 := Lib.hid e2
  have HWW := Lib.hid hW
  clear KP e1 e2 hW PN E0 H HB HO
  generalize (s.at_ f).st = st0 at b2
  generalize decide (was = some f) = q at *
  generalize hqe : ((s.at_ f).rem part == (s.at_ f).now) = qe at *
  clear hqe
  cases q with
  | true =>
    cases qe with
    | true =>
      have hSr := He1.out HKP.out
      have R1a := R1.out
      rw [← hSr] at R1a
      have R1' := Lib.hid R1a
      clear R1a
      clear hSr He1 He2 HKP R1 R2
      go_wp2_with fail
      refine EM.out.mono ?_
      rintro e w5 ⟨rfl, rfl⟩
      clear EM
      go_wp2
      refine bodyPost_end (results_none rfl _ _ _) rfl ?_
      exact ⟨rfl, R1'.out.1, (Nx.chd CW.out).trans R1'.out.2⟩
    | false =>
      have hSr := He2.out HKP.out
      have R1a := R2.out
      rw [← hSr] at R1a
      have R2' := Lib.hid R1a
      clear R1a
      clear hSr He1 He2 HKP R1 R2
      go_wp2_with fail
      refine EM.out.mono ?_
      rintro e w5 ⟨rfl, rfl⟩
      clear EM
      go_wp2
      refine bodyPost_end (results_none rfl _ _ _) rfl ?_
      exact ⟨rfl, R2'.out.1, (Nx.chd CW.out).trans R2'.out.2⟩
  | false =>
    have hSr := He2.out (by rw [HKP.out]; rfl)
    have R1a := R2.out
    rw [← hSr] at R1a
    have R2' := Lib.hid R1a
    clear R1a
    clear hSr He1 He2 HKP R1 R2 EM
    go_wp2
    refine bodyPost_end (results_none rfl _ _ _) rfl ?_
    exact ⟨rfl, R2'.out.1, (Nx.chd CW.out).trans R2'.out.2⟩
end Go.Proofs.YtiikjdjpodmpcaaGreat

/- Package tree: Crash. -/
namespace Go.Proofs.YtiikjdjpodmpcaaGreat
open Go.RowKit Go.Maps
set_option linter.unusedVariables false

/-- The bounds while a crash goes through the files. -/
structure Mid (k j : Nat) (s : St) : Prop where
  fs : ∀ e ∈ s.files, e.2 < s.fil.length
  ss : ∀ e ∈ s.safe, e.2 < s.fil.length
  cs : s.chs = []
  r0 : 0 ≤ s.room
  r1 : s.room ≤ 67108864
  u0 : 0 ≤ s.used
  u1 : s.used ≤ 10000000 * (j : Int)
  ck : s.clock ≤ 10000 * k + 1 + j
  f0 : -1 ≤ s.fuse
  f1 : s.fuse ≤ 9223372036854775807
  nf : s.fil.length ≤ k
  lf : s.files.length ≤ k
  ls : s.safe.length ≤ k
  sz : ∀ i, (s.at_ i).now.length ≤ 10000 * k
  sy : ∀ i, (s.at_ i).sf.length ≤ 10000 * k
theorem Mid.ok {k j : Nat} {s : St} (h : Mid k j s) (hj : j ≤ k) (hk : k + 1 ≤ 1000) : Ok (k + 1) s :=
  ⟨h.fs, h.ss, fun c hc => (by rw [h.cs] at hc; exact absurd hc (List.not_mem_nil)), h.r0, h.r1, by have := h.u0; omega, by have := h.u1; omega, by have := h.ck; omega, h.f0, h.f1, by have := h.nf; omega, by have := h.lf; omega, (by have := h.ls; rw [h.cs]; simp only [List.length_nil]; omega), fun i => by have := h.sz i; omega, fun i => by have := h.sy i; omega⟩
theorem restore_facts (s : St) (p : Str) (f : Nat) (was : Option Nat) (part : Int) : ∃ st, (s.restore p f was part).fil = s.fil.set f ⟨(s.at_ f).rem part, (s.at_ f).rem part, st⟩ ∧ (s.restore p f was part).used = s.used + (((s.at_ f).rem part).length : Int) ∧
    (s.restore p f was part).clock ≤ s.clock + 1 ∧ (s.restore p f was part).files = s.files ∧ (s.restore p f was part).safe = s.safe ∧ (s.restore p f was part).chs = s.chs ∧ (s.restore p f was part).room = s.room ∧ (s.restore p f was part).fuse = s.fuse := by
  cases h : keeps s f was part with
  | true => rw [restore_yes s p f was part h]; exact ⟨_, rfl, rfl, Nat.le_succ _, rfl, rfl, rfl, rfl, rfl⟩
  | false => rw [restore_no s p f was part h]; exact ⟨_, rfl, rfl, Nat.le_refl _, rfl, rfl, rfl, rfl, rfl⟩
theorem at_set2 (s s' : St) (f : Nat) (x : Fil) (h : s'.fil = s.fil.set f x) (P : Fil → Prop) (hx : P x) (hs : ∀ i, P (s.at_ i)) (i : Nat) : P (s'.at_ i) := by
  unfold St.at_
  rw [h]
  by_cases hf : f < s.fil.length
  · have := at_set s f i x hf
    unfold St.at_ at this
    rw [this]
    split
    · exact hx
    · exact hs i
  · rw [List.set_eq_of_length_le (by omega)]
    exact hs i
theorem Mid.restore {k j : Nat} {s : St} (h : Mid k j s) (hk : k ≤ 1000) (p : Str) (f : Nat) (was : Option Nat) (part : Int) : Mid k (j + 1) (s.restore p f was part) := by
  obtain ⟨st, e1, e2, e3, e4, e5, e6, e7, e8⟩ := restore_facts s p f was part
  have hl : ((s.at_ f).rem part).length ≤ 10000 * k := by
    have := h.sz f
    have := h.sy f
    rcases rem_len (s.at_ f) part with e | e <;> omega
  have hlen : (s.restore p f was part).fil.length = s.fil.length := by rw [e1, List.length_set]
  exact ⟨by rw [e4, hlen]; exact h.fs, by rw [e5, hlen]; exact h.ss, by rw [e6]; exact h.cs, by rw [e7]; exact h.r0, by rw [e7]; exact h.r1, by rw [e2]; have := h.u0; omega, by rw [e2]; have := h.u1; omega, by have := h.ck; omega,
    by rw [e8]; exact h.f0, by rw [e8]; exact h.f1, by rw [hlen]; exact h.nf, by rw [e4]; exact h.lf, by rw [e5]; exact h.ls,
    fun i => at_set2 s _ f _ e1 (fun x => x.now.length ≤ 10000 * k) hl h.sz i, fun i => at_set2 s _ f _ e1 (fun x => x.sf.length ≤ 10000 * k) hl h.sy i⟩
theorem restores_append (before : Dir) (parts : List Int) : ∀ (l : Dir) (i : Nat) (e : Str × Nat) (s : St), St.restores before parts i (l ++ [e]) s = (St.restores before parts i l s).restore e.1 e.2 (look before e.1) (partAt parts (i + l.length))
  | [], i, e, s => by obtain ⟨p, f⟩ := e; rfl
  | (p, f) :: r, i, e, s => by
    show St.restores before parts (i + 1) (r ++ [e]) _ = _
    rw [restores_append before parts r (i + 1) e]
    show _ = (St.restores before parts (i + 1) r _).restore e.1 e.2 (look before e.1) (partAt parts (i + (r.length + 1)))
    rw [show i + 1 + r.length = i + (r.length + 1) from by omega]
theorem restores_succ (before : Dir) (parts : List Int) (l : Dir) (i : Nat) (e : Str × Nat) (s : St) (h : l[i]? = some e) : St.restores before parts 0 (l.take (i + 1)) s = (St.restores before parts 0 (l.take i) s).restore e.1 e.2 (look before e.1) (partAt parts i) := by
  rw [List.take_add_one, h]
  have := restores_append before parts (l.take i) 0 e s
  have hi := (List.getElem?_eq_some_iff.1 h).1
  rw [show 0 + (l.take i).length = i from by rw [List.length_take]; omega] at this
  exact this
theorem Mid.restores {k : Nat} {s : St} (h : Mid k 0 s) (hk : k ≤ 1000) (before : Dir) (parts : List Int) (l : Dir) : ∀ i, i ≤ l.length → Mid k i (St.restores before parts 0 (l.take i) s) ∧ (St.restores before parts 0 (l.take i) s).files = s.files ∧ (St.restores before parts 0 (l.take i) s).fil.length = s.fil.length
  | 0, _ => by rw [List.take_zero]; exact ⟨h, rfl, rfl⟩
  | i + 1, hi => by
    have ih := Mid.restores h hk before parts l i (by omega)
    rw [restores_succ before parts l i _ s (List.getElem?_eq_getElem (show i < l.length by omega))]
    obtain ⟨st, e1, _, _, e4, _⟩ := restore_facts (St.restores before parts 0 (l.take i) s) (l[i]'(by omega)).1 (l[i]'(by omega)).2 (look before (l[i]'(by omega)).1) (partAt parts i)
    exact ⟨ih.1.restore hk _ _ _ _, by rw [e4, ih.2.1], by rw [e1, List.length_set, ih.2.2]⟩
def St.c1 (s : St) : St := { s with clock := s.clock + 1 }
def St.c2 (s : St) (keep : Int) : St := s.c1.settle (upTo keep (s.chs.length : Int)).toNat
def St.c3 (s : St) (keep : Int) : St := { s.c2 keep with files := (s.c2 keep).safe, used := 0 }
theorem crash_eq (s : St) (keep : Int) (parts : List Int) : s.crash keep parts = { St.restores s.files parts 0 (s.c3 keep).files (s.c3 keep) with fuse := -1, off := false } := rfl
theorem mem_apps {cs : List Chg} {n : Nat} (hcs : ∀ c ∈ cs, c.small n) : ∀ (l : Dir), (∀ e ∈ l, e.2 < n) → ∀ e ∈ apps cs l, e.2 < n := by
  induction cs with
  | nil => intro l hl; exact hl
  | cons c cs ih =>
    intro l hl
    refine ih (fun c' hc' => hcs c' (List.mem_cons_of_mem _ hc')) (c.app l) fun e he => ?_
    rcases mem_app he with h | h
    · exact hl e h
    · have hc := hcs c List.mem_cons_self
      cases c with
      | mk p f => simp only [Chg.new, Option.some.injEq] at h; rw [← h]; exact hc.2
      | mv p q f => simp only [Chg.new, Option.some.injEq] at h; rw [← h]; exact hc.2.2
      | rm p => cases h
theorem Ok.mid {k : Nat} {s : St} (h : Ok k s) (keep : Int) : Mid k 0 (s.c3 keep) := by
  have hm : ∀ e ∈ (s.c2 keep).safe, e.2 < s.fil.length := mem_apps (fun c hc => h.cs c (List.mem_of_mem_take hc)) s.safe h.ss
  have hl : (s.c2 keep).safe.length ≤ k := by
    have := apps_length (s.chs.take (upTo keep (s.chs.length : Int)).toNat) s.safe
    have h2 := h.ls
    rw [List.length_take] at this
    have h3 : (s.c2 keep).safe = apps (s.chs.take (upTo keep (s.chs.length : Int)).toNat) s.safe := rfl
    rw [h3]
    omega
  exact ⟨hm, hm, rfl, h.r0, h.r1, Int.le_refl _, by show (0 : Int) ≤ _; omega, by have := h.ck; show s.clock + 1 ≤ _; omega, h.f0, h.f1, h.nf, hl, hl, h.sz, h.sy⟩
theorem Ok.crash {k : Nat} {s : St} (h : Ok k s) (hk : k + 1 ≤ 1000) (keep : Int) (parts : List Int) : Ok (k + 1) (s.crash keep parts) := by
  rw [crash_eq]
  have M := (h.mid keep).restores (by omega) s.files parts (s.c3 keep).files _ (Nat.le_refl _)
  rw [List.take_length] at M
  have hlf : (s.c3 keep).files.length ≤ k := (h.mid keep).lf
  have O := M.1.ok hlf hk
  exact ⟨O.fs, O.ss, O.cs, O.r0, O.r1, O.u0, O.u1, O.ck, by show (-1 : Int) ≤ -1; omega, by show (-1 : Int) ≤ _; omega, O.nf, O.lf, O.ls, O.sz, O.sy⟩
theorem MapAt.nx3 {w w' : World} {b : Nat} {blk : Nat → Nat} {l : Dir} (h : MapAt w b blk l) (k : Below w.heap.size w w') : MapAt w' b blk l := h.chd (M := fun _ => False) (Chd.of_below k) (fun e => e)
def Gh.moved (g : Gh) (mb : Nat) : Gh := { g with mf := mb, tag := fun j => if j = mb then 2 else g.tag j }
theorem moved_end {w w' : World} {tb : Nat} {s : St} {g : Gh} {mb : Nat} (h : TreeAt w tb s g) (hn : Below w.heap.size w w') (h0 : g.tag mb = 0) (hm : MapAt w' mb g.blk s.safe) :
    TreeAt ((w'.setCell ⟨tb, 3, none⟩ (.map (some mb))).setCell ⟨tb, 1, none⟩ (.int .i64 0)) tb { s with files := s.safe, used := 0 } (g.moved mb) ∧ Chd (fun j => j = tb) w ((w'.setCell ⟨tb, 3, none⟩ (.map (some mb))).setCell ⟨tb, 1, none⟩ (.int .i64 0)) := by
  obtain ⟨w2, hw2⟩ : ∃ w2, ((w'.setCell ⟨tb, 3, none⟩ (.map (some mb))).setCell ⟨tb, 1, none⟩ (.int .i64 0)) = w2 := ⟨_, rfl⟩
  have H := h.nx hn
  have C : Chd (fun j => j = tb) w' w2 := by rw [← hw2]; exact (Chd.set w' tb 3 _).trans (Chd.set _ tb 1 _)
  have T : BlkIs w2 tb 81 (treeC { s with files := s.safe, used := 0 } (g.moved mb)) := by rw [← hw2]; exact (H.top.set 3 (.map (some mb))).set 1 (.int .i64 0)
  rw [hw2]
  have ht : ∀ j, g.tag j ≠ 0 → (g.moved mb).tag j = g.tag j := fun j hj => if_neg (fun e => hj (by rw [e]; exact h0))
  have hmt : mb ≠ tb := fun e => by rw [e, h.topT] at h0; omega
  have hms : mb ≠ g.ms := fun e => by rw [e, h.msT] at h0; omega
  refine ⟨?_, (Chd.of_below hn).trans C⟩
  have tg : ∀ j, j = tb → g.tag j = 1 := fun j e => by rw [e]; exact h.topT
  exact { top := T
          topT := by rw [ht tb (by rw [H.topT]; omega), H.topT]
          mfT := if_pos rfl
          msT := by show (g.moved mb).tag g.ms = 3; rw [ht _ (by rw [H.msT]; omega), H.msT]
          mfA := hm.chd C hmt
          msA := H.msA.chd C (fun e => by have := tg _ e; rw [H.msT] at this; omega)
          row := row_chd H.row C (fun b hb e => by have := tg _ e; rw [H.rowT b hb] at this; omega)
          rowT := fun b hb => by rw [ht _ (by rw [H.rowT b hb]; omega), H.rowT b hb]
          chs := fun i c hi => by
            obtain ⟨v, hv, ha⟩ := H.chs i c hi
            exact ⟨v, hv, (ha.chd C (fun j e => by have := tg _ e; omega)).retag ht⟩
          fil := fun i hi => ((H.fil i hi).chd C (fun j e => by have := tg _ e; omega)).retag ht
          dom := fun j hj => by
            have hj' : (if j = mb then 2 else g.tag j) ≠ 0 := hj
            split at hj'
            · rename_i e; rw [e]; exact Nat.lt_of_lt_of_le hm.lt C.size
            · exact Nat.lt_of_lt_of_le (H.dom j hj') C.size
          apart := hms }
/-- The blocks that a crash turns while it goes through the files. -/
def Turned (tb : Nat) (g : Gh) (n : Nat) (j : Nat) : Prop := j = tb ∨ ∃ f, f < n ∧ j = g.blk f
theorem row_cell {w : World} {B : Nat} {A : Option Addr} {n c : Nat} {ps : List Str} (h : StrRow w B A n c ps) {i : Nat} {p : Str} (hi : i < n) (hp : ps[i]? = some p) : ∃ b, A = some ⟨b, 0, none⟩ ∧ B ≤ b ∧ b < w.heap.size ∧ w.cell? ⟨b, i, none⟩ = some (.string (S p)) := by
  rcases h.2 with ⟨_, e⟩ | ⟨b, cap, cur, hv, hB, hb, _⟩
  · omega
  · simp only [Value.slice.injEq] at hv
    refine ⟨b, hv.1, hB, (Array.getElem?_eq_some_iff.1 hb).1, ?_⟩
    have := World.ownsRow.cells (w := w) h (g := b) (by rw [hv.1]; rfl) i (.string (S p)) (by simp [strV, hp])
    rwa [add_plain, Nat.zero_add] at this

set_option maxRecDepth 100000 in
theorem crash_any (w : World) (tb : Nat) (s : St) (g : Gh) {k : Nat} (hk : k + 1 ≤ 1000) (h : TreeAt w tb s g) (ok : Ok k s) (hps : ∀ e ∈ s.safe, e.1.length ≤ 10000) (keep : Int) (hkeep : keep ≤ 9223372036854775807)
    (A : Option Addr) (n c : Nat) (parts : List Int) (hn : Nums w A n c parts) (hA : ∀ j o, A = some ⟨j, o, none⟩ → g.tag j = 0) :
    Calls Tryz.prog 36 #[.pointer (some ⟨tb, 0, none⟩), .int .i64 keep, .slice A n c] w fun e w' => e = .returned (.int .i64 0) ∧ ∃ g', TreeAt w' tb (s.crash keep parts) g' ∧ Chd (Mine g) w w' ∧ Gh.le w g g' := by
  have V := Lib.hid (valid_any w tb g.mf (top_of h.top).c3)
  have k1 : (s.clock : Int) ≤ 10000000 := by have := ok.ck; omega
  have hL : s.chs.length ≤ 1000 := by have := ok.ls; omega
  obtain ⟨u, hu, hur⟩ : ∃ u : Nat, upTo keep (s.chs.length : Int) = (u : Int) ∧ u ≤ s.chs.length := by
    unfold upTo
    have h1 : 0 ≤ max 0 keep % ((s.chs.length : Int) + 1) := Int.emod_nonneg _ (by omega)
    have h2 : max 0 keep % ((s.chs.length : Int) + 1) < (s.chs.length : Int) + 1 := Int.emod_lt_of_pos _ (by omega)
    exact ⟨(max 0 keep % ((s.chs.length : Int) + 1)).toNat, by omega, by omega⟩
  have T1 : TreeAt (w.setCell ⟨tb, 2, none⟩ (.int .u64 ((s.clock : Int) + 1))) tb s.c1 g := h.retop (Chd.set w tb 2 _) (fun j e => .inl e) (h.top.set 2 (.int .u64 ((s.clock : Int) + 1))) rfl rfl rfl rfl
  have ok1 : Ok (k + 1) s.c1 := ⟨ok.fs, ok.ss, ok.cs, ok.r0, ok.r1, by have := ok.u0; show _ ≤ s.used; omega, by have := ok.u1; show s.used ≤ _; omega, by have := ok.ck; show s.clock + 1 ≤ _; omega, ok.f0, ok.f1, by have := ok.nf; show s.fil.length ≤ _; omega, by have := ok.lf; show s.files.length ≤ _; omega, by have := ok.ls; show s.safe.length + s.chs.length ≤ _; omega, fun i => by have := ok.sz i; show (s.at_ i).now.length ≤ _; omega, fun i => by have := ok.sy i; show (s.at_ i).sf.length ≤ _; omega⟩
  have UX := Lib.hid (upTo_any (w.setCell ⟨tb, 2, none⟩ (.int .u64 ((s.clock : Int) + 1))) keep (s.chs.length : Int) (by omega) (by omega) hkeep)
  rw [hu] at UX
  have SX := Lib.hid (settle_any _ tb s.c1 g hk T1 ok1 u hur)
  have hc2 : s.c1.settle u = s.c2 keep := by unfold St.c2; rw [hu]; rfl
  rw [hc2] at SX
  obtain ⟨A0, L0, hcv⟩ : ∃ A0 L0, g.cv = .slice A0 s.chs.length L0 := by
    rcases h.row.2 with ⟨hv, h0⟩ | ⟨gb, cap, cur, hv, _⟩
    · exact ⟨none, 0, by rw [hv, h0]⟩
    · exact ⟨_, _, hv⟩
  have c2 := (top_of h.top).c2
  have f2 := h.top.frozen 2
  have c5 := (top_of T1.top).c5
  rw [hcv] at c5
  have MD := Lib.hid (ok.mid keep)
  have H := Lib.hid h
  have OK := Lib.hid ok
  have NM := Lib.hid hn
  have HA := Lib.hid hA
  have HPS : Hid (∀ e ∈ (s.c3 keep).files, e.1.length ≤ 10000) := by
    have : ∀ (cs : List Chg) (l : Dir), (∀ c ∈ cs, c.small s.fil.length) → (∀ e ∈ l, e.1.length ≤ 10000) → ∀ e ∈ apps cs l, e.1.length ≤ 10000 := by
      intro cs
      induction cs with
      | nil => intro l _ hl; exact hl
      | cons c cs ih =>
        intro l hcs hl
        refine ih (c.app l) (fun c' hc' => hcs c' (List.mem_cons_of_mem _ hc')) fun e he => ?_
        rcases mem_app he with h | h
        · exact hl e h
        · have hc := hcs c List.mem_cons_self
          cases c with
          | mk p f => simp only [Chg.new, Option.some.injEq] at h; rw [← h]; exact hc.1
          | mv p q f => simp only [Chg.new, Option.some.injEq] at h; rw [← h]; exact hc.2.1
          | rm p => cases h
    exact this _ s.safe (fun c hc => ok.cs c (List.mem_of_mem_take hc)) hps
  have CE := Lib.hid (crash_eq s keep parts)
  have HMF := Lib.hid (h.mfA.chd (Chd.set w tb 2 (.int .u64 ((s.clock : Int) + 1))) (fun e => by have := h.mfT; rw [e, h.topT] at this; omega))
  have hct : Hid (Chd (fun j => j = tb) w (w.setCell ⟨tb, 2, none⟩ (.int .u64 ((s.clock : Int) + 1)))) := Chd.set w tb 2 _
  clear h ok hn hA T1 ok1 hc2 hcv hps
  rw [CE.out]
  have hkk := hkeep
  go_enter Tryz.func36, Tryz.ntmps36
  go_wp2_with fail
  refine V.out.mono ?_
  rintro e w' ⟨rfl, rfl⟩
  go_wp2_with fail
  refine UX.out.mono ?_
  rintro e w' ⟨rfl, rfl⟩
  go_wp2_with fail
  refine SX.out.mono ?_
  rintro e w2 ⟨rfl, ht2, hc2⟩
  have om2a := HMF.out.chd hc2 (fun e => by
    rcases e with e | e
    · have := H.out.mfT; rw [e, H.out.topT] at this; omega
    · exact H.out.apart e)
  have C2 := Lib.hid ((hct.out.mono (M' := fun j => j = tb ∨ j = g.ms) fun _ _ e => .inl e).trans hc2)
  have CLX := Lib.hid (Tryz.maps_Clone_owns 9 ptrE g.ms (s.c2 keep).safe.length (dat g.blk (s.c2 keep).safe) w2 ht2.msA)
  have c3 : w2.cell? ⟨tb, 3, none⟩ = some (.map (some g.mf)) := (top_of ht2.top).c3
  have c4 : w2.cell? ⟨tb, 4, none⟩ = some (.map (some g.ms)) := (top_of ht2.top).c4
  have T2 := Lib.hid ht2
  have OM2 := Lib.hid om2a
  clear ht2 hc2 om2a UX V SX HMF hct c2 f2 c5
  go_wp2_with fail
  refine CLX.out.mono ?_
  rintro e w3 ⟨rfl, hm3, _, hb3⟩
  have hz3 : g.clean.tag w2.heap.size = 0 := new_zero T2.out (Nat.le_refl _)
  have ME := moved_end T2.out hb3 hz3 hm3
  have T3' := T2.out.nx hb3
  have c3' : w3.cell? ⟨tb, 3, none⟩ = some (.map (some g.mf)) := (top_of T3'.top).c3
  have c1' := (top_of T3'.top).c1
  have f3' := T3'.top.frozen 3
  have f1' := T3'.top.frozen 1
  have OM3 := Lib.hid (OM2.out.nx3 hb3)
  have ME' := Lib.hid ME
  clear ME T3' hm3 hb3 CLX c3 c4 OM2
  go_wp2_with fail
  obtain ⟨w4, hw4⟩ : ∃ w4, ((w3.setCell ⟨tb, 3, none⟩ (.map (some w2.heap.size))).setCell ⟨tb, 1, none⟩ (.int .i64 0)) = w4 := ⟨_, rfl⟩
  have hmt : g.mf ≠ tb := fun e => by have := H.out.mfT; rw [e, H.out.topT] at this; omega
  have hmb : g.mf ≠ w2.heap.size := fun e => by have h1 := H.out.mfT; have h2 : g.tag w2.heap.size = 0 := hz3; rw [← e, h1] at h2; omega
  have om4 : MapAt w4 g.mf g.blk s.files := by rw [← hw4]; exact (OM3.out.chd (Chd.set w3 tb 3 _) hmt).chd (Chd.set _ tb 1 _) hmt
  have T4 := ME'.out.1
  have C4 := ME'.out.2
  rw [hw4] at T4 C4 ⊢
  have hsl : w.heap.size ≤ w2.heap.size := C2.out.size
  obtain ⟨mb, hmbe⟩ : ∃ mb, w2.heap.size = mb := ⟨_, rfl⟩
  obtain ⟨g3, hg3⟩ : ∃ g3, g.clean.moved mb = g3 := ⟨_, rfl⟩
  rw [hmbe] at T4 hmb hsl ⊢
  have T4 : TreeAt w4 tb (s.c3 keep) (g.clean.moved mb) := T4
  rw [hg3] at T4
  have hblk : g3.blk = g.blk := by rw [← hg3]; rfl
  have hmf3 : g3.mf = mb := by rw [← hg3]; rfl
  have htag : ∀ j, j ≠ mb → g3.tag j = g.tag j := fun j hj => by rw [← hg3]; exact if_neg hj
  have hlf : (s.c3 keep).files.length ≤ k := MD.out.lf
  have SR := Lib.hid (sorted_any w4 mb g3.blk (s.c3 keep).files (by have := T4.mfA; rwa [hmf3] at this) (by omega))
  have CW4 : Chd (Mine g) w w4 := by
    have a1 : Chd (Mine g) w w2 := C2.out.mono fun j _ e => by
      rcases e with e | e
      · rw [e]; exact (mine_cv H.out).1
      · rw [e]; exact (mine_cv H.out).2.2.1
    exact a1.trans (C4.mono fun j _ e => by rw [e]; exact (mine_cv H.out).1)
  have T4' := Lib.hid T4
  have OM4 := Lib.hid om4
  have CW4' := Lib.hid CW4
  have HBLK := Lib.hid hblk
  have HTAG := Lib.hid htag
  have HSL := Lib.hid hsl
  have HMT := Lib.hid hmt
  have HMB := Lib.hid hmb
  have HG3 := Lib.hid hg3
  clear T4 om4 CW4 hw4 hmbe hg3 hblk hmf3 htag hsl hmt hmb C4 ME' OM3 C2 T2 c3' c1' f3' f1' hz3
  refine SR.out.mono ?_
  rintro e w5 ⟨A5, c5, rfl, hrow, hb5⟩
  have T5 := Lib.hid (T4'.out.nx hb5)
  have OM5 := Lib.hid (OM4.out.nx3 hb5)
  have CW5 := Lib.hid (CW4'.out.trans (Nx.chd hb5))
  have RW := Lib.hid hrow
  have LN := Lib.hid (show (s.c3 keep).files.length ≤ k from hlf)
  clear hrow hb5 SR OM4 CW4'
  go_wp2
  go_loopw [50] (fun x wr => ∃ i : Nat, x = .int .i64 i ∧ i ≤ (s.c3 keep).files.length ∧ Hid (TreeAt wr tb (St.restores s.files parts 0 ((s.c3 keep).files.take i) (s.c3 keep)) g3 ∧ Chd (Turned tb g3 s.fil.length) w5 wr)) (fun x _ => (s.c3 keep).files.length - (intOf x).toNat)
  case atStart => exact ⟨0, rfl, Nat.zero_le _, T5.out, Chd.refl _⟩
  case round =>
    obtain ⟨i, rfl, hi, hrel⟩ := hrel
    have tgT : ∀ j, Turned tb g3 s.fil.length j → g3.tag j = 1 ∨ ∃ f, g3.tag j = 10 + 2 * f := fun j hj => by
      rcases hj with e | ⟨f, hf, e⟩
      · rw [e]; exact .inl T5.out.topT
      · rw [e]; exact .inr ⟨f, (T5.out.fil f hf).tg⟩
    have htT : g3.tag g.mf = 2 := by rw [HTAG.out g.mf HMB.out, H.out.mfT]
    have notT : ¬ Turned tb g3 s.fil.length g.mf := fun e => by
      rcases tgT _ e with e | ⟨f, e⟩ <;> omega
    have om2 : MapAt wr g.mf g.blk s.files := OM5.out.chd hrel.out.2 notT
    have TGT := Lib.hid tgT
    by_cases hlt : i < (s.c3 keep).files.length
    · obtain ⟨p, f, hpf⟩ : ∃ p f, (s.c3 keep).files[i]? = some (p, f) := ⟨_, _, List.getElem?_eq_getElem hlt⟩
      have hmem := List.mem_of_getElem? hpf
      have hplen : p.length ≤ 10000 := HPS.out _ hmem
      obtain ⟨b5, rfl, hbB, hbl, hcell⟩ := row_cell RW.out (i := i) (p := p) hlt (by rw [List.getElem?_map, hpf]; rfl)
      have hbz : g3.tag b5 = 0 := new_zero T4'.out hbB
      have hcell' : wr.cell? ⟨b5, i, none⟩ = some (.string (S p)) := by
        rw [World.cell?_of_block (hrel.out.2.block b5 hbl (fun e => by rcases tgT _ e with e | ⟨f, e⟩ <;> omega))]
        exact hcell
      have MI := MD.out.restores (by omega) s.files parts (s.c3 keep).files i hi
      have oki := MI.1.ok (by have := LN.out; omega) hk
      have hlk2 : look (St.restores s.files parts 0 ((s.c3 keep).files.take i) (s.c3 keep)).files p = some f := by
        rw [MI.2.1]
        exact rising_look (by have := T4'.out.mfA.rising; exact this) hmem
      have hfl : f < s.fil.length := MD.out.fs _ hmem
      have hwas : ∀ q, look s.files p = some q → q < (St.restores s.files parts 0 ((s.c3 keep).files.take i) (s.c3 keep)).fil.length := fun q hq => by
        rw [MI.2.2]
        exact OK.out.fs _ (look_mem hq)
      have hlkAll : Hid (∀ W, MapAt W g.mf g.blk s.files → (Instr.lookup 77 (.map (some g.mf)) (.string (S p)) false).run Tryz.prog W = .ok (optP g (look s.files p)) W) := fun W hW => lookup_in hW p (by omega) g rfl
      have hnums : Nums wr A n c parts := NM.out.chd ((CW5.out.mono (M' := fun j => Mine g j ∨ Turned tb g3 s.fil.length j) fun _ _ e => .inl e).trans (hrel.out.2.mono fun _ _ e => .inr e)) (fun j o e hj e2 => by
        have h0 := HA.out j o e
        have hjw : ¬ j = mb := fun e3 => by have := HSL.out; omega
        have := HTAG.out j hjw
        rcases e2 with e2 | e2
        · exact e2 h0
        · rcases tgT _ e2 with e3 | ⟨f, e3⟩ <;> omega)
      have ATX : Hid (Calls Tryz.prog 69 #[.slice A n c, .int .i64 (i : Int)] wr.drew fun e w' => e = .returned (.int .i64 (partAt parts i)) ∧ wr.drew = w') := at_any wr.drew A n c parts (hnums.chd (Chd.drew (Chd.refl (M := fun _ => False) wr)) (fun _ _ _ _ e => e)) i (by have := LN.out; omega)
      have RSX : Hid (Calls Tryz.prog 68 #[.pointer (some ⟨tb, 0, none⟩), .string (S p), optP g (look s.files p), .int .i64 (partAt parts i)] wr.drew fun e w' => e = .returned (.tuple #[]) ∧
          TreeAt w' tb ((St.restores s.files parts 0 ((s.c3 keep).files.take i) (s.c3 keep)).restore p f (look s.files p) (partAt parts i)) g3 ∧ Chd (fun j => j = tb ∨ j = g3.blk f) wr.drew w') := by
        have := restore_any wr.drew tb _ g3 hk (hrel.out.1.nx (Nx.drew (Nx.refl _))) oki p (by omega) f hlk2 (look s.files p) hwas (partAt parts i) (NM.out.ok i)
        rw [show optP g3 (look s.files p) = optP g (look s.files p) from by unfold optP; rw [HBLK.out]] at this
        exact this
      have STEP : Hid (∀ w7, TreeAt w7 tb ((St.restores s.files parts 0 ((s.c3 keep).files.take i) (s.c3 keep)).restore p f (look s.files p) (partAt parts i)) g3 → Chd (fun j => j = tb ∨ j = g3.blk f) wr.drew w7 →
          TreeAt w7 tb (St.restores s.files parts 0 ((s.c3 keep).files.take (i + 1)) (s.c3 keep)) g3 ∧ ¬ (g.mf = tb ∨ g.mf = g3.blk f) ∧ Chd (fun j => j = tb ∨ j = g3.blk f) wr.drew w7) := fun w7 h1 h2 => by
        refine ⟨by rw [restores_succ s.files parts _ i (p, f) _ hpf]; exact h1, fun e => notT ?_, h2⟩
        exact e.imp id fun e => ⟨f, hfl, e⟩
      have REL := hrel
      have HFL := Lib.hid hfl
      clear hrel MI oki hlk2 hwas hnums hmem hplen hcell hbz hbB hbl tgT htT notT hpf hfl
      generalize S p = sp at *
      generalize hov : optP g (look s.files p) = ov at *
      clear hov
      generalize partAt parts i = pt at *
      go_upto_region 10 with fail
      refine wp_region_held_drew (S := (fun W => MapAt W g.mf g.blk s.files)) (by kernel_rfl) om2 (fun hHeld => ?_)
      change wpAnyH _ _ _ _ _ 9 (Array.replicate 9 false) _ _
      refine wpAnyH_take (i := 0) (oi := { dst := some 55, op := Op.move (Operand.tmp 0), type := 40, pos := "crash.go:36", after := #[], guard := none }) (v := ?va0) rfl (by kernel_rfl) (by kernel_rfl) (by kernel_rfl) (fun _ _ _ h => h) (Or.inl ⟨by rfl, ?hya0⟩) hHeld ?resta0
      case hya0 =>
        intro W hSw
        go_simp
        try with_reducible rfl
      try simp only [Act.put, List.setIfInBounds_toArray, List.set_cons_zero, List.set_cons_succ]
      refine wpAnyH_take (i := 1) (oi := { dst := some 56, op := Op.move (Operand.tmp 9), type := 9, pos := "crash.go:36", after := #[], guard := none }) (v := ?va1) rfl (by kernel_rfl) (by kernel_rfl) (by kernel_rfl) (fun _ _ _ h => h) (Or.inl ⟨by rfl, ?hya1⟩) hHeld ?resta1
      case hya1 =>
        intro W hSw
        go_simp
        try with_reducible rfl
      try simp only [Act.put, List.setIfInBounds_toArray, List.set_cons_zero, List.set_cons_succ]
      refine wpAnyH_take (i := 2) (oi := { dst := some 57, op := Op.move (Operand.tmp 7), type := 77, pos := "crash.go:36", after := #[], guard := none }) (v := ?va2) rfl (by kernel_rfl) (by kernel_rfl) (by kernel_rfl) (fun _ _ _ h => h) (Or.inl ⟨by rfl, ?hya2⟩) hHeld ?resta2
      case hya2 =>
        intro W hSw
        go_simp
        try with_reducible rfl
      try simp only [Act.put, List.setIfInBounds_toArray, List.set_cons_zero, List.set_cons_succ]
      refine wpAnyH_take (i := 3) (oi := { dst := some 58, op := Op.move (Operand.tmp 9), type := 9, pos := "crash.go:36", after := #[], guard := none }) (v := ?va3) rfl (by kernel_rfl) (by kernel_rfl) (by kernel_rfl) (fun _ _ _ h => h) (Or.inl ⟨by rfl, ?hya3⟩) hHeld ?resta3
      case hya3 =>
        intro W hSw
        go_simp
        try with_reducible rfl
      try simp only [Act.put, List.setIfInBounds_toArray, List.set_cons_zero, List.set_cons_succ]
      refine wpAnyH_take (i := 4) (oi := { dst := some 59, op := Op.lookup 77 (Operand.tmp 57) (Operand.tmp 58) false, type := 102, pos := "crash.go:36", after := #[{ on := 2, ground := Ground.data }, { on := 3, ground := Ground.data }], guard := none }) (v := ?va4) rfl (by kernel_rfl) (by kernel_rfl) (by kernel_rfl) (fun _ _ _ h => h) (Or.inl ⟨by rfl, ?hya4⟩) hHeld ?resta4
      case hya4 =>
        intro W hSw
        have s1 := hlkAll.out W hSw
        go_simp
        try with_reducible rfl
      try simp only [Act.put, List.setIfInBounds_toArray, List.set_cons_zero, List.set_cons_succ]
      refine wpAnyH_take (i := 5) (oi := { dst := some 60, op := Op.move (Operand.tmp 2), type := 37, pos := "crash.go:36", after := #[], guard := none }) (v := ?va5) rfl (by kernel_rfl) (by kernel_rfl) (by kernel_rfl) (fun _ _ _ h => h) (Or.inl ⟨by rfl, ?hya5⟩) hHeld ?resta5
      case hya5 =>
        intro W hSw
        go_simp
        try with_reducible rfl
      try simp only [Act.put, List.setIfInBounds_toArray, List.set_cons_zero, List.set_cons_succ]
      refine wpAnyH_take (i := 6) (oi := { dst := some 61, op := Op.move (Operand.tmp 8), type := 3, pos := "crash.go:36", after := #[], guard := none }) (v := ?va6) rfl (by kernel_rfl) (by kernel_rfl) (by kernel_rfl) (fun _ _ _ h => h) (Or.inl ⟨by rfl, ?hya6⟩) hHeld ?resta6
      case hya6 =>
        intro W hSw
        go_simp
        try with_reducible rfl
      try simp only [Act.put, List.setIfInBounds_toArray, List.set_cons_zero, List.set_cons_succ]
      refine wpAnyH_ready (rs := [7]) (by kernel_rfl) (by simp) ?_
      refine AllReadyH.cons (o := { dst := some 62, op := Op.call { callee := Callee.value (Operand.func 69), args := #[Operand.tmp 60, Operand.tmp 61], argTypes := #[37, 3] }, type := 3, pos := "crash.go:36", after := #[{ on := 5, ground := Ground.data }, { on := 6, ground := Ground.data }], guard := none }) rfl (fun K' hK => ?_) AllReadyH.nil
      go_simp
      refine ATX.out.mono ?_
      rintro e w6 ⟨rfl, rfl⟩
      show K' _ wr.drew
      refine hK.out _ _ om2 (fun hHeld => ?_)
      clear hK K'
      try simp only [Act.put, List.setIfInBounds_toArray, List.set_cons_zero, List.set_cons_succ]
      refine wpAnyH_ready (rs := [8]) (by kernel_rfl) (by simp) ?_
      refine AllReadyH.cons (o := { dst := some 63, op := Op.call { callee := Callee.value (Operand.func 68), args := #[Operand.tmp 55, Operand.tmp 56, Operand.tmp 59, Operand.tmp 62], argTypes := #[40, 9, 102, 3] }, type := 0, pos := "crash.go:36", after := #[{ on := 0, ground := Ground.data }, { on := 1, ground := Ground.data }, { on := 4, ground := Ground.data }, { on := 7, ground := Ground.data }, { on := 7, ground := Ground.chain }], guard := none }) rfl (fun K' hK => ?_) AllReadyH.nil
      go_simp
      refine RSX.out.mono ?_
      rintro e w7 ⟨rfl, ht7, hc7⟩
      have TC7 := Lib.hid (STEP.out w7 ht7 hc7)
      clear ht7 hc7
      show K' _ w7
      refine hK.out _ _ ((om2.chd (M := fun _ => False) (Chd.drew (Chd.refl wr)) (fun e => e)).chd TC7.out.2.2 TC7.out.2.1) (fun hHeld => ?_)
      clear hK K'
      try simp only [Act.put]
      refine wpAnyH_done (by kernel_rfl) ?_ _
      go_wp2
      go_roundw
      case rel => exact ⟨i + 1, by go_num, by omega, TC7.out.1, REL.out.2.trans ((Chd.drew (Chd.refl wr)).trans (TC7.out.2.2.mono fun j _ e => e.imp id fun e => ⟨f, HFL.out, e⟩))⟩
      case measure => simp [intOf]; omega
    · obtain rfl : i = (s.c3 keep).files.length := by omega
      have c6 := (top_of hrel.out.1.top).c6
      have c7 := (top_of hrel.out.1.top).c7
      have f6 := hrel.out.1.top.frozen 6
      have f7 := hrel.out.1.top.frozen 7
      have hT := hrel.out.1
      rw [List.take_length] at hT
      have CE : Chd (fun j => j = tb) wr ((wr.setCell ⟨tb, 6, none⟩ (.int .i64 (-1))).setCell ⟨tb, 7, none⟩ (.bool false)) := (Chd.set wr tb 6 _).trans (Chd.set _ tb 7 _)
      have TE : TreeAt ((wr.setCell ⟨tb, 6, none⟩ (.int .i64 (-1))).setCell ⟨tb, 7, none⟩ (.bool false)) tb { St.restores s.files parts 0 (s.c3 keep).files (s.c3 keep) with fuse := -1, off := false } g3 :=
        hT.retop CE (fun j e => .inl e) ((hT.top.set 6 (.int .i64 (-1))).set 7 (.bool false)) rfl rfl rfl rfl
      have mineT : ∀ j, j < w5.heap.size → Turned tb g3 s.fil.length j → j < w.heap.size → Mine g j := fun j _ e hj => by
        have hjm : j ≠ mb := fun e2 => by have := HSL.out; omega
        show g.tag j ≠ 0
        rw [← HTAG.out j hjm]
        rcases tgT _ e with e | ⟨f, e⟩ <;> omega
      have CF : Chd (Mine g) w ((wr.setCell ⟨tb, 6, none⟩ (.int .i64 (-1))).setCell ⟨tb, 7, none⟩ (.bool false)) :=
        (CW5.out.then_ hrel.out.2 (fun j hj e => mineT j (Nat.lt_of_lt_of_le hj CW5.out.size) e hj)).trans (CE.mono fun j _ e => by rw [e]; exact (mine_cv H.out).1)
      have hle : Gh.le w g g3 := fun j hj => by
        by_cases e : j = mb
        · right; have := HSL.out; omega
        · left; rw [← HTAG.out j e]; exact hj
      have TE' := Lib.hid TE
      have CF' := Lib.hid CF
      have HLE := Lib.hid hle
      clear TE CF hle mineT CE hT hrel tgT htT notT om2
      go_wp2
      go_ret
      exact ⟨rfl, g3, TE'.out, CF'.out, HLE.out⟩
end Go.Proofs.YtiikjdjpodmpcaaGreat

/- Package tree: New, Fuse, Left, Clock, On, Stat. -/
namespace Go.Proofs.YtiikjdjpodmpcaaGreat
open Go.RowKit Go.Maps
set_option linter.unusedVariables false

def Gh.new (B : Nat) : Gh := ⟨B, B + 1, .slice none 0 0, [], fun _ => 0, fun j => if j = B then 2 else if j = B + 1 then 3 else if j = B + 2 then 1 else 0⟩
theorem new_at (w : World) (room : Int) : TreeAt (((w.alloc (.map #[] 0)).alloc (.map #[] 0)).alloc (.cells #[.int .i64 room, .int .i64 0, .int .u64 0, .map (some w.heap.size), .map (some (w.heap.size + 1)), .slice none 0 0, .int .i64 (-1), .bool false] 81)) (w.heap.size + 2) (St.new room) (Gh.new w.heap.size) := by
  have m1 := ((MapAt.made w (fun _ => 0)).chd (M := fun _ => False) (Chd.of_below ((Below.refl _ _).alloc (Nat.le_refl _) (.map #[] 0))) (fun e => e)).chd (M := fun _ => False) (Chd.of_below ((Below.refl _ _).alloc (Nat.le_refl _) (.cells #[.int .i64 room, .int .i64 0, .int .u64 0, .map (some w.heap.size), .map (some (w.heap.size + 1)), .slice none 0 0, .int .i64 (-1), .bool false] 81))) (fun e => e)
  have m2 := (MapAt.made (w.alloc (.map #[] 0)) (fun _ => 0)).chd (M := fun _ => False) (Chd.of_below ((Below.refl _ _).alloc (Nat.le_refl _) (.cells #[.int .i64 room, .int .i64 0, .int .u64 0, .map (some w.heap.size), .map (some (w.heap.size + 1)), .slice none 0 0, .int .i64 (-1), .bool false] 81))) (fun e => e)
  have t := BlkIs.new ((w.alloc (.map #[] 0)).alloc (.map #[] 0)) 81 #[.int .i64 room, .int .i64 0, .int .u64 0, .map (some w.heap.size), .map (some (w.heap.size + 1)), .slice none 0 0, .int .i64 (-1), .bool false]
  rw [World.size_alloc] at m2
  rw [World.size_alloc, World.size_alloc] at t
  exact { top := t
          topT := by show (if w.heap.size + 2 = w.heap.size then 2 else if w.heap.size + 2 = w.heap.size + 1 then 3 else if w.heap.size + 2 = w.heap.size + 2 then 1 else 0) = 1; rw [if_neg (by omega), if_neg (by omega), if_pos rfl]
          mfT := if_pos rfl
          msT := by show (if w.heap.size + 1 = w.heap.size then 2 else if w.heap.size + 1 = w.heap.size + 1 then 3 else _) = 3; rw [if_neg (by omega), if_pos rfl]
          mfA := m1, msA := m2
          row := ⟨rfl, .inl ⟨rfl, rfl⟩⟩
          rowT := fun b hb => by cases hb
          chs := fun i c hi => by simp [St.new] at hi
          fil := fun i hi => by simp [St.new] at hi
          dom := fun j hj => by
            have hj' : (if j = w.heap.size then 2 else if j = w.heap.size + 1 then 3 else if j = w.heap.size + 2 then 1 else 0) ≠ 0 := hj
            rw [World.size_alloc, World.size_alloc, World.size_alloc]
            repeat' split at hj'
            all_goals omega
          apart := by show w.heap.size ≠ w.heap.size + 1; omega }
theorem new_le (B j : Nat) (h : (Gh.new B).tag j ≠ 0) : B ≤ j ∧ j ≤ B + 2 := by
  have hj' : (if j = B then 2 else if j = B + 1 then 3 else if j = B + 2 then 1 else 0) ≠ 0 := h
  repeat' split at hj'
  all_goals omega

theorem new_any (w : World) (room : Int) (h0 : 0 ≤ room) (h1 : room ≤ 67108864) :
    Calls Tryz.prog 17 #[.int .i64 room] w fun e w' => e = .returned (.tuple #[.pointer (some ⟨w.heap.size + 2, 0, none⟩), .int .i64 0]) ∧ TreeAt w' (w.heap.size + 2) (St.new room) (Gh.new w.heap.size) ∧ Nx w w' := by
  have T := Lib.hid (new_at w room)
  have B : Hid (Nx w (((w.alloc (.map #[] 0)).alloc (.map #[] 0)).alloc (.cells #[.int .i64 room, .int .i64 0, .int .u64 0, .map (some w.heap.size), .map (some (w.heap.size + 1)), .slice none 0 0, .int .i64 (-1), .bool false] 81))) := (((Below.refl _ w).alloc (Nat.le_refl _) _).alloc (by simp) _).alloc (by simp; omega) _
  have hmm := @run_makeMap Tryz.prog
  go_enter Tryz.func17, Tryz.ntmps17
  go_wp2
  go_ret2
  exact ⟨rfl, T.out, B.out⟩
theorem new_bad (w : World) (room : Int) (h : room < 0 ∨ 67108864 < room) :
    Calls Tryz.prog 17 #[.int .i64 room] w fun e w' => e = .returned (.tuple #[.pointer none, .int .i64 2]) ∧ w = w' := by
  by_cases h0 : room < 0
  · clear h
    go_enter Tryz.func17, Tryz.ntmps17
    go_wp2
    go_ret2
    exact ⟨rfl, rfl⟩
  · have h1 : 67108864 < room := h.resolve_left h0
    clear h
    go_enter Tryz.func17, Tryz.ntmps17
    go_wp2
    go_ret2
    exact ⟨rfl, rfl⟩

theorem fuse_any (w : World) (tb : Nat) (s : St) (g : Gh) (h : TreeAt w tb s g) (n : Int) :
    Calls Tryz.prog 35 #[.pointer (some ⟨tb, 0, none⟩), .int .i64 n] w fun e w' => e = .returned (.int .i64 0) ∧ TreeAt w' tb (s.fuse_ n) g ∧ Chd (fun j => j = tb) w w' := by
  have V := Lib.hid (valid_any w tb g.mf (top_of h.top).c3)
  have c6 := (top_of h.top).c6
  have f6 := h.top.frozen 6
  have C := Lib.hid (Chd.set w tb 6 (.int .i64 (max n (-1))))
  have T : Hid (TreeAt (w.setCell ⟨tb, 6, none⟩ (.int .i64 (max n (-1)))) tb (s.fuse_ n) g) := h.retop C.out (fun j e => .inl e) (h.top.set 6 (.int .i64 (max n (-1)))) rfl rfl rfl rfl
  clear h
  go_enter Tryz.func35, Tryz.ntmps35
  go_wp2_with fail
  refine V.out.mono ?_
  rintro e w' ⟨rfl, rfl⟩
  go_wp2
  go_ret
  exact ⟨rfl, T.out, C.out⟩
theorem leftM_any (w : World) (tb : Nat) (s : St) (g : Gh) {k : Nat} (hk : k ≤ 1000) (h : TreeAt w tb s g) (ok : Ok k s) :
    Calls Tryz.prog 25 #[.pointer (some ⟨tb, 0, none⟩)] w fun e w' => e = .returned (.int .i64 (s.left_ s.used)) ∧ w = w' := by
  have V := Lib.hid (valid_any w tb g.mf (top_of h.top).c3)
  have c1 := (top_of h.top).c1
  have L := Lib.hid (left_any w tb s g h.top s.used ok.r0 ok.r1 (by have := ok.u0; omega) (by have := ok.u1; omega))
  clear h ok
  generalize s.left_ s.used = lv at *
  go_enter Tryz.func25, Tryz.ntmps25
  go_wp2_with fail
  refine V.out.mono ?_
  rintro e w' ⟨rfl, rfl⟩
  go_wp2_with fail
  refine L.out.mono ?_
  rintro e w' ⟨rfl, rfl⟩
  go_wp2
  go_ret
  exact ⟨rfl, rfl⟩
theorem on_any (w : World) (tb : Nat) (s : St) (g : Gh) (h : TreeAt w tb s g) :
    Calls Tryz.prog 23 #[.pointer (some ⟨tb, 0, none⟩)] w fun e w' => e = .returned (.bool (!s.off)) ∧ w = w' := by
  have V := Lib.hid (valid_any w tb g.mf (top_of h.top).c3)
  have c7 := (top_of h.top).c7
  clear h
  go_enter Tryz.func23, Tryz.ntmps23
  go_wp2_with fail
  refine V.out.mono ?_
  rintro e w' ⟨rfl, rfl⟩
  go_wp2
  go_ret
  exact ⟨rfl, rfl⟩
theorem stat_any (w : World) (tb : Nat) (s : St) (g : Gh) {k : Nat} (h : TreeAt w tb s g) (ok : Ok k s) (p : Str) (hp : p.length ≤ 1000000000000) :
    Calls Tryz.prog 116 #[.pointer (some ⟨tb, 0, none⟩), .string (S p)] w fun e w' => e = .returned (.tuple #[.int .i64 (s.stat p).1, .int .u64 ((s.stat p).2.1 : Int), .bool (s.stat p).2.2]) ∧ ∃ m, w' = w.drewN m := by
  have V := Lib.hid (valid_any w tb g.mf (top_of h.top).c3)
  have c3 := (top_of h.top).c3
  have hlk := lookup_in h.mfA p hp g rfl
  cases hl : look s.files p with
  | none =>
    have e1 : s.stat p = (0, 0, false) := by unfold St.stat; rw [hl]
    rw [hl] at hlk
    unfold optP at hlk
    simp only at hlk
    rw [e1]
    clear h e1 hl hp
    generalize S p = sp at *
    go_enter Tryz.func116, Tryz.ntmps116
    go_wp2_with fail
    refine V.out.mono ?_
    rintro e w' ⟨rfl, rfl⟩
    go_wp2
    go_ret3
    exact ⟨rfl, 0, rfl⟩
  | some f =>
    obtain ⟨A, n, c, A2, n2, c2, hb, ho, _⟩ := (h.file hl ok.fs).ex
    have e1 : s.stat p = ((n : Int), (s.at_ f).st, true) := by unfold St.stat; rw [hl]; simp only; rw [ho.len]
    rw [hl] at hlk
    unfold optP fptr at hlk
    simp only at hlk
    rw [e1]
    have d0 : w.cell? ⟨g.blk f, 0, none⟩ = some (.slice A n c) := by rw [hb.cell]; rfl
    have d2 : w.cell? ⟨g.blk f, 2, none⟩ = some (.int .u64 ((s.at_ f).st : Int)) := by rw [hb.cell]; rfl
    clear h e1 hl hp hb ho
    generalize S p = sp at *
    generalize g.blk f = fb at *
    generalize (s.at_ f).st = st at *
    go_enter Tryz.func116, Tryz.ntmps116
    go_wp2_with fail
    refine V.out.mono ?_
    rintro e w' ⟨rfl, rfl⟩
    go_wp2_with fail
    go_quiet (fail)
    go_wp2
    go_ret3
    exact ⟨rfl, _, rfl⟩
end Go.Proofs.YtiikjdjpodmpcaaGreat

/- Package tree: what k calls keep. -/
namespace Go.Proofs.YtiikjdjpodmpcaaGreat
open Go.RowKit Go.Maps
set_option linter.unusedVariables false

def Sp (s : St) : Prop := (∀ e ∈ s.safe, e.1.length ≤ 10000) ∧ ∀ e ∈ s.files, e.1.length ≤ 10000
structure Good (k : Nat) (s : St) : Prop where
  ok : Ok k s
  sp : Sp s
theorem Good.up {k m : Nat} {s : St} (h : Good k s) (hm : k ≤ m) : Good m s := by
  obtain ⟨d, rfl⟩ : ∃ d, m = k + d := ⟨m - k, by omega⟩
  induction d with
  | zero => exact h
  | succ d ih => exact ⟨(ih (by omega)).ok.more, h.sp⟩
theorem Good.new (room : Int) (h0 : 0 ≤ room) (h1 : room ≤ 67108864) : Good 0 (St.new room) := by
  have ha : ∀ i, ((St.new room).at_ i) = default := fun i => by unfold St.new St.at_; rfl
  exact ⟨⟨fun e he => by simp [St.new] at he, fun e he => by simp [St.new] at he, fun e he => by simp [St.new] at he, h0, h1, by show _ ≤ (0 : Int); omega, by show (0 : Int) ≤ _; omega, Nat.zero_le _, by show (-1 : Int) ≤ -1; omega, by show (-1 : Int) ≤ _; omega, Nat.le_refl _, Nat.le_refl _, Nat.le_refl _, fun i => by rw [ha]; exact Nat.zero_le _, fun i => by rw [ha]; exact Nat.zero_le _⟩, fun e he => by simp [St.new] at he, fun e he => by simp [St.new] at he⟩
theorem Good.begin {k : Nat} {s : St} (h : Good k s) (ps : List Str) : Good k (s.begin_ ps).1 := ⟨h.ok.begin ps, by unfold Sp; rw [(begin_same s ps).2.1, (begin_same s ps).1]; exact h.sp⟩
theorem Good.after {k : Nat} {s s1 : St} {p : Str} {o : List Str} {r : Option Nat} {er : Int} (hf : Found s p o s1 r er) (h : Good k s) : Good k s1 := by
  refine ⟨hf.ok h.ok, ?_⟩
  have := hf.eq
  rw [find_eq] at this
  simp only [Prod.mk.injEq] at this
  unfold Sp
  rw [← this.1, (begin_same s _).2.1, (begin_same s _).1]
  exact h.sp
theorem Ok.record {k : Nat} {s : St} (h : Ok k s) (c : Chg) (hc : c.small s.fil.length) : Ok (k + 1) (s.record c) := by
  have hl := app_length c s.files
  exact { fs := fun e he => by
            rcases mem_app (c := c) (l := s.files) he with h1 | h1
            · exact h.fs e h1
            · cases c with
              | mk p f => simp only [Chg.new, Option.some.injEq] at h1; rw [← h1]; exact hc.2
              | mv p q f => simp only [Chg.new, Option.some.injEq] at h1; rw [← h1]; exact hc.2.2
              | rm p => cases h1
          ss := h.ss
          cs := fun c' hc' => by
            rcases List.mem_append.1 hc' with h1 | h1
            · exact h.cs c' h1
            · rw [List.mem_singleton.1 h1]; exact hc
          r0 := h.r0, r1 := h.r1
          u0 := by have := h.u0; show _ ≤ s.used; omega
          u1 := by have := h.u1; show s.used ≤ _; omega
          ck := by have := h.ck; show s.clock + 1 ≤ _; omega
          f0 := h.f0, f1 := h.f1
          nf := by have := h.nf; show s.fil.length ≤ _; omega
          lf := by have := h.lf; show (c.app s.files).length ≤ _; omega
          ls := by have := h.ls; show s.safe.length + (s.chs ++ [c]).length ≤ _; rw [List.length_append, List.length_singleton]; omega
          sz := fun i => by have := h.sz i; show (s.at_ i).now.length ≤ _; omega
          sy := fun i => by have := h.sy i; show (s.at_ i).sf.length ≤ _; omega }
theorem fp_app {c : Chg} {n : Nat} (hc : c.small n) {l : Dir} (hl : ∀ e ∈ l, e.1.length ≤ 10000) : ∀ e ∈ c.app l, e.1.length ≤ 10000 := fun e he => by
  rcases mem_app he with h | h
  · exact hl e h
  · cases c with
    | mk p f => simp only [Chg.new, Option.some.injEq] at h; rw [← h]; exact hc.1
    | mv p q f => simp only [Chg.new, Option.some.injEq] at h; rw [← h]; exact hc.2.1
    | rm p => cases h
theorem Good.record {k : Nat} {s : St} (h : Good k s) (c : Chg) (hc : c.small s.fil.length) : Good (k + 1) (s.record c) := ⟨h.ok.record c hc, h.sp.1, fp_app hc h.sp.2⟩
theorem Ok.setF {k : Nat} {s s' : St} (h : Ok k s) (f : Nat) (x : Fil) (e1 : s'.fil = s.fil.set f x) (e2 : s'.files = s.files) (e3 : s'.safe = s.safe) (e4 : s'.chs = s.chs) (e5 : s'.room = s.room) (e6 : s'.fuse = s.fuse)
    (hu : -(10000000000 * ((k : Int) + 1)) ≤ s'.used) (hu2 : s'.used ≤ 10000000000 * ((k : Int) + 1)) (hc : s'.clock ≤ s.clock + 1) (h1 : x.now.length ≤ 10000 * (k + 1)) (h2 : x.sf.length ≤ 10000 * (k + 1)) : Ok (k + 1) s' := by
  have hl : s'.fil.length = s.fil.length := by rw [e1, List.length_set]
  exact ⟨by rw [e2, hl]; exact h.fs, by rw [e3, hl]; exact h.ss, by rw [e4, hl]; exact h.cs, by rw [e5]; exact h.r0, by rw [e5]; exact h.r1, by push_cast; exact hu, by push_cast; exact hu2, by have := h.ck; omega, by rw [e6]; exact h.f0, by rw [e6]; exact h.f1,
    by rw [hl]; have := h.nf; omega, by rw [e2]; have := h.lf; omega, by rw [e3, e4]; have := h.ls; omega,
    fun i => at_set2 s s' f x e1 (fun x => x.now.length ≤ 10000 * (k + 1)) h1 (fun i => by have := h.sz i; omega) i, fun i => at_set2 s s' f x e1 (fun x => x.sf.length ≤ 10000 * (k + 1)) h2 (fun i => by have := h.sy i; omega) i⟩
theorem Ok.putB {k : Nat} {s : St} (h : Ok k s) (hk : k ≤ 1000) (f : Nat) (b : Str) (hb : b.length ≤ 10000 * (k + 1)) : Ok (k + 1) (s.putB f b) := by
  have hz := h.sz f
  have hy := h.sy f
  have u0 := h.u0
  have u1 := h.u1
  refine h.setF f { s.at_ f with now := b, st := s.clock + 1 } rfl rfl rfl rfl rfl rfl ?_ ?_ (Nat.le_refl _) hb (by show (s.at_ f).sf.length ≤ _; omega)
  · show _ ≤ s.used + ((b.length : Int) - ((s.at_ f).now.length : Int)); omega
  · show s.used + ((b.length : Int) - ((s.at_ f).now.length : Int)) ≤ _; omega

theorem Good.make {k : Nat} {s : St} (h : Good k s) (p : Str) (hp : p.length ≤ 10000) : Good (k + 2) (s.make p).1 := by
  have hb := h.begin [p]
  obtain ⟨e1, e2, e3, e4, _⟩ := begin_same s [p]
  rw [make_eq]
  split
  · cases look s.files p with
    | some f => exact hb.up (by omega)
    | none =>
      refine Good.record ⟨hb.ok.addF (s.clock + 1), hb.sp⟩ _ ⟨hp, ?_⟩
      show s.fil.length < ((s.begin_ [p]).1.fil ++ [_]).length
      rw [e4]; simp
  · exact hb.up (by omega)
theorem Good.write {k : Nat} {s : St} (h : Good k s) (hk : k ≤ 1000) (p b : Str) (hb : b.length ≤ 10000) : Good (k + 2) (s.write p b).1 := by
  obtain ⟨s1, r, er, hf⟩ := found s p []
  have g := h.after hf
  rw [write_eq s p b hf]
  unfold writeR
  cases r with
  | none => exact g.up (by omega)
  | some f =>
    simp only
    split
    · exact g.up (by omega)
    · exact (⟨g.ok.putB hk f b (by omega), g.sp⟩ : Good (k + 1) _).up (by omega)
theorem Good.append {k : Nat} {s : St} (h : Good k s) (hk : k ≤ 1000) (p b : Str) (hb : b.length ≤ 10000) : Good (k + 2) (s.append_ p b).1 := by
  obtain ⟨s1, r, er, hf⟩ := found s p []
  have g := h.after hf
  rw [append_eq s p b hf]
  unfold appendR
  cases r with
  | none => exact g.up (by omega)
  | some f =>
    simp only
    split
    · exact g.up (by omega)
    · exact (⟨g.ok.putB hk f _ (by rw [List.length_append]; have := g.ok.sz f; omega), g.sp⟩ : Good (k + 1) _).up (by omega)
theorem Good.sync {k : Nat} {s : St} (h : Good k s) (p : Str) : Good (k + 2) (s.sync p).1 := by
  obtain ⟨s1, r, er, hf⟩ := found s p []
  have g := h.after hf
  rw [sync_eq s p hf]
  unfold syncFR
  cases r with
  | none => exact g.up (by omega)
  | some f =>
    have hz := g.ok.sz f
    have u0 := g.ok.u0
    have u1 := g.ok.u1
    have O : Ok (k + 1) (s1.set_ f { s1.at_ f with sf := (s1.at_ f).now }) :=
      g.ok.setF (s' := s1.set_ f { s1.at_ f with sf := (s1.at_ f).now }) f { s1.at_ f with sf := (s1.at_ f).now } rfl rfl rfl rfl rfl rfl (by show _ ≤ s1.used; omega) (by show s1.used ≤ _; omega) (Nat.le_succ _) (by show (s1.at_ f).now.length ≤ _; omega) (by show (s1.at_ f).now.length ≤ _; omega)
    exact (⟨O, g.sp⟩ : Good (k + 1) _).up (by omega)
theorem sp_apps {n : Nat} : ∀ (cs : List Chg) (l : Dir), (∀ c ∈ cs, c.small n) → (∀ e ∈ l, e.1.length ≤ 10000) → ∀ e ∈ apps cs l, e.1.length ≤ 10000 := by
  intro cs
  induction cs with
  | nil => intro l _ hl; exact hl
  | cons c cs ih =>
    intro l hcs hl
    refine ih (c.app l) (fun c' hc' => hcs c' (List.mem_cons_of_mem _ hc')) fun e he => ?_
    rcases mem_app he with h | h
    · exact hl e h
    · have hc := hcs c List.mem_cons_self
      cases c with
      | mk p f => simp only [Chg.new, Option.some.injEq] at h; rw [← h]; exact hc.1
      | mv p q f => simp only [Chg.new, Option.some.injEq] at h; rw [← h]; exact hc.2.1
      | rm p => cases h
theorem Good.settle {k : Nat} {s : St} (h : Good k s) (n : Nat) : Good k (s.settle n) := by
  have hl := apps_length (s.chs.take n) s.safe
  rw [List.length_take] at hl
  have hls := h.ok.ls
  have hm := mem_apps (cs := s.chs.take n) (fun c hc => h.ok.cs c (List.mem_of_mem_take hc)) s.safe h.ok.ss
  exact ⟨⟨h.ok.fs, hm, fun c hc => (by cases hc), h.ok.r0, h.ok.r1, h.ok.u0, h.ok.u1, h.ok.ck, h.ok.f0, h.ok.f1, h.ok.nf, h.ok.lf, (by show (apps (s.chs.take n) s.safe).length + 0 ≤ _; omega), h.ok.sz, h.ok.sy⟩, sp_apps _ s.safe (fun c hc => h.ok.cs c (List.mem_of_mem_take hc)) h.sp.1, h.sp.2⟩
theorem Good.syncPaths {k : Nat} {s : St} (h : Good k s) : Good (k + 2) s.syncPaths.1 := by
  rw [syncPaths_eq]
  unfold syncR
  split
  · exact ((h.begin []).settle _).up (by omega)
  · exact (h.begin []).up (by omega)
theorem Good.free {k : Nat} {s : St} (h : Good k s) (hk : k ≤ 1000) (p : Str) : Good (k + 1) (s.free p) := ⟨h.ok.free hk p, by unfold Sp; rw [(free_same s p).2.2.2.2, (free_same s p).1]; exact h.sp⟩
theorem Good.rename {k : Nat} {s : St} (h : Good k s) (hk : k ≤ 1000) (p q : Str) (hp : p.length ≤ 10000) (hq : q.length ≤ 10000) : Good (k + 2) (s.rename p q).1 := by
  obtain ⟨s1, r, er, hf⟩ := found s p [q]
  have g := h.after hf
  rw [rename_eq s p q hf]
  unfold renameR
  cases r with
  | none => exact g.up (by omega)
  | some f =>
    simp only
    split
    · exact g.up (by omega)
    · refine (g.free hk q).record _ ⟨hp, hq, ?_⟩
      rw [(free_same s1 q).2.1]
      exact hf.lt h.ok f rfl
theorem Good.remove {k : Nat} {s : St} (h : Good k s) (hk : k ≤ 1000) (p : Str) (hp : p.length ≤ 10000) : Good (k + 2) (s.remove p).1 := by
  obtain ⟨s1, r, er, hf⟩ := found s p []
  have g := h.after hf
  rw [remove_eq s p hf]
  unfold removeR
  cases r with
  | none => exact g.up (by omega)
  | some f => exact (g.free hk p).record (.rm p) hp
theorem Good.read {k : Nat} {s : St} (h : Good k s) (p : Str) : Good k (s.read p).1 := by
  obtain ⟨s1, r, er, hf⟩ := found s p []
  have g := h.after hf
  rw [read_eq s p hf]
  unfold readR
  cases r <;> exact g
theorem Good.fuse {k : Nat} {s : St} (h : Good k s) (n : Int) (hn : n ≤ 9223372036854775807) : Good k (s.fuse_ n) :=
  ⟨⟨h.ok.fs, h.ok.ss, h.ok.cs, h.ok.r0, h.ok.r1, h.ok.u0, h.ok.u1, h.ok.ck, by show (-1 : Int) ≤ max n (-1); omega, by show max n (-1) ≤ _; omega, h.ok.nf, h.ok.lf, h.ok.ls, h.ok.sz, h.ok.sy⟩, h.sp⟩
theorem restores_safe (before : Dir) (parts : List Int) : ∀ (l : Dir) (i : Nat) (s : St), (St.restores before parts i l s).safe = s.safe
  | [], _, _ => rfl
  | (p, f) :: r, i, s => by
    show (St.restores before parts (i + 1) r _).safe = _
    rw [restores_safe before parts r (i + 1)]
    obtain ⟨st, _, _, _, _, e5, _⟩ := restore_facts s p f (look before p) (partAt parts i)
    exact e5
theorem Good.crash {k : Nat} {s : St} (h : Good k s) (hk : k + 1 ≤ 1000) (keep : Int) (parts : List Int) : Good (k + 2) (s.crash keep parts) := by
  refine (⟨h.ok.crash hk keep parts, ?_⟩ : Good (k + 1) _).up (by omega)
  rw [crash_eq]
  have hsp := sp_apps (s.chs.take (upTo keep (s.chs.length : Int)).toNat) s.safe (fun c hc => h.ok.cs c (List.mem_of_mem_take hc)) h.sp.1
  have hfl := ((h.ok.mid keep).restores (by omega) s.files parts (s.c3 keep).files _ (Nat.le_refl _)).2.1
  rw [List.take_length] at hfl
  refine ⟨?_, ?_⟩
  · show ∀ e ∈ (St.restores s.files parts 0 (s.c3 keep).files (s.c3 keep)).safe, e.1.length ≤ 10000
    rw [restores_safe]
    exact hsp
  · show ∀ e ∈ (St.restores s.files parts 0 (s.c3 keep).files (s.c3 keep)).files, e.1.length ≤ 10000
    rw [hfl]
    exact hsp
end Go.Proofs.YtiikjdjpodmpcaaGreat

/- Package tree: Paths; and what the laws use beside it: Own, Pick, Texts. -/
namespace Go.Proofs.YtiikjdjpodmpcaaGreat
open Go.RowKit Go.Maps
set_option linter.unusedVariables false

set_option maxRecDepth 100000 in
theorem own_any2 (w : World) (A : Option Addr) (n c : Nat) (b : Str) (h : Arg w A n c b) (hn : n ≤ 100000000) :
    Calls Tryz.prog 14 #[.slice A n c] w fun e w' => ∃ j c2, e = .returned (.slice (some ⟨j, 0, none⟩) n c2) ∧ Own w' w.heap.size (some ⟨j, 0, none⟩) n c2 b ∧ Nx w w' := by
  have b1 : Below w.heap.size w (w.alloc (.cells #[] 5)) := (Below.refl _ w).alloc (Nat.le_refl _) _
  have ho : Own (w.alloc (.cells #[] 5)) w.heap.size (some ⟨w.heap.size, 0, none⟩) 0 0 [] := Own.lit w #[] [] rfl (by simp [maxLen])
  have ha := (h.nx b1).byt
  have HO := Lib.hid ho
  have HA := Lib.hid ha
  have HB := Lib.hid b1
  clear h ho ha b1
  go_enter Tryz.func14, Tryz.ntmps14
  go_wp2_with (at_builtin; refine wpList_byte_append rfl _ _ rfl w.heap.size (some ⟨w.heap.size, 0, none⟩) 0 0 [] rfl HO.out _ A n c b rfl HA.out (by omega) (by simp) ?_; intro A2 c2 w2 ho2 hg2 hat)
  go_ret
  have hj : ∃ j, A2 = some ⟨j, 0, none⟩ := by
    rcases ho2.form with ⟨rfl, _, _⟩ | h
    · rcases hat with h | h <;> cases h
    · exact h
  obtain ⟨j, rfl⟩ := hj
  refine ⟨j, c2, ?_, ?_, ?_⟩
  · simp
  · simpa using ho2
  · have c1 : Chd (fun j => j = w.heap.size) w w2 := (Chd.of_below HB.out).trans (Chd.of_grown hg2)
    exact c1.below (Nat.le_refl _) (fun j hj e => by omega)

theorem neg_lt_tmod (n m : Int) (h : 0 < m) : -m < n.tmod m := by
  have := Int.tmod_lt_of_pos (-n) h
  rw [Int.neg_tmod] at this
  omega
/-- What Pick returns. -/
def pickOf (n m : Int) : Int := if n.tmod m < 0 then n.tmod m + m else n.tmod m
theorem pick_any (n m : Int) (w : World) (h1 : 1 ≤ m) (h2 : m ≤ 4611686018427387904) (h3 : -9223372036854775808 ≤ n) (h4 : n ≤ 9223372036854775807) :
    Calls Tryz.prog 43 #[.int .i64 n, .int .i64 m] w fun e w' => e = .returned (.int .i64 (pickOf n m)) ∧ w = w' := by
  have hm0 : ¬ m = 0 := by omega
  have t1 := Int.tmod_lt_of_pos n (show 0 < m by omega)
  have t2 := neg_lt_tmod n m (by omega)
  unfold pickOf
  by_cases hneg : n.tmod m < 0
  · rw [if_pos hneg]
    go_enter Tryz.func43, Tryz.ntmps43
    go_wp2
    go_ret
    exact ⟨rfl, rfl⟩
  · rw [if_neg hneg]
    go_enter Tryz.func43, Tryz.ntmps43
    go_wp2
    go_ret
    exact ⟨rfl, rfl⟩
theorem pickOf_lo (n m : Int) (h : 1 ≤ m) : 0 ≤ pickOf n m := by
  unfold pickOf
  have := neg_lt_tmod n m (by omega)
  split <;> omega
theorem pickOf_hi (n m : Int) (h : 1 ≤ m) : pickOf n m < m := by
  unfold pickOf
  have := Int.tmod_lt_of_pos n (show 0 < m by omega)
  split <;> omega



theorem filter_take_succ (ps : List Str) (q : Str → Bool) (i : Nat) (p : Str) (h : ps[i]? = some p) : (ps.take (i + 1)).filter q = (ps.take i).filter q ++ (if q p then [p] else []) := by
  rw [List.take_add_one, h, List.filter_append]
  cases e : q p <;> simp [e]
set_option maxRecDepth 100000 in
theorem paths_any (w : World) (tb : Nat) (s : St) (g : Gh) {k : Nat} (hk : k ≤ 1000) (h : TreeAt w tb s g) (ok : Ok k s) (hps : ∀ e ∈ s.files, e.1.length ≤ 10000) (q : Str) :
    Calls Tryz.prog 21 #[.pointer (some ⟨tb, 0, none⟩), .string (S q)] w fun e w' => ∃ A n c, e = .returned (.slice A n c) ∧ StrRow w' w.heap.size A n c (s.paths q) ∧ Nx w w' := by
  obtain ⟨i0, hi, hz0, hz1, hz2⟩ := info_parts string_info
  have V := Lib.hid (valid_any w tb g.mf (top_of h.top).c3)
  have c3 := (top_of h.top).c3
  have SR := Lib.hid (sorted_any w g.mf g.blk s.files h.mfA (by have := ok.lf; omega))
  have HL : Hid (s.files.length ≤ 1000) := by have := ok.lf; show s.files.length ≤ 1000; omega
  have HPS : Hid (∀ p ∈ s.files.map (·.1), p.length ≤ 10000) := fun p hp => by
    obtain ⟨e, he, rfl⟩ := List.mem_map.1 hp
    exact hps e he
  have HP := Lib.hid (fun (s1 p : ByteArray) (W : World) => Tryz.strings_HasPrefix s1 p W)
  have HDEF : Hid (s.paths q = (s.files.map (·.1)).filter fun p => q.isPrefixOf p) := rfl
  clear h ok hps
  generalize hqs : S q = qs at *
  have HQS := Lib.hid hqs
  clear hqs
  generalize hout : s.paths q = out at *
  clear hout
  go_enter Tryz.func21, Tryz.ntmps21
  go_wp2_with fail
  refine V.out.mono ?_
  rintro e w' ⟨rfl, rfl⟩
  go_wp2_with fail
  refine SR.out.mono ?_
  rintro e w1 ⟨A1, c1, rfl, hrow, hb⟩
  have hlen : (s.files.map (·.1)).length = s.files.length := by simp
  obtain ⟨ps, hpse⟩ : ∃ ps, s.files.map (·.1) = ps := ⟨_, rfl⟩
  obtain ⟨N, hN⟩ : ∃ N, s.files.length = N := ⟨_, rfl⟩
  rw [hpse] at hrow HPS HDEF hlen
  rw [hN] at hrow HL hlen ⊢
  have HR := Lib.hid hrow
  have HB := Lib.hid hb
  have HLEN := Lib.hid hlen
  clear hrow hb hlen hpse hN SR V c3
  go_wp2
  go_loopw [5, 17] (fun y x wr => ∃ (i n c : Nat) (A : Option Addr), x = .int .i64 i ∧ y = .slice A n c ∧ i ≤ N ∧ n ≤ i ∧ Hid (StrRow wr w.heap.size A n c ((ps.take i).filter fun p => q.isPrefixOf p) ∧ Nx w wr ∧ StrRow wr w.heap.size A1 N c1 ps ∧ ∀ j, A = some ⟨j, 0, none⟩ → A1 ≠ some ⟨j, 0, none⟩)) (fun _ x _ => N - (intOf x).toNat)
  case atStart => exact ⟨0, 0, 0, none, rfl, rfl, Nat.zero_le _, Nat.zero_le _, ⟨rfl, .inl ⟨rfl, rfl⟩⟩, HB.out, HR.out, fun j e => by cases e⟩
  case round =>
    obtain ⟨i, n, c, A, rfl, rfl, hiN, hni, hrel⟩ := hrel
    have hN := HL.out
    by_cases hlt : i < N
    · obtain ⟨p, hp⟩ : ∃ p, ps[i]? = some p := ⟨_, List.getElem?_eq_getElem (by rw [HLEN.out]; exact hlt)⟩
      obtain ⟨b1, rfl, hbB, hbl, hcell⟩ := row_cell hrel.out.2.2.1 (i := i) (p := p) hlt hp
      have hpl : p.length ≤ 10000 := HPS.out p (List.mem_of_getElem? hp)
      have hstep := filter_take_succ ps (fun p => q.isPrefixOf p) i p hp
      have X : Hid (∀ W, Calls Tryz.prog 53 #[.string (S p), .string qs] W fun e w' => e = .returned (.bool (q.isPrefixOf p)) ∧ w' = W) := fun W => by
        have := HP.out (S p) qs W
        rw [← HQS.out] at this ⊢
        exact this
      have CLN := Lib.hid (fun W => clone_any W (S p) (by rw [S_size]; omega))
      have HST := Lib.hid hstep
      have REL := hrel
      clear hrel hstep hpl hp
      cases hpre : q.isPrefixOf p with
      | false =>
        rw [hpre] at X
        have hst : (ps.take (i + 1)).filter (fun p => q.isPrefixOf p) = (ps.take i).filter fun p => q.isPrefixOf p := by have := HST.out; simp only [hpre] at this; simpa using this
        have HS2 := Lib.hid hst
        clear hst HST hpre
        generalize S p = sp at *
        go_wp2_with fail
        refine (X.out wr).mono ?_
        rintro e w' ⟨rfl, rfl⟩
        clear X CLN
        go_wp2
        go_roundw
        case rel => exact ⟨i + 1, n, c, A, by go_num, rfl, by omega, by omega, by rw [HS2.out]; exact REL.out.1, REL.out.2⟩
        case measure => simp [intOf]; omega
      | true =>
        rw [hpre] at X
        have hst : (ps.take (i + 1)).filter (fun p => q.isPrefixOf p) = ((ps.take i).filter fun p => q.isPrefixOf p) ++ [p] := by have := HST.out; simp only [hpre] at this; simpa using this
        have HS2 := Lib.hid hst
        clear hst HST hpre
        generalize hsp : S p = sp at *
        have HSP := Lib.hid hsp
        clear hsp
        go_wp2_with fail
        refine (X.out wr).mono ?_
        rintro e w' ⟨rfl, rfl⟩
        go_wp2_with fail
        refine (CLN.out w').mono ?_
        rintro e w3 ⟨rfl, hb3⟩
        have hrow3 : (w3.alloc (.cells #[.string sp] 9)).ownsRow w.heap.size 9 1 (.slice A n c) n (strV ((ps.take i).filter fun p => q.isPrefixOf p)) :=
          row_chd (M := fun _ => False) REL.out.1 (Chd.of_below (Nx.trans hb3 ((Below.refl _ w3).alloc (Nat.le_refl _) _))) (fun _ _ e => e)
        have HR3 := Lib.hid hrow3
        have B3 := Lib.hid hb3
        have hBl : w.heap.size ≤ w3.heap.size := Nat.le_trans REL.out.2.1.size hb3.size
        clear hrow3 hb3 X CLN hcell
        go_wp2_with (at_builtin; refine wpList_append_lies _ rfl _ _ 24 rfl w.heap.size 9 i0 (.string ⟨#[]⟩) 1 16 Tryz.underlying24 hi hz0 hz1 hz2 rfl (by decide) (.slice A n c) n _ rfl HR3.out ⟨w3.heap.size, 0, none⟩ 1 1 [.string sp] rfl rfl (cell_one_new _ _ _) (by simp [Value.oneCell']) (by decide) (by unfold maxLen; omega) (by omega) (by simp; omega) _ rfl ?_; intro gb cap w5 hown5 hgrow hat hlt5)
        have C35 : Chd (fun j => (Value.slice A n c).ownBlock = some j) w' w5 := (Chd.of_below (Nx.trans B3.out ((Below.refl _ w3).alloc (Nat.le_refl _) _))).trans (Chd.of_grownBy hgrow)
        have hne : ∀ j, (Value.slice A n c).ownBlock = some j → w.heap.size ≤ j ∧ j < w'.heap.size ∧ j ≠ b1 := fun j e => by
          rcases REL.out.1.2 with ⟨hv, _⟩ | ⟨gq, cq, cur, hv, hB, hg, _⟩
          · rw [hv] at e; cases e
          · rw [hv] at e
            have e2 : gq = j := by simpa [Value.ownBlock] using e
            subst e2
            simp only [Value.slice.injEq] at hv
            refine ⟨hB, (Array.getElem?_eq_some_iff.1 hg).1, fun e3 => ?_⟩
            exact REL.out.2.2.2 gq hv.1 (by rw [e3])
        have hnx : Nx w w5 := by
          have a : Chd (fun _ => False) w w5 := (Chd.of_below REL.out.2.1).then_ C35 (fun j hj e => by have := (hne j e).1; omega)
          exact a.below (Nat.le_refl _) (fun _ _ e => e)
        have hrow1 : StrRow w5 w.heap.size (some ⟨b1, 0, none⟩) N c1 ps := row_chd REL.out.2.2.1 C35 (fun j hj e => by
          have e2 : b1 = j := by simpa [Value.ownBlock] using hj
          exact (hne j e).2.2 e2.symm)
        have hgb : gb ≠ b1 := fun e => by
          rcases hat with h | h
          · exact (hne gb h).2.2 e
          · have h2 : gb = w3.heap.size + 1 := by simpa using h
            have := B3.out.size
            omega
        have hown6 : StrRow w5 w.heap.size (some ⟨gb, 0, none⟩) (n + 1) cap ((ps.take (i + 1)).filter fun p => q.isPrefixOf p) := by
          rw [HS2.out]
          unfold StrRow strV
          rw [List.map_append, List.map_cons, List.map_nil, HSP.out]
          exact hown5
        have ALL : Hid (StrRow w5 w.heap.size (some ⟨gb, 0, none⟩) (n + 1) cap ((ps.take (i + 1)).filter fun p => q.isPrefixOf p) ∧ Nx w w5 ∧ StrRow w5 w.heap.size (some ⟨b1, 0, none⟩) N c1 ps ∧ ∀ j, (some ⟨gb, 0, none⟩ : Option Addr) = some ⟨j, 0, none⟩ → (some ⟨b1, 0, none⟩ : Option Addr) ≠ some ⟨j, 0, none⟩) := ⟨hown6, hnx, hrow1, fun j e e2 => by
          simp only [Option.some.injEq, Addr.mk.injEq, and_true] at e e2
          omega⟩
        clear hown6 hnx hrow1 hgb C35 hne hown5 hgrow hat HR3 B3
        go_roundw
        case rel => exact ⟨i + 1, n + 1, cap, some ⟨gb, 0, none⟩, by go_num, rfl, by omega, by omega, ALL.out⟩
        case measure => simp [intOf]; omega
    · obtain rfl : i = N := by omega
      have hfin : ps.take i = ps := List.take_of_length_le (by rw [HLEN.out]; exact Nat.le_refl _)
      have RR := hrel.out
      rw [hfin] at RR
      have R2 := Lib.hid RR
      clear RR hfin hrel
      go_wp2
      go_ret
      exact ⟨A, n, c, rfl, by rw [HDEF.out]; exact R2.out.1, R2.out.2.1⟩

theorem StrRow.strs {w : World} {B : Nat} {A : Option Addr} {n c : Nat} {ps : List Str} (h : StrRow w B A n c ps) (hn : n ≤ 1000000) : Strs w A n ps := strs_of_row (by
  refine ⟨h.1, h.2.imp id ?_⟩
  rintro ⟨g, cap, cur, e, _, r⟩
  exact ⟨g, cap, cur, e, Nat.zero_le _, r⟩) hn
theorem Strs.drewN {w : World} {A : Option Addr} {n : Nat} {ps : List Str} (h : Strs w A n ps) (m : Nat) : Strs (w.drewN m) A n ps := ⟨h.len, h.le, h.at_⟩
set_option maxRecDepth 100000 in
theorem texts_any (w : World) (A1 A2 : Option Addr) (n1 c1 n2 c2 : Nat) (ps qs : List Str) (h1 : Strs w A1 n1 ps) (h2 : Strs w A2 n2 qs) :
    Calls Tryz.prog 13 #[.slice A1 n1 c1, .slice A2 n2 c2] w fun e w' => e = .returned (.bool (decide (ps = qs))) ∧ ∃ m, w' = w.drewN m := by
  have l1 := h1.len
  have l2 := h2.len
  have e1 := h1.le
  have e2 := h2.le
  have H1 := Lib.hid h1
  have H2 := Lib.hid h2
  by_cases hne : n1 = n2
  · subst hne
    generalize hR : decide (ps = qs) = R
    have HR := Lib.hid hR
    have L1 := Lib.hid l1
    have L2 := Lib.hid l2
    clear h1 h2 hR l1 l2
    go_enter Tryz.func13, Tryz.ntmps13
    go_wp2
    go_loopw [5] (fun x wr => ∃ i : Nat, x = .int .i64 i ∧ i ≤ n1 ∧ Hid (ps.take i = qs.take i ∧ ∃ m, wr = w.drewN m)) (fun x _ => n1 - (intOf x).toNat)
    case atStart => exact ⟨0, rfl, Nat.zero_le _, rfl, 0, rfl⟩
    case round =>
      obtain ⟨i, rfl, hi, hrel⟩ := hrel
      obtain ⟨htk, m, hm⟩ := hrel.out
      by_cases hlt : i < n1
      · obtain ⟨b1, rfl, hb1, hc1⟩ := H1.out.at_ (by omega)
        obtain ⟨b2, rfl, hb2, hc2⟩ := H2.out.at_ (by omega)
        have d1 : wr.cell? ⟨b1, i, none⟩ = some (.string (S (ps.getD i []))) := by rw [hm]; exact hc1 i hlt
        have d2 : wr.cell? ⟨b2, i, none⟩ = some (.string (S (qs.getD i []))) := by rw [hm]; exact hc2 i hlt
        have hpi : ps[i]? = some (ps.getD i []) := by simp [List.getD, List.getElem?_eq_getElem (show i < ps.length by rw [L1.out]; exact hlt)]
        have hqi : qs[i]? = some (qs.getD i []) := by simp [List.getD, List.getElem?_eq_getElem (show i < qs.length by rw [L2.out]; exact hlt)]
        have s1 := S_toList (ps.getD i [])
        have s2 := S_toList (qs.getD i [])
        generalize ps.getD i [] = p at *
        generalize qs.getD i [] = q at *
        by_cases hpq : p = q
        · have hx : ((S p).toList == (S q).toList) = true := by rw [hpq]; simp
          have hnext : ps.take (i + 1) = qs.take (i + 1) := by rw [List.take_add_one, List.take_add_one, htk, hpi, hqi, hpq]
          have HNX := Lib.hid hnext
          have HM := Lib.hid hm
          clear hnext hm htk hpi hqi hc1 hc2 hrel s1 s2 hpq
          generalize S p = sp at *
          generalize S q = sq at *
          go_wp2_with fail
          go_quiet (fail)
          go_wp2
          go_roundw
          case rel => exact ⟨i + 1, by go_num, by omega, HNX.out, _, by rw [HM.out, World.drewN_drewN]⟩
          case measure => simp [intOf]; omega
        · have hx : ((S p).toList == (S q).toList) = false := by rw [s1, s2]; simpa using hpq
          obtain rfl : R = false := by
            rw [← HR.out]
            simp only [decide_eq_false_iff_not]
            intro e
            rw [e, hqi] at hpi
            exact hpq (Option.some.inj hpi).symm
          have HM := Lib.hid hm
          clear hm htk hpi hqi hc1 hc2 hrel s1 s2 hpq
          generalize S p = sp at *
          generalize S q = sq at *
          go_wp2_with fail
          go_quiet (fail)
          go_wp2
          go_ret
          exact ⟨rfl, _, by rw [HM.out, World.drewN_drewN]⟩
      · obtain rfl : i = n1 := by omega
        rw [List.take_of_length_le (by rw [L1.out]; exact Nat.le_refl _), List.take_of_length_le (by rw [L2.out]; exact Nat.le_refl _)] at htk
        obtain rfl : R = true := by rw [← HR.out]; simpa using htk
        have HM := Lib.hid hm
        clear hm htk hrel
        go_wp2
        go_ret
        exact ⟨rfl, m, HM.out⟩
  · have hd : decide (ps = qs) = false := by
      simp only [decide_eq_false_iff_not]
      intro e
      subst e
      omega
    have hx : ((n1 : Int) != (n2 : Int)) = true := by simp; omega
    rw [hd]
    clear h1 h2 H1 H2 l1 l2 hd hne
    go_enter Tryz.func13, Tryz.ntmps13
    go_wp2
    go_ret
    exact ⟨rfl, 0, rfl⟩
end Go.Proofs.YtiikjdjpodmpcaaGreat

/- Package tree: one tree that the call has made: what each of its calls does, with the tree's blocks out of sight. -/
namespace Go.Proofs.YtiikjdjpodmpcaaGreat
open Go.RowKit Go.Maps
set_option linter.unusedVariables false

/-- In W lies a tree in the state s, in blocks made since w; what was there in w is as it was. -/
structure Liv (w : World) (tb : Nat) (s : St) (k : Nat) (W : World) : Prop where
  ex : ∃ g, TreeAt W tb s g ∧ ∀ j, g.tag j ≠ 0 → w.heap.size ≤ j
  nx : Nx w W
  good : Good k s
section
variable {w W0 W : World} {tb k : Nat} {s : St}
theorem Liv.next (h : Liv w tb s k W0) (hn : Nx W0 W) : Liv w tb s k W := by
  obtain ⟨g, hT, h0⟩ := h.ex
  exact ⟨⟨g, hT.nx hn, h0⟩, h.nx.trans hn, h.good⟩
theorem Liv.drewN (h : Liv w tb s k W0) (m : Nat) : Liv w tb s k (W0.drewN m) := h.next (Nx.drewN (Nx.refl _) _)
theorem liv_of {f : FuncId} {args : Array Value} {v : Value} {s' : St} {k' : Nat} (h : Liv w tb s k W0) (hn : Nx W0 W) (hg : Good k' s')
    (hc : ∀ g, TreeAt W tb s g → (∀ j, W0.heap.size ≤ j → g.tag j = 0) → Calls Tryz.prog f args W fun e w' => e = .returned v ∧ ∃ g', TreeAt w' tb s' g' ∧ Chd (Mine g) W w' ∧ Gh.le W g g') :
    Calls Tryz.prog f args W fun e w' => e = .returned v ∧ Liv w tb s' k' w' := by
  obtain ⟨g, hT, h0⟩ := h.ex
  refine (hc g (hT.nx hn) (fun j hj => new_zero hT hj)).mono ?_
  rintro e w' ⟨he, g', hT', hC, hle⟩
  have hs := (h.nx.trans hn).size
  refine ⟨he, ⟨g', hT', fun j hj => ?_⟩, ?_, hg⟩
  · rcases hle j hj with h1 | h1
    · exact h0 j h1
    · omega
  · have c : Chd (fun _ => False) w w' := (Chd.of_below (h.nx.trans hn)).then_ hC (fun j hj e => by have := h0 j e; omega)
    exact c.below (Nat.le_refl _) (fun _ _ e => e)
theorem liv_tb {f : FuncId} {args : Array Value} {R : Ending → World → Prop} {s' : St} {k' : Nat} (h : Liv w tb s k W0) (hn : Nx W0 W) (hg : Good k' s')
    (hc : ∀ g, TreeAt W tb s g → Calls Tryz.prog f args W fun e w' => R e w' ∧ TreeAt w' tb s' g ∧ Chd (fun j => j = tb) W w') :
    Calls Tryz.prog f args W fun e w' => R e w' ∧ Liv w tb s' k' w' := by
  obtain ⟨g, hT, h0⟩ := h.ex
  refine (hc g (hT.nx hn)).mono ?_
  rintro e w' ⟨he, hT', hC⟩
  refine ⟨he, ⟨g, hT', h0⟩, ?_, hg⟩
  have c : Chd (fun _ => False) w w' := (Chd.of_below (h.nx.trans hn)).then_ hC (fun j hj e => by
    have := h0 tb (by rw [hT.topT]; omega)
    omega)
  exact c.below (Nat.le_refl _) (fun _ _ e => e)

theorem liv_make (h : Liv w tb s k W) (hk : k + 1 ≤ 1000) (p : Str) (hp : p.length ≤ 10000) :
    Calls Tryz.prog 103 #[.pointer (some ⟨tb, 0, none⟩), .string (S p)] W fun e w' => e = .returned (.int .i64 (s.make p).2) ∧ Liv w tb (s.make p).1 (k + 2) w' :=
  liv_of h (Nx.refl _) (h.good.make p hp) fun g hT _ => make_any W tb s g hk hT h.good.ok p hp
theorem liv_write (h : Liv w tb s k W0) (hn : Nx W0 W) (hk : k + 1 ≤ 1000) (p : Str) (hp : p.length ≤ 10000) (A : Option Addr) (n c : Nat) (b : Str) (hb : Arg W A n c b) (hbl : b.length ≤ 10000) (hnil : A = none → c = 0) (hA : ∀ j o, A = some ⟨j, o, none⟩ → W0.heap.size ≤ j) :
    Calls Tryz.prog 105 #[.pointer (some ⟨tb, 0, none⟩), .string (S p), .slice A n c] W fun e w' => e = .returned (.int .i64 (s.write p b).2) ∧ Liv w tb (s.write p b).1 (k + 2) w' :=
  liv_of h hn (h.good.write (by omega) p b hbl) fun g hT h0 => write_any W tb s g (by omega) hT h.good.ok p hp A n c b hb hbl hnil fun j o e => h0 j (hA j o e)
theorem liv_append (h : Liv w tb s k W0) (hn : Nx W0 W) (hk : k + 1 ≤ 1000) (p : Str) (hp : p.length ≤ 10000) (A : Option Addr) (n c : Nat) (b : Str) (hb : Arg W A n c b) (hbl : b.length ≤ 10000) (hA : ∀ j o, A = some ⟨j, o, none⟩ → W0.heap.size ≤ j) :
    Calls Tryz.prog 50 #[.pointer (some ⟨tb, 0, none⟩), .string (S p), .slice A n c] W fun e w' => e = .returned (.int .i64 (s.append_ p b).2) ∧ Liv w tb (s.append_ p b).1 (k + 2) w' :=
  liv_of h hn (h.good.append (by omega) p b hbl) fun g hT h0 => append_any W tb s g (by omega) hT h.good.ok p hp A n c b hb hbl fun j o e => h0 j (hA j o e)
theorem liv_sync (h : Liv w tb s k W) (hk : k + 1 ≤ 1000) (p : Str) (hp : p.length ≤ 10000) :
    Calls Tryz.prog 62 #[.pointer (some ⟨tb, 0, none⟩), .string (S p)] W fun e w' => e = .returned (.int .i64 (s.sync p).2) ∧ Liv w tb (s.sync p).1 (k + 2) w' :=
  liv_of h (Nx.refl _) (h.good.sync p) fun g hT _ => sync_any W tb s g (by omega) hT h.good.ok p hp
theorem liv_syncPaths (h : Liv w tb s k W) (hk : k + 1 ≤ 1000) :
    Calls Tryz.prog 109 #[.pointer (some ⟨tb, 0, none⟩)] W fun e w' => e = .returned (.int .i64 s.syncPaths.2) ∧ Liv w tb s.syncPaths.1 (k + 2) w' :=
  liv_of h (Nx.refl _) h.good.syncPaths fun g hT _ => syncPaths_any W tb s g (by omega) hT h.good.ok
theorem liv_rename (h : Liv w tb s k W) (hk : k + 1 ≤ 1000) (p q : Str) (hp : p.length ≤ 10000) (hq : q.length ≤ 10000) :
    Calls Tryz.prog 108 #[.pointer (some ⟨tb, 0, none⟩), .string (S p), .string (S q)] W fun e w' => e = .returned (.int .i64 (s.rename p q).2) ∧ Liv w tb (s.rename p q).1 (k + 2) w' :=
  liv_of h (Nx.refl _) (h.good.rename (by omega) p q hp hq) fun g hT _ => rename_any W tb s g hk hT h.good.ok p q hp hq
theorem liv_remove (h : Liv w tb s k W) (hk : k + 1 ≤ 1000) (p : Str) (hp : p.length ≤ 10000) :
    Calls Tryz.prog 132 #[.pointer (some ⟨tb, 0, none⟩), .string (S p)] W fun e w' => e = .returned (.int .i64 (s.remove p).2) ∧ Liv w tb (s.remove p).1 (k + 2) w' :=
  liv_of h (Nx.refl _) (h.good.remove (by omega) p hp) fun g hT _ => remove_any W tb s g hk hT h.good.ok p hp
theorem liv_crash (h : Liv w tb s k W0) (hn : Nx W0 W) (hk : k + 1 ≤ 1000) (keep : Int) (hkeep : keep ≤ 9223372036854775807) (A : Option Addr) (n c : Nat) (parts : List Int) (hN : Nums W A n c parts) (hA : ∀ j o, A = some ⟨j, o, none⟩ → W0.heap.size ≤ j) :
    Calls Tryz.prog 36 #[.pointer (some ⟨tb, 0, none⟩), .int .i64 keep, .slice A n c] W fun e w' => e = .returned (.int .i64 0) ∧ Liv w tb (s.crash keep parts) (k + 2) w' :=
  liv_of h hn (h.good.crash hk keep parts) fun g hT h0 => crash_any W tb s g hk hT h.good.ok h.good.sp.1 keep hkeep A n c parts hN fun j o e => h0 j (hA j o e)
theorem liv_fuse (h : Liv w tb s k W) (n : Int) (hn : n ≤ 9223372036854775807) :
    Calls Tryz.prog 35 #[.pointer (some ⟨tb, 0, none⟩), .int .i64 n] W fun e w' => e = .returned (.int .i64 0) ∧ Liv w tb (s.fuse_ n) k w' :=
  liv_tb h (Nx.refl _) (h.good.fuse n hn) fun g hT => (fuse_any W tb s g hT n)
theorem liv_read (h : Liv w tb s k W) (hk : k + 1 ≤ 1000) (p : Str) (hp : p.length ≤ 10000) :
    Calls Tryz.prog 72 #[.pointer (some ⟨tb, 0, none⟩), .string (S p)] W fun e w' => (∃ A n c, e = .returned (.tuple #[.slice A n c, .int .i64 (s.read p).2.2]) ∧ Own w' W.heap.size A n c (s.read p).2.1) ∧ Liv w tb (s.read p).1 k w' :=
  liv_tb h (Nx.refl _) (h.good.read p) fun g hT => (read_any W tb s g (by omega) hT h.good.ok p hp).mono fun e w' ⟨A, n, c, e1, e2, e3, e4⟩ => ⟨⟨A, n, c, e1, e2⟩, e3, e4⟩
theorem liv_stat (h : Liv w tb s k W) (p : Str) (hp : p.length ≤ 10000) :
    Calls Tryz.prog 116 #[.pointer (some ⟨tb, 0, none⟩), .string (S p)] W fun e w' => e = .returned (.tuple #[.int .i64 (s.stat p).1, .int .u64 ((s.stat p).2.1 : Int), .bool (s.stat p).2.2]) ∧ Liv w tb s k w' := by
  obtain ⟨g, hT, h0⟩ := h.ex
  exact (stat_any W tb s g hT h.good.ok p (by omega)).mono fun e w' ⟨he, m, hm⟩ => ⟨he, by rw [hm]; exact h.drewN m⟩
theorem liv_left (h : Liv w tb s k W) (hk : k + 1 ≤ 1000) :
    Calls Tryz.prog 25 #[.pointer (some ⟨tb, 0, none⟩)] W fun e w' => e = .returned (.int .i64 (s.left_ s.used)) ∧ W = w' := by
  obtain ⟨g, hT, h0⟩ := h.ex
  exact leftM_any W tb s g (by omega) hT h.good.ok
theorem liv_on (h : Liv w tb s k W) :
    Calls Tryz.prog 23 #[.pointer (some ⟨tb, 0, none⟩)] W fun e w' => e = .returned (.bool (!s.off)) ∧ W = w' := by
  obtain ⟨g, hT, h0⟩ := h.ex
  exact on_any W tb s g hT
theorem liv_paths (h : Liv w tb s k W) (hk : k + 1 ≤ 1000) (q : Str) :
    Calls Tryz.prog 21 #[.pointer (some ⟨tb, 0, none⟩), .string (S q)] W fun e w' => (∃ A n c, e = .returned (.slice A n c) ∧ Strs w' A n (s.paths q)) ∧ Nx W w' := by
  obtain ⟨g, hT, h0⟩ := h.ex
  refine (paths_any W tb s g (by omega) hT h.good.ok h.good.sp.2 q).mono fun e w' ⟨A, n, c, e1, e2, e3⟩ => ⟨⟨A, n, c, e1, e2.strs ?_⟩, e3⟩
  have h1 := e2.1
  have h2 : (s.paths q).length ≤ s.files.length := by unfold St.paths; have := List.length_filter_le (fun p => q.isPrefixOf p) (s.files.map (·.1)); rw [List.length_map] at this; exact this
  have h3 := h.good.ok.lf
  simp only [strV, List.length_map] at h1
  omega
theorem liv_new (room : Int) (h0 : 0 ≤ room) (h1 : room ≤ 67108864) (hn : Nx w W) :
    Calls Tryz.prog 17 #[.int .i64 room] W fun e w' => e = .returned (.tuple #[.pointer (some ⟨W.heap.size + 2, 0, none⟩), .int .i64 0]) ∧ Liv w (W.heap.size + 2) (St.new room) 0 w' :=
  (new_any W room h0 h1).mono fun e w' ⟨a, b, c⟩ => ⟨a, ⟨⟨_, b, fun j hj => by have := (new_le _ _ hj).1; have := hn.size; omega⟩, hn.trans c, Good.new room h0 h1⟩⟩
end
end Go.Proofs.YtiikjdjpodmpcaaGreat

/- Literals of bytes, numbers and strings, as the trees' calls take them. -/
namespace Go.Proofs.YtiikjdjpodmpcaaGreat
open Go.RowKit Go.Maps
set_option linter.unusedVariables false

theorem arg_const (W : World) (C : Array Value) (b : Str) (n : Nat) (h : C.toList = bvs b) (hn : b.length = n) (hm : n ≤ 1000000) : Arg (W.alloc (.cells C 5 (n, n + 1))) (some ⟨W.heap.size, 0, none⟩) n n b :=
  ⟨hn, Nat.le_refl _, by unfold maxLen; omega, fun _ => ⟨W.heap.size, 0, rfl, by simp, fun i hi => by
    rw [cell_of_row _ W.heap.size (0 + i) C 5 (n, n + 1) (heap_alloc_new W _), Nat.zero_add, ← Array.getElem?_toList, h]
    exact bvs_get b i (by omega)⟩⟩
theorem nums_nil (W : World) : Nums W none 0 0 [] := ⟨rfl, Nat.zero_le _, fun i => by simp, fun e => by omega⟩
theorem nums_lit1 (W : World) (x : Int) (hx : x ≤ 9223372036854775807) : Nums (W.alloc (.cells #[.int .i64 x] 3)) (some ⟨W.heap.size, 0, none⟩) 1 1 [x] :=
  ⟨rfl, by decide, fun i => by
    rcases i with _ | i
    · exact hx
    · simp [List.getD], fun _ => ⟨W.heap.size, 0, rfl, by simp, fun i hi => by
    obtain rfl : i = 0 := by omega
    rw [(BlkIs.new W 3 #[.int .i64 x]).cell]; rfl⟩⟩
theorem strs_two (W : World) (a b : Str) : Strs (W.alloc (.cells #[.string (S a), .string (S b)] 9)) (some ⟨W.heap.size, 0, none⟩) 2 [a, b] :=
  ⟨rfl, by decide, fun _ => ⟨W.heap.size, rfl, by simp, fun j hj => by
    rw [(BlkIs.new W 9 #[.string (S a), .string (S b)]).cell]
    obtain rfl | rfl : j = 0 ∨ j = 1 := by omega
    · rfl
    · rfl⟩⟩
end Go.Proofs.YtiikjdjpodmpcaaGreat

/- Package tree: what is kept by a rename, a sync and a crash. -/
namespace Go.Proofs.YtiikjdjpodmpcaaGreat
open Go.RowKit Go.Maps
set_option linter.unusedVariables false

/-! ### Operations on a tree that is on and has no fuse -/
structure Idle (s : St) : Prop where
  off : s.off = false
  fuse : s.fuse = -1
theorem burn_idle {s : St} (h : Idle s) : s.burn = s := by
  obtain ⟨r, u, c, f, sa, ch, fu, o, fi⟩ := s
  obtain ⟨h1, h2⟩ := h
  simp only at h1 h2
  subst h1 h2
  rfl
theorem begin_idle {s : St} (h : Idle s) (ps : List Str) (hp : ps.all okP = true) : s.begin_ ps = (s, 0) := by
  unfold St.begin_
  rw [if_pos hp, burn_idle h, h.off]
  rfl
theorem find_idle {s : St} (h : Idle s) (p : Str) (o : List Str) (hp : (o ++ [p]).all okP = true) {f : Nat} (hl : look s.files p = some f) : s.find p o = (s, some f, 0) := by
  unfold St.find
  rw [begin_idle h _ hp]
  simp only [if_pos, hl]
theorem write_idle {s : St} (h : Idle s) (p b : Str) (hp : okP p = true) {f : Nat} (hl : look s.files p = some f) (hb : ¬ (b.length : Int) > s.left_ (s.used - ((s.at_ f).now.length : Int))) : s.write p b = (s.putB f b, 0) := by
  unfold St.write
  rw [find_idle h p [] (by simpa using hp) hl]
  simp only
  rw [if_neg hb]
theorem append_idle {s : St} (h : Idle s) (p b : Str) (hp : okP p = true) {f : Nat} (hl : look s.files p = some f) (hb : ¬ (b.length : Int) > s.left_ s.used) : s.append_ p b = (s.putB f ((s.at_ f).now ++ b), 0) := by
  unfold St.append_
  rw [find_idle h p [] (by simpa using hp) hl]
  simp only
  rw [if_neg hb]
theorem sync_idle {s : St} (h : Idle s) (p : Str) (hp : okP p = true) {f : Nat} (hl : look s.files p = some f) : s.sync p = (s.set_ f { s.at_ f with sf := (s.at_ f).now }, 0) := by
  unfold St.sync
  rw [find_idle h p [] (by simpa using hp) hl]
theorem syncPaths_idle {s : St} (h : Idle s) : s.syncPaths = (s.settle s.chs.length, 0) := by
  unfold St.syncPaths
  rw [begin_idle h [] rfl]
  rfl
theorem read_idle {s : St} (h : Idle s) (p : Str) (hp : okP p = true) {f : Nat} (hl : look s.files p = some f) : s.read p = (s, (s.at_ f).now, 0) := by
  unfold St.read
  rw [find_idle h p [] (by simpa using hp) hl]

/-! ### Crashes -/
theorem upTo_zero (n : Int) : upTo n 0 = 0 := by unfold upTo; omega
theorem rem_same (v : Str) (st : Nat) (part : Int) : (⟨v, v, st⟩ : Fil).rem part = v := by
  unfold Fil.rem
  rw [if_pos (by simp)]
  rw [show ((v.length : Int) - (v.length : Int)) = 0 from by omega, upTo_zero]
  simp
theorem set_at (s s' : St) (f : Nat) (x : Fil) (h : s'.fil = s.fil.set f x) (hf : f < s.fil.length) (i : Nat) : s'.at_ i = if i = f then x else s.at_ i := by
  rw [← at_set s f i x hf]
  unfold St.at_
  rw [h]
/-- A file whose bytes are safe has them after the crash. -/
theorem restores_at (before : Dir) (parts : List Int) (g : Nat) (v : Str) : ∀ (l : Dir) (i : Nat) (s : St), (∀ e ∈ l, e.2 < s.fil.length) → (s.at_ g).now = v → (s.at_ g).sf = v → ((St.restores before parts i l s).at_ g).now = v ∧ ((St.restores before parts i l s).at_ g).sf = v
  | [], _, s, _, h1, h2 => ⟨h1, h2⟩
  | (p, f) :: r, i, s, hl, h1, h2 => by
    obtain ⟨st, e1, _⟩ := restore_facts s p f (look before p) (partAt parts i)
    have hf := hl (p, f) List.mem_cons_self
    have ha := set_at s _ f _ e1 hf g
    refine restores_at before parts g v r (i + 1) _ (fun e he => by rw [e1, List.length_set]; exact hl e (List.mem_cons_of_mem _ he)) ?_ ?_
    all_goals
      rw [ha]
      split
      · rename_i e
        subst e
        have hx : s.at_ g = ⟨v, v, (s.at_ g).st⟩ := by
          cases hq : s.at_ g with
          | mk a b c => rw [hq] at h1 h2; simp only at h1 h2; subst h1; subst h2; rfl
        rw [hx]
        exact rem_same v _ _
      · assumption
/-- Where all bytes are safe, and every file has the path that it had, a crash changes no file. -/
theorem restores_calm (before : Dir) (parts : List Int) : ∀ (l : Dir) (i : Nat) (s : St), (∀ e ∈ l, e.2 < s.fil.length ∧ look before e.1 = some e.2 ∧ (s.at_ e.2).sf = (s.at_ e.2).now) → ∀ j, (St.restores before parts i l s).at_ j = s.at_ j
  | [], _, s, _, j => rfl
  | (p, f) :: r, i, s, hl, j => by
    obtain ⟨hf, hb, hsf⟩ := hl (p, f) List.mem_cons_self
    simp only at hf hb hsf
    have hx : s.at_ f = ⟨(s.at_ f).now, (s.at_ f).now, (s.at_ f).st⟩ := by
      cases hq : s.at_ f with
      | mk a b c => rw [hq] at hsf; simp only at hsf; rw [hsf]
    have hr : (s.at_ f).rem (partAt parts i) = (s.at_ f).now := by
      conv => lhs; rw [hx]
      exact rem_same _ _ _
    have hk : keeps s f (look before p) (partAt parts i) = true := by
      unfold keeps
      rw [hb, hr]
      simp
    have e := restore_yes s p f (look before p) (partAt parts i) hk
    have hat : ∀ j, (s.restore p f (look before p) (partAt parts i)).at_ j = s.at_ j := fun j => by
      rw [set_at s _ f ⟨(s.at_ f).rem (partAt parts i), (s.at_ f).rem (partAt parts i), (s.at_ f).st⟩ (by rw [e]) hf j]
      split
      · rename_i e2; subst e2; rw [hr]; exact hx.symm
      · rfl
    show (St.restores before parts (i + 1) r (s.restore p f (look before p) (partAt parts i))).at_ j = _
    rw [restores_calm before parts r (i + 1) _ (fun q hq => ?_) j, hat]
    obtain ⟨q1, q2, q3⟩ := hl q (List.mem_cons_of_mem _ hq)
    exact ⟨by rw [e]; simpa using q1, q2, by rw [hat]; exact q3⟩
theorem restores_same (before : Dir) (parts : List Int) : ∀ (l : Dir) (i : Nat) (s : St), (St.restores before parts i l s).files = s.files ∧ (St.restores before parts i l s).safe = s.safe ∧ (St.restores before parts i l s).chs = s.chs ∧ (St.restores before parts i l s).room = s.room ∧ (St.restores before parts i l s).fil.length = s.fil.length
  | [], _, _ => ⟨rfl, rfl, rfl, rfl, rfl⟩
  | (p, f) :: r, i, s => by
    obtain ⟨st, e1, _, _, e4, e5, e6, e7, _⟩ := restore_facts s p f (look before p) (partAt parts i)
    obtain ⟨a, b, c, d, e⟩ := restores_same before parts r (i + 1) (s.restore p f (look before p) (partAt parts i))
    exact ⟨a.trans e4, b.trans e5, c.trans e6, d.trans e7, e.trans (by rw [e1, List.length_set])⟩
def kept (s : St) (keep : Int) : Dir := apps (s.chs.take (upTo keep (s.chs.length : Int)).toNat) s.safe
structure After (s : St) (keep : Int) (s' : St) : Prop where
  idle : Idle s'
  files : s'.files = kept s keep
  safe : s'.safe = kept s keep
  chs : s'.chs = []
  room : s'.room = s.room
  len : s'.fil.length = s.fil.length
theorem after_crash (s : St) (keep : Int) (parts : List Int) : After s keep (s.crash keep parts) := by
  rw [crash_eq]
  obtain ⟨a, b, c, d, e⟩ := restores_same s.files parts (s.c3 keep).files 0 (s.c3 keep)
  exact ⟨⟨rfl, rfl⟩, a, b, c, d, e⟩
theorem crash_at {s : St} (keep : Int) (parts : List Int) (g : Nat) (v : Str) (hl : ∀ e ∈ kept s keep, e.2 < s.fil.length) (h1 : (s.at_ g).now = v) (h2 : (s.at_ g).sf = v) : ((s.crash keep parts).at_ g).now = v ∧ ((s.crash keep parts).at_ g).sf = v := by
  rw [crash_eq]
  exact restores_at s.files parts g v (s.c3 keep).files 0 (s.c3 keep) hl h1 h2
theorem crash_calm {s : St} (keep : Int) (parts : List Int) (hc : s.chs = []) (hs : s.safe = s.files) (hl : ∀ e ∈ s.files, e.2 < s.fil.length ∧ look s.files e.1 = some e.2 ∧ (s.at_ e.2).sf = (s.at_ e.2).now) : (s.crash keep parts).files = s.files ∧ ∀ j, (s.crash keep parts).at_ j = s.at_ j := by
  have hk : (s.c3 keep).files = s.files := by
    show apps (s.chs.take _) s.safe = _
    rw [hc, hs, List.take_nil]
    rfl
  refine ⟨(after_crash s keep parts).files.trans hk, fun j => ?_⟩
  rw [crash_eq]
  show (St.restores s.files parts 0 (s.c3 keep).files (s.c3 keep)).at_ j = _
  rw [hk]
  exact restores_calm s.files parts s.files 0 (s.c3 keep) hl j
end Go.Proofs.YtiikjdjpodmpcaaGreat

/- Package tree: the states that the law TreeKeeps goes through. -/
namespace Go.Proofs.YtiikjdjpodmpcaaGreat
open Go.RowKit Go.Maps
set_option linter.unusedVariables false

theorem make_idle {s : St} (h : Idle s) (p : Str) (hp : okP p = true) (hl : look s.files p = none) : s.make p = (St.record { s with fil := s.fil ++ [(⟨[], [], s.clock + 1⟩ : Fil)] } (.mk p s.fil.length), 0) := by
  unfold St.make
  rw [begin_idle h [p] (by simpa using hp)]
  simp only [if_pos, hl]
theorem rename_idle {s : St} (h : Idle s) (p q : Str) (hp : okP p = true) (hq : okP q = true) {f : Nat} (hl : look s.files p = some f) (hne : p ≠ q) : s.rename p q = ((s.free q).record (.mv p q f), 0) := by
  unfold St.rename
  rw [find_idle h p [q] (by simp [hp, hq]) hl]
  simp only
  rw [if_neg hne]
theorem restores_used (before : Dir) (parts : List Int) (M : Nat) : ∀ (l : Dir) (i : Nat) (s : St), (∀ e ∈ l, e.2 < s.fil.length ∧ (s.at_ e.2).sf = (s.at_ e.2).now ∧ (s.at_ e.2).now.length ≤ M) → (St.restores before parts i l s).used ≤ s.used + (M : Int) * (l.length : Int)
  | [], _, s, _ => by show s.used ≤ _; simp
  | (p, f) :: r, i, s, hl => by
    obtain ⟨st, e1, e2, _⟩ := restore_facts s p f (look before p) (partAt parts i)
    obtain ⟨hf, hsf, hM⟩ := hl (p, f) List.mem_cons_self
    simp only at hf hsf hM
    have hr : (s.at_ f).rem (partAt parts i) = (s.at_ f).now := by
      have hx : s.at_ f = ⟨(s.at_ f).now, (s.at_ f).now, (s.at_ f).st⟩ := by
        cases hq : s.at_ f with
        | mk a b c => rw [hq] at hsf; simp only at hsf; rw [hsf]
      conv => lhs; rw [hx]
      exact rem_same _ _ _
    rw [hr] at e1 e2
    have ih := restores_used before parts M r (i + 1) (s.restore p f (look before p) (partAt parts i)) (fun q hq => by
      obtain ⟨q1, q2, q3⟩ := hl q (List.mem_cons_of_mem _ hq)
      rw [set_at s _ f _ e1 hf q.2]
      refine ⟨by rw [e1, List.length_set]; exact q1, ?_⟩
      split
      · exact ⟨rfl, hM⟩
      · exact ⟨q2, q3⟩)
    refine Int.le_trans ih ?_
    rw [e2]
    simp only [List.length_cons]
    push_cast
    rw [Int.mul_add]
    omega

def fP : Str := [102]
def tP : Str := [46, 116, 109, 112, 47, 102]
theorem fP_ok : okP fP = true := by decide +kernel
theorem tP_ok : okP tP = true := by decide +kernel
def K0 : St := St.new 10000
def K1 : St := St.record { K0 with fil := K0.fil ++ [(⟨[], [], K0.clock + 1⟩ : Fil)] } (.mk fP K0.fil.length)
def K2 (a : Str) : St := K1.putB 0 a
def K3 (a : Str) : St := (K2 a).set_ 0 { (K2 a).at_ 0 with sf := ((K2 a).at_ 0).now }
def K4 (a : Str) : St := (K3 a).settle (K3 a).chs.length
def K5 (a : Str) : St := St.record { K4 a with fil := (K4 a).fil ++ [(⟨[], [], (K4 a).clock + 1⟩ : Fil)] } (.mk tP (K4 a).fil.length)
def K6 (a b : Str) : St := (K5 a).putB 1 b
def K7 (a b : Str) : St := (K6 a b).set_ 1 { (K6 a b).at_ 1 with sf := ((K6 a b).at_ 1).now }
def K8 (a b : Str) : St := ((K7 a b).free fP).record (.mv tP fP 1)
section
variable (a b : Str) (ha : a.length ≤ 300) (hb : b.length ≤ 300)
theorem K1e : K0.make fP = (K1, 0) := make_idle ⟨rfl, rfl⟩ fP fP_ok rfl
include ha in
theorem K2e : K1.write fP a = (K2 a, 0) := write_idle ⟨rfl, rfl⟩ fP a fP_ok (f := 0) (by decide +kernel) (by show ¬ ((a.length : Int) > max 0 (10000 - (0 - 0))); omega)
theorem K3e : (K2 a).sync fP = (K3 a, 0) := sync_idle ⟨rfl, rfl⟩ fP fP_ok (f := 0) (by show look K1.files fP = some 0; decide +kernel)
theorem K4e : (K3 a).syncPaths = (K4 a, 0) := syncPaths_idle ⟨rfl, rfl⟩
theorem K5e : (K4 a).make tP = (K5 a, 0) := make_idle ⟨rfl, rfl⟩ tP tP_ok (by show look K1.files tP = none; decide +kernel)
theorem K5l : look (K5 a).files tP = some 1 := by show look (Chg.app (.mk tP 1) K1.files) tP = some 1; decide +kernel
include ha hb in
theorem K6e : (K5 a).write tP b = (K6 a b, 0) := write_idle ⟨rfl, rfl⟩ tP b tP_ok (f := 1) (K5l a) (by show ¬ ((b.length : Int) > max 0 (10000 - ((0 + ((a.length : Int) - 0)) - 0))); omega)
theorem K7e : (K6 a b).sync tP = (K7 a b, 0) := sync_idle ⟨rfl, rfl⟩ tP tP_ok (f := 1) (K5l a)
theorem K8e : (K7 a b).rename tP fP = (K8 a b, 0) := rename_idle ⟨rfl, rfl⟩ tP fP tP_ok fP_ok (f := 1) (K5l a) (by decide)
theorem K7f : look (K7 a b).files fP = some 0 := by show look (Chg.app (.mk tP 1) K1.files) fP = some 0; decide +kernel
theorem K8fil : (K8 a b).fil = [⟨a, a, 2⟩, ⟨b, b, 4⟩] := by
  show ((K7 a b).free fP).fil = _
  unfold St.free
  rw [K7f]
  rfl
theorem K8chs : (K8 a b).chs = [.mk tP 1, .mv tP fP 1] := by
  show ((K7 a b).free fP).chs ++ [_] = _
  unfold St.free
  rw [K7f]
  rfl
theorem K8safe : (K8 a b).safe = [(fP, 0)] := by
  show ((K7 a b).free fP).safe = _
  unfold St.free
  rw [K7f]
  show apps [Chg.mk fP 0] [] = _
  decide +kernel
theorem K8room : (K8 a b).room = 10000 := by
  show ((K7 a b).free fP).room = _
  unfold St.free
  rw [K7f]
  rfl
theorem K8at0 : (K8 a b).at_ 0 = ⟨a, a, 2⟩ := by unfold St.at_; rw [K8fil]; rfl
theorem K8at1 : (K8 a b).at_ 1 = ⟨b, b, 4⟩ := by unfold St.at_; rw [K8fil]; rfl

/-- What the first crash leaves. -/
structure Left1 (a b : Str) (s : St) (g : Nat) (v : Str) (tm : Bool) : Prop where
  idle : Idle s
  fl : look s.files fP = some g
  tl : (s.stat tP).2.2 = tm
  all : ∀ e ∈ s.files, e.2 < s.fil.length ∧ look s.files e.1 = some e.2 ∧ (s.at_ e.2).sf = (s.at_ e.2).now
  now : (s.at_ g).now = v
  vl : v.length ≤ 300
  lt : g < s.fil.length
  chs : s.chs = []
  safe : s.safe = s.files
  room : s.room = 10000
  used : s.used ≤ 600
include ha hb in
theorem crash_left1 (keep : Int) (parts : List Int) (l : Dir) (g : Nat) (v : Str) (tm : Bool) (hk : kept (K8 a b) keep = l) (h1 : look l fP = some g) (h2 : (look l tP).isSome = tm) (h3 : ∀ e ∈ l, e.2 < 2 ∧ look l e.1 = some e.2) (h4 : l.length ≤ 2) (hg : g = 0 ∧ v = a ∨ g = 1 ∧ v = b) :
    Left1 a b ((K8 a b).crash keep parts) g v tm := by
  have A := after_crash (K8 a b) keep parts
  have hlen : (K8 a b).fil.length = 2 := by rw [K8fil]; rfl
  have hf : ((K8 a b).crash keep parts).files = l := A.files.trans hk
  have hl : ∀ e ∈ kept (K8 a b) keep, e.2 < (K8 a b).fil.length := by rw [hk, hlen]; exact fun e he => (h3 e he).1
  have p0 := crash_at keep parts 0 a hl (by rw [K8at0]) (by rw [K8at0])
  have p1 := crash_at keep parts 1 b hl (by rw [K8at1]) (by rw [K8at1])
  have hat : ∀ i, i < 2 → (((K8 a b).crash keep parts).at_ i).sf = (((K8 a b).crash keep parts).at_ i).now := fun i hi => by
    rcases (show i = 0 ∨ i = 1 by omega) with rfl | rfl
    · rw [p0.1, p0.2]
    · rw [p1.1, p1.2]
  refine ⟨A.idle, by rw [hf]; exact h1, ?_, ?_, ?_, ?_, ?_, A.chs, by rw [A.safe, A.files], by rw [A.room, K8room], ?_⟩
  · unfold St.stat
    rw [hf]
    cases e : look l tP with
    | none => rw [e] at h2; exact h2
    | some x => rw [e] at h2; exact h2
  · intro e he
    rw [hf] at he ⊢
    rw [A.len, hlen]
    exact ⟨(h3 e he).1, (h3 e he).2, hat _ (h3 e he).1⟩
  · rcases hg with ⟨rfl, rfl⟩ | ⟨rfl, rfl⟩
    · exact p0.1
    · exact p1.1
  · rcases hg with ⟨-, rfl⟩ | ⟨-, rfl⟩ <;> assumption
  · rw [A.len, hlen]; omega
  · rw [crash_eq]
    show (St.restores (K8 a b).files parts 0 ((K8 a b).c3 keep).files ((K8 a b).c3 keep)).used ≤ 600
    have hcf : ((K8 a b).c3 keep).files = l := hk
    have := restores_used (K8 a b).files parts 300 ((K8 a b).c3 keep).files 0 ((K8 a b).c3 keep) (fun e he => by
      rw [hcf] at he
      have h5 := (h3 e he).1
      refine ⟨by show e.2 < (K8 a b).fil.length; omega, ?_⟩
      show ((K8 a b).at_ e.2).sf = ((K8 a b).at_ e.2).now ∧ ((K8 a b).at_ e.2).now.length ≤ 300
      rcases (show e.2 = 0 ∨ e.2 = 1 by omega) with h6 | h6 <;> rw [h6]
      · rw [K8at0]; exact ⟨rfl, ha⟩
      · rw [K8at1]; exact ⟨rfl, hb⟩)
    refine Int.le_trans this ?_
    rw [hcf]
    show (0 : Int) + _ ≤ _
    omega
include ha hb in
theorem left1 (keep : Int) (parts : List Int) :
    (max 0 keep % 3 = 0 ∧ Left1 a b ((K8 a b).crash keep parts) 0 a false) ∨ (max 0 keep % 3 = 1 ∧ Left1 a b ((K8 a b).crash keep parts) 0 a true) ∨ (max 0 keep % 3 = 2 ∧ Left1 a b ((K8 a b).crash keep parts) 1 b false) := by
  have hk : kept (K8 a b) keep = apps ([Chg.mk tP 1, Chg.mv tP fP 1].take (max 0 keep % 3).toNat) [(fP, 0)] := by
    unfold kept upTo
    rw [K8chs, K8safe]
    rfl
  rcases (show max 0 keep % 3 = 0 ∨ max 0 keep % 3 = 1 ∨ max 0 keep % 3 = 2 by omega) with h | h | h
  · rw [h] at hk
    exact .inl ⟨h, crash_left1 a b ha hb keep parts [(fP, 0)] 0 a false (hk.trans (by decide +kernel)) (by decide +kernel) (by decide +kernel) (by decide +kernel) (by decide) (.inl ⟨rfl, rfl⟩)⟩
  · rw [h] at hk
    exact .inr (.inl ⟨h, crash_left1 a b ha hb keep parts [(tP, 1), (fP, 0)] 0 a true (hk.trans (by decide +kernel)) (by decide +kernel) (by decide +kernel) (by decide +kernel) (by decide) (.inl ⟨rfl, rfl⟩)⟩)
  · rw [h] at hk
    exact .inr (.inr ⟨h, crash_left1 a b ha hb keep parts [(fP, 1)] 1 b false (hk.trans (by decide +kernel)) (by decide +kernel) (by decide +kernel) (by decide +kernel) (by decide) (.inr ⟨rfl, rfl⟩)⟩)
end
/-- What follows the first crash. -/
structure Rest (s : St) (g : Nat) (v c : Str) (s1 s2 s3 : St) (st : Nat) : Prop where
  read : s.read fP = (s, v, 0)
  app : s.append_ fP c = (s1, 0)
  syn : s1.sync fP = (s2, 0)
  syp : s2.syncPaths = (s3, 0)
  stat : s3.stat fP = (((v ++ c).length : Int), st, true)
  aft : ∀ keep parts, (s3.crash keep parts).stat fP = (((v ++ c).length : Int), st, true) ∧ ((s3.crash keep parts).read fP) = (s3.crash keep parts, v ++ c, 0)
theorem rest_of {a b : Str} {s : St} {g : Nat} {v : Str} {tm : Bool} (h : Left1 a b s g v tm) (c : Str) (hc : c.length ≤ 300) : ∃ s1 s2 s3 st, Rest s g v c s1 s2 s3 st := by
  have i1 : Idle (s.putB g ((s.at_ g).now ++ c)) := ⟨h.idle.off, h.idle.fuse⟩
  have e1 : (s.putB g ((s.at_ g).now ++ c)).at_ g = { s.at_ g with now := (s.at_ g).now ++ c, st := s.clock + 1 } := by
    rw [set_at s _ g _ rfl h.lt g, if_pos rfl]
  have l1 : g < (s.putB g ((s.at_ g).now ++ c)).fil.length := by show g < (s.fil.set g _).length; rw [List.length_set]; exact h.lt
  obtain ⟨s1, hs1⟩ : ∃ s1, s.putB g ((s.at_ g).now ++ c) = s1 := ⟨_, rfl⟩
  have f1 : s1.files = s.files := by rw [← hs1]; rfl
  have c1 : s1.chs = [] := by rw [← hs1]; exact h.chs
  have sa1 : s1.safe = s.files := by rw [← hs1]; exact h.safe
  have o1 : ∀ j, j ≠ g → s1.at_ j = s.at_ j := fun j hj => by rw [← hs1, set_at s _ g _ rfl h.lt j, if_neg hj]
  have n1 : s1.fil.length = s.fil.length := by rw [← hs1]; show (s.fil.set g _).length = _; rw [List.length_set]
  rw [hs1] at i1 e1 l1
  obtain ⟨s2, hs2⟩ : ∃ s2, s1.set_ g { s1.at_ g with sf := (s1.at_ g).now } = s2 := ⟨_, rfl⟩
  have e2 : s2.at_ g = ⟨v ++ c, v ++ c, s.clock + 1⟩ := by
    rw [← hs2, set_at s1 _ g _ rfl l1 g, if_pos rfl, e1, h.now]
  have f2 : s2.files = s.files := by rw [← hs2]; exact f1
  have c2 : s2.chs = [] := by rw [← hs2]; exact c1
  have sa2 : s2.safe = s.files := by rw [← hs2]; exact sa1
  have o2 : ∀ j, j ≠ g → s2.at_ j = s.at_ j := fun j hj => by rw [← hs2, set_at s1 _ g _ rfl l1 j, if_neg hj, o1 j hj]
  have n2 : s2.fil.length = s.fil.length := by rw [← hs2]; show (s1.fil.set g _).length = _; rw [List.length_set, n1]
  have i2 : Idle s2 := by rw [← hs2]; exact ⟨i1.off, i1.fuse⟩
  have s3f : (s2.settle s2.chs.length).files = s.files := f2
  have s3s : (s2.settle s2.chs.length).safe = s.files := by
    show apps (s2.chs.take _) s2.safe = _
    rw [c2, List.take_nil, sa2]
    rfl
  have hst : (s2.settle s2.chs.length).stat fP = (((v ++ c).length : Int), s.clock + 1, true) := by
    unfold St.stat
    rw [s3f, h.fl]
    show ((((s2.at_ g).now.length : Nat) : Int), (s2.at_ g).st, true) = _
    rw [e2]
  refine ⟨s1, s2, s2.settle s2.chs.length, s.clock + 1, ?_, ?_, ?_, syncPaths_idle i2, hst, ?_⟩
  · rw [read_idle h.idle fP fP_ok h.fl, h.now]
  · rw [append_idle h.idle fP c fP_ok h.fl ?_, hs1]
    unfold St.left_
    rw [h.room]
    have := h.used
    omega
  · rw [sync_idle i1 fP fP_ok (f := g) (by rw [f1]; exact h.fl), hs2]
  · intro keep parts
    have C := crash_calm (s := s2.settle s2.chs.length) keep parts rfl (s3s.trans s3f.symm) (fun e he => by
      rw [s3f] at he ⊢
      obtain ⟨q1, q2, q3⟩ := h.all e he
      refine ⟨by show e.2 < s2.fil.length; rw [n2]; exact q1, q2, ?_⟩
      show (s2.at_ e.2).sf = (s2.at_ e.2).now
      by_cases hg : e.2 = g
      · rw [hg, e2]
      · rw [o2 _ hg]; exact q3)
    have A := after_crash (s2.settle s2.chs.length) keep parts
    have hl : look ((s2.settle s2.chs.length).crash keep parts).files fP = some g := by rw [C.1, s3f]; exact h.fl
    refine ⟨?_, ?_⟩
    · rw [← hst]
      unfold St.stat
      rw [C.1]
      have := C.2
      simp only [this]
    · rw [read_idle A.idle fP fP_ok hl, C.2]
      show (_, (s2.at_ g).now, _) = _
      rw [e2]
end Go.Proofs.YtiikjdjpodmpcaaGreat

/- Package tree: slices of numbers that a law copies. -/
namespace Go.Proofs.YtiikjdjpodmpcaaGreat
open Go.RowKit Go.Maps
set_option linter.unusedVariables false

theorem int_info : (Tryz.prog.info? 3).map (fun i => (i.zero, i.size, i.bytes)) = some (some (.int .i64 0), 1, 8) := by kernel_rfl
def ivs (l : List Int) : List Value := l.map fun x => Value.int .i64 x
theorem ivs_length (l : List Int) : (ivs l).length = l.length := by simp [ivs]
theorem ivs_get (l : List Int) (j : Nat) (h : j < l.length) : (ivs l)[j]? = some (.int .i64 (l.getD j 0)) := by simp [ivs, List.getD, h]
theorem iown_form {w : World} {B n : Nat} {v : Value} {xs : List Value} (h : w.ownsRow B 3 1 v n xs) : ∃ A c, v = .slice A n c := by
  rcases h.2 with ⟨hv, h0⟩ | ⟨g, cap, cur, hv, _⟩
  · exact ⟨none, 0, by rw [hv, h0]⟩
  · exact ⟨_, _, hv⟩
theorem int_append_nil (w : World) (ty : TypeId) (B : Nat) (v : Value) (n : Nat) (xs : List Value) (hown : w.ownsRow B 3 1 v n xs) (c : Nat) :
    (Builtin.append_ #[37, 37] ty #[v, .slice none 0 c]).run Tryz.prog w = .ok v w := by
  obtain ⟨i, hi, _, _, _⟩ := info_parts int_info
  rcases hown.2 with ⟨rfl, rfl⟩ | ⟨g, cap, cur, rfl, _, _, hnc, _⟩
  · simp [Builtin.append_, run_underlying Tryz.underlying37, sizeOf, typeInfo, hi, Builtin.lenOf, Builtin.firstCells]
  · simp [Builtin.append_, run_underlying Tryz.underlying37, sizeOf, typeInfo, hi, Builtin.lenOf, Builtin.firstCells, hnc, storeCells]
theorem Nums.nx {w w' : World} {A : Option Addr} {n c : Nat} {b : List Int} (h : Nums w A n c b) (k : Nx w w') : Nums w' A n c b := h.chd (M := fun _ => False) (Chd.of_below k) (fun _ _ _ _ e => e)
theorem int_append (w : World) (ty : TypeId) (B : Nat) (v : Value) (hown : w.ownsRow B 3 1 v 0 []) (hB : B ≤ w.heap.size)
    (A' : Option Addr) (m c' : Nat) (l' : List Int) (hr : Nums w A' m c' l') :
    ∃ v' w', (Builtin.append_ #[37, 37] ty #[v, .slice A' m c']).run Tryz.prog w = .ok v' w' ∧ w'.ownsRow B 3 1 v' m (ivs l') ∧ w.grownBy w' v.ownBlock := by
  obtain ⟨i, hi, hz, hs, hby⟩ := info_parts int_info
  have hl' := hr.len
  have hle := hr.le
  rcases Nat.eq_zero_or_pos m with hm | hm
  · subst hm
    obtain rfl : l' = [] := List.eq_nil_of_length_eq_zero hl'
    rcases A' with _ | ad
    · exact ⟨v, w, int_append_nil w ty B _ 0 _ hown c', hown, World.grownBy.refl w _⟩
    · obtain ⟨v', w', hrun, h2, h3, _, h5⟩ := run_append_own_at (P := Tryz.prog) w B 37 ty 3 i (.int .i64 0) 1 8 Tryz.underlying37 hi hz hs hby rfl (by decide) _ 0 _ hown ad 0 c' []
        rfl (by simp) (by simp) (by simp only [maxLen]; omega) (by omega) hB
      exact ⟨v', w', hrun, h2, h3⟩
  · obtain ⟨b, o, rfl, hlt, hc⟩ := hr.lies hm
    obtain ⟨v', w', hrun, h2, h3, _, h5⟩ := run_append_own_at (P := Tryz.prog) w B 37 ty 3 i (.int .i64 0) 1 8 Tryz.underlying37 hi hz hs hby rfl (by decide) _ 0 _ hown ⟨b, o, none⟩ m c' (ivs l')
      (by rw [ivs_length]; omega) (fun j u hu => by
        have hj : j < l'.length := by rw [← ivs_length]; exact (List.getElem?_eq_some_iff.1 hu).1
        rw [add_plain, hc j (by omega), ← ivs_get l' j hj, hu]) (fun u hu => by
          obtain ⟨x, _, rfl⟩ := List.mem_map.1 hu
          rfl) (by simp only [maxLen]; omega) (by omega) hB
    rw [Nat.zero_add] at h2
    exact ⟨v', w', hrun, h2, h3⟩
theorem ints_copy (w0 : World) (ty : TypeId) (A' : Option Addr) (m c' : Nat) (l' : List Int) (hr : Nums w0 A' m c' l') :
    ∃ A2 c2 w', (Builtin.append_ #[37, 37] ty #[.slice (some ⟨w0.heap.size, 0, none⟩) 0 0, .slice A' m c']).run Tryz.prog (w0.alloc (.cells #[] 3)) = .ok (.slice A2 m c2) w' ∧ Nums w' A2 m c2 l' ∧ (∀ j o, A2 = some ⟨j, o, none⟩ → w0.heap.size ≤ j) ∧ Nx w0 w' := by
  have b1 : Nx w0 (w0.alloc (.cells #[] 3)) := (Below.refl _ w0).alloc (Nat.le_refl _) _
  have hown := World.ownsRow_lit (e := 3) (size := 1) w0 #[] 0 (Nat.le_refl _) (Nat.zero_le _) rfl
  obtain ⟨v', w', hrun, h2, h3⟩ := int_append _ ty w0.heap.size _ hown (by simp) A' m c' l' (hr.nx b1)
  obtain ⟨A2, c2, rfl⟩ := iown_form h2
  refine ⟨A2, c2, w', hrun, ⟨hr.len, hr.le, hr.ok, fun hm => ?_⟩, fun j o e => ?_, ?_⟩
  · rcases h2.2 with ⟨hv, h0⟩ | ⟨g, cap, cur, hv, hb, hg, r⟩
    · omega
    · simp only [Value.slice.injEq] at hv
      obtain ⟨rfl, -, rfl⟩ := hv
      refine ⟨g, 0, rfl, (Array.getElem?_eq_some_iff.1 hg).1, fun i hi => ?_⟩
      have := World.ownsRow.cells (w := w') h2 (g := g) rfl i (.int .i64 (l'.getD i 0)) (ivs_get l' i (by rw [hr.len]; exact hi))
      rwa [add_plain] at this
  · rcases h2.2 with ⟨hv, h0⟩ | ⟨g, cap, cur, hv, hb, hg, r⟩
    · simp only [Value.slice.injEq] at hv
      rw [hv.1] at e; cases e
    · simp only [Value.slice.injEq] at hv
      rw [hv.1] at e
      simp only [Option.some.injEq, Addr.mk.injEq] at e
      omega
  · have c1 : Chd (fun j => j = w0.heap.size) w0 w' := (Chd.of_below b1).trans (Chd.of_grown h3)
    exact c1.below (Nat.le_refl _) (fun j hj e => by omega)
/-- append([]int{}, parts...). -/
theorem wpList_ints_copy {w0 : World} {ops : Array Oper} {rest : List Oper} {o : Oper} {a : Act} {Q : Exit → Act → World → Prop} (hgd : o.guard = none) (s x : Operand)
    (ho : o.op = .call { callee := .builtin .append, args := #[s, x], argTypes := #[37, 37] })
    (hs : a.eval s = .slice (some ⟨w0.heap.size, 0, none⟩) 0 0)
    (A' : Option Addr) (m c' : Nat) (l' : List Int) (hx : a.eval x = .slice A' m c') (hr : Nums w0 A' m c' l')
    (h : ∀ A2 c2 w', Nums w' A2 m c2 l' → (∀ j o, A2 = some ⟨j, o, none⟩ → w0.heap.size ≤ j) → Nx w0 w' → wpList Tryz.prog ops Q rest (a.put o.dst (.slice A2 m c2)) w') :
    wpList Tryz.prog ops Q (o :: rest) a (w0.alloc (.cells #[] 3)) := by
  refine wpList_plain hgd fun K hK => ?_
  obtain ⟨A2, c2, w', hrun, hN, hA, hx2⟩ := ints_copy w0 o.type A' m c' l' hr
  unfold Oper.wp execOp
  simp only [ho, resolve, invoke, builtin, Sem.run_bind, Sem.run_pure, Result.andThen_ok, List.map_toArray, List.map_cons, List.map_nil, hs, hx, hrun]
  exact hK _ _ (h A2 c2 w' hN hA hx2)
theorem wp_ints_copy {w0 : World} {o : Oper} {a : Act} {K : Act → World → Prop} {Q : Exit → Act → World → Prop} (s x : Operand)
    (ho : o.op = .call { callee := .builtin .append, args := #[s, x], argTypes := #[37, 37] })
    (hs : a.eval s = .slice (some ⟨w0.heap.size, 0, none⟩) 0 0)
    (A' : Option Addr) (m c' : Nat) (l' : List Int) (hx : a.eval x = .slice A' m c') (hr : Nums w0 A' m c' l')
    (h : ∀ A2 c2 w', Nums w' A2 m c2 l' → (∀ j o, A2 = some ⟨j, o, none⟩ → w0.heap.size ≤ j) → Nx w0 w' → K (a.put o.dst (.slice A2 m c2)) w') :
    o.wp Tryz.prog a (w0.alloc (.cells #[] 3)) K Q := by
  obtain ⟨A2, c2, w', hrun, hN, hA, hx2⟩ := ints_copy w0 o.type A' m c' l' hr
  unfold Oper.wp execOp
  simp only [ho, resolve, invoke, builtin, Sem.run_bind, Sem.run_pure, Result.andThen_ok, List.map_toArray, List.map_cons, List.map_nil, hs, hx, hrun]
  exact h A2 c2 w' hN hA hx2
/-- A slice of numbers that came in, as the shell of a law hands it over. -/
theorem row_nums {w : World} {a : Option Addr} {len cap : Nat} {zs : List Int}
    (h : (a = none ∧ len = 0 ∧ cap = 0 ∧ zs = []) ∨ ∃ x, a = some x ∧ len ≤ cap ∧ cap ≤ maxLen ∧ zs.length = cap ∧ (∀ i, i < zs.length → w.cell? (x.add i) = some (.int .i64 (zs.getD i 0))) ∧ ∀ n ∈ zs, (Lit.int .i64 n).wf = true) (hl : len ≤ 100000) :
    ∃ ps, Nums w a len cap ps := by
  rcases h with ⟨rfl, rfl, rfl, rfl⟩ | ⟨x, rfl, hlc, hm, hz, hcell, hwf⟩
  · exact ⟨[], nums_nil w⟩
  · refine ⟨zs.take len, by simp; omega, hl, fun i => ?_, fun hn => ?_⟩
    · simp only [List.getD]
      cases e : (zs.take len)[i]? with
      | none => simp
      | some v =>
        have hv := List.mem_of_mem_take (List.mem_of_getElem? e)
        have := ((Lit.wf_int_iff .i64 v).1 (hwf v hv)).2
        simp only [Option.getD_some]
        exact this
    · obtain ⟨b, o, spot⟩ := x
      have h0 := hcell 0 (by omega)
      have hs : spot = none := by simpa [Addr.add] using World.cell?_spot h0
      subst hs
      refine ⟨b, o, rfl, by simpa [add_plain] using World.block_lt_of_cell? w _ h0, fun i hi => ?_⟩
      have hc := hcell i (by omega)
      rw [add_plain] at hc
      rw [hc]
      simp only [List.getD, List.getElem?_take, if_pos hi]
theorem row_le {w : World} {a : Option Addr} {len cap : Nat} {zs : List Int}
    (h : (a = none ∧ len = 0 ∧ cap = 0 ∧ zs = []) ∨ ∃ x, a = some x ∧ len ≤ cap ∧ cap ≤ maxLen ∧ zs.length = cap ∧ (∀ i, i < zs.length → w.cell? (x.add i) = some (.int .i64 (zs.getD i 0))) ∧ ∀ n ∈ zs, (Lit.int .i64 n).wf = true) : len ≤ cap := by
  rcases h with ⟨_, rfl, rfl, _⟩ | ⟨x, _, h, _⟩
  · exact Nat.le_refl _
  · exact h
end Go.Proofs.YtiikjdjpodmpcaaGreat

/- Package tree: a nil tree. -/
namespace Go.Proofs.YtiikjdjpodmpcaaGreat
open Go.RowKit Go.Maps
set_option linter.unusedVariables false

theorem begin_nil (w : World) (A : Option Addr) (n c : Nat) :
    Calls Tryz.prog 127 #[.pointer none, .slice A n c] w fun e w' => e = .returned (.int .i64 1) ∧ w = w' := by
  have V := Lib.hid (valid_nil w)
  go_enter Tryz.func127, Tryz.ntmps127
  go_wp2_with fail
  refine V.out.mono ?_
  rintro e w' ⟨rfl, rfl⟩
  go_wp2
  go_ret
  exact ⟨rfl, rfl⟩
set_option maxRecDepth 100000 in
theorem find_nil (w : World) (p : Str) (A : Option Addr) (n c : Nat) (others : List Str) (hn : n ≤ 1000) (hown : w.ownsRow 0 9 1 (.slice A n c) n (strV others)) :
    Calls Tryz.prog 93 #[.pointer none, .string (S p), .slice A n c] w fun e w' =>
      e = .returned (.tuple #[.pointer none, .int .i64 1]) ∧ Chd (fun j => (Value.slice A n c).ownBlock = some j) w w' := by
  obtain ⟨i0, hi, hz0, hz1, hz2⟩ := info_parts string_info
  have HO := Lib.hid hown
  have BN := Lib.hid (fun W A n c => begin_nil W A n c)
  have halloc : (w.alloc (.cells #[.string (S p)] 9)).ownsRow 0 9 1 (.slice A n c) n (strV others) := row_chd (M := fun _ => False) HO.out ((Chd.refl w).then_ (Chd.of_below ((Below.refl _ w).alloc (Nat.le_refl _) _)) (fun _ _ e => e)) (fun _ _ e => e)
  have Hal := Lib.hid halloc
  clear halloc hown
  generalize hsp : S p = sp at *
  clear hsp
  go_enter Tryz.func93, Tryz.ntmps93
  go_wp2_with (at_builtin; refine wpList_append_lies _ rfl _ _ 24 rfl 0 9 i0 (.string ⟨#[]⟩) 1 16 Tryz.underlying24 hi hz0 hz1 hz2 rfl (by decide) (.slice A n c) n (strV others) rfl Hal.out ⟨w.heap.size, 0, none⟩ 1 1 [.string sp] rfl rfl (cell_one_new _ _ _) (by simp [Value.oneCell']) (by decide) (by unfold maxLen; omega) (by omega) (Nat.zero_le _) _ rfl ?_; intro gb cap w2 hown2 hgrow hat hlt)
  have C2 : Chd (fun j => (Value.slice A n c).ownBlock = some j) w w2 := (Chd.of_below ((Below.refl _ w).alloc (Nat.le_refl _) _)).trans (Chd.of_grownBy hgrow)
  have HC2 := Lib.hid C2
  clear C2 hown2 hgrow hat hlt HO Hal
  go_wp2_with fail
  refine (BN.out w2 _ _ _).mono ?_
  rintro e w3 ⟨rfl, rfl⟩
  clear BN
  go_wp2
  go_ret2
  exact ⟨rfl, HC2.out⟩
theorem find_nil0 (w : World) (p : Str) :
    Calls Tryz.prog 93 #[.pointer none, .string (S p), .slice none 0 0] w fun e w' => e = .returned (.tuple #[.pointer none, .int .i64 1]) ∧ Nx w w' :=
  (find_nil w p none 0 0 [] (by decide) ⟨rfl, .inl ⟨rfl, rfl⟩⟩).mono fun e w' ⟨e1, e2⟩ => ⟨e1, e2.below (Nat.le_refl _) (fun j hj e => by cases e)⟩
theorem make_nil (w : World) (p : Str) :
    Calls Tryz.prog 103 #[.pointer none, .string (S p)] w fun e w' => e = .returned (.int .i64 1) ∧ Nx w w' := by
  have BN := Lib.hid (fun W A n c => begin_nil W A n c)
  generalize S p = sp at *
  go_enter Tryz.func103, Tryz.ntmps103
  go_wp2_with fail
  refine (BN.out _ _ _ _).mono ?_
  rintro e w' ⟨rfl, rfl⟩
  clear BN
  go_wp2
  go_ret
  first
  | exact ⟨rfl, (Below.refl _ w).alloc (Nat.le_refl _) _⟩
  | exact ⟨rfl, Nx.trans (show Nx w (w.alloc (.cells #[.string (S p)] 9)) from (Below.refl _ w).alloc (Nat.le_refl _) _) HX.out⟩
  | exact ⟨rfl, (((Below.refl _ w).alloc (Nat.le_refl _) _).alloc (by simp) _ : Nx w _)⟩
theorem write_nil (w : World) (p : Str) (A : Option Addr) (n c : Nat) :
    Calls Tryz.prog 105 #[.pointer none, .string (S p), .slice A n c] w fun e w' => e = .returned (.int .i64 1) ∧ Nx w w' := by
  have FN := Lib.hid (fun W p => find_nil0 W p)
  go_enter Tryz.func105, Tryz.ntmps105
  go_wp2_with fail
  refine (FN.out _ p).mono ?_
  rintro e w' ⟨rfl, hx⟩
  have HX := Lib.hid hx
  clear hx
  clear FN
  go_wp2
  go_ret
  first
  | exact ⟨rfl, HX.out⟩
  | exact ⟨rfl, Nx.trans (show Nx w (w.alloc (.cells #[.string (S p)] 9)) from (Below.refl _ w).alloc (Nat.le_refl _) _) HX.out⟩
  | exact ⟨rfl, (((Below.refl _ w).alloc (Nat.le_refl _) _).alloc (by simp) _ : Nx w _)⟩
theorem append_nil (w : World) (p : Str) (A : Option Addr) (n c : Nat) :
    Calls Tryz.prog 50 #[.pointer none, .string (S p), .slice A n c] w fun e w' => e = .returned (.int .i64 1) ∧ Nx w w' := by
  have FN := Lib.hid (fun W p => find_nil0 W p)
  go_enter Tryz.func50, Tryz.ntmps50
  go_wp2_with fail
  refine (FN.out _ p).mono ?_
  rintro e w' ⟨rfl, hx⟩
  have HX := Lib.hid hx
  clear hx
  clear FN
  go_wp2
  go_ret
  first
  | exact ⟨rfl, HX.out⟩
  | exact ⟨rfl, Nx.trans (show Nx w (w.alloc (.cells #[.string (S p)] 9)) from (Below.refl _ w).alloc (Nat.le_refl _) _) HX.out⟩
  | exact ⟨rfl, (((Below.refl _ w).alloc (Nat.le_refl _) _).alloc (by simp) _ : Nx w _)⟩
theorem sync_nil (w : World) (p : Str) :
    Calls Tryz.prog 62 #[.pointer none, .string (S p)] w fun e w' => e = .returned (.int .i64 1) ∧ Nx w w' := by
  have FN := Lib.hid (fun W p => find_nil0 W p)
  go_enter Tryz.func62, Tryz.ntmps62
  go_wp2_with fail
  refine (FN.out _ p).mono ?_
  rintro e w' ⟨rfl, hx⟩
  have HX := Lib.hid hx
  clear hx
  clear FN
  go_wp2
  go_ret
  first
  | exact ⟨rfl, HX.out⟩
  | exact ⟨rfl, Nx.trans (show Nx w (w.alloc (.cells #[.string (S p)] 9)) from (Below.refl _ w).alloc (Nat.le_refl _) _) HX.out⟩
  | exact ⟨rfl, (((Below.refl _ w).alloc (Nat.le_refl _) _).alloc (by simp) _ : Nx w _)⟩
theorem syncPaths_nil (w : World) :
    Calls Tryz.prog 109 #[.pointer none] w fun e w' => e = .returned (.int .i64 1) ∧ Nx w w' := by
  have BN := Lib.hid (fun W A n c => begin_nil W A n c)
  go_enter Tryz.func109, Tryz.ntmps109
  go_wp2_with fail
  refine (BN.out _ _ _ _).mono ?_
  rintro e w' ⟨rfl, rfl⟩
  clear BN
  go_wp2
  go_ret
  first
  | exact ⟨rfl, Nx.refl _⟩
  | exact ⟨rfl, Nx.trans (show Nx w (w.alloc (.cells #[.string (S p)] 9)) from (Below.refl _ w).alloc (Nat.le_refl _) _) HX.out⟩
  | exact ⟨rfl, (((Below.refl _ w).alloc (Nat.le_refl _) _).alloc (by simp) _ : Nx w _)⟩
theorem remove_nil (w : World) (p : Str) :
    Calls Tryz.prog 132 #[.pointer none, .string (S p)] w fun e w' => e = .returned (.int .i64 1) ∧ Nx w w' := by
  have FN := Lib.hid (fun W p => find_nil0 W p)
  go_enter Tryz.func132, Tryz.ntmps132
  go_wp2_with fail
  refine (FN.out _ p).mono ?_
  rintro e w' ⟨rfl, hx⟩
  have HX := Lib.hid hx
  clear hx
  clear FN
  go_wp2
  go_ret
  first
  | exact ⟨rfl, HX.out⟩
  | exact ⟨rfl, Nx.trans (show Nx w (w.alloc (.cells #[.string (S p)] 9)) from (Below.refl _ w).alloc (Nat.le_refl _) _) HX.out⟩
  | exact ⟨rfl, (((Below.refl _ w).alloc (Nat.le_refl _) _).alloc (by simp) _ : Nx w _)⟩
theorem read_nil (w : World) (p : Str) :
    Calls Tryz.prog 72 #[.pointer none, .string (S p)] w fun e w' => e = .returned (.tuple #[.slice none 0 0, .int .i64 1]) ∧ Nx w w' := by
  have FN := Lib.hid (fun W p => find_nil0 W p)
  go_enter Tryz.func72, Tryz.ntmps72
  go_wp2_with fail
  refine (FN.out _ p).mono ?_
  rintro e w' ⟨rfl, hx⟩
  have HX := Lib.hid hx
  clear hx
  clear FN
  go_wp2
  go_ret2
  first
  | exact ⟨rfl, HX.out⟩
  | exact ⟨rfl, Nx.trans (show Nx w (w.alloc (.cells #[.string (S p)] 9)) from (Below.refl _ w).alloc (Nat.le_refl _) _) HX.out⟩
  | exact ⟨rfl, (((Below.refl _ w).alloc (Nat.le_refl _) _).alloc (by simp) _ : Nx w _)⟩
theorem fuse_nil (w : World) (n : Int) :
    Calls Tryz.prog 35 #[.pointer none, .int .i64 n] w fun e w' => e = .returned (.int .i64 1) ∧ Nx w w' := by
  have VN := Lib.hid (fun W => valid_nil W)
  go_enter Tryz.func35, Tryz.ntmps35
  go_wp2_with fail
  refine (VN.out _).mono ?_
  rintro e w' ⟨rfl, rfl⟩
  clear VN
  go_wp2
  go_ret
  first
  | exact ⟨rfl, Nx.refl _⟩
  | exact ⟨rfl, Nx.trans (show Nx w (w.alloc (.cells #[.string (S p)] 9)) from (Below.refl _ w).alloc (Nat.le_refl _) _) HX.out⟩
  | exact ⟨rfl, (((Below.refl _ w).alloc (Nat.le_refl _) _).alloc (by simp) _ : Nx w _)⟩
theorem crash_nil (w : World) (n : Int) (A : Option Addr) (m c : Nat) :
    Calls Tryz.prog 36 #[.pointer none, .int .i64 n, .slice A m c] w fun e w' => e = .returned (.int .i64 1) ∧ Nx w w' := by
  have VN := Lib.hid (fun W => valid_nil W)
  go_enter Tryz.func36, Tryz.ntmps36
  go_wp2_with fail
  refine (VN.out _).mono ?_
  rintro e w' ⟨rfl, rfl⟩
  clear VN
  go_wp2
  go_ret
  first
  | exact ⟨rfl, Nx.refl _⟩
  | exact ⟨rfl, Nx.trans (show Nx w (w.alloc (.cells #[.string (S p)] 9)) from (Below.refl _ w).alloc (Nat.le_refl _) _) HX.out⟩
  | exact ⟨rfl, (((Below.refl _ w).alloc (Nat.le_refl _) _).alloc (by simp) _ : Nx w _)⟩
theorem stat_nil (w : World) (p : Str) :
    Calls Tryz.prog 116 #[.pointer none, .string (S p)] w fun e w' => e = .returned (.tuple #[.int .i64 0, .int .u64 0, .bool false]) ∧ Nx w w' := by
  have VN := Lib.hid (fun W => valid_nil W)
  generalize S p = sp at *
  go_enter Tryz.func116, Tryz.ntmps116
  go_wp2_with fail
  refine (VN.out _).mono ?_
  rintro e w' ⟨rfl, rfl⟩
  clear VN
  go_wp2
  go_ret3
  first
  | exact ⟨rfl, Nx.refl _⟩
  | exact ⟨rfl, Nx.trans (show Nx w (w.alloc (.cells #[.string (S p)] 9)) from (Below.refl _ w).alloc (Nat.le_refl _) _) HX.out⟩
  | exact ⟨rfl, (((Below.refl _ w).alloc (Nat.le_refl _) _).alloc (by simp) _ : Nx w _)⟩
theorem paths_nil (w : World) (p : Str) :
    Calls Tryz.prog 21 #[.pointer none, .string (S p)] w fun e w' => e = .returned (.slice none 0 0) ∧ Nx w w' := by
  have VN := Lib.hid (fun W => valid_nil W)
  generalize S p = sp at *
  go_enter Tryz.func21, Tryz.ntmps21
  go_wp2_with fail
  refine (VN.out _).mono ?_
  rintro e w' ⟨rfl, rfl⟩
  clear VN
  go_wp2
  go_ret
  first
  | exact ⟨rfl, Nx.refl _⟩
  | exact ⟨rfl, Nx.trans (show Nx w (w.alloc (.cells #[.string (S p)] 9)) from (Below.refl _ w).alloc (Nat.le_refl _) _) HX.out⟩
  | exact ⟨rfl, (((Below.refl _ w).alloc (Nat.le_refl _) _).alloc (by simp) _ : Nx w _)⟩
theorem left_nil (w : World) :
    Calls Tryz.prog 25 #[.pointer none] w fun e w' => e = .returned (.int .i64 0) ∧ Nx w w' := by
  have VN := Lib.hid (fun W => valid_nil W)
  go_enter Tryz.func25, Tryz.ntmps25
  go_wp2_with fail
  refine (VN.out _).mono ?_
  rintro e w' ⟨rfl, rfl⟩
  clear VN
  go_wp2
  go_ret
  first
  | exact ⟨rfl, Nx.refl _⟩
  | exact ⟨rfl, Nx.trans (show Nx w (w.alloc (.cells #[.string (S p)] 9)) from (Below.refl _ w).alloc (Nat.le_refl _) _) HX.out⟩
  | exact ⟨rfl, (((Below.refl _ w).alloc (Nat.le_refl _) _).alloc (by simp) _ : Nx w _)⟩
theorem on_nil (w : World) :
    Calls Tryz.prog 23 #[.pointer none] w fun e w' => e = .returned (.bool false) ∧ Nx w w' := by
  have VN := Lib.hid (fun W => valid_nil W)
  go_enter Tryz.func23, Tryz.ntmps23
  go_wp2_with fail
  refine (VN.out _).mono ?_
  rintro e w' ⟨rfl, rfl⟩
  clear VN
  go_wp2
  go_ret
  first
  | exact ⟨rfl, Nx.refl _⟩
  | exact ⟨rfl, Nx.trans (show Nx w (w.alloc (.cells #[.string (S p)] 9)) from (Below.refl _ w).alloc (Nat.le_refl _) _) HX.out⟩
  | exact ⟨rfl, (((Below.refl _ w).alloc (Nat.le_refl _) _).alloc (by simp) _ : Nx w _)⟩
theorem safe_nil (w : World) :
    Calls Tryz.prog 30 #[.pointer none] w fun e w' => e = .returned (.slice none 0 0) ∧ Nx w w' := by
  have VN := Lib.hid (fun W => valid_nil W)
  go_enter Tryz.func30, Tryz.ntmps30
  go_wp2_with fail
  refine (VN.out _).mono ?_
  rintro e w' ⟨rfl, rfl⟩
  clear VN
  go_wp2
  go_ret
  first
  | exact ⟨rfl, Nx.refl _⟩
  | exact ⟨rfl, Nx.trans (show Nx w (w.alloc (.cells #[.string (S p)] 9)) from (Below.refl _ w).alloc (Nat.le_refl _) _) HX.out⟩
  | exact ⟨rfl, (((Below.refl _ w).alloc (Nat.le_refl _) _).alloc (by simp) _ : Nx w _)⟩
set_option maxRecDepth 100000 in
theorem rename_nil (w : World) (p q : Str) :
    Calls Tryz.prog 108 #[.pointer none, .string (S p), .string (S q)] w fun e w' => e = .returned (.int .i64 1) ∧ Nx w w' := by
  have Z1 : Hid (BlkIs (((w.alloc (.cells #[.string (S p)] 9)).alloc (.cells #[.string (S q)] 9)).alloc (.cells #[.string (S q)] 9)) (w.heap.size + 2) 9 #[.string (S q)]) := by
    have := (BlkIs.new ((w.alloc (.cells #[.string (S p)] 9)).alloc (.cells #[.string (S q)] 9)) 9 #[.string (S q)])
    rw [World.size_alloc, World.size_alloc] at this
    exact this
  have FN : Hid (∀ W b, BlkIs W b 9 #[.string (S q)] → _) := fun W b hb => find_nil W p (some ⟨b, 0, none⟩) 1 1 [q] (by decide) ⟨rfl, .inr ⟨b, 1, _, rfl, Nat.zero_le _, hb, Nat.le_refl _, by decide, rfl, rfl⟩⟩
  have bl : Below w.heap.size w (((w.alloc (.cells #[.string (S p)] 9)).alloc (.cells #[.string (S q)] 9)).alloc (.cells #[.string (S q)] 9)) := (((Below.refl _ w).alloc (Nat.le_refl _) _).alloc (by simp) _).alloc (by simp; omega) _
  have B1 := Lib.hid bl
  clear bl
  generalize S p = sp at *
  generalize S q = sq at *
  go_enter Tryz.func108, Tryz.ntmps108
  go_wp2_with fail
  refine (FN.out _ (w.heap.size + 2) Z1.out).mono ?_
  rintro e w2 ⟨rfl, hc⟩
  have N2 : Hid (Nx w w2) := ((Chd.of_below B1.out).trans hc).below (Nat.le_refl _) (fun j hj e => by
    have : some (w.heap.size + 2) = some j := e
    rw [Option.some.injEq] at this
    omega)
  have hx : ∀ o, (w2.alloc o).heap.size = w2.heap.size + 1 := fun o => by simp
  clear hc FN Z1 B1
  go_wp2
  go_ret
  exact ⟨rfl, N2.out.alloc _⟩
end Go.Proofs.YtiikjdjpodmpcaaGreat
