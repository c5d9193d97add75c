/- Package table: stands. -/
import Derived.Test.YtekcphpeaoaaaaaTbDone
namespace Go.Proofs.Ytekcphpeaoaaaaa
open Go.RowKit Go.Shelf
set_option linter.unusedVariables false

attribute [local go_sem] Oper.semAt_some

/-- A slice that is read, and cut. -/
def RdC (w : World) (v : Value) (l : List Pr) : Prop := ∃ A c, v = .slice A l.length c ∧ l.length ≤ c ∧ c ≤ 9223372036854775807 ∧ (l = [] ∨ ∃ b o, A = some ⟨b, o, none⟩ ∧ ∀ (j : Nat) (u : Value), (prsC l)[j]? = some u → w.cell? ⟨b, o + j, none⟩ = some u)
theorem RdC.rd {w : World} {v : Value} {l : List Pr} (h : RdC w v l) : Rd w v l := by
  obtain ⟨A, c, rfl, _, _, rfl | ⟨b, o, rfl, hc⟩⟩ := h
  · exact .inl ⟨_, _, rfl, rfl⟩
  · exact .inr ⟨b, o, c, rfl, hc⟩
theorem RdC.nx {w w' : World} {v : Value} {l : List Pr} (h : RdC w v l) (k : Nx w w') : RdC w' v l := by
  obtain ⟨A, c, rfl, h1, h2, h3⟩ := h
  refine ⟨A, c, rfl, h1, h2, h3.imp id fun ⟨b, o, e, hc⟩ => ⟨b, o, e, fun j u hu => ?_⟩⟩
  have h1 := hc j u hu
  rw [World.cell?_of_block (k.block b (World.block_lt_of_cell? w ⟨b, o + j, none⟩ h1))]; exact h1
theorem Row.rdc {w : World} {B : Nat} {v : Value} {l : List Pr} (h : Row w B v l) : RdC w v l := by
  have hr := h
  rcases h.2 with ⟨rfl, h0⟩ | ⟨g, cap, cur, rfl, _, _, h1, h2, _⟩
  · obtain rfl := List.eq_nil_of_length_eq_zero h0
    exact ⟨none, 0, rfl, Nat.le_refl _, by omega, .inl rfl⟩
  · unfold maxLen at h2
    exact ⟨_, cap, rfl, h1, by omega, .inr ⟨g, 0, rfl, fun j u hu => by
      have := World.ownsRow.cells (w := w) hr (g := g) rfl j u hu
      rwa [add_plain] at this⟩⟩
theorem prsC_mid (a b d : List Pr) (j : Nat) (u : Value) (h : (prsC b)[j]? = some u) : (prsC (a ++ (b ++ d)))[a.length * 3 + j]? = some u := by
  rw [prsC_append, prsC_append, List.getElem?_append_right (by rw [prsC_length]; omega), prsC_length]
  have e : a.length * 3 + j - a.length * 3 = j := by omega
  rw [e, List.getElem?_append_left (List.getElem?_eq_some_iff.1 h).1]
  exact h
/-- A part of it. -/
theorem RdC.sub {w : World} {b o c : Nat} {x y z : List Pr} (h : RdC w (.slice (some ⟨b, o, none⟩) (x ++ (y ++ z)).length c) (x ++ (y ++ z))) : RdC w (.slice (some ⟨b, o + x.length * 3, none⟩) y.length (c - x.length)) y := by
  obtain ⟨A, c', e, h1, h2, h3⟩ := h
  simp only [Value.slice.injEq] at e
  obtain ⟨rfl, _, rfl⟩ := e
  simp only [List.length_append] at h1
  refine ⟨_, _, rfl, by omega, by omega, ?_⟩
  rcases h3 with e | ⟨b', o', e, hc⟩
  · left
    simp only [List.append_eq_nil_iff] at e
    exact e.2.1
  · right
    simp only [Option.some.injEq, Addr.mk.injEq, and_true] at e
    obtain ⟨rfl, rfl⟩ := e
    refine ⟨_, _, rfl, fun j u hu => ?_⟩
    have := hc _ u (prsC_mid x y z j u hu)
    rwa [← Nat.add_assoc] at this
theorem S_leq (a b : Str) (h : lt b a = true) : Op.bytesLess (S a).toList (S b).toList = false ∧ ((S a).toList == (S b).toList) = false := by
  rw [S_lt, S_eq]
  exact ⟨lt_asymm h, by simpa using (lt_ne h).symm⟩

theorem mem_pre (e : KV) : ∀ t : T, e ∈ t.pre ↔ e ∈ t.pairs
  | .nil => Iff.rfl
  | .nd l k v r => by
    have h1 := mem_pre e l
    have h2 := mem_pre e r
    simp only [T.pre, T.pairs, List.mem_cons, List.mem_append, h1, h2]
    constructor
    · rintro (h | h | h)
      · exact .inr (.inl h)
      · exact .inl h
      · exact .inr (.inr h)
    · rintro (h | h | h)
      · exact .inr (.inl h)
      · exact .inl h
      · exact .inr (.inr h)
theorem pre_length : ∀ t : T, t.pre.length = t.size
  | .nil => rfl
  | .nd l k v r => by
    have h1 := pre_length l
    have h2 := pre_length r
    simp only [T.pre, T.size, List.length_cons, List.length_append, h1, h2]; omega
/-- What is known of a node and of those behind it. -/
structure Std (w : World) (b o c : Nat) (k : Str) (p0 : Pr) (ls rs : List Pr) : Prop where
  k0 : p0.k = k
  kl : k.length ≤ 100000
  pl : ∀ p ∈ ls, lt p.k k = true ∧ rank p.k < rank k ∧ p.k.length ≤ 100000
  pr : ∀ p ∈ rs, lt k p.k = true ∧ rank p.k ≤ rank k ∧ p.k.length ≤ 100000
  rd : RdC w (.slice (some ⟨b, o, none⟩) (p0 :: (ls ++ rs)).length c) (p0 :: (ls ++ rs))
  sz : (p0 :: (ls ++ rs)).length ≤ 100000000
theorem Std.at_ {w : World} {b o c : Nat} {k : Str} {p0 : Pr} {ls rs : List Pr} (h : Std w b o c k p0 ls rs) (W : World) (hW : Nx w W) (j : Nat) (hj : j < (p0 :: (ls ++ rs)).length) : W.cell? ⟨b, o + j * 3, none⟩ = some (.string (S (p0 :: (ls ++ rs))[j].k)) := by
  obtain ⟨A, c', e, _, _, e2 | ⟨b', o', e', hc⟩⟩ := h.rd.nx hW
  · cases e2
  · simp only [Value.slice.injEq] at e
    obtain ⟨rfl, _, rfl⟩ := e
    simp only [Option.some.injEq, Addr.mk.injEq, and_true] at e'
    obtain ⟨rfl, rfl⟩ := e'
    exact (Rd.cells hc j hj).1
theorem Std.left {w : World} {b o c : Nat} {k : Str} {p0 : Pr} {ls rs : List Pr} (h : Std w b o c k p0 ls rs) (j : Nat) (h1 : 1 ≤ j) (h2 : j < 1 + ls.length) (hj : j < (p0 :: (ls ++ rs)).length) : (p0 :: (ls ++ rs))[j] ∈ ls := by
  obtain ⟨i, rfl⟩ : ∃ i, j = i + 1 := ⟨j - 1, by omega⟩
  rw [List.getElem_cons_succ, List.getElem_append_left (by omega)]
  exact List.getElem_mem _
theorem Std.right {w : World} {b o c : Nat} {k : Str} {p0 : Pr} {ls rs : List Pr} (h : Std w b o c k p0 ls rs) (j : Nat) (h1 : 1 + ls.length ≤ j) (hj : j < (p0 :: (ls ++ rs)).length) : (p0 :: (ls ++ rs))[j] ∈ rs := by
  obtain ⟨i, rfl⟩ : ∃ i, j = i + 1 := ⟨j - 1, by omega⟩
  rw [List.getElem_cons_succ, List.getElem_append_right (by omega)]
  exact List.getElem_mem _

set_option maxRecDepth 100000 in
theorem stands_none (w : World) (A : Addr) (c : Nat) : Calls Try.prog 37 #[.slice (some A) 0 c] w fun e w' => e = .returned (.bool true) ∧ Nx w w' := by
  have N0 := Lib.hid (Nx.refl w)
  go_enter Try.func37, Try.ntmps37
  go_wp2
  go_ret
  exact ⟨rfl, N0.out⟩
set_option maxRecDepth 100000 in
set_option maxHeartbeats 2000000 in
theorem stands_any (t : T) : t.Heap → Srt t.pairs → Shorts t.pairs → t.size ≤ 100000000 → ∀ (w : World) (v : Value), RdC w v (t.pre.map prOf) →
    Calls Try.prog 37 #[v] w fun e w' => e = .returned (.bool true) ∧ Nx w w' := by
  induction t with
  | nil =>
    intro _ _ _ _ w v hv
    obtain ⟨A, c, rfl, _⟩ := hv
    have N0 := Lib.hid (Nx.refl w)
    show Calls _ _ #[.slice A 0 c] _ _
    go_enter Try.func37, Try.ntmps37
    go_wp2
    go_ret
    exact ⟨rfl, N0.out⟩
  | nd l k x r il ir =>
    intro hh hs hsh hsz w v hv
    obtain ⟨t1, t2, hl, hr⟩ := hh
    obtain ⟨s1, s2, s3, s4⟩ := srt_mid.1 (show Srt (l.pairs ++ (k, x) :: r.pairs) from hs)
    have hpl := pre_length l
    have hpr := pre_length r
    have hnd : (T.nd l k x r).size = l.size + 1 + r.size := rfl
    have hkx := hsh (k, x) (by show (k, x) ∈ l.pairs ++ (k, x) :: r.pairs; simp)
    obtain ⟨A, c, rfl, hc1, hc2, e2 | ⟨b, o, rfl, hcell⟩⟩ := hv
    · cases e2
    have ST : Std w b o c k (prOf (k, x)) (l.pre.map prOf) (r.pre.map prOf) := by
      refine ⟨rfl, hkx.1, fun p hp => ?_, fun p hp => ?_, ?_, ?_⟩
      · obtain ⟨e, he, rfl⟩ := List.mem_map.1 hp
        have he := (mem_pre e l).1 he
        have h1 := s3 e he
        rcases top_iff.1 (t1 e he) with h2 | ⟨_, h2⟩
        · exact ⟨h1, h2, (hsh e (by show e ∈ l.pairs ++ (k, x) :: r.pairs; simp [he])).1⟩
        · rw [lt_asymm h1] at h2; cases h2
      · obtain ⟨e, he, rfl⟩ := List.mem_map.1 hp
        have he := (mem_pre e r).1 he
        have h1 := s4 e he
        refine ⟨h1, ?_, (hsh e (by show e ∈ l.pairs ++ (k, x) :: r.pairs; simp [he])).1⟩
        rcases top_iff.1 (t2 e he) with h2 | ⟨h2, _⟩
        · exact Int.le_of_lt h2
        · exact Int.le_of_eq h2.symm
      · have e : (T.nd l k x r).pre.map prOf = prOf (k, x) :: (l.pre.map prOf ++ r.pre.map prOf) := by simp [T.pre]
        rw [e] at hc1 hcell
        exact ⟨_, _, rfl, hc1, hc2, .inr ⟨b, o, rfl, hcell⟩⟩
      · simp only [List.length_cons, List.length_append, List.length_map]; omega
    have IL : Hid (∀ W, Nx w W → Calls Try.prog 37 #[.slice (some ⟨b, o + 1 * 3, none⟩) (l.pre.map prOf).length (c - 1)] W fun e w' => e = .returned (.bool true) ∧ Nx W w') := fun W hW =>
      il hl s1 (fun e he => hsh e (by show e ∈ l.pairs ++ (k, x) :: r.pairs; simp [he])) (by omega) W _ (RdC.sub (x := [prOf (k, x)]) (ST.rd.nx hW))
    have IR : Hid (∀ W, Nx w W → Calls Try.prog 37 #[.slice (some ⟨b, o + (1 + (l.pre.map prOf).length) * 3, none⟩) (r.pre.map prOf).length (c - (1 + (l.pre.map prOf).length))] W fun e w' => e = .returned (.bool true) ∧ Nx W w') := fun W hW => by
      have h := RdC.sub (x := prOf (k, x) :: l.pre.map prOf) (y := r.pre.map prOf) (z := []) (w := W) (b := b) (o := o) (c := c) (by simpa using ST.rd.nx hW)
      rw [List.length_cons, Nat.add_comm (l.pre.map prOf).length 1] at h
      exact ir hr s2 (fun e he => hsh e (by show e ∈ l.pairs ++ (k, x) :: r.pairs; simp [he])) (by omega) W _ h
    have hlen : (T.nd l k x r).pre.map prOf = prOf (k, x) :: (l.pre.map prOf ++ r.pre.map prOf) := by simp [T.pre]
    rw [hlen] at hc1 ⊢
    have hlc : (prOf (k, x) :: (l.pre.map prOf ++ r.pre.map prOf)).length = 1 + (l.pre.map prOf).length + (r.pre.map prOf).length := by simp; omega
    generalize prOf (k, x) = p0 at *
    generalize l.pre.map prOf = ls at *
    generalize r.pre.map prOf = rs at *
    obtain ⟨N, hN⟩ : ∃ N, (p0 :: (ls ++ rs)).length = N := ⟨_, rfl⟩
    rw [hN] at hc1 hlc ⊢
    have HST := Lib.hid ST
    have hNs : N ≤ 100000000 := by rw [← hN]; exact ST.sz
    clear ST hcell hlen hsh hs hl hr s1 s2 s3 s4 t1 t2 il ir hpl hpr hnd hsz hkx
    have HN := Lib.hid hN
    have HLC := Lib.hid hlc
    clear hN hlc
    have N0 := Lib.hid (Nx.refl w)
    have c0 : w.cell? ⟨b, o, none⟩ = some (.string (S k)) := by
      have := HST.out.at_ w (Nx.refl w) 0 (by rw [HN.out, HLC.out]; omega)
      rw [Nat.zero_mul, Nat.add_zero] at this
      rw [this]
      show some (Value.string (S p0.k)) = _
      rw [HST.out.k0]
    have RK := Lib.hid (rank_any w k (by have := HST.out.kl; omega))
    have e1 : ((N : Int) == 0) = false := by have := HLC.out; simp; omega
    have e5 : (0 : Int) < (N : Int) := by have := HLC.out; omega
    have e6 : 0 < N := by have := HLC.out; omega
    have e7 : N ≠ 0 := by have := HLC.out; omega
    go_enter Try.func37, Try.ntmps37
    go_wp2_with fail
    refine RK.out.mono ?_
    rintro e w2 ⟨rfl, hn2⟩
    have N2 := Lib.hid hn2
    clear RK hn2
    go_wp2
    go_loopg [4] ls.length (fun n p4 wr => ∃ (j : Nat), p4 = .int .i64 (j : Int) ∧ Hid (1 ≤ j ∧ j + n = 1 + ls.length ∧ Nx w wr))
    case atStart => exact ⟨1, rfl, Nat.le_refl _, rfl, N2.out⟩
    case round =>
      obtain ⟨j, rfl, hh⟩ := hrel
      obtain ⟨hj1, hj2, hnx⟩ := hh.out
      have HNX := Lib.hid hnx
      have hls := HLC.out
      have z0 : wr.cell? ⟨b, o, none⟩ = some (.string (S k)) := by rw [World.cell?_of_block (hnx.block b (World.block_lt_of_cell? w ⟨b, o, none⟩ c0))]; exact c0
      have j0 : (0 : Int) ≤ (j : Int) := by omega
      by_cases hlt : j < 1 + ls.length
      · have hjN : j < (p0 :: (ls ++ rs)).length := by rw [HN.out, HLC.out]; omega
        have x0 := HST.out.at_ wr hnx j hjN
        obtain ⟨y1, y2, y3⟩ := HST.out.pl _ (HST.out.left j hj1 hlt hjN)
        generalize (p0 :: (ls ++ rs))[j] = p at *
        have e2 : decide ((j : Int) < (N : Int)) = true := by simp; omega
        have e3 : (j : Int) < (N : Int) := by omega
        have d1 : Op.bytesLess (S p.k).toList (S k).toList = true := by rw [S_lt]; exact y1
        have d2 : decide (rank k ≤ rank p.k) = false := by simp; omega
        have hw : IntKind.i64.wrap ((j : Int) + 1) = (j : Int) + 1 := IntWalk.i64_in _ (by omega)
        have RK2 : Hid (∀ V, Calls Try.prog 12 #[.string (S p.k)] V fun e w' => e = .returned (.int .u32 (rank p.k)) ∧ Nx V w') := fun V => rank_any V p.k (by omega)
        have NXT : Hid (gk - 1 < gk ∧ 1 ≤ j + 1 ∧ j + 1 + (gk - 1) = 1 + ls.length) := ⟨by omega, by omega, by omega⟩
        clear hh hnx hj1 hj2 hls hlt hjN y1 y2 y3
        go_wp2_with fail
        go_quiet (fail)
        go_wp2_with fail
        refine (RK2.out _).mono ?_
        rintro e w3 ⟨rfl, hn3⟩
        have N3 : Hid (Nx w w3) := (HNX.out.drewN _).trans hn3
        clear RK2 hn3 z0 x0
        go_wp2
        go_roundg (gk - 1)
        case measure => exact NXT.out.1
        case rel => exact ⟨j + 1, by push_cast; rfl, NXT.out.2.1, NXT.out.2.2, N3.out⟩
      · have hje : j = 1 + ls.length := by omega
        have HJ := Lib.hid hje
        by_cases hN2 : j < N
        · have hjN : j < (p0 :: (ls ++ rs)).length := by rw [HN.out]; exact hN2
          have x0 := HST.out.at_ wr hnx j hjN
          obtain ⟨y1, y2, y3⟩ := HST.out.pr _ (HST.out.right j (by omega) hjN)
          generalize (p0 :: (ls ++ rs))[j] = p at *
          have e2 : decide ((j : Int) < (N : Int)) = true := by simp; omega
          have e3 : (j : Int) < (N : Int) := by omega
          have d1 : Op.bytesLess (S p.k).toList (S k).toList = false := by rw [S_lt]; exact lt_asymm y1
          clear hh hnx hj1 hj2 hls hlt hjN y1 y2 y3 hje hN2
          go_wp2_with fail
          go_quiet (fail)
          clear x0 e2 e3 d1 z0
          go_wp2
          go_loopg [5] rs.length (fun n p5 wr => ∃ (i : Nat), p5 = .int .i64 (i : Int) ∧ Hid (1 + ls.length ≤ i ∧ i + n = N ∧ Nx w wr))
          case atStart => exact ⟨j, rfl, by rw [HJ.out]; exact Nat.le_refl _, by rw [HJ.out]; exact HLC.out.symm, HNX.out.drewN _⟩
          case round =>
            obtain ⟨i, rfl, hh⟩ := hrel
            obtain ⟨hi1, hi2, hnx⟩ := hh.out
            have HNX := Lib.hid hnx
            have i0 : (0 : Int) ≤ (i : Int) := by omega
            have z0 : wr.cell? ⟨b, o, none⟩ = some (.string (S k)) := by rw [World.cell?_of_block (hnx.block b (World.block_lt_of_cell? w ⟨b, o, none⟩ c0))]; exact c0
            by_cases hlt : i < N
            · have hjN : i < (p0 :: (ls ++ rs)).length := by rw [HN.out]; exact hlt
              have AT := Lib.hid (fun V hV => HST.out.at_ V hV i hjN)
              obtain ⟨y1, y2, y3⟩ := HST.out.pr _ (HST.out.right i hi1 hjN)
              generalize (p0 :: (ls ++ rs))[i] = p at *
              have x0 := AT.out wr hnx
              have e2 : decide ((i : Int) < (N : Int)) = true := by simp; omega
              have e3 : (i : Int) < (N : Int) := by omega
              obtain ⟨d1, d2⟩ := S_leq p.k k y1
              have d3 : decide (rank k < rank p.k) = false := by simp; omega
              have hw : IntKind.i64.wrap ((i : Int) + 1) = (i : Int) + 1 := IntWalk.i64_in _ (by omega)
              have RK2 : Hid (∀ V, Calls Try.prog 12 #[.string (S p.k)] V fun e w' => e = .returned (.int .u32 (rank p.k)) ∧ Nx V w') := fun V => rank_any V p.k (by omega)
              have KC : Hid (∀ V, Nx w V → V.cell? ⟨b, o + i * 3, none⟩ = some (.string (S p.k)) ∧ V.cell? ⟨b, o, none⟩ = some (.string (S k))) := fun V hV =>
                ⟨AT.out V hV, by rw [World.cell?_of_block (hV.block b (World.block_lt_of_cell? w ⟨b, o, none⟩ c0))]; exact c0⟩
              have NXT : Hid (gk - 1 < gk ∧ 1 + ls.length ≤ i + 1 ∧ i + 1 + (gk - 1) = N) := ⟨by omega, by omega, by omega⟩
              clear hh hnx hi1 hi2 hlt hjN y1 y2 y3
              go_wp2_with fail
              go_region_held3 (fun V => V.cell? ⟨b, o + i * 3, none⟩ = some (.string (S p.k)) ∧ V.cell? ⟨b, o, none⟩ = some (.string (S k)))
                (first | exact KC.out _ N3.out | go_keep)
                ((go_at_call 12; refine (RK2.out _).mono ?_; rintro e w3 ⟨rfl, hn3⟩; have N3 := Lib.hid ((HNX.out.trans (Nx.drew (Nx.refl wr))).trans hn3); clear hn3))
              clear x0 z0 d1 d2
              go_wp2
              go_roundg (gk - 1)
              case measure => exact NXT.out.1
              case rel => exact ⟨i + 1, by push_cast; rfl, NXT.out.2.1, NXT.out.2.2, N3.out⟩
            · have hin : i = N := by omega
              subst hin
              have hje := HJ.out
              have hlc := HLC.out
              have s1 : (1 : Int) ≤ (j : Int) := by omega
              have s2 : (j : Int) ≤ (c : Int) := by omega
              have s3 : (j : Int) ≤ (i : Int) := by omega
              have s4 : (i : Int) ≤ (c : Int) := by omega
              have IL3 : Hid (∀ (A' : Addr) (c' : Nat), (A' = ⟨b, o + 3, none⟩ ∧ c' = c - 1) ∨ (ls.length = 0 ∧ c' = 0) → Calls Try.prog 37 #[.slice (some A') (j - 1) c'] wr fun e w' => e = .returned (.bool true) ∧ Nx wr w') := fun A' c' h => by
                have e : j - 1 = ls.length := by omega
                rw [e]
                rcases h with ⟨rfl, rfl⟩ | ⟨h1, rfl⟩
                · exact IL.out wr hnx
                · rw [h1]
                  exact stands_none wr A' 0
              have IR3 : Hid (∀ W, Nx wr W → ∀ (A' : Addr) (c' : Nat), (A' = ⟨b, o + j * 3, none⟩ ∧ c' = c - j) ∨ (rs.length = 0 ∧ c' = 0) → Calls Try.prog 37 #[.slice (some A') (i - j) c'] W fun e w' => e = .returned (.bool true) ∧ Nx W w') := fun W hW A' c' h => by
                have e : i - j = rs.length := by omega
                rw [e]
                rcases h with ⟨rfl, rfl⟩ | ⟨h1, rfl⟩
                · have h := IR.out W (hnx.trans hW)
                  rw [← hje] at h
                  exact h
                · rw [h1]
                  exact stands_none W A' 0
              have FX : Hid (j = 1 + ls.length ∧ i = 1 + ls.length + rs.length) := ⟨hje, hlc⟩
              clear hje hlc hh hnx hi1 hi2 hlt z0
              go_wp2_with fail
              all_goals
                refine (IL3.out _ _ (by first | exact .inl ⟨rfl, rfl⟩ | (right; have := FX.out; exact ⟨by omega, by omega⟩))).mono ?_
                rintro e w5 ⟨rfl, hn5⟩
                have N5 := Lib.hid (HNX.out.trans hn5)
                have IR5 := Lib.hid (IR3.out w5 hn5)
                clear hn5
                go_wp2_with fail
              all_goals
                refine (IR5.out _ _ (by first | exact .inl ⟨rfl, rfl⟩ | (right; have := FX.out; exact ⟨by omega, by omega⟩))).mono ?_
                rintro e w6 ⟨rfl, hn6⟩
                have N6 := Lib.hid (N5.out.trans hn6)
                clear hn6
                go_wp2
                go_ret
                exact ⟨rfl, N6.out⟩
        · have e2 : decide ((j : Int) < (N : Int)) = false := by simp; omega
          have e3 : decide (j < N) = false := by simp; omega
          clear hh hnx hj1 hj2 hls hlt hje hN2
          go_wp2_with fail
          go_quiet (fail)
          clear e2 e3 z0
          go_wp2
          go_loopg [5] rs.length (fun n p5 wr => ∃ (i : Nat), p5 = .int .i64 (i : Int) ∧ Hid (1 + ls.length ≤ i ∧ i + n = N ∧ Nx w wr))
          case atStart => exact ⟨j, rfl, by rw [HJ.out]; exact Nat.le_refl _, by rw [HJ.out]; exact HLC.out.symm, HNX.out.drewN _⟩
          case round =>
            obtain ⟨i, rfl, hh⟩ := hrel
            obtain ⟨hi1, hi2, hnx⟩ := hh.out
            have HNX := Lib.hid hnx
            have i0 : (0 : Int) ≤ (i : Int) := by omega
            have z0 : wr.cell? ⟨b, o, none⟩ = some (.string (S k)) := by rw [World.cell?_of_block (hnx.block b (World.block_lt_of_cell? w ⟨b, o, none⟩ c0))]; exact c0
            by_cases hlt : i < N
            · have hjN : i < (p0 :: (ls ++ rs)).length := by rw [HN.out]; exact hlt
              have AT := Lib.hid (fun V hV => HST.out.at_ V hV i hjN)
              obtain ⟨y1, y2, y3⟩ := HST.out.pr _ (HST.out.right i hi1 hjN)
              generalize (p0 :: (ls ++ rs))[i] = p at *
              have x0 := AT.out wr hnx
              have e2 : decide ((i : Int) < (N : Int)) = true := by simp; omega
              have e3 : (i : Int) < (N : Int) := by omega
              obtain ⟨d1, d2⟩ := S_leq p.k k y1
              have d3 : decide (rank k < rank p.k) = false := by simp; omega
              have hw : IntKind.i64.wrap ((i : Int) + 1) = (i : Int) + 1 := IntWalk.i64_in _ (by omega)
              have RK2 : Hid (∀ V, Calls Try.prog 12 #[.string (S p.k)] V fun e w' => e = .returned (.int .u32 (rank p.k)) ∧ Nx V w') := fun V => rank_any V p.k (by omega)
              have KC : Hid (∀ V, Nx w V → V.cell? ⟨b, o + i * 3, none⟩ = some (.string (S p.k)) ∧ V.cell? ⟨b, o, none⟩ = some (.string (S k))) := fun V hV =>
                ⟨AT.out V hV, by rw [World.cell?_of_block (hV.block b (World.block_lt_of_cell? w ⟨b, o, none⟩ c0))]; exact c0⟩
              have NXT : Hid (gk - 1 < gk ∧ 1 + ls.length ≤ i + 1 ∧ i + 1 + (gk - 1) = N) := ⟨by omega, by omega, by omega⟩
              clear hh hnx hi1 hi2 hlt hjN y1 y2 y3
              go_wp2_with fail
              go_region_held3 (fun V => V.cell? ⟨b, o + i * 3, none⟩ = some (.string (S p.k)) ∧ V.cell? ⟨b, o, none⟩ = some (.string (S k)))
                (first | exact KC.out _ N3.out | go_keep)
                ((go_at_call 12; refine (RK2.out _).mono ?_; rintro e w3 ⟨rfl, hn3⟩; have N3 := Lib.hid ((HNX.out.trans (Nx.drew (Nx.refl wr))).trans hn3); clear hn3))
              clear x0 z0 d1 d2
              go_wp2
              go_roundg (gk - 1)
              case measure => exact NXT.out.1
              case rel => exact ⟨i + 1, by push_cast; rfl, NXT.out.2.1, NXT.out.2.2, N3.out⟩
            · have hin : i = N := by omega
              subst hin
              have hje := HJ.out
              have hlc := HLC.out
              have s1 : (1 : Int) ≤ (j : Int) := by omega
              have s2 : (j : Int) ≤ (c : Int) := by omega
              have s3 : (j : Int) ≤ (i : Int) := by omega
              have s4 : (i : Int) ≤ (c : Int) := by omega
              have IL3 : Hid (∀ (A' : Addr) (c' : Nat), (A' = ⟨b, o + 3, none⟩ ∧ c' = c - 1) ∨ (ls.length = 0 ∧ c' = 0) → Calls Try.prog 37 #[.slice (some A') (j - 1) c'] wr fun e w' => e = .returned (.bool true) ∧ Nx wr w') := fun A' c' h => by
                have e : j - 1 = ls.length := by omega
                rw [e]
                rcases h with ⟨rfl, rfl⟩ | ⟨h1, rfl⟩
                · exact IL.out wr hnx
                · rw [h1]
                  exact stands_none wr A' 0
              have IR3 : Hid (∀ W, Nx wr W → ∀ (A' : Addr) (c' : Nat), (A' = ⟨b, o + j * 3, none⟩ ∧ c' = c - j) ∨ (rs.length = 0 ∧ c' = 0) → Calls Try.prog 37 #[.slice (some A') (i - j) c'] W fun e w' => e = .returned (.bool true) ∧ Nx W w') := fun W hW A' c' h => by
                have e : i - j = rs.length := by omega
                rw [e]
                rcases h with ⟨rfl, rfl⟩ | ⟨h1, rfl⟩
                · have h := IR.out W (hnx.trans hW)
                  rw [← hje] at h
                  exact h
                · rw [h1]
                  exact stands_none W A' 0
              have FX : Hid (j = 1 + ls.length ∧ i = 1 + ls.length + rs.length) := ⟨hje, hlc⟩
              clear hje hlc hh hnx hi1 hi2 hlt z0
              go_wp2_with fail
              all_goals
                refine (IL3.out _ _ (by first | exact .inl ⟨rfl, rfl⟩ | (right; have := FX.out; exact ⟨by omega, by omega⟩))).mono ?_
                rintro e w5 ⟨rfl, hn5⟩
                have N5 := Lib.hid (HNX.out.trans hn5)
                have IR5 := Lib.hid (IR3.out w5 hn5)
                clear hn5
                go_wp2_with fail
              all_goals
                refine (IR5.out _ _ (by first | exact .inl ⟨rfl, rfl⟩ | (right; have := FX.out; exact ⟨by omega, by omega⟩))).mono ?_
                rintro e w6 ⟨rfl, hn6⟩
                have N6 := Lib.hid (N5.out.trans hn6)
                clear hn6
                go_wp2
                go_ret
                exact ⟨rfl, N6.out⟩
end Go.Proofs.Ytekcphpeaoaaaaa
