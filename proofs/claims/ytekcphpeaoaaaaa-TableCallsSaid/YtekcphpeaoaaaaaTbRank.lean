/- Package table: the rank of a key, by the program and by the document's reference; a leaf. -/
import Derived.Test.YtekcphpeaoaaaaaTbA
import Derived.Laws.BitsAllLaws
namespace Go.Proofs.Ytekcphpeaoaaaaa
open Go.RowKit
set_option linter.unusedVariables false

theorem take_snoc (l : List UInt8) (i : Nat) (h : i < l.length) : l.take (i + 1) = l.take i ++ [l[i]] := by rw [List.take_succ_eq_append_getElem h]
theorem rstep_bits (x : Int) (c : Int) (d : UInt8) (hc : c = (d.toNat : Int)) (h1 : 0 ≤ x) (h2 : x ≤ 4294967295) : bits .xor .u32 x (c % 4294967296) * 16777619 % 4294967296 = rstep x d := by
  subst hc
  have hd := d.toNat_lt
  have e : ((d.toNat : Int) % 4294967296) = (d.toNat : Int) := by omega
  rw [e, u32_xor x (d.toNat : Int) h1 (by omega) (by omega) (by omega)]
  unfold rstep
  rw [Int.toNat_natCast]
  generalize x.toNat ^^^ d.toNat = y
  omega
theorem rank_step (k : Str) (j : Nat) (h : j < k.length) (c : Int) (hc : c = (k[j].toNat : Int)) : bits .xor .u32 (rankF 2166136261 (k.take j)) (c % 4294967296) * 16777619 % 4294967296 = rankF 2166136261 (k.take (j + 1)) := by
  have hb := rankF_bd (k.take j) 2166136261 (by omega) (by omega)
  rw [rstep_bits _ _ _ hc hb.1 hb.2, take_snoc k j h, rankF_snoc]

set_option maxRecDepth 100000 in
theorem rrank_any (w : World) (k : Str) (hk : k.length ≤ 1000000000000) :
    Calls Try.prog 31 #[.string (S k)] w fun e w' => e = .returned (.int .u32 (rank k)) ∧ w = w' := by
  have hsz := S_size k
  have HS := Lib.hid hsz
  have hsz2 : (S k).size ≤ 1000000000000 := by omega
  clear hsz
  go_enter Try.func31, Try.ntmps31
  go_wp2
  go_loop [3, 4] (fun x i => ∃ j : Nat, j ≤ (S k).size ∧ i = .int .i64 j ∧ x = .int .u32 (rankF 2166136261 (k.take j))) (fun _ i => (S k).size - (intOf i).toNat)
  case atStart => exact ⟨0, Nat.zero_le _, rfl, rfl⟩
  case round =>
    obtain ⟨j, hj, rfl, rfl⟩ := hrel
    have hb := rankF_bd (k.take j) 2166136261 (by omega) (by omega)
    obtain ⟨b1, b2⟩ := hb
    by_cases hlt : j < (S k).size
    · have HR := Lib.hid (rank_step k j (by rw [← HS.out]; exact hlt) ((S k)[j].toNat : Int) rfl)
      generalize rankF 2166136261 (List.take j k) = x at *
      go_wp2
      go_round
      case rel => exact ⟨j + 1, by omega, by go_num, by rw [HR.out]⟩
      case measure => simp [intOf]; omega
    · have HR : Hid (rankF 2166136261 (k.take j) = rank k) := by
        rw [List.take_of_length_le (by rw [← HS.out]; omega)]; rfl
      generalize rankF 2166136261 (List.take j k) = x at *
      go_wp2
      go_ret
      have e := HR.out
      subst e
      exact ⟨rfl, rfl⟩

set_option maxRecDepth 100000 in
theorem rank_any (w : World) (k : Str) (hk : k.length ≤ 1000000000000) :
    Calls Try.prog 12 #[.string (S k)] w fun e w' => e = .returned (.int .u32 (rank k)) ∧ Nx w w' := by
  have hsz := S_size k
  obtain ⟨c, w1, hrun, hbyt, hbel, hsz1⟩ := run_bytes_of_string' w (S k) (by unfold maxLen; omega)
  have HS := Lib.hid hsz
  have hsz2 : (S k).size ≤ 1000000000000 := by omega
  have hlies := hbyt.lies
  have hle := hbyt.le
  have hcap := hbyt.cap
  unfold maxLen at hcap
  have HL := Lib.hid hlies
  have HB := Lib.hid hbel
  clear hsz hbyt hsz1 hbel hlies
  go_enter Try.func12, Try.ntmps12
  go_wp2
  go_loop [3, 9] (fun x i => ∃ j : Nat, j ≤ (S k).size ∧ i = .int .i64 j ∧ x = .int .u32 (rankF 2166136261 (k.take j))) (fun _ i => (S k).size - (intOf i).toNat)
  case atStart => exact ⟨0, Nat.zero_le _, rfl, rfl⟩
  case round =>
    obtain ⟨j, hj, rfl, rfl⟩ := hrel
    have hb := rankF_bd (k.take j) 2166136261 (by omega) (by omega)
    obtain ⟨b1, b2⟩ := hb
    by_cases hlt : j < (S k).size
    · have hc : w1.cell? ⟨w.heap.size, j, none⟩ = some (.int .u8 (nth k j)) := by
        obtain ⟨b, o, e, _, hc⟩ := HL.out (by omega)
        simp only [Option.some.injEq, Addr.mk.injEq, and_true] at e
        obtain ⟨rfl, rfl⟩ := e
        have := hc j hlt
        rw [Nat.zero_add] at this
        exact this
      have HR := Lib.hid (rank_step k j (by rw [← HS.out]; exact hlt) (nth k j) (nth_eq k j (by rw [← HS.out]; exact hlt)))
      have n1 := nth_lo k j
      have n2 := nth_hi k j
      rw [show nth k j % 4294967296 = nth k j from by omega] at HR
      generalize rankF 2166136261 (List.take j k) = x at *
      generalize nth k j = c at *
      clear hrun
      go_wp2
      go_round
      case rel => exact ⟨j + 1, by omega, by go_num, by rw [← HR.out]⟩
      case measure => simp [intOf]; omega
    · have HR : Hid (rankF 2166136261 (k.take j) = rank k) := by
        rw [List.take_of_length_le (by rw [← HS.out]; omega)]; rfl
      generalize rankF 2166136261 (List.take j k) = x at *
      clear hrun
      go_wp2
      go_ret
      have e := HR.out
      subst e
      exact ⟨rfl, HB.out⟩

set_option maxRecDepth 100000 in
theorem leaf_any (w : World) (k x : Str) (k1 : k.length ≤ 100000) (k2 : x.length ≤ 100000) :
    Calls Try.prog 41 #[.string (S k), .string (S x)] w (Ret fun v w' => In0 w' v (.nd .nil k x .nil) ∧ Nx w w') := by
  have C1 := Lib.hid (fun W => clone_any W (S k) (by rw [S_size]; omega))
  have C2 := Lib.hid (fun W => clone_any W (S x) (by rw [S_size]; omega))
  have C3 := Lib.hid (fun W => rank_any W k (by omega))
  have FIN : Hid (∀ W : World, Nx w W → In0 (W.alloc (.cells (nodeC k x 1 (.pointer none) (.pointer none)) 66)) (.pointer (some ⟨W.heap.size, 0, none⟩)) (.nd .nil k x .nil) ∧ Nx w (W.alloc (.cells (nodeC k x 1 (.pointer none) (.pointer none)) 66))) :=
    fun W hW => ⟨In0.mk (B := 0) (B' := 0) (BlkIs.new W _ _) rfl rfl k1 k2, hW.alloc _⟩
  unfold nodeC at FIN
  generalize rank k = rk at *
  go_enter Try.func41, Try.ntmps41
  go_wp2_with fail
  refine (C1.out _).mono ?_
  rintro e w1 ⟨rfl, hb1⟩
  have H1 := Lib.hid hb1
  clear hb1
  go_wp2_with fail
  refine (C2.out _).mono ?_
  rintro e w2 ⟨rfl, hb2⟩
  have H2 := Lib.hid (H1.out.trans hb2)
  clear hb2
  go_wp2_with fail
  refine (C3.out _).mono ?_
  rintro e w3 ⟨rfl, hb3⟩
  have H3 := Lib.hid (H2.out.trans hb3)
  clear hb3
  go_wp2
  go_ret
  exact ⟨_, rfl, FIN.out w3 H3.out⟩

theorem find_nd (key : Str) (l : T) (k v : Str) (r : T) : (T.nd l k v r).find key = if k = key then T.nd l k v r else if lt key k then l.find key else r.find key := rfl
set_option maxRecDepth 100000 in
/-- The node with the key, or nil. -/
theorem find_any (w : World) (B : Nat) (v : Value) (t : T) (h : In w B v t) (key : Str) :
    Calls Try.prog 38 #[v, .string (S key)] w fun e w' => (∃ u, e = .returned (.pointer u) ∧ In w B (.pointer u) (t.find key)) ∧ w = w' := by
  obtain ⟨u, rfl⟩ := h.ptr
  have H := Lib.hid h
  clear h
  go_enter Try.func38, Try.ntmps38
  go_wp2
  go_loopg [0] t.size (fun n p wr => ∃ (q : Option Addr) (t' : T), p = .pointer q ∧ wr = w ∧ Hid (In w B (.pointer q) t' ∧ t'.find key = t.find key ∧ t'.size ≤ n))
  case atStart => exact ⟨u, t, rfl, rfl, ⟨H.out, rfl, Nat.le_refl _⟩⟩
  case round =>
    obtain ⟨q, t', rfl, rfl, hh⟩ := hrel
    cases t' with
    | nil =>
      obtain rfl : q = none := by have := hh.out.1; simpa [In] using this
      go_wp2
      go_ret
      exact ⟨⟨none, rfl, by rw [← hh.out.2.1]; rfl⟩, rfl⟩
    | nd l k x r =>
      have hin := hh.out.1
      have hfi := Lib.hid hh.out.2.1
      have hsz := Lib.hid hh.out.2.2
      have HH := Lib.hid hin
      obtain ⟨b, pl, pr, e, hb, hk, hl, hr, _⟩ := hin
      simp only [Value.pointer.injEq] at e
      subst e
      have c0 := (node_at hk).c0
      have c4 := (node_at hk).c4
      have c5 := (node_at hk).c5
      have hlt := S_lt key k
      have heq := S_eq k key
      obtain ⟨ul, rfl⟩ := hl.ptr
      obtain ⟨ur, rfl⟩ := hr.ptr
      have HL := Lib.hid hl
      have HR := Lib.hid hr
      clear hk hl hr hh
      by_cases e1 : k = key
      · have hfe : Hid (T.nd l k x r = t.find key) := by rw [← hfi.out, find_nd, if_pos e1]; rfl
        rw [decide_eq_true e1] at heq
        clear e1 hfi hlt c4 c5
        go_wp2
        go_ret
        exact ⟨⟨_, rfl, by rw [← hfe.out]; exact HH.out⟩, rfl⟩
      · rw [decide_eq_false e1] at heq
        by_cases e2 : lt key k = true
        · have hfe : Hid (l.find key = t.find key ∧ l.size < gk) := by
            have h1 := hfi.out
            rw [find_nd, if_neg e1, if_pos e2] at h1
            refine ⟨h1, ?_⟩
            have := hsz.out
            simp only [T.size] at this
            omega
          rw [e2] at hlt
          clear e1 e2 hfi c5
          go_wp2
          go_roundg l.size
          case measure => exact hfe.out.2
          case rel => exact ⟨ul, l, rfl, rfl, ⟨HL.out, hfe.out.1, Nat.le_refl _⟩⟩
        · have hfe : Hid (r.find key = t.find key ∧ r.size < gk) := by
            have h1 := hfi.out
            rw [find_nd, if_neg e1, if_neg e2] at h1
            refine ⟨h1, ?_⟩
            have := hsz.out
            simp only [T.size] at this
            omega
          have e2 : lt key k = false := by simpa using e2
          rw [e2] at hlt
          clear e1 e2 hfi c4
          go_wp2
          go_roundg r.size
          case measure => exact hfe.out.2
          case rel => exact ⟨ur, r, rfl, rfl, ⟨HR.out, hfe.out.1, Nat.le_refl _⟩⟩
end Go.Proofs.Ytekcphpeaoaaaaa
