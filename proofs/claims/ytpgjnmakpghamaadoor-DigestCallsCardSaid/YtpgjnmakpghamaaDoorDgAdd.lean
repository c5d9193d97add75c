/- add: all bytes, block by block. -/
import Derived.Test.YtpgjnmakpghamaaDoorDgHold
namespace Go.Proofs.YtpgjnmakpghamaaDoor
open Go.RowKit
set_option linter.unusedVariables false

theorem Byt.tailR {w : World} {B n c : Nat} {A : Option Addr} {l : List UInt8} (h : Byt w B A n c l) {lo : Nat} (h1 : lo ≤ n) : Byt w B (if c = lo then A else A.map (·.add lo)) (n - lo) (c - lo) (l.drop lo) := by
  have := h.cut (lo := lo) (hi := n) h1 (Nat.le_refl _)
  rwa [List.take_of_length_le (by rw [h.len]; exact Nat.le_refl _)] at this

/-- Bytes that lie in another block than g. -/
structure Src (w : World) (g : Nat) (A : Option Addr) (n c : Nat) (l : List UInt8) : Prop where
  byt : Byt w w.heap.size A n c l
  apart : 0 < n → ∀ b o s, A = some ⟨b, o, s⟩ → b ≠ g
theorem Src.grown {w w' : World} {g n c : Nat} {A : Option Addr} {l : List UInt8} (h : Src w g A n c l) (hg : w.grownBy w' (some g)) : Src w' g A n c l := by
  refine ⟨⟨h.byt.len, h.byt.le, h.byt.cap, fun h0 => ?_⟩, h.apart⟩
  obtain ⟨b, o, rfl, hb, hc⟩ := h.byt.lies h0
  refine ⟨b, o, rfl, Nat.lt_of_lt_of_le hb hg.size, fun j hj => ?_⟩
  have hbl := hg.block b hb (fun e => h.apart h0 b o none rfl (by injection e))
  have := hc j hj
  unfold World.cell? at this ⊢
  simp only at this ⊢
  rw [hbl]
  exact this
theorem Src.here {w w' : World} {g n c : Nat} {A : Option Addr} {l : List UInt8} (h : Src w g A n c l) (hb : Below w.heap.size w w') : Src w' g A n c l := ⟨(h.byt.same hb).more hb.size, h.apart⟩
theorem Src.tail {w : World} {g n c : Nat} {A : Option Addr} {l : List UInt8} (h : Src w g A n c l) {lo : Nat} (h1 : lo ≤ n) : Src w g (if c = lo then A else A.map (·.add lo)) (n - lo) (c - lo) (l.drop lo) := by
  refine ⟨h.byt.tailR h1, fun h0 b o s e => ?_⟩
  obtain ⟨b', o', rfl, _, _⟩ := h.byt.lies (by omega)
  split at e
  · injection e with e
    injection e with e1 e2 e3
    subst e1
    exact h.apart (by omega) b' o' none rfl
  · rw [Option.map_some, add_plain] at e
    injection e with e
    injection e with e1 e2 e3
    subst e1
    exact h.apart (by omega) b' o' none rfl

theorem nums_drop (l : List UInt8) (k : Nat) : nums (l.drop k) = (nums l).drop k := by simp [nums, List.map_drop]

def lenV : Value → Nat
  | .slice _ n _ => n
  | _ => 0
theorem msgL_st_set (m : Msg) (ex : List Value) (i x : Nat) (hi : i < m.st.length) : (msgL m ex).set i (.int .u32 (x : Int)) = msgL ⟨m.st.set i x, m.rest, m.n⟩ ex := by
  unfold msgL
  rw [List.set_append, if_pos (by simp; omega)]
  simp [List.map_set]
theorem MsgAt.putS {g : Nat} {t : TypeId} {ex : List Value} : ∀ (ls : List Nat) (w : World) (m : Msg) (i : Nat), MsgAt w g t ex m → Words ls → i + ls.length ≤ 8 →
    MsgAt (w.setCells g i (ls.map fun x : Nat => Value.int .u32 (x : Int))) g t ex ⟨putAll m.st i ls, m.rest, m.n⟩ ∧ w.grownBy (w.setCells g i (ls.map fun x : Nat => Value.int .u32 (x : Int))) (some g)
  | [], w, m, i, h, _, _ => ⟨h, World.grownBy.refl w _⟩
  | c :: r, w, m, i, h, hb, hi => by
    simp only [List.length_cons] at hi
    have hc : c < 4294967296 := hb 0
    have h1 : MsgAt (w.setCell ⟨g, i, none⟩ (.int .u32 (c : Int))) g t ex ⟨m.st.set i c, m.rest, m.n⟩ := by
      refine ⟨?_, by simp [h.hs], h.hr, h.sw.set i c hc, h.rb⟩
      have := h.blk.set i (.int .u32 (c : Int))
      rwa [toArray_set, msgL_st_set m ex i c (by rw [h.hs]; omega)] at this
    obtain ⟨h2, g2⟩ := MsgAt.putS r _ _ (i + 1) h1 (fun j => hb (j + 1)) (by omega)
    exact ⟨h2, grown_trans (grown_set w g i _) g2⟩
theorem putAll_full : ∀ (X s : List Nat) (i : Nat), s.length = i + X.length → putAll s i X = s.take i ++ X
  | [], s, i, h => by simp only [List.length_nil] at h; rw [putAll, List.append_nil, List.take_of_length_le (by omega)]
  | c :: r, s, i, h => by
    simp only [List.length_cons] at h
    rw [putAll, putAll_full r _ _ (by rw [List.length_set]; omega), List.take_succ_eq_append_getElem (by rw [List.length_set]; omega), List.take_set_of_le (by omega)]
    simp
theorem MsgAt.there_st {w : World} {g : Nat} {t : TypeId} {ex : List Value} {m : Msg} (h : MsgAt w g t ex m) (n : Nat) (hn : n = 8) : w.there g 0 n := fun j hj => by
  have hlt : 0 + j < (msgL m ex).toArray.size := by have := h.sizeOk; omega
  exact ⟨by rw [h.blk.cell, Array.getElem?_eq_getElem hlt]; rfl, h.blk.frozen _⟩
theorem K0_words : Words K0 := fun i => by
  by_cases h : i < 64
  · rw [K0_at i h]
    exact Nat.mod_lt _ (by omega)
  · rw [List.getD, List.getElem?_eq_none (by rw [K0_length]; omega)]
    decide
/-- What the walk of add keeps. -/
structure AddM (w wr : World) (g : Nat) (t : TypeId) (ex : List Value) (m : Msg) (A : Option Addr) (n c : Nat) (l : List UInt8) : Prop where
  msg : MsgAt wr g t ex m
  src : Src wr g A n c l
  key : BlkIs wr w.heap.size 31 (u32s K0)
  grown : w.grownBy wr (some g)

set_option maxRecDepth 100000 in
set_option maxHeartbeats 400000 in
theorem add_any (w : World) (g : Nat) (t : TypeId) (ex : List Value) (m0 : Msg) (h : MsgAt w g t ex m0) (n0 c0 : Nat) (A0 : Option Addr) (l0 : List UInt8) (hb : Src w g A0 n0 c0 l0) (hn : m0.n + n0 ≤ 4611686018427387904) :
    Calls Tryd.prog 36 #[.pointer (some ⟨g, 0, none⟩), .slice A0 n0 c0, .agg (u32s K0)] w fun e w' => e = .returned (.tuple #[]) ∧ MsgAt w' g t ex (absorbs m0 (nums l0)) ∧ w.grownBy w' (some g) := by
  have hal : Below w.heap.size w (w.alloc (.cells (u32s K0) 31)) := (Below.refl _ _).alloc (Nat.le_refl _) _
  have hst : AddM w (w.alloc (.cells (u32s K0) 31)) g t ex m0 A0 n0 c0 l0 := ⟨h.here hal, hb.here hal, BlkIs.new _ _ _, ⟨hal.os, hal.tape, hal.output, hal.size, fun k hk _ => hal.block k hk⟩⟩
  have Hst := Lib.hid hst
  have Hlt := Lib.hid h.blk.lt
  obtain ⟨R, hR⟩ : ∃ R, absorbs m0 (nums l0) = R := ⟨_, rfl⟩
  rw [hR]
  have HR := Lib.hid hR
  have Hn : Hid (m0.n + n0 ≤ 4611686018427387904) := hn
  clear h hb hal hst hR hn
  go_enter Tryd.func36, Tryd.ntmps36
  go_wp2
  go_loopw [1] (fun x wr => ∃ (A : Option Addr) (n c : Nat) (l : List UInt8) (m : Msg), x = .slice A n c ∧ AddM w wr g t ex m A n c l ∧ Hid (absorbs m (nums l) = R) ∧ Hid (m.n + n ≤ 4611686018427387904)) (fun x _ => lenV x)
  case atStart => exact ⟨A0, n0, c0, l0, m0, rfl, Hst.out, HR.out, Hn.out⟩
  case round =>
    obtain ⟨A, n, c, l, m, rfl, hm, hr, hn⟩ := hrel
    have Hm := Lib.hid hm
    clear Hst HR Hn hm
    by_cases h0 : n = 0
    · subst h0
      have hl : l = [] := List.eq_nil_of_length_eq_zero Hm.out.src.byt.len
      subst hl
      have hres := Hm.out.msg
      rw [show m = R from hr.out] at hres
      have Hres := Lib.hid hres
      clear hres
      go_wp2
      refine bodyPost_end (results_none rfl _ _ _) rfl ?_
      exact ⟨rfl, Hres.out, Hm.out.grown⟩
    · obtain ⟨r, hrr⟩ : ∃ r, m.n % 64 = r := ⟨_, rfl⟩
      obtain ⟨K, hK⟩ : ∃ K, min n (64 - r) = K := ⟨_, rfl⟩
      have hc1 := hold_any wr g t ex m Hm.out.msg wr.heap.size n c A l Hm.out.src.byt (by have := hn.out; omega)
      rw [hrr, hK] at hc1
      have Hc1 := Lib.hid hc1
      have hlen := Hm.out.src.byt.len
      have hle := Hm.out.src.byt.le
      have hcap := Hm.out.src.byt.cap
      unfold maxLen at hcap
      have k1 : K ≤ n := by omega
      have k2 : (K : Int) ≤ n := by omega
      have k3 : (0 : Int) ≤ K := by omega
      have k4 : (n : Int) ≤ c := by omega
      have k5 : (0 : Int) < n := by omega
      have k0 : 0 < K := by omega
      have hroom : (m.n + K) % 64 = (if K = 64 - r then 0 else r + K) := by split <;> omega
      have Hroom := Lib.hid hroom
      have Hrr := Lib.hid hrr
      have HK := Lib.hid hK
      have Hlen := Lib.hid hlen
      have HT0 := Lib.hid (Hm.out.src.tail k1)
      obtain ⟨b, o, rfl, -, -⟩ := Hm.out.src.byt.lies (by omega)
      clear hc1 hlen hroom hrr hK
      have hsplit : absorbs (absorbs m ((nums l).take K)) (nums (l.drop K)) = R := by
        rw [nums_drop, ← absorbs_append, List.take_append_drop]
        exact hr.out
      have Hsplit := Lib.hid hsplit
      clear hsplit
      by_cases hx0 : c = K
      · have HT1 := HT0.out
        rw [if_pos hx0, hx0, Nat.sub_self] at HT1
        rw [hx0] at Hc1
        have HT := Lib.hid HT1
        clear HT1 HT0
        go_wp2_with fail
        refine Hc1.out.mono ?_
        rintro e w2 ⟨rfl, hm2, hg2⟩
        have HT2 := Lib.hid (HT.out.grown hg2)
        have Hk2 := Lib.hid (Hm.out.key.grown hg2 (by have := Hlt.out; simp; omega))
        have Hg2 := Lib.hid (grown_trans Hm.out.grown hg2)
        have Hm2 := Lib.hid hm2
        clear HT hm2 hg2 Hc1
        go_wp2_with fail
        refine (room_any w2 g (m.n + K) Hm2.out.size_).mono ?_
        rintro e w' ⟨rfl, rfl⟩
        rw [Hroom.out]
        by_cases hfull : K = 64 - r
        · rw [if_pos hfull]
          obtain ⟨P, hP⟩ : ∃ P, putAll m.rest r ((nums l).take (64 - r)) = P := ⟨_, rfl⟩
          have hnr : m.n % 64 = r := Hrr.out
          rw [hP] at Hm2
          have hP64 : P.length = 64 := by rw [← hP, putAll_length]; exact Hm.out.msg.hr
          have hPb : Bytes P := by rw [← hP]; exact putAll_bytes _ _ _ Hm.out.msg.rb (bytes_take _ _ (nums_bytes l))
          have hst8 := Hm.out.msg.hs
          have hstw := Hm.out.msg.sw
          have hab : absorbs m ((nums l).take K) = ⟨mixedN m.st P K0, P, m.n + K⟩ := by
            have hl : ((nums l).take K).length = K := by rw [List.length_take, nums_length, Hlen.out]; exact Nat.min_eq_left k1
            rw [absorbs_fill _ _ (by rw [hl, hnr, hfull]; omega), hl, hnr, hfull, hP]
          have Hab := Lib.hid hab
          have hmd : MsgAt w2.drew g t ex ⟨m.st, P, m.n + K⟩ := ⟨Hm2.out.blk, Hm2.out.hs, Hm2.out.hr, Hm2.out.sw, Hm2.out.rb⟩
          have Hmd := Lib.hid hmd
          have S0 := Lib.hid (And.intro hmd.range_rest (BlkIs.range (w := w2.drew) Hk2.out))
          have Rst := Lib.hid hmd.range_st
          have Hx8 : Hid ((u32s (mixedN m.st P K0)).size = 8) := by unfold Hid; rw [u32s_size, mixedN_length, hst8]
          have Iu8 : Hid ((Tryd.prog.info? 35).map (·.size) = some (u8s P).toList.length) := by unfold Hid; rw [info64b, Array.length_toList, u8s_size, hP64]
          have Iu64 : Hid ((Tryd.prog.info? 31).map (·.size) = some (u32s K0).toList.length) := by unfold Hid; rw [info64, Array.length_toList, u32s_size, K0_length]
          have Iu32 : Hid ((Tryd.prog.info? 29).map (·.size) = some (u32s m.st).toList.length) := by unfold Hid; rw [info8, Array.length_toList, u32s_size, hst8]
          have Ix8 : Hid ((Tryd.prog.info? 29).map (·.size) = some (u32s (mixedN m.st P K0)).size) := by unfold Hid; rw [info8, Hx8.out]
          clear hP hab hmd hnr
          go_upto_region 4 with fail
          refine wp_region_held_drew (S := fun W => W.rangeAt g 8 (u8s P).toList ∧ W.rangeAt w.heap.size 0 (u32s K0).toList) (by kernel_rfl) S0.out (fun hHeld => ?_)
          change wpAnyH _ _ _ _ _ 14 (Array.replicate 14 false) _ _
          refine wpAnyH_take (i := 0) (oi := { dst := some 17, op := Op.move (Operand.tmp 0), type := 75, pos := "message.go:59", after := #[], guard := none }) (v := ?v0p) rfl (by kernel_rfl) (by kernel_rfl) (by kernel_rfl) (fun _ _ _ h => h) (Or.inl ⟨by rfl, ?hy0p⟩) hHeld ?rest0p
          case hy0p =>
            intro W hSw
            go_simp
            try with_reducible rfl
          try simp only [Act.put, List.setIfInBounds_toArray, List.set_cons_zero, List.set_cons_succ]
          refine wpAnyH_take (i := 1) (oi := { dst := some 18, op := Op.move (Operand.tmp 0), type := 75, pos := "message.go:59", after := #[], guard := none }) (v := ?v1p) rfl (by kernel_rfl) (by kernel_rfl) (by kernel_rfl) (fun _ _ _ h => h) (Or.inl ⟨by rfl, ?hy1p⟩) hHeld ?rest1p
          case hy1p =>
            intro W hSw
            go_simp
            try with_reducible rfl
          try simp only [Act.put, List.setIfInBounds_toArray, List.set_cons_zero, List.set_cons_succ]
          refine wpAnyH_take (i := 2) (oi := { dst := some 19, op := Op.nilCheck (Operand.tmp 18), type := 0, pos := "message.go:59", after := #[{ on := 1, ground := Ground.data }], guard := none }) (v := ?v2p) rfl (by kernel_rfl) (by kernel_rfl) (by kernel_rfl) (fun _ _ _ h => h) (Or.inl ⟨by rfl, ?hy2p⟩) hHeld ?rest2p
          case hy2p =>
            intro W hSw
            go_simp
            try with_reducible rfl
          try simp only [Act.put, List.setIfInBounds_toArray, List.set_cons_zero, List.set_cons_succ]
          refine wpAnyH_take (i := 3) (oi := { dst := some 20, op := Op.fieldAddr 61 (Operand.tmp 19) 0, type := 0, pos := "message.go:59", after := #[{ on := 2, ground := Ground.data }], guard := none }) (v := ?v3p) rfl (by kernel_rfl) (by kernel_rfl) (by kernel_rfl) (fun _ _ _ h => h) (Or.inl ⟨by rfl, ?hy3p⟩) hHeld ?rest3p
          case hy3p =>
            intro W hSw
            go_simp
            try with_reducible rfl
          try simp only [Act.put, List.setIfInBounds_toArray, List.set_cons_zero, List.set_cons_succ]
          refine wpAnyH_take (i := 5) (oi := { dst := some 22, op := Op.move (Operand.tmp 0), type := 75, pos := "message.go:59", after := #[], guard := none }) (v := ?v5p) rfl (by kernel_rfl) (by kernel_rfl) (by kernel_rfl) (fun _ _ _ h => h) (Or.inl ⟨by rfl, ?hy5p⟩) hHeld ?rest5p
          case hy5p =>
            intro W hSw
            go_simp
            try with_reducible rfl
          try simp only [Act.put, List.setIfInBounds_toArray, List.set_cons_zero, List.set_cons_succ]
          refine wpAnyH_take (i := 6) (oi := { dst := some 23, op := Op.nilCheck (Operand.tmp 22), type := 0, pos := "message.go:59", after := #[{ on := 5, ground := Ground.data }], guard := none }) (v := ?v6p) rfl (by kernel_rfl) (by kernel_rfl) (by kernel_rfl) (fun _ _ _ h => h) (Or.inl ⟨by rfl, ?hy6p⟩) hHeld ?rest6p
          case hy6p =>
            intro W hSw
            go_simp
            try with_reducible rfl
          try simp only [Act.put, List.setIfInBounds_toArray, List.set_cons_zero, List.set_cons_succ]
          refine wpAnyH_take (i := 7) (oi := { dst := some 24, op := Op.fieldAddr 61 (Operand.tmp 23) 1, type := 0, pos := "message.go:59", after := #[{ on := 6, ground := Ground.data }], guard := none }) (v := ?v7p) rfl (by kernel_rfl) (by kernel_rfl) (by kernel_rfl) (fun _ _ _ h => h) (Or.inl ⟨by rfl, ?hy7p⟩) hHeld ?rest7p
          case hy7p =>
            intro W hSw
            go_simp
            try with_reducible rfl
          try simp only [Act.put, List.setIfInBounds_toArray, List.set_cons_zero, List.set_cons_succ]
          refine wpAnyH_take (i := 8) (oi := { dst := some 25, op := Op.load 35 (Operand.tmp 24), type := 35, pos := "message.go:59", after := #[{ on := 7, ground := Ground.data }], guard := none }) rfl (by kernel_rfl) (by kernel_rfl) (by kernel_rfl) (fun _ _ _ h => h) (yieldsIf_load_mid (by rfl) 35 (.tmp 24) rfl g 8 rfl (u8s P).toList _ (fun _ h => h.1) Tryd.underlying35 rfl Iu8.out) hHeld ?rest8p
          try simp only [Act.put, List.setIfInBounds_toArray, List.set_cons_zero, List.set_cons_succ]
          refine wpAnyH_take (i := 9) (oi := { dst := some 26, op := Op.load 31 (Operand.tmp 5), type := 31, pos := "message.go:59", after := #[], guard := none }) rfl (by kernel_rfl) (by kernel_rfl) (by kernel_rfl) (fun _ _ _ h => h) (yieldsIf_load_mid (by rfl) 31 (.tmp 5) rfl w.heap.size 0 rfl (u32s K0).toList _ (fun _ h => h.2) Tryd.underlying31 rfl Iu64.out) hHeld ?rest9p
          try simp only [Act.put, List.setIfInBounds_toArray, List.set_cons_zero, List.set_cons_succ]
          refine wpAnyH_ready (rs := [4]) (by kernel_rfl) (by simp) ?_
          refine AllReadyH.cons (o := { dst := some 21, op := Op.load 29 (Operand.tmp 20), type := 29, pos := "message.go:59", after := #[{ on := 3, ground := Ground.data }], guard := none }) rfl (fun K' hK => ?_) AllReadyH.nil
          rw [if_pos (by rfl)]
          refine wp_load_mid 29 (.tmp 20) rfl g 0 rfl (u32s m.st).toList _ Rst.out Tryd.underlying29 rfl Iu32.out ?_
          refine hK.out _ _ S0.out (fun hHeld => ?_)
          clear hK K'
          try simp only [Act.put, List.setIfInBounds_toArray, List.set_cons_zero, List.set_cons_succ]
          refine wpAnyH_ready (rs := [10]) (by kernel_rfl) (by simp) ?_
          refine AllReadyH.cons (o := { dst := some 27, op := Op.call { callee := Callee.value (Operand.func 39), args := #[Operand.tmp 21, Operand.tmp 25, Operand.tmp 26], argTypes := #[29, 35, 31] }, type := 29, pos := "message.go:59", after := #[{ on := 4, ground := Ground.data }, { on := 8, ground := Ground.data }, { on := 9, ground := Ground.data }], guard := none }) rfl (fun K' hK => ?_) AllReadyH.nil
          go_simp
          refine (mixed_any w2.drew m.st P K0 hst8 hstw hP64 hPb K0_length K0_words).mono ?_
          rintro e w4 ⟨rfl, hb4⟩
          have B4 := Lib.hid hb4
          have M4 := Lib.hid (Hmd.out.here hb4)
          have S4 := Lib.hid (And.intro (Hmd.out.here hb4).range_rest (BlkIs.range (BlkIs.here (w := w2.drew) Hk2.out hb4)))
          clear hb4
          go_wp2_with fail
          refine hK.out _ _ S4.out (fun hHeld => ?_)
          clear hK K'
          try simp only [Act.put, List.setIfInBounds_toArray, List.set_cons_zero, List.set_cons_succ]
          refine wpAnyH_take (i := 11) (oi := { dst := some 28, op := Op.nilCheck (Operand.tmp 17), type := 0, pos := "message.go:59", after := #[{ on := 0, ground := Ground.data }, { on := 0, ground := Ground.phase }, { on := 1, ground := Ground.phase }, { on := 2, ground := Ground.phase }, { on := 3, ground := Ground.phase }, { on := 4, ground := Ground.phase }, { on := 5, ground := Ground.phase }, { on := 6, ground := Ground.phase }, { on := 7, ground := Ground.phase }, { on := 8, ground := Ground.phase }, { on := 9, ground := Ground.phase }, { on := 10, ground := Ground.phase }], guard := none }) (v := ?v11p) rfl (by kernel_rfl) (by kernel_rfl) (by kernel_rfl) (fun _ _ _ h => h) (Or.inl ⟨by rfl, ?hy11p⟩) hHeld ?rest11p
          case hy11p =>
            intro W hSw
            go_simp
            try with_reducible rfl
          try simp only [Act.put, List.setIfInBounds_toArray, List.set_cons_zero, List.set_cons_succ]
          refine wpAnyH_take (i := 12) (oi := { dst := some 29, op := Op.fieldAddr 61 (Operand.tmp 28) 0, type := 0, pos := "message.go:59", after := #[{ on := 11, ground := Ground.data }, { on := 0, ground := Ground.phase }, { on := 1, ground := Ground.phase }, { on := 2, ground := Ground.phase }, { on := 3, ground := Ground.phase }, { on := 4, ground := Ground.phase }, { on := 5, ground := Ground.phase }, { on := 6, ground := Ground.phase }, { on := 7, ground := Ground.phase }, { on := 8, ground := Ground.phase }, { on := 9, ground := Ground.phase }, { on := 10, ground := Ground.phase }], guard := none }) (v := ?v12p) rfl (by kernel_rfl) (by kernel_rfl) (by kernel_rfl) (fun _ _ _ h => h) (Or.inl ⟨by rfl, ?hy12p⟩) hHeld ?rest12p
          case hy12p =>
            intro W hSw
            go_simp
            try with_reducible rfl
          try simp only [Act.put, List.setIfInBounds_toArray, List.set_cons_zero, List.set_cons_succ]
          refine wpAnyH_ready (rs := [13]) (by kernel_rfl) (by simp) ?_
          refine AllReadyH.cons (o := { dst := none, op := Op.store 29 (Operand.tmp 29) (Operand.tmp 27), type := 0, pos := "message.go:59", after := #[{ on := 12, ground := Ground.data }, { on := 10, ground := Ground.data }, { on := 10, ground := Ground.chain }, { on := 0, ground := Ground.phase }, { on := 1, ground := Ground.phase }, { on := 2, ground := Ground.phase }, { on := 3, ground := Ground.phase }, { on := 4, ground := Ground.phase }, { on := 5, ground := Ground.phase }, { on := 6, ground := Ground.phase }, { on := 7, ground := Ground.phase }, { on := 8, ground := Ground.phase }, { on := 9, ground := Ground.phase }, { on := 10, ground := Ground.phase }], guard := none }) rfl (fun K' hK => ?_) AllReadyH.nil
          rw [if_pos (by rfl)]
          refine wp_store_mid 29 (.tmp 29) (.tmp 27) rfl g 0 (u32s (mixedN m.st P K0)) rfl rfl (M4.out.there_st _ Hx8.out) Ix8.out (u32s_one _) ?_
          refine hK.out _ _ ⟨World.rangeAt_setCells_apart S4.out.1 g 0 _ (by right; right; rw [Array.length_toList, Hx8.out]; exact Nat.le_refl _), World.rangeAt_setCells_apart S4.out.2 g 0 _ (by left; have := Hlt.out; omega)⟩ (fun hHeld => ?_)
          clear hK K'
          try simp only [Act.put]
          refine wpAnyH_done (by kernel_rfl) ?_ _
          have hX8 : (mixedN m.st P K0).length = 8 := by rw [mixedN_length, hst8]
          have hps := MsgAt.putS (mixedN m.st P K0) w4 ⟨m.st, P, m.n + K⟩ 0 M4.out (mixedN_words _ _ _ hstw) (by omega)
          rw [putAll_full _ _ _ (by show m.st.length = _; rw [hst8, hX8]), List.take_zero, List.nil_append] at hps
          have hul : (u32s (mixedN m.st P K0)).toList = (mixedN m.st P K0).map (fun x : Nat => Value.int .u32 (x : Int)) := by simp [u32s]
          rw [← hul] at hps
          have Hps := Lib.hid hps
          have g24 : w2.grownBy w4 (some g) := ⟨B4.out.os, B4.out.tape, B4.out.output, B4.out.size, fun k hk _ => B4.out.block k hk⟩
          have HS4 := Lib.hid ((Src.here (w := w2.drew) ⟨HT2.out.byt.drew, HT2.out.apart⟩ B4.out).grown hps.2)
          have HK4 := Lib.hid ((BlkIs.here (w := w2.drew) Hk2.out B4.out).grown hps.2 (by have := Hlt.out; simp; omega))
          have HG4 := Lib.hid (grown_trans (grown_trans Hg2.out g24) hps.2)
          have HN4 : Hid (m.n + K + (n - K) ≤ 4611686018427387904) := by have := hn.out; unfold Hid; omega
          clear hps hul hX8 g24
          go_wp2
          go_roundw
          case rel => exact ⟨_, n - K, _, l.drop K, ⟨mixedN m.st P K0, P, m.n + K⟩, by first | rfl | rw [hfull] | simp [hfull], ⟨Hps.out.1, HS4.out, HK4.out, HG4.out⟩, by rw [← Hab.out]; exact Hsplit.out, HN4.out⟩
          case measure => simp [lenV]; omega
        · rw [if_neg hfull]
          have hKn : K = n := by have := HK.out; omega
          have hab : absorbs m ((nums l).take K) = ⟨m.st, putAll m.rest r ((nums l).take (64 - r)), m.n + K⟩ := by
            have hl : (nums l).length = n := by rw [nums_length, Hlen.out]
            have e1 : (nums l).take K = nums l := List.take_of_length_le (by omega)
            have e2 : (nums l).take (64 - r) = nums l := List.take_of_length_le (by have := HK.out; omega)
            have e3 := Hrr.out
            rw [e1, e2, absorbs_hold _ _ (by rw [e3, hl]; have := HK.out; omega), e3, hl, hKn]
          have Hab := Lib.hid hab
          have HN4 : Hid (m.n + K + (n - K) ≤ 4611686018427387904) := by have := hn.out; unfold Hid; omega
          have br : (((64 - (r + K) : Nat) : Int) == 64) = false := by simp; omega
          clear hab
          go_wp2
          go_roundw
          case rel => exact ⟨_, n - K, _, l.drop K, ⟨m.st, putAll m.rest r ((nums l).take (64 - r)), m.n + K⟩, by first | rfl | (rw [hKn, Nat.sub_self]) | simp [hKn], ⟨Hm2.out, HT2.out, Hk2.out, Hg2.out⟩, by rw [← Hab.out]; exact Hsplit.out, HN4.out⟩
          case measure => simp [lenV]; omega
      · have HT1 := HT0.out
        rw [if_neg hx0, Option.map_some, add_plain] at HT1
        have HT := Lib.hid HT1
        clear HT1 HT0
        go_wp2_with fail
        refine Hc1.out.mono ?_
        rintro e w2 ⟨rfl, hm2, hg2⟩
        have HT2 := Lib.hid (HT.out.grown hg2)
        have Hk2 := Lib.hid (Hm.out.key.grown hg2 (by have := Hlt.out; simp; omega))
        have Hg2 := Lib.hid (grown_trans Hm.out.grown hg2)
        have Hm2 := Lib.hid hm2
        clear HT hm2 hg2 Hc1
        go_wp2_with fail
        refine (room_any w2 g (m.n + K) Hm2.out.size_).mono ?_
        rintro e w' ⟨rfl, rfl⟩
        rw [Hroom.out]
        by_cases hfull : K = 64 - r
        · rw [if_pos hfull]
          obtain ⟨P, hP⟩ : ∃ P, putAll m.rest r ((nums l).take (64 - r)) = P := ⟨_, rfl⟩
          have hnr : m.n % 64 = r := Hrr.out
          rw [hP] at Hm2
          have hP64 : P.length = 64 := by rw [← hP, putAll_length]; exact Hm.out.msg.hr
          have hPb : Bytes P := by rw [← hP]; exact putAll_bytes _ _ _ Hm.out.msg.rb (bytes_take _ _ (nums_bytes l))
          have hst8 := Hm.out.msg.hs
          have hstw := Hm.out.msg.sw
          have hab : absorbs m ((nums l).take K) = ⟨mixedN m.st P K0, P, m.n + K⟩ := by
            have hl : ((nums l).take K).length = K := by rw [List.length_take, nums_length, Hlen.out]; exact Nat.min_eq_left k1
            rw [absorbs_fill _ _ (by rw [hl, hnr, hfull]; omega), hl, hnr, hfull, hP]
          have Hab := Lib.hid hab
          have hmd : MsgAt w2.drew g t ex ⟨m.st, P, m.n + K⟩ := ⟨Hm2.out.blk, Hm2.out.hs, Hm2.out.hr, Hm2.out.sw, Hm2.out.rb⟩
          have Hmd := Lib.hid hmd
          have S0 := Lib.hid (And.intro hmd.range_rest (BlkIs.range (w := w2.drew) Hk2.out))
          have Rst := Lib.hid hmd.range_st
          have Hx8 : Hid ((u32s (mixedN m.st P K0)).size = 8) := by unfold Hid; rw [u32s_size, mixedN_length, hst8]
          have Iu8 : Hid ((Tryd.prog.info? 35).map (·.size) = some (u8s P).toList.length) := by unfold Hid; rw [info64b, Array.length_toList, u8s_size, hP64]
          have Iu64 : Hid ((Tryd.prog.info? 31).map (·.size) = some (u32s K0).toList.length) := by unfold Hid; rw [info64, Array.length_toList, u32s_size, K0_length]
          have Iu32 : Hid ((Tryd.prog.info? 29).map (·.size) = some (u32s m.st).toList.length) := by unfold Hid; rw [info8, Array.length_toList, u32s_size, hst8]
          have Ix8 : Hid ((Tryd.prog.info? 29).map (·.size) = some (u32s (mixedN m.st P K0)).size) := by unfold Hid; rw [info8, Hx8.out]
          clear hP hab hmd hnr
          go_upto_region 4 with fail
          refine wp_region_held_drew (S := fun W => W.rangeAt g 8 (u8s P).toList ∧ W.rangeAt w.heap.size 0 (u32s K0).toList) (by kernel_rfl) S0.out (fun hHeld => ?_)
          change wpAnyH _ _ _ _ _ 14 (Array.replicate 14 false) _ _
          refine wpAnyH_take (i := 0) (oi := { dst := some 17, op := Op.move (Operand.tmp 0), type := 75, pos := "message.go:59", after := #[], guard := none }) (v := ?v0n) rfl (by kernel_rfl) (by kernel_rfl) (by kernel_rfl) (fun _ _ _ h => h) (Or.inl ⟨by rfl, ?hy0n⟩) hHeld ?rest0n
          case hy0n =>
            intro W hSw
            go_simp
            try with_reducible rfl
          try simp only [Act.put, List.setIfInBounds_toArray, List.set_cons_zero, List.set_cons_succ]
          refine wpAnyH_take (i := 1) (oi := { dst := some 18, op := Op.move (Operand.tmp 0), type := 75, pos := "message.go:59", after := #[], guard := none }) (v := ?v1n) rfl (by kernel_rfl) (by kernel_rfl) (by kernel_rfl) (fun _ _ _ h => h) (Or.inl ⟨by rfl, ?hy1n⟩) hHeld ?rest1n
          case hy1n =>
            intro W hSw
            go_simp
            try with_reducible rfl
          try simp only [Act.put, List.setIfInBounds_toArray, List.set_cons_zero, List.set_cons_succ]
          refine wpAnyH_take (i := 2) (oi := { dst := some 19, op := Op.nilCheck (Operand.tmp 18), type := 0, pos := "message.go:59", after := #[{ on := 1, ground := Ground.data }], guard := none }) (v := ?v2n) rfl (by kernel_rfl) (by kernel_rfl) (by kernel_rfl) (fun _ _ _ h => h) (Or.inl ⟨by rfl, ?hy2n⟩) hHeld ?rest2n
          case hy2n =>
            intro W hSw
            go_simp
            try with_reducible rfl
          try simp only [Act.put, List.setIfInBounds_toArray, List.set_cons_zero, List.set_cons_succ]
          refine wpAnyH_take (i := 3) (oi := { dst := some 20, op := Op.fieldAddr 61 (Operand.tmp 19) 0, type := 0, pos := "message.go:59", after := #[{ on := 2, ground := Ground.data }], guard := none }) (v := ?v3n) rfl (by kernel_rfl) (by kernel_rfl) (by kernel_rfl) (fun _ _ _ h => h) (Or.inl ⟨by rfl, ?hy3n⟩) hHeld ?rest3n
          case hy3n =>
            intro W hSw
            go_simp
            try with_reducible rfl
          try simp only [Act.put, List.setIfInBounds_toArray, List.set_cons_zero, List.set_cons_succ]
          refine wpAnyH_take (i := 5) (oi := { dst := some 22, op := Op.move (Operand.tmp 0), type := 75, pos := "message.go:59", after := #[], guard := none }) (v := ?v5n) rfl (by kernel_rfl) (by kernel_rfl) (by kernel_rfl) (fun _ _ _ h => h) (Or.inl ⟨by rfl, ?hy5n⟩) hHeld ?rest5n
          case hy5n =>
            intro W hSw
            go_simp
            try with_reducible rfl
          try simp only [Act.put, List.setIfInBounds_toArray, List.set_cons_zero, List.set_cons_succ]
          refine wpAnyH_take (i := 6) (oi := { dst := some 23, op := Op.nilCheck (Operand.tmp 22), type := 0, pos := "message.go:59", after := #[{ on := 5, ground := Ground.data }], guard := none }) (v := ?v6n) rfl (by kernel_rfl) (by kernel_rfl) (by kernel_rfl) (fun _ _ _ h => h) (Or.inl ⟨by rfl, ?hy6n⟩) hHeld ?rest6n
          case hy6n =>
            intro W hSw
            go_simp
            try with_reducible rfl
          try simp only [Act.put, List.setIfInBounds_toArray, List.set_cons_zero, List.set_cons_succ]
          refine wpAnyH_take (i := 7) (oi := { dst := some 24, op := Op.fieldAddr 61 (Operand.tmp 23) 1, type := 0, pos := "message.go:59", after := #[{ on := 6, ground := Ground.data }], guard := none }) (v := ?v7n) rfl (by kernel_rfl) (by kernel_rfl) (by kernel_rfl) (fun _ _ _ h => h) (Or.inl ⟨by rfl, ?hy7n⟩) hHeld ?rest7n
          case hy7n =>
            intro W hSw
            go_simp
            try with_reducible rfl
          try simp only [Act.put, List.setIfInBounds_toArray, List.set_cons_zero, List.set_cons_succ]
          refine wpAnyH_take (i := 8) (oi := { dst := some 25, op := Op.load 35 (Operand.tmp 24), type := 35, pos := "message.go:59", after := #[{ on := 7, ground := Ground.data }], guard := none }) rfl (by kernel_rfl) (by kernel_rfl) (by kernel_rfl) (fun _ _ _ h => h) (yieldsIf_load_mid (by rfl) 35 (.tmp 24) rfl g 8 rfl (u8s P).toList _ (fun _ h => h.1) Tryd.underlying35 rfl Iu8.out) hHeld ?rest8n
          try simp only [Act.put, List.setIfInBounds_toArray, List.set_cons_zero, List.set_cons_succ]
          refine wpAnyH_take (i := 9) (oi := { dst := some 26, op := Op.load 31 (Operand.tmp 5), type := 31, pos := "message.go:59", after := #[], guard := none }) rfl (by kernel_rfl) (by kernel_rfl) (by kernel_rfl) (fun _ _ _ h => h) (yieldsIf_load_mid (by rfl) 31 (.tmp 5) rfl w.heap.size 0 rfl (u32s K0).toList _ (fun _ h => h.2) Tryd.underlying31 rfl Iu64.out) hHeld ?rest9n
          try simp only [Act.put, List.setIfInBounds_toArray, List.set_cons_zero, List.set_cons_succ]
          refine wpAnyH_ready (rs := [4]) (by kernel_rfl) (by simp) ?_
          refine AllReadyH.cons (o := { dst := some 21, op := Op.load 29 (Operand.tmp 20), type := 29, pos := "message.go:59", after := #[{ on := 3, ground := Ground.data }], guard := none }) rfl (fun K' hK => ?_) AllReadyH.nil
          rw [if_pos (by rfl)]
          refine wp_load_mid 29 (.tmp 20) rfl g 0 rfl (u32s m.st).toList _ Rst.out Tryd.underlying29 rfl Iu32.out ?_
          refine hK.out _ _ S0.out (fun hHeld => ?_)
          clear hK K'
          try simp only [Act.put, List.setIfInBounds_toArray, List.set_cons_zero, List.set_cons_succ]
          refine wpAnyH_ready (rs := [10]) (by kernel_rfl) (by simp) ?_
          refine AllReadyH.cons (o := { dst := some 27, op := Op.call { callee := Callee.value (Operand.func 39), args := #[Operand.tmp 21, Operand.tmp 25, Operand.tmp 26], argTypes := #[29, 35, 31] }, type := 29, pos := "message.go:59", after := #[{ on := 4, ground := Ground.data }, { on := 8, ground := Ground.data }, { on := 9, ground := Ground.data }], guard := none }) rfl (fun K' hK => ?_) AllReadyH.nil
          go_simp
          refine (mixed_any w2.drew m.st P K0 hst8 hstw hP64 hPb K0_length K0_words).mono ?_
          rintro e w4 ⟨rfl, hb4⟩
          have B4 := Lib.hid hb4
          have M4 := Lib.hid (Hmd.out.here hb4)
          have S4 := Lib.hid (And.intro (Hmd.out.here hb4).range_rest (BlkIs.range (BlkIs.here (w := w2.drew) Hk2.out hb4)))
          clear hb4
          go_wp2_with fail
          refine hK.out _ _ S4.out (fun hHeld => ?_)
          clear hK K'
          try simp only [Act.put, List.setIfInBounds_toArray, List.set_cons_zero, List.set_cons_succ]
          refine wpAnyH_take (i := 11) (oi := { dst := some 28, op := Op.nilCheck (Operand.tmp 17), type := 0, pos := "message.go:59", after := #[{ on := 0, ground := Ground.data }, { on := 0, ground := Ground.phase }, { on := 1, ground := Ground.phase }, { on := 2, ground := Ground.phase }, { on := 3, ground := Ground.phase }, { on := 4, ground := Ground.phase }, { on := 5, ground := Ground.phase }, { on := 6, ground := Ground.phase }, { on := 7, ground := Ground.phase }, { on := 8, ground := Ground.phase }, { on := 9, ground := Ground.phase }, { on := 10, ground := Ground.phase }], guard := none }) (v := ?v11n) rfl (by kernel_rfl) (by kernel_rfl) (by kernel_rfl) (fun _ _ _ h => h) (Or.inl ⟨by rfl, ?hy11n⟩) hHeld ?rest11n
          case hy11n =>
            intro W hSw
            go_simp
            try with_reducible rfl
          try simp only [Act.put, List.setIfInBounds_toArray, List.set_cons_zero, List.set_cons_succ]
          refine wpAnyH_take (i := 12) (oi := { dst := some 29, op := Op.fieldAddr 61 (Operand.tmp 28) 0, type := 0, pos := "message.go:59", after := #[{ on := 11, ground := Ground.data }, { on := 0, ground := Ground.phase }, { on := 1, ground := Ground.phase }, { on := 2, ground := Ground.phase }, { on := 3, ground := Ground.phase }, { on := 4, ground := Ground.phase }, { on := 5, ground := Ground.phase }, { on := 6, ground := Ground.phase }, { on := 7, ground := Ground.phase }, { on := 8, ground := Ground.phase }, { on := 9, ground := Ground.phase }, { on := 10, ground := Ground.phase }], guard := none }) (v := ?v12n) rfl (by kernel_rfl) (by kernel_rfl) (by kernel_rfl) (fun _ _ _ h => h) (Or.inl ⟨by rfl, ?hy12n⟩) hHeld ?rest12n
          case hy12n =>
            intro W hSw
            go_simp
            try with_reducible rfl
          try simp only [Act.put, List.setIfInBounds_toArray, List.set_cons_zero, List.set_cons_succ]
          refine wpAnyH_ready (rs := [13]) (by kernel_rfl) (by simp) ?_
          refine AllReadyH.cons (o := { dst := none, op := Op.store 29 (Operand.tmp 29) (Operand.tmp 27), type := 0, pos := "message.go:59", after := #[{ on := 12, ground := Ground.data }, { on := 10, ground := Ground.data }, { on := 10, ground := Ground.chain }, { on := 0, ground := Ground.phase }, { on := 1, ground := Ground.phase }, { on := 2, ground := Ground.phase }, { on := 3, ground := Ground.phase }, { on := 4, ground := Ground.phase }, { on := 5, ground := Ground.phase }, { on := 6, ground := Ground.phase }, { on := 7, ground := Ground.phase }, { on := 8, ground := Ground.phase }, { on := 9, ground := Ground.phase }, { on := 10, ground := Ground.phase }], guard := none }) rfl (fun K' hK => ?_) AllReadyH.nil
          rw [if_pos (by rfl)]
          refine wp_store_mid 29 (.tmp 29) (.tmp 27) rfl g 0 (u32s (mixedN m.st P K0)) rfl rfl (M4.out.there_st _ Hx8.out) Ix8.out (u32s_one _) ?_
          refine hK.out _ _ ⟨World.rangeAt_setCells_apart S4.out.1 g 0 _ (by right; right; rw [Array.length_toList, Hx8.out]; exact Nat.le_refl _), World.rangeAt_setCells_apart S4.out.2 g 0 _ (by left; have := Hlt.out; omega)⟩ (fun hHeld => ?_)
          clear hK K'
          try simp only [Act.put]
          refine wpAnyH_done (by kernel_rfl) ?_ _
          have hX8 : (mixedN m.st P K0).length = 8 := by rw [mixedN_length, hst8]
          have hps := MsgAt.putS (mixedN m.st P K0) w4 ⟨m.st, P, m.n + K⟩ 0 M4.out (mixedN_words _ _ _ hstw) (by omega)
          rw [putAll_full _ _ _ (by show m.st.length = _; rw [hst8, hX8]), List.take_zero, List.nil_append] at hps
          have hul : (u32s (mixedN m.st P K0)).toList = (mixedN m.st P K0).map (fun x : Nat => Value.int .u32 (x : Int)) := by simp [u32s]
          rw [← hul] at hps
          have Hps := Lib.hid hps
          have g24 : w2.grownBy w4 (some g) := ⟨B4.out.os, B4.out.tape, B4.out.output, B4.out.size, fun k hk _ => B4.out.block k hk⟩
          have HS4 := Lib.hid ((Src.here (w := w2.drew) ⟨HT2.out.byt.drew, HT2.out.apart⟩ B4.out).grown hps.2)
          have HK4 := Lib.hid ((BlkIs.here (w := w2.drew) Hk2.out B4.out).grown hps.2 (by have := Hlt.out; simp; omega))
          have HG4 := Lib.hid (grown_trans (grown_trans Hg2.out g24) hps.2)
          have HN4 : Hid (m.n + K + (n - K) ≤ 4611686018427387904) := by have := hn.out; unfold Hid; omega
          clear hps hul hX8 g24
          go_wp2
          go_roundw
          case rel => exact ⟨_, n - K, _, l.drop K, ⟨mixedN m.st P K0, P, m.n + K⟩, by first | rfl | rw [hfull] | simp [hfull], ⟨Hps.out.1, HS4.out, HK4.out, HG4.out⟩, by rw [← Hab.out]; exact Hsplit.out, HN4.out⟩
          case measure => simp [lenV]; omega
        · rw [if_neg hfull]
          have hKn : K = n := by have := HK.out; omega
          have hab : absorbs m ((nums l).take K) = ⟨m.st, putAll m.rest r ((nums l).take (64 - r)), m.n + K⟩ := by
            have hl : (nums l).length = n := by rw [nums_length, Hlen.out]
            have e1 : (nums l).take K = nums l := List.take_of_length_le (by omega)
            have e2 : (nums l).take (64 - r) = nums l := List.take_of_length_le (by have := HK.out; omega)
            have e3 := Hrr.out
            rw [e1, e2, absorbs_hold _ _ (by rw [e3, hl]; have := HK.out; omega), e3, hl, hKn]
          have Hab := Lib.hid hab
          have HN4 : Hid (m.n + K + (n - K) ≤ 4611686018427387904) := by have := hn.out; unfold Hid; omega
          have br : (((64 - (r + K) : Nat) : Int) == 64) = false := by simp; omega
          clear hab
          go_wp2
          go_roundw
          case rel => exact ⟨_, n - K, _, l.drop K, ⟨m.st, putAll m.rest r ((nums l).take (64 - r)), m.n + K⟩, by first | rfl | (rw [hKn, Nat.sub_self]) | simp [hKn], ⟨Hm2.out, HT2.out, Hk2.out, Hg2.out⟩, by rw [← Hab.out]; exact Hsplit.out, HN4.out⟩
          case measure => simp [lenV]; omega
end Go.Proofs.YtpgjnmakpghamaaDoor
