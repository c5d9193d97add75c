/- Walks of package wire: Frame, Unframe. -/
import Derived.Test.YtiikjdjpodmpcaaGreatWiEnc
import Derived.Test.YtiikjdjpodmpcaaGreatWiSum
import Derived.Deep.RegionWith
import Derived.Deep.DeepCutAuto
namespace Go.Proofs.YtiikjdjpodmpcaaGreat
open Go.RowKit
set_option linter.unusedVariables false

/-- A frame's bytes. -/
def body (p : List UInt8) : List UInt8 := w4 p.length ++ p
def frame (p : List UInt8) : List UInt8 := body p ++ w4 (adl (body p))
theorem body_length (p : List UInt8) : (body p).length = 4 + p.length := by simp [body, w4_length]
theorem frame_length (p : List UInt8) : (frame p).length = 8 + p.length := by simp [frame, body_length, w4_length]; omega

theorem frame_long (w : World) (s : ByteArray) (hs : 1048576 < s.size) (hs2 : s.size ≤ maxLen) :
    Calls Tryz.prog 58 #[.string s] w fun e w' => e = .returned (.tuple #[.slice none 0 0, .int .i64 3]) ∧ w = w' := by
  unfold maxLen at hs2
  go_enter Tryz.func58, Tryz.ntmps58
  go_wp2
  go_ret2
  exact ⟨rfl, rfl⟩

theorem frame_any (w : World) (s : ByteArray) (hs : s.size ≤ 1048576) :
    Calls Tryz.prog 58 #[.string s] w fun e w' => ∃ A n c, e = .returned (.tuple #[.slice A n c, .int .i64 0]) ∧ Own w' w.heap.size A n c (frame s.data.toList) ∧ Below w.heap.size w w' := by
  have hs2 : s.size ≤ maxLen := by unfold maxLen; omega
  have hcl := chk_lt (body s.data.toList)
  have Hl : Hid (s.data.toList.length = s.size) := by unfold Hid; rfl
  generalize hk : adl (body s.data.toList) = k at *
  have Hk := Lib.hid hk
  clear hk
  go_enter Tryz.func58, Tryz.ntmps58
  go_wp2_with fail
  refine (bigEndian_any s.size w (by omega)).mono ?_
  rintro e w1 ⟨rfl, hown1, hb1, hz1⟩
  have Hz1 := Lib.hid hz1
  have hsz1 := hb1.size
  clear hz1
  obtain ⟨c2, w2, hrun2, hby2, hb2, hz2⟩ := run_bytes_of_string' w1 s hs2
  have Hz2 := Lib.hid hz2
  have hsz2 := hb2.size
  clear hz2
  go_wp2_with fail
  refine (concat_any _ w2.heap.size w2.heap.size 2 2 [⟨_, _, _, w4 s.size⟩, ⟨_, _, _, s.data.toList⟩] rfl (by simp) (by simp) (PartsAt.two _ ((hown1.byt.same hb2).more (by omega)) hby2 (Nat.le_refl _)) (by omega) (by simp [total]; omega)).mono ?_
  rintro e w3 ⟨A3, n3, c3, rfl, hown3, hb3⟩
  have hsz3 := hb3.size
  simp only [World.size_alloc] at hsz3
  have e3 : flat [⟨some ⟨w.heap.size, 0, none⟩, 4, 4, w4 s.size⟩, ⟨some ⟨w1.heap.size, 0, none⟩, s.size, c2, s.data.toList⟩] = body s.data.toList := by simp [flat, body]
  rw [e3] at hown3
  have hn3 : n3 = 4 + s.size := by rw [← hown3.len, body_length, Hl.out]
  have hn3' : n3 ≤ 1048580 := by omega
  clear e3 hn3
  go_wp2_with fail
  refine (sum_any w3 A3 n3 c3 _ hown3.byt (by omega)).mono ?_
  rintro e w4' ⟨rfl, hb4⟩
  rw [Hk.out]
  have hsz4 := hb4.size
  go_wp2_with fail
  refine (bigEndian_any k w4' hcl).mono ?_
  rintro e w5 ⟨rfl, hown5, hb5, hz5⟩
  have Hz5 := Lib.hid hz5
  have hsz5 := hb5.size
  clear hz5
  go_wp2_with fail
  refine (concat_any _ w5.heap.size w5.heap.size 2 2 [⟨_, _, _, body s.data.toList⟩, ⟨_, _, _, w4 k⟩] rfl (by simp) (by simp) (PartsAt.two _ (((hown3.byt.same hb4).below hb5 (by omega)).more (by omega)) (hown5.byt.more (by omega)) (Nat.le_refl _)) (by omega) (by simp [total]; omega)).mono ?_
  rintro e w6 ⟨A6, n6, c6, rfl, hown6, hb6⟩
  go_wp2_with fail
  go_ret2
  refine ⟨A6, n6, c6, rfl, ?_, ?_⟩
  · have := hown6.more (B' := w.heap.size) (by simp; omega)
    simpa [flat, frame, Hk.out] using this
  · have a2 := Below.step ((Below.step hb1 hb2 hsz1).alloc (by omega) _) hb3 (by simp; omega)
    exact Below.step ((Below.step (Below.step a2 hb4 (by omega)) hb5 (by omega)).alloc (by omega) _) hb6 (by simp; omega)

theorem below_undrew {w w1 : World} (h : Below w.drew.heap.size w.drew w1) : Below w.heap.size w w1 := ⟨h.os, h.tape, h.output, h.size, h.block⟩

/-! ### Unframe -/
def sizeOfFrame (l : List UInt8) : Nat := be 0 (l.take 4)
theorem sizeOfFrame_lt (l : List UInt8) : sizeOfFrame l < 4294967296 := be_lt 0 (by decide) _

theorem unframe_short (w : World) (A : Option Addr) (n c : Nat) (h : n < 4) :
    Calls Tryz.prog 37 #[.slice A n c] w fun e w' => e = .returned (.tuple #[.string ⟨#[]⟩, .int .i64 0, .int .i64 5]) ∧ w = w' := by
  go_enter Tryz.func37, Tryz.ntmps37
  go_wp2
  go_ret3
  exact ⟨rfl, rfl⟩

theorem unframe_big (w : World) (A : Option Addr) (n c : Nat) (l : List UInt8) (hb : Byt w w.heap.size A n c l) (h : 4 ≤ n) (h2 : 1048576 < sizeOfFrame l) :
    Calls Tryz.prog 37 #[.slice A n c] w fun e w' => e = .returned (.tuple #[.string ⟨#[]⟩, .int .i64 0, .int .i64 4]) ∧ w = w' := by
  have hcap := hb.cap
  have hle := hb.le
  unfold maxLen at hcap
  obtain ⟨b, o, rfl, hlt, hc⟩ := hb.lies (by omega)
  have hp := hb.upto (hi := 4) h
  have hs := sizeOfFrame_lt l
  unfold sizeOfFrame at h2 hs
  clear hb hc
  generalize hk : be 0 (l.take 4) = k at *
  have Hk := Lib.hid hk
  clear hk
  go_enter Tryz.func37, Tryz.ntmps37
  go_wp2_with (go_at_call 70; (with_reducible refine (fromBigEndian_any w w.heap.size _ _ _ _ hp).mono ?_); rintro e w' ⟨rfl, rfl⟩; rw [Hk.out])
  go_ret3
  exact ⟨rfl, rfl⟩

theorem unframe_more (w : World) (A : Option Addr) (n c : Nat) (l : List UInt8) (hb : Byt w w.heap.size A n c l) (h : 4 ≤ n) (h2 : sizeOfFrame l ≤ 1048576) (h3 : n < sizeOfFrame l + 8) :
    Calls Tryz.prog 37 #[.slice A n c] w fun e w' => e = .returned (.tuple #[.string ⟨#[]⟩, .int .i64 0, .int .i64 5]) ∧ w = w' := by
  have hcap := hb.cap
  have hle := hb.le
  unfold maxLen at hcap
  obtain ⟨b, o, rfl, hlt, hc⟩ := hb.lies (by omega)
  have hp := hb.upto (hi := 4) h
  unfold sizeOfFrame at h2 h3
  clear hb hc
  generalize hk : be 0 (l.take 4) = k at *
  have Hk := Lib.hid hk
  clear hk
  go_enter Tryz.func37, Tryz.ntmps37
  go_wp2_with (go_at_call 70; (with_reducible refine (fromBigEndian_any w w.heap.size _ _ _ _ hp).mono ?_); rintro e w' ⟨rfl, rfl⟩; rw [Hk.out])
  go_ret3
  exact ⟨rfl, rfl⟩

/-- The checksum that the frame tells. -/
def toldSum (l : List UInt8) : Nat := be 0 ((l.take (4 + sizeOfFrame l + 4)).drop (4 + sizeOfFrame l))

set_option maxRecDepth 100000 in
set_option maxHeartbeats 1600000 in
/-- The walk from the test of the checksum on: k is what the frame tells of its length, m where its bytes end. -/
theorem unframe_walk (eqv : Bool) (w : World) (b o n c k m s t : Nat) (p1 p2 p3 p4 : List UInt8) (hcap : c ≤ 9223372036854775807) (hle : n ≤ c) (hm1 : 4 + (k : Int) ≤ m) (hm2 : (m : Int) ≤ 4 + k) (h2 : k ≤ 1048576) (h3 : m + 4 ≤ n)
    (hp : Byt w w.heap.size (some ⟨b, o, none⟩) 4 c p1) (q1 : Byt w w.heap.size (some ⟨b, o, none⟩) m c p2) (q2 : Byt w w.heap.size (some ⟨b, o + m, none⟩) 4 (c - m) p3) (q3 : Byt w w.heap.size (some ⟨b, o + 4, none⟩) (m - 4) (c - 4) p4)
    (hk : be 0 p1 = k) (hs : adl p2 = s) (ht : be 0 p3 = t) (hk1 : s < 4294967296) (hk2 : t < 4294967296) (he : ((s : Int) == (t : Int)) = eqv) (he2 : ((s : Int) != (t : Int)) = !eqv) :
    Calls Tryz.prog 37 #[.slice (some ⟨b, o, none⟩) n c] w fun e w' => e = .returned (if eqv then .tuple #[.string ⟨p4.toArray⟩, .int .i64 ((m : Int) + 4), .int .i64 0] else .tuple #[.string ⟨#[]⟩, .int .i64 0, .int .i64 4]) ∧ Below w.heap.size w w' := by
  have hcs : ∀ W : World, Below w.heap.size w W → (convert 22 9 (.slice (some ⟨b, o + 4, none⟩) (m - 4) (c - 4))).run Tryz.prog W = .ok (.string ⟨p4.toArray⟩) W := fun W hW => run_string_of_bytes (q3.below hW (Nat.le_refl _))
  have Hcs := Lib.hid hcs
  have Hq1 := Lib.hid q1
  have Hq2 := Lib.hid q2
  have Hk := Lib.hid hk
  have Hs := Lib.hid hs
  have Ht := Lib.hid ht
  have Hm : Hid ((4 : Int) + k = m) := by unfold Hid; omega
  have He := Lib.hid he
  have He2 := Lib.hid he2
  have f1 : ¬ c = m := by omega
  have f2 : (m : Int) + 4 ≤ c := by omega
  have f3 : (m : Int) ≤ c := by omega
  have f6 : ¬ c = 4 := by omega
  have f7 : 4 ≤ m := by omega
  clear hcs q1 q2 q3 hk hs ht he he2
  go_enter Tryz.func37, Tryz.ntmps37
  go_upto_region 9 with (go_at_call 70; (with_reducible refine (fromBigEndian_any w w.heap.size _ _ _ _ hp).mono ?_); rintro e w' ⟨rfl, rfl⟩; rw [Hk.out])
  rw [Hm.out]
  go_cut [33] (fun s wx => s = .bool (!eqv) ∧ Below w.heap.size w wx)
  case first =>
    have b1 := He.out
    have b2 := He2.out
    have f9 : 0 ≤ (m : Int) + 4 := by omega
    have f10 : ((m : Int) + 4).toNat = m + 4 := by omega
    have f8 : IntKind.i64.wrap ((m : Int) + 4) = (m : Int) + 4 := IntWalk.i64_in _ (by omega)
    go_region_with (first
      | (go_at_call 71; (with_reducible refine (sum_at w.drew w.heap.size _ _ _ _ Hq1.out.drew (Nat.le_refl _) (by omega)).mono ?_); rintro e w1 ⟨rfl, hb1⟩; rw [Hs.out])
      | (go_at_call 70; (with_reducible refine (fromBigEndian_any w.drew w.heap.size _ _ _ p3 Hq2.out.drew).mono ?_); rintro e w' ⟨rfl, rfl⟩; rw [Ht.out])
      | (go_at_call 70; (with_reducible refine (fromBigEndian_any w1 w.heap.size _ _ _ p3 (Hq2.out.drew.below hb1 (Nat.le_refl _))).mono ?_); rintro e w' ⟨rfl, rfl⟩; rw [Ht.out]))
    all_goals (go_wp2_with fail; go_meet; exact ⟨rfl, below_undrew hb1⟩)
  case rest =>
    obtain ⟨rfl, hbw⟩ := hcut
    have hrun := Hcs.out wc hbw
    cases eqv
    · go_wp2
      go_ret3
      exact ⟨rfl, hbw⟩
    · go_wp2
      go_ret3
      exact ⟨rfl, hbw⟩

/-- What Unframe returns: the piece, how many bytes the frame has, the error. -/
def unfr (l : List UInt8) : List UInt8 × Nat × Nat :=
  if l.length < 4 then ([], 0, 5)
  else if 1048576 < sizeOfFrame l then ([], 0, 4)
  else if l.length < sizeOfFrame l + 8 then ([], 0, 5)
  else if adl (l.take (4 + sizeOfFrame l)) = toldSum l then ((l.take (4 + sizeOfFrame l)).drop 4, 4 + sizeOfFrame l + 4, 0)
  else ([], 0, 4)
def unfrV (r : List UInt8 × Nat × Nat) : Value := .tuple #[.string ⟨r.1.toArray⟩, .int .i64 (r.2.1 : Nat), .int .i64 (r.2.2 : Nat)]

theorem unframe_any (w : World) (B : Nat) (A : Option Addr) (n c : Nat) (l : List UInt8) (hb : Byt w B A n c l) (hB : B ≤ w.heap.size) (hn : n ≤ 1099511627776) :
    Calls Tryz.prog 37 #[.slice A n c] w fun e w' => e = .returned (unfrV (unfr l)) ∧ Below w.heap.size w w' := by
  replace hb := hb.more hB
  have hl := hb.len
  unfold unfr
  by_cases h4 : l.length < 4
  · rw [if_pos h4]
    refine (unframe_short w A n c (by omega)).mono ?_
    rintro e w' ⟨rfl, rfl⟩
    exact ⟨rfl, Below.refl _ _⟩
  rw [if_neg h4]
  by_cases h5 : 1048576 < sizeOfFrame l
  · rw [if_pos h5]
    refine (unframe_big w A n c l hb (by omega) h5).mono ?_
    rintro e w' ⟨rfl, rfl⟩
    exact ⟨rfl, Below.refl _ _⟩
  rw [if_neg h5]
  by_cases h6 : l.length < sizeOfFrame l + 8
  · rw [if_pos h6]
    refine (unframe_more w A n c l hb (by omega) (by omega) (by omega)).mono ?_
    rintro e w' ⟨rfl, rfl⟩
    exact ⟨rfl, Below.refl _ _⟩
  rw [if_neg h6]
  have hcap := hb.cap
  have hle := hb.le
  unfold maxLen at hcap
  have hp := hb.upto (hi := 4) (by omega)
  have q1 := hb.upto (hi := 4 + sizeOfFrame l) (by omega)
  have q2 := hb.cut (lo := 4 + sizeOfFrame l) (hi := 4 + sizeOfFrame l + 4) (by omega) (by omega)
  have q3 := hb.cut (lo := 4) (hi := 4 + sizeOfFrame l) (by omega) (by omega)
  rw [if_neg (by omega)] at q2 q3
  rw [show 4 + sizeOfFrame l + 4 - (4 + sizeOfFrame l) = 4 by omega] at q2
  obtain ⟨b, o, rfl, hlt, hc⟩ := hb.lies (by omega)
  simp only [Option.map_some, add_plain] at q2 q3
  have hk1 := chk_lt (l.take (4 + sizeOfFrame l))
  have hk2 : toldSum l < 4294967296 := be_lt 0 (by decide) _
  by_cases heq : adl (l.take (4 + sizeOfFrame l)) = toldSum l
  · rw [if_pos heq]
    refine (unframe_walk true w b o n c (sizeOfFrame l) (4 + sizeOfFrame l) _ _ _ _ _ _ (by omega) hle (by omega) (by omega) (by omega) (by omega) hp q1 q2 q3 rfl rfl rfl hk1 hk2 ?_ ?_).mono ?_
    · change ((adl (l.take (4 + sizeOfFrame l)) : Int) == (toldSum l : Int)) = true
      simp
      omega
    · change ((adl (l.take (4 + sizeOfFrame l)) : Int) != (toldSum l : Int)) = false
      simp
      omega
    rintro e w' ⟨rfl, hbw⟩
    exact ⟨by simp [unfrV], hbw⟩
  · rw [if_neg heq]
    refine (unframe_walk false w b o n c (sizeOfFrame l) (4 + sizeOfFrame l) _ _ _ _ _ _ (by omega) hle (by omega) (by omega) (by omega) (by omega) hp q1 q2 q3 rfl rfl rfl hk1 hk2 ?_ ?_).mono ?_
    · change ((adl (l.take (4 + sizeOfFrame l)) : Int) == (toldSum l : Int)) = false
      simp
      omega
    · change ((adl (l.take (4 + sizeOfFrame l)) : Int) != (toldSum l : Int)) = true
      simp
      omega
    rintro e w' ⟨rfl, hbw⟩
    exact ⟨rfl, hbw⟩
end Go.Proofs.YtiikjdjpodmpcaaGreat
