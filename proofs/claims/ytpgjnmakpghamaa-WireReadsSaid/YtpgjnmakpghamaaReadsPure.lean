/- The law WireReads: what both readers do beside each other. -/
import Derived.Test.YtpgjnmakpghamaaRunsWalk
import Derived.Test.YtpgjnmakpghamaaDoc5
import Derived.Test.YtpgjnmakpghamaaRef2
namespace Go.Proofs.Ytpgjnmakpghamaa
open Go.RowKit
set_option linter.unusedVariables false

/-- A slice of pairs of numbers, as it came in. -/
structure Acts (w : World) (A : Option Addr) (n c : Nat) : Prop where
  le : n ≤ c
  cap : c ≤ maxLen
  lies : 0 < n → ∃ b o, A = some ⟨b, o, none⟩ ∧ b < w.heap.size ∧ ∀ i, i < n → ∃ K M : Int, w.cell? ⟨b, o + i * 2, none⟩ = some (.int .i64 K) ∧ w.cell? ⟨b, o + i * 2 + 1, none⟩ = some (.int .i64 M) ∧
    -9223372036854775808 ≤ K ∧ K ≤ 9223372036854775807 ∧ M ≤ 9223372036854775807

def cntA (l : List UInt8) (m : Nat) (at_ : Nat) (er : Int) : Nat × Nat × Int := if er = 0 then ((cnt m (l.drop at_)).1, at_ + (cnt m (l.drop at_)).2.1, ((cnt m (l.drop at_)).2.2 : Nat)) else (0, at_, er)
theorem cntA_err (l : List UInt8) (m at_ : Nat) (er : Int) (h : okErr er) : okErr (cntA l m at_ er).2.2 := by
  unfold cntA
  split
  · simp only
    unfold cnt
    split
    · next h0 =>
      rcases (num_err _ h0).2.2 with h1 | h1
      · exact .inr (.inr (.inl (by simp only; omega)))
      · exact .inr (.inr (.inr (by simp only; omega)))
    · split
      · exact .inr (.inl rfl)
      · exact .inl rfl
  · exact h
theorem rd_count (w : World) (B g n c at_ : Nat) (A : Option Addr) (l : List UInt8) (er m : Int) (hm : m ≤ 9223372036854775807) (h : Rdr w B g A n c l at_ er) :
    Calls Try.prog 31 #[.pointer (some ⟨g, 0, none⟩), .int .i64 m] w (RdPost w B g A n c l (cntA l m.toNat at_ er).2.1 (cntA l m.toNat at_ er).2.2 (.int .i64 ((cntA l m.toNat at_ er).1 : Nat))) := by
  unfold cntA
  by_cases he : er = 0
  · subst he
    rw [if_pos rfl]
    exact rd_count0 w B g n c at_ A l m hm h
  · rw [if_neg he]
    exact rd_count1 w B g n c at_ A l er m he h
theorem dn_number (w : World) (B g n c at_ : Nat) (A : Option Addr) (l : List UInt8) (er : Int) (h : DRdr w B g A n c l at_ er) :
    Calls Try.prog 28 #[.pointer (some ⟨g, 0, none⟩)] w (DPost w B g A n c l (numA l at_ er).2.1 (numA l at_ er).2.2 (.int .u64 ((numA l at_ er).1 : Nat))) := by
  unfold numA
  by_cases he : er = 0
  · subst he
    rw [if_pos rfl]
    exact dn_number0 w B g n c at_ A l h
  · rw [if_neg he]
    exact dn_number1 w B g n c at_ A l er he h
theorem dn_piece (w : World) (B g n c at_ : Nat) (A : Option Addr) (l : List UInt8) (er : Int) (h : DRdr w B g A n c l at_ er) :
    Calls Try.prog 30 #[.pointer (some ⟨g, 0, none⟩)] w (DPost w B g A n c l (pcsA l at_ er).2.1 (pcsA l at_ er).2.2 (.string ⟨(pcsA l at_ er).1.toArray⟩)) := by
  unfold pcsA
  by_cases he : er = 0
  · subst he
    rw [if_pos rfl]
    exact dn_piece0 w B g n c at_ A l h
  · rw [if_neg he]
    exact dn_piece1 w B g n c at_ A l er he h
theorem dn_count (w : World) (B g n c at_ : Nat) (A : Option Addr) (l : List UInt8) (er m : Int) (hm : m ≤ 9223372036854775807) (h : DRdr w B g A n c l at_ er) :
    Calls Try.prog 32 #[.pointer (some ⟨g, 0, none⟩), .int .i64 m] w (DPost w B g A n c l (cntA l m.toNat at_ er).2.1 (cntA l m.toNat at_ er).2.2 (.int .i64 ((cntA l m.toNat at_ er).1 : Nat))) := by
  unfold cntA
  by_cases he : er = 0
  · subst he
    rw [if_pos rfl]
    exact dn_count0 w B g n c at_ A l m hm h
  · rw [if_neg he]
    exact dn_count1 w B g n c at_ A l er m he h

theorem quiet_more0 {P : Program} {f : FuncId} {args : Array Value} {w : World} {k : Nat} {v : Value}
    (h : Calls P f args (w.drewN k) fun e w' => e = .returned v ∧ ∃ m, w' = (w.drewN k).drewN m) :
    Calls P f args (w.drewN k) fun e w'' => e = .returned v ∧ ∃ m, w'' = w.drewN m :=
  h.mono fun _ _ ⟨he, m, hm⟩ => ⟨he, k + m, by rw [hm, World.drewN_drewN]⟩
theorem quiet_stay0 {P : Program} {f : FuncId} {args : Array Value} {w : World} {k : Nat} {v : Value}
    (h : Calls P f args (w.drewN k) fun e w' => e = .returned v ∧ w.drewN k = w') :
    Calls P f args (w.drewN k) fun e w'' => e = .returned v ∧ ∃ m, w'' = w.drewN m :=
  h.mono fun _ _ ⟨he, hm⟩ => ⟨he, k, hm.symm⟩

/-- Both readers stand at p, with the error er. -/
structure Both (w wr : World) (B g : Nat) (A : Option Addr) (c B2 g2 : Nat) (A2 : Option Addr) (c2 n : Nat) (L : List UInt8) (p : Nat) (er : Int) : Prop where
  r : Rdr wr B g A n c L p er
  d : DRdr wr B2 g2 A2 n c2 L p er
  ok : okErr er
  below : Below w.heap.size w wr
  ne : g ≠ g2
  hB : w.heap.size ≤ B
  hB2 : w.heap.size ≤ B2
/-- Between the two calls. -/
structure Mid (w wr : World) (B g : Nat) (A : Option Addr) (c B2 g2 : Nat) (A2 : Option Addr) (c2 n : Nat) (L : List UInt8) (p a2 : Nat) (er e2 : Int) : Prop where
  r : Rdr wr B g A n c L a2 e2
  d : DRdr wr B2 g2 A2 n c2 L p er
  below : Below w.heap.size w wr
  ne : g ≠ g2
  hB : w.heap.size ≤ B
  hB2 : w.heap.size ≤ B2
section
variable {w wr wx wy : World} {B g c B2 g2 c2 n p a2 : Nat} {A A2 : Option Addr} {L : List UInt8} {er e2 : Int} {v : Value} {e : Ending}
theorem Both.first (h : Both w wr B g A c B2 g2 A2 c2 n L p er) (hp : RdPost wr B g A n c L a2 e2 v e wx) : Mid w wx B g A c B2 g2 A2 c2 n L p a2 er e2 :=
  ⟨hp.2.1, h.d.grown hp.2.2 (fun e => h.ne (by injection e with e; exact e.symm)) (.inr (h.r.blk.own_ne (by decide) h.d.own)),
   h.below.grown hp.2.2 h.below.size (fun k hk => by injection hk with hk; subst hk; exact Nat.le_trans h.hB h.r.hB), h.ne, h.hB, h.hB2⟩
theorem Mid.second (h : Mid w wx B g A c B2 g2 A2 c2 n L p a2 er e2) (hp : DPost wx B2 g2 A2 n c2 L a2 e2 v e wy) (ho : okErr e2) : Both w wy B g A c B2 g2 A2 c2 n L a2 e2 :=
  ⟨h.r.grown hp.2.2 (fun e => h.ne (by injection e)) (.inr (h.d.blk.own_ne (by decide) h.r.own)), hp.2.1, ho,
   h.below.grown hp.2.2 h.below.size (fun k hk => by injection hk with hk; subst hk; exact Nat.le_trans h.hB2 h.d.hB), h.ne, h.hB, h.hB2⟩
theorem Both.drewN (h : Both w wr B g A c B2 g2 A2 c2 n L p er) (q : Nat) : Both w (wr.drewN q) B g A c B2 g2 A2 c2 n L p er :=
  ⟨h.r.drewN q, h.d.drewN q, h.ok, below_drewN h.below q, h.ne, h.hB, h.hB2⟩
theorem Both.drew (h : Both w wr B g A c B2 g2 A2 c2 n L p er) : Both w wr.drew B g A c B2 g2 A2 c2 n L p er := h.drewN 1
end
end Go.Proofs.Ytpgjnmakpghamaa
