/- The reference: Pad. -/
import Derived.Test.YtpgjnmakpghamaaDoorDgPad
namespace Go.Proofs.YtpgjnmakpghamaaDoor
open Go.RowKit
set_option linter.unusedVariables false

def lenOfV : Value → Nat
  | .slice _ n _ => n
  | _ => 0
def zl (k : Nat) : List UInt8 := 128 :: List.replicate k 0
theorem zl_succ (k : Nat) : zl k ++ [0] = zl (k + 1) := by
  unfold zl
  rw [List.cons_append, ← List.replicate_succ']
theorem zl_end (n : Nat) : zl (zerosOf n) = padGo n 0 := rfl

set_option maxRecDepth 100000 in
theorem rpad_any (w : World) (n' : Int) (n : Nat) (hn : n ≤ 1152921504606846976) (hn' : (if 0 < n' then n' else 0) = (n : Int)) :
    Calls Tryd.prog 19 #[.int .i64 n'] w fun e w' => ∃ A c, e = .returned (.slice A (1 + zerosOf n + 8) c) ∧ Own w' w.heap.size A (1 + zerosOf n + 8) c (padU n) ∧ Below w.heap.size w w' := by
  obtain ⟨Z, hZ⟩ : ∃ Z, zerosOf n = Z := ⟨_, rfl⟩
  have hz64 : Z < 64 := by rw [← hZ]; exact Nat.mod_lt _ (by omega)
  have hneq : ∀ k, k < Z → ¬ ((n : Int) + (1 + (k : Int)) + 8) % 64 = 0 := fun k hk => by
    rw [← hZ] at hk
    unfold zerosOf at hk
    omega
  have heqz : ((n : Int) + (1 + (Z : Int)) + 8) % 64 = 0 := by
    rw [← hZ]
    unfold zerosOf
    omega
  have Hneq := Lib.hid hneq
  have Heqz := Lib.hid heqz
  have HZ := Lib.hid hZ
  have em : max n' 0 = (n : Int) := by rw [← hn']; split <;> omega
  have em2 : max 0 n' = (n : Int) := by rw [← hn']; split <;> omega
  rw [hZ]
  clear hZ hneq heqz
  have hlit : Own (w.alloc (.cells #[.int .u8 128] 5)) w.heap.size (some ⟨w.heap.size, 0, none⟩) 1 1 (zl 0) := Own.lit w #[.int .u8 128] (zl 0) rfl (by decide)
  have Hlit := Lib.hid hlit
  have Hal : Hid (Below w.heap.size w (w.alloc (.cells #[.int .u8 128] 5))) := (Below.refl _ _).alloc (Nat.le_refl _) _
  clear hlit
  go_enter Tryd.func19, Tryd.ntmps19
  go_wp2
  try rw [hn']
  clear hn' em em2
  go_loopw [3] (fun x wr => ∃ (A : Option Addr) (c k : Nat), x = .slice A (1 + k) c ∧ k ≤ Z ∧ Own wr w.heap.size A (1 + k) c (zl k) ∧ Below w.heap.size w wr) (fun x _ => Z + 1 - (lenOfV x))
  case atStart => exact ⟨_, 1, 0, rfl, Nat.zero_le _, Hlit.out, Hal.out⟩
  case round =>
    obtain ⟨A, c, k, rfl, hk, ho, hbel⟩ := hrel
    have Ho := Lib.hid ho
    have Hbel := Lib.hid hbel
    clear ho hbel Hlit Hal
    have hle := Ho.out.byt.le
    by_cases hkZ : k < Z
    · have hne := Hneq.out k hkZ
      have hne' : (((n : Int) + (1 + (k : Int)) + 8) % 64 == 0) = false := by simpa using hne
      have hby := Byt.lit wr #[.int .u8 0] [0] rfl (by simp [maxLen])
      have Hby := Lib.hid hby
      have Hoa := Lib.hid (Own.alloc Ho.out (.cells #[.int .u8 0] 5))
      have Hba := Lib.hid (Hbel.out.alloc Hbel.out.size (.cells #[.int .u8 0] 5))
      clear hne hby
      go_wp2_with (at_builtin; refine wpList_byte_append rfl (.tmp 16) (.tmp 17) rfl w.heap.size A (1 + k) c (zl k) rfl Hoa.out _ _ 1 1 _ rfl Hby.out (by omega) Hba.out.size ?_
                   intro A2 c2 w2 ho2 hg2 ha2
                   rw [zl_succ] at ho2
                   have Ho2 := Lib.hid ho2
                   have Hb2 := Lib.hid (Hba.out.grown hg2 Hba.out.size fun q hq => (World.ownsRow.lt Hoa.out q hq).1)
                   clear ho2 hg2 ha2)
      go_roundw
      case rel => exact ⟨A2, c2, k + 1, rfl, by omega, Ho2.out, Hb2.out⟩
      case measure => simp [lenOfV]; omega
    · obtain rfl : Z = k := by omega
      have heqz := Heqz.out
      have hst2 : Own wr w.heap.size A (1 + Z + 0) c (padGo n 0) := by
        rw [← zl_end, HZ.out]
        exact Ho.out
      have Hst := Lib.hid hst2
      have Hal1 := Hbel
      have m1 : IntKind.u64.wrap ((n : Int) * 8) = 8 * (n : Int) := by rw [IntWalk.u64_in _ (by omega)]; omega
      clear hst2 Ho Hneq
      go_wp2
      clear heqz
      go_loopw [3, 5] (fun y x wr => ∃ (A : Option Addr) (n' c k : Nat), y = .slice A n' c ∧ x = .int .i64 (56 - 8 * (k : Int)) ∧ k ≤ 8 ∧ n' = 1 + Z + k ∧ Own wr w.heap.size A n' c (padGo n k) ∧ Below w.heap.size w wr) (fun _ x _ => (intOf x + 8).toNat)
      case atStart => exact ⟨_, 1 + Z, c, 0, rfl, rfl, by omega, rfl, Hst.out, Hal1.out⟩
      case round =>
        obtain ⟨A, n', c, k, rfl, rfl, hk, rfl, ho, hbel⟩ := hrel
        have Ho := Lib.hid ho
        clear Hbel
        have Hbel := Lib.hid hbel
        clear ho hbel Hst Hal1
        by_cases hlt : k < 8
        · obtain ⟨sh, hsh⟩ : ∃ sh : Nat, 56 - 8 * k = sh := ⟨_, rfl⟩
          have es : 56 - 8 * (k : Int) = (sh : Int) := by omega
          have hstep : padGo n (k + 1) = padGo n k ++ [UInt8.ofNat (8 * n / 2 ^ sh % 256)] := by rw [padGo, hsh]
          have hsh2 : sh ≤ 56 := by omega
          have b0 : decide ((0 : Int) ≤ 56 - 8 * (k : Int)) = true := by simp; omega
          have Hstep := Lib.hid hstep
          have Hsh := Lib.hid hsh
          clear hstep hsh
          have hv : 8 * (n : Int) / 2 ^ sh % 256 = ((8 * n / 2 ^ sh % 256 : Nat) : Int) := by
            have ep : ((2 ^ sh : Nat) : Int) = (2 : Int) ^ sh := by simp
            rw [← ep, show 8 * (n : Int) = ((8 * n : Nat) : Int) by omega, ← Int.natCast_ediv]
            generalize 8 * n / 2 ^ sh = q
            omega
          have hby := Byt.lit wr #[.int .u8 (8 * (n : Int) / 2 ^ sh % 256)] [UInt8.ofNat (8 * n / 2 ^ sh % 256)] (by
            rw [hv]
            simp only [bvs, List.map_cons, List.map_nil, UInt8.toNat_ofNat']
            rw [show 8 * n / 2 ^ sh % 256 % 2 ^ 8 = 8 * n / 2 ^ sh % 256 from Nat.mod_eq_of_lt (Nat.mod_lt _ (by omega))]) (by simp [maxLen])
          have hoa : Own (wr.alloc (.cells #[.int .u8 (8 * (n : Int) / 2 ^ sh % 256)] 5)) w.heap.size A (1 + Z + k) c (padGo n k) := Own.alloc Ho.out _
          have hba : Below w.heap.size w (wr.alloc (.cells #[.int .u8 (8 * (n : Int) / 2 ^ sh % 256)] 5)) := Hbel.out.alloc Hbel.out.size _
          have Hby := Lib.hid hby
          have Hoa := Lib.hid hoa
          have Hba := Lib.hid hba
          have hle : 1 + Z + k ≤ 100 := by omega
          have hsz := Hbel.out.size
          clear hv hby hoa hba
          rw [es]
          go_wp2_with (at_builtin; refine wpList_byte_append rfl (.tmp 26) (.tmp 32) rfl w.heap.size A (1 + Z + k) c (padGo n k) rfl Hoa.out _ _ 1 1 _ rfl Hby.out (by omega) Hba.out.size ?_
                       intro A2 c2 w2 ho2 hg2 ha2
                       rw [← Hstep.out] at ho2
                       have Ho2 := Lib.hid ho2
                       have Hb2 := Lib.hid (Hba.out.grown hg2 Hba.out.size fun q hq => (World.ownsRow.lt Hoa.out q hq).1)
                       clear ho2 hg2 ha2)
          go_roundw
          case rel => exact ⟨A2, 1 + Z + k + 1, c2, k + 1, rfl, by congr 1; omega, by omega, rfl, Ho2.out, Hb2.out⟩
          case measure => simp [intOf]; omega
        · obtain rfl : k = 8 := by omega
          have b0 : decide ((0 : Int) ≤ 56 - 8 * ((8 : Nat) : Int)) = false := by decide
          go_wp2
          go_ret
          exact ⟨A, c, rfl, Ho.out, Hbel.out⟩
end Go.Proofs.YtpgjnmakpghamaaDoor
