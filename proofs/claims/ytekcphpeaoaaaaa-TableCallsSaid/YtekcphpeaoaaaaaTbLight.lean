/- Package table: LightPairs. -/
import Derived.Test.YtekcphpeaoaaaaaTbArg
namespace Go.Proofs.Ytekcphpeaoaaaaa
open Go.RowKit Go.Maps
set_option linter.unusedVariables false

def LightP (nn most : Nat) (l : List Pr) : Prop := l.length ≤ nn ∧ ∀ p ∈ l, p.k.length ≤ most ∧ p.v.length ≤ most
/-- .. so far. -/
def LightSo (w : World) (most : Nat) (l : List Pr) (i s : Nat) (wr : World) : Prop := Nx w wr ∧ (s ≤ most → ∀ p ∈ l.take i, p.k.length ≤ most ∧ p.v.length ≤ most)
set_option maxRecDepth 100000 in
set_option maxHeartbeats 1000000 in
theorem light_any (w : World) (A : Option Addr) (n c : Nat) (l : List Pr) (h : Rd w (.slice A n c) l) (hn : l.length = n) (hn2 : n ≤ 9223372036854775807) (hin : ∀ p ∈ l, PrIn p) (nn most : Nat) (hnn : nn ≤ 1000) (hmost : most ≤ 100000) :
    Calls Try.prog 15 #[.slice A n c, (.int .i64 (nn : Int)), (.int .i64 (most : Int))] w fun e w' => ∃ B : Bool, e = .returned (.bool B) ∧ (B = true → LightP nn most l) ∧ Nx w w' := by
  have i1 : (n : Int) ≤ 9223372036854775807 := by omega
  have H := Lib.hid h
  have HN := Lib.hid hn
  have HI := Lib.hid hin
  clear h hn hin hn2
  go_enter Try.func15, Try.ntmps15
  go_wp2
  go_loopw [7, 8] (fun y x wr => ∃ i s : Nat, x = .int .i64 i ∧ y = .int .i64 s ∧ i ≤ n ∧ i ≤ nn + 1 ∧ s ≤ 3 * most + 2 ∧ Hid (LightSo w most l i s wr)) (fun _ x _ => n - (intOf x).toNat)
  case atStart => exact ⟨0, 0, rfl, rfl, Nat.zero_le _, Nat.zero_le _, Nat.zero_le _, Nx.refl w, fun _ p hp => by simp at hp⟩
  case round =>
    obtain ⟨i, s, rfl, rfl, hi, hi2, hs, hrel⟩ := hrel
    by_cases c1 : i < n
    · by_cases c2 : i ≤ nn
      · by_cases c3 : s ≤ most
        · have hm := hrel.out.1
          have hil : i < l.length := by rw [HN.out]; exact c1
          rcases Rd.nx H.out hm with ⟨_, _, e, e0⟩ | ⟨b, o, c', e, hc⟩
          · rw [e0] at hil; cases hil
          · simp only [Value.slice.injEq] at e
            obtain ⟨rfl, _, rfl⟩ := e
            obtain ⟨x0, x1, x2⟩ := Rd.cells hc i hil
            have d0 : wr.cell? ⟨b, o + i * 3, none⟩ = some (.string (S l[i].k)) := x0
            have d1 : wr.cell? ⟨b, o + i * 3 + 1, none⟩ = some (.string (S l[i].v)) := x1
            have hst : Hid (∀ s', s ≤ s' → (s' ≤ most → l[i].k.length ≤ most ∧ l[i].v.length ≤ most) → ∀ V, Nx wr V → LightSo w most l (i + 1) s' V) := fun s' h1 h2 V hV =>
              ⟨hm.trans hV, fun hs p hp => by
                rw [List.take_succ_eq_append_getElem hil] at hp
                rcases List.mem_append.1 hp with hp | hp
                · exact hrel.out.2 (by omega) p hp
                · rw [List.mem_singleton.1 hp]; exact h2 hs⟩
            have hk := S_size l[i].k
            have hv := S_size l[i].v
            have hsp := HI.out _ (List.getElem_mem hil)
            unfold PrIn at hsp
            generalize l[i] = p at *
            generalize S p.k = sk at *
            generalize S p.v = sv at *
            have hk2 : (sk.size : Int) ≤ 9223372036854775807 := by omega
            have hv2 : (sv.size : Int) ≤ 9223372036854775807 := by omega
            have HK : Hid (p.k.length = sk.size ∧ p.v.length = sv.size) := ⟨hk.symm, hv.symm⟩
            clear hk hv hsp hc hm hrel x0 x1 x2
            by_cases c4 : sk.size ≤ (most + 1)
            · by_cases c5 : sv.size ≤ (most + 1)
              · go_wp2_with fail
                go_region
                go_wp2
                go_roundw
                case rel => exact ⟨i + 1, s + sk.size + sv.size, by go_num, by go_num, by omega, by omega, by omega, hst.out _ (by omega) (fun h => by have := HK.out; omega) _ (Nx.drew (Nx.refl wr))⟩
                case measure => simp [intOf]; omega
              · go_wp2_with fail
                go_region
                go_wp2
                go_roundw
                case rel => exact ⟨i + 1, s + sk.size + (most + 1), by go_num, by go_num, by omega, by omega, by omega, hst.out _ (by omega) (fun h => by have := HK.out; omega) _ (Nx.drew (Nx.refl wr))⟩
                case measure => simp [intOf]; omega
            · by_cases c5 : sv.size ≤ (most + 1)
              · go_wp2_with fail
                go_region
                go_wp2
                go_roundw
                case rel => exact ⟨i + 1, s + (most + 1) + sv.size, by go_num, by go_num, by omega, by omega, by omega, hst.out _ (by omega) (fun h => by have := HK.out; omega) _ (Nx.drew (Nx.refl wr))⟩
                case measure => simp [intOf]; omega
              · go_wp2_with fail
                go_region
                go_wp2
                go_roundw
                case rel => exact ⟨i + 1, s + (most + 1) + (most + 1), by go_num, by go_num, by omega, by omega, by omega, hst.out _ (by omega) (fun h => by have := HK.out; omega) _ (Nx.drew (Nx.refl wr))⟩
                case measure => simp [intOf]; omega
        · have NX : Hid (Nx w wr) := hrel.out.1
          have d6 : decide ((s : Int) ≤ most) = false := by simp; omega
          clear hrel
          by_cases c5 : n ≤ nn
          · go_wp2
            go_ret
            exact ⟨false, rfl, (fun e => by cases e), NX.out⟩
          · go_wp2
            go_ret
            exact ⟨false, rfl, (fun e => by cases e), NX.out⟩
      · have NX : Hid (Nx w wr) := hrel.out.1
        clear hrel
        have c5 : ¬ n ≤ nn := by omega
        go_wp2
        go_ret
        exact ⟨false, rfl, (fun e => by cases e), NX.out⟩
    · obtain rfl : i = n := by omega
      have ht : l.take i = l := List.take_of_length_le (by rw [HN.out]; exact Nat.le_refl _)
      have REL : Hid (s ≤ most → ∀ p ∈ l, p.k.length ≤ most ∧ p.v.length ≤ most) := by
        have := hrel.out.2
        rwa [ht] at this
      have NX : Hid (Nx w wr) := hrel.out.1
      clear hrel ht
      by_cases c5 : i ≤ nn
      · by_cases c6 : s ≤ most
        · have d6 : decide ((s : Int) ≤ most) = true := by simp; omega
          go_wp2
          go_ret
          exact ⟨true, rfl, fun _ => ⟨by rw [HN.out]; exact c5, REL.out c6⟩, NX.out⟩
        · have d6 : decide ((s : Int) ≤ most) = false := by simp; omega
          go_wp2
          go_ret
          exact ⟨false, rfl, (fun e => by cases e), NX.out⟩
      · by_cases c6 : s ≤ most
        · have d6 : decide ((s : Int) ≤ most) = true := by simp; omega
          go_wp2
          go_ret
          exact ⟨false, rfl, (fun e => by cases e), NX.out⟩
        · have d6 : decide ((s : Int) ≤ most) = false := by simp; omega
          go_wp2
          go_ret
          exact ⟨false, rfl, (fun e => by cases e), NX.out⟩
end Go.Proofs.Ytekcphpeaoaaaaa
