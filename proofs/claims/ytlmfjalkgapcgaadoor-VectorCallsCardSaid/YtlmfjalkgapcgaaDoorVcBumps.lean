/- The law VectorBumps. -/
import Derived.Test.YtlmfjalkgapcgaaDoorVcKit
namespace Go.Proofs.YtlmfjalkgapcgaaDoor
open Go.RowKit
set_option linter.unusedVariables false

attribute [local go_sem] Oper.semAt_some

/-! ### Pure -/
theorem mgs_vl {ls : List (List Ct)} (h : ∀ l ∈ ls, vld 0 l = true) (d : Int) : vl (mgs ls) d = ls.foldl (fun x l => max x (vl l d)) 0 := by
  have : ∀ (ls : List (List Ct)) (a : List Ct), vld 0 a = true → (∀ l ∈ ls, vld 0 l = true) → vl (ls.foldl mg a) d = ls.foldl (fun x l => max x (vl l d)) (vl a d) := by
    intro ls
    induction ls with
    | nil => intro a _ _; rfl
    | cons l ls ih =>
      intro a ha h
      have hl := h l (by simp)
      show vl (ls.foldl mg (mg a l)) d = _
      rw [ih _ (mg_vld ha hl) fun x hx => h x (by simp [hx]), mg_vl ha hl]; rfl
  exact this ls [] rfl h
theorem all1 {a : List Ct} (h : vld 0 a = true) : ∀ l ∈ [a], vld 0 l = true := fun l hl => by
  obtain rfl : l = a := by simpa using hl
  exact h
theorem all_cons {a : List Ct} {ls : List (List Ct)} (h : vld 0 a = true) (k : ∀ l ∈ ls, vld 0 l = true) : ∀ l ∈ a :: ls, vld 0 l = true := fun l hl => by
  rcases List.mem_cons.1 hl with rfl | hl
  · exact h
  · exact k l hl
section
variable {a b c : List Ct}
theorem mgs_x (ha : vld 0 a = true) (hb : vld 0 b = true) (hc : vld 0 c = true) : mgs [a, b, c] = mgs [a, mgs [b, c]] := by
  have h2 := all_cons hb (all1 hc)
  have h3 := all_cons ha h2
  have h4 := all_cons ha (all1 (mgs_vld h2))
  refine vl_ext (mgs_vld h3) (mgs_vld h4) fun d => ?_
  rw [mgs_vl h3, mgs_vl h4]
  simp only [List.foldl_cons, List.foldl_nil]
  rw [mgs_vl h2]
  simp only [List.foldl_cons, List.foldl_nil]
  omega
theorem mgs_y (ha : vld 0 a = true) (hb : vld 0 b = true) (hc : vld 0 c = true) : mgs [a, b, c] = mgs [c, b, a, b] := by
  have h3 := all_cons ha (all_cons hb (all1 hc))
  have h4 := all_cons hc (all_cons hb (all_cons ha (all1 hb)))
  refine vl_ext (mgs_vld h3) (mgs_vld h4) fun d => ?_
  rw [mgs_vl h3, mgs_vl h4]
  simp only [List.foldl_cons, List.foldl_nil]
  omega
theorem cp_after {m : List Ct} (hm : vld 0 m = true) (ha : vld 0 a = true) (h : ∀ d, vl a d ≤ vl m d) : cp m a = 1 ∨ cp m a = 3 := by
  have := (less_no hm ha).2 h
  unfold cp cpOf
  rw [this]
  cases (ag m a).any moreP <;> simp
theorem ok_vld {l : List Ct} (h : vld 0 l = true) (k : ∀ c ∈ l, c.n < 18446744073709551616) : CtsOk l := fun c hc => by
  have hd : ∀ (l : List Ct) (a : Int), vld a l = true → ∀ c ∈ l, 1 ≤ c.d ∧ c.d ≤ 16 := by
    intro l
    induction l with
    | nil => intro a _ c hc; cases hc
    | cons x l ih =>
      intro a h c hc
      rw [vld_cons] at h
      rcases List.mem_cons.1 hc with rfl | hc
      · exact ⟨h.1.1, h.1.2.1⟩
      · exact ih _ h.2 c hc
  have := hd l 0 h c hc
  have := k c hc
  exact ⟨by omega, by omega, by omega⟩
theorem CtsOk.small {l : List Ct} (h : CtsOk l) : ∀ c ∈ l, c.n < 18446744073709551616 := fun c hc => by have := (h c hc).2.2; omega
theorem devB_iff {d : Int} : devB d = true ↔ 1 ≤ d ∧ d ≤ 16 := by simp [devB]
variable {d f : Int}
theorem bmp_ok (ha : vld 0 a = true) (ka : CtsOk a) (hd : devB d = true) (hm : vl a d ≠ 18446744073709551615) : vld 0 (bmp a d) = true ∧ CtsOk (bmp a d) := by
  obtain ⟨h1, h2⟩ := devB_iff.1 hd
  refine ⟨bmp_vld ha h1 h2, ok_vld (bmp_vld ha h1 h2) (mg_small ha (vld_one h1 h2 (by omega)) ka.small fun c hc => ?_)⟩
  obtain rfl : c = ⟨d, vl a d + 1⟩ := by simpa using hc
  have := vl_small (d := d) ka.small (by omega)
  show vl a d + 1 < _
  omega
theorem bmp_comm (ha : vld 0 a = true) (hd : devB d = true) (hf : devB f = true) : bmp (bmp a d) f = bmp (bmp a f) d := by
  obtain ⟨d1, d2⟩ := devB_iff.1 hd
  obtain ⟨f1, f2⟩ := devB_iff.1 hf
  refine vl_ext (bmp_vld (bmp_vld ha d1 d2) f1 f2) (bmp_vld (bmp_vld ha f1 f2) d1 d2) fun e => ?_
  rw [bmp_vl (bmp_vld ha d1 d2) f1 f2, bmp_vl ha d1 d2, bmp_vl (bmp_vld ha f1 f2) d1 d2, bmp_vl ha f1 f2]
  omega
theorem bmp_both (ha : vld 0 a = true) (hd : devB d = true) (hf : devB f = true) (hne : d ≠ f) : mgs [bmp a d, bmp a f] = bmp (bmp a d) f := by
  obtain ⟨d1, d2⟩ := devB_iff.1 hd
  obtain ⟨f1, f2⟩ := devB_iff.1 hf
  have h2 := all_cons (bmp_vld ha d1 d2) (all1 (bmp_vld ha f1 f2))
  refine vl_ext (mgs_vld h2) (bmp_vld (bmp_vld ha d1 d2) f1 f2) fun e => ?_
  rw [mgs_vl h2, bmp_vl (bmp_vld ha d1 d2) f1 f2]
  simp only [List.foldl_cons, List.foldl_nil]
  rw [bmp_vl ha d1 d2, bmp_vl ha f1 f2]
  by_cases q : d = e
  · by_cases r : f = e
    · omega
    · simp [q, r]
  · by_cases r : f = e
    · simp [q, r]
    · simp [q, r]
theorem bmp_other (ha : vld 0 a = true) (hd : devB d = true) (hne : d ≠ f) : vl (bmp a d) f = vl a f := by
  obtain ⟨d1, d2⟩ := devB_iff.1 hd
  rw [bmp_vl ha d1 d2, if_neg hne]; rfl
theorem bmp_self (ha : vld 0 a = true) (hd : devB d = true) : vl (bmp a d) d = vl a d + 1 := by
  obtain ⟨d1, d2⟩ := devB_iff.1 hd
  rw [bmp_vl ha d1 d2, if_pos rfl]
theorem bmp_beside (ha : vld 0 a = true) (hd : devB d = true) (hf : devB f = true) (hne : d ≠ f) : cp (bmp a d) (bmp a f) = 4 := by
  obtain ⟨d1, d2⟩ := devB_iff.1 hd
  obtain ⟨f1, f2⟩ := devB_iff.1 hf
  rw [cp_4 (bmp_vld ha d1 d2) (bmp_vld ha f1 f2)]
  exact ⟨⟨f, by rw [bmp_other ha hd hne, bmp_self ha hf]; omega⟩, ⟨d, by rw [bmp_other ha hf (fun e => hne e.symm), bmp_self ha hd]; omega⟩⟩
theorem bmp_ne (ha : vld 0 a = true) (hd : devB d = true) (hf : devB f = true) (hne : d ≠ f) : bmp a d ≠ bmp a f := fun e => by
  have h1 := bmp_self ha hd
  rw [e, bmp_other ha hf (fun e => hne e.symm)] at h1
  omega
end
theorem rd_nil {w : World} {v : Value} {l : List Ct} (h : RdG ctE w v l) {A : Option Addr} {n c : Nat} (e : v = .slice A n c) : n = l.length := by
  subst e; exact h.caps.1

end Go.Proofs.YtlmfjalkgapcgaaDoor
