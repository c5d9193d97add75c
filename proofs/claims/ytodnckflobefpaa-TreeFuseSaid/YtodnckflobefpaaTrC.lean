/- Package tree: how an operation begins, and what file it finds. -/
import Derived.Test.YtodnckflobefpaaTrB
namespace Go.Proofs.Ytodnckflobefpaa
open Go.RowKit Go.Maps
set_option linter.unusedVariables false

theorem BlkIs.nx {w w' : World} {g : Nat} {t : TypeId} {cs : Array Value} (h : BlkIs w g t cs) (k : Nx w w') : BlkIs w' g t cs := h.chd (M := fun _ => False) (Chd.of_below k) (fun e => e)
theorem Nx.chd {M : Nat → Prop} {w w' : World} (h : Nx w w') : Chd M w w' := Chd.of_below h

theorem begin_any (w : World) (tb : Nat) (s : St) (g : Gh) (h : BlkIs w tb 64 (treeC s g)) (h1 : -1 ≤ s.fuse) (h2 : s.fuse ≤ 9223372036854775807)
    (A : Option Addr) (n c : Nat) (ps : List Str) (hs : Strs w A n ps) :
    Calls Try.prog 31 #[.pointer (some ⟨tb, 0, none⟩), .slice A n c] w fun e w' => e = .returned (.int .i64 (s.begin_ ps).2) ∧ BlkIs w' tb 64 (treeC (s.begin_ ps).1 g) ∧ Chd (fun j => j = tb) w w' := by
  have V := Lib.hid (valid_any w tb g.mf (top_of h).c3)
  have X := Lib.hid (containsFunc_any w A n c ps hs)
  have H := Lib.hid h
  have B := Lib.hid (fun W hW => burn_any W tb s g hW h1 h2)
  clear h hs h1 h2
  unfold St.begin_
  cases hok : ps.all okP with
  | false =>
    rw [hok] at X
    rw [if_neg (by simp)]
    clear hok B
    go_enter Try.func31, Try.ntmps31
    go_wp2_with fail
    refine V.out.mono ?_
    rintro e w' ⟨rfl, rfl⟩
    go_wp2_with fail
    refine X.out.mono ?_
    rintro e w2 ⟨rfl, hb⟩
    have H2 := Lib.hid hb
    clear hb X V
    go_wp2
    go_ret
    exact ⟨rfl, H.out.nx H2.out, H2.out.chd⟩
  | true =>
    rw [hok] at X
    rw [if_pos rfl]
    clear hok
    generalize hs1 : s.burn = s1 at *
    clear hs1
    obtain ⟨r, hr⟩ : ∃ r, (if s1.off = true then (s1, (11 : Int)) else (s1, 0)) = r := ⟨_, rfl⟩
    rw [hr]
    have hr1 : r = (s1, if s1.off = true then 11 else 0) := by rw [← hr]; split <;> rfl
    obtain ⟨r1, r2⟩ := r
    simp only [Prod.mk.injEq] at hr1
    obtain ⟨hr1, hr2⟩ := hr1
    subst hr1
    clear hr
    have R := Lib.hid hr2
    clear hr2
    go_enter Try.func31, Try.ntmps31
    go_wp2_with fail
    refine V.out.mono ?_
    rintro e w' ⟨rfl, rfl⟩
    go_wp2_with fail
    refine X.out.mono ?_
    rintro e w2 ⟨rfl, hb⟩
    have H2 := Lib.hid hb
    clear hb X V
    go_wp2_with fail
    refine (B.out w2 (H.out.nx H2.out)).mono ?_
    rintro e w3 ⟨rfl, hb, hc⟩
    have c7 := (top_of hb).c7
    have H3 := Lib.hid hb
    have C3 := Lib.hid (Chd.trans (Nx.chd H2.out) hc)
    clear hb hc B H H2
    cases hoff : r1.off with
    | true =>
      rw [hoff] at c7
      have R2 : r2 = 11 := by rw [R.out, hoff]; rfl
      subst R2
      clear hoff R
      go_wp2
      go_ret
      exact ⟨rfl, H3.out, C3.out⟩
    | false =>
      rw [hoff] at c7
      have R2 : r2 = 0 := by rw [R.out, hoff]; rfl
      subst R2
      clear hoff R
      go_wp2
      go_ret
      exact ⟨rfl, H3.out, C3.out⟩
end Go.Proofs.Ytodnckflobefpaa
