/- Package table: two trees are joined; a key is dropped. -/
import Derived.Test.YtekcphpeaoaaaaaTbCut
namespace Go.Proofs.Ytekcphpeaoaaaaa
open Go.RowKit
set_option linter.unusedVariables false

theorem join_size (a b : T) : (a.join b).size = a.size + b.size := by rw [T.size_eq, join_pairs, List.length_append, ← T.size_eq, ← T.size_eq]
theorem join_nil (b : T) : T.nil.join b = b := by unfold T.join; rfl
theorem join_nil' (a : T) : a.join .nil = a := by cases a <;> (unfold T.join; rfl)
theorem join_nd (l : T) (k v : Str) (r l' : T) (k' v' : Str) (r' : T) : (T.nd l k v r).join (.nd l' k' v' r') = if top k k' then .nd l k v (r.join (.nd l' k' v' r')) else .nd ((T.nd l k v r).join l') k' v' r' := by
  rw [T.join]

set_option maxRecDepth 100000 in
theorem join_any (n : Nat) : ∀ (a b : T) (w : World) (B B' : Nat) (va vb : Value), a.size + b.size ≤ n → In w B va a → In w B' vb b → a.size + b.size ≤ 1000000000 →
    Calls Try.prog 58 #[va, vb] w (Ret fun v w' => In0 w' v (a.join b) ∧ Nx w w') := by
  induction n with
  | zero =>
    intro a b w B B' va vb hn ha hb hs
    have e1 : a = .nil := by cases a with
      | nil => rfl
      | nd l k v r => simp only [T.size] at hn; omega
    subst e1
    obtain rfl : va = .pointer none := ha
    obtain ⟨ub, rfl⟩ := hb.ptr
    have FIN : Hid (In0 w (.pointer ub) (T.nil.join b) ∧ Nx w w) := by rw [join_nil]; exact ⟨hb.dom, Nx.refl _⟩
    clear hb
    go_enter Try.func58, Try.ntmps58
    go_wp2_with fail
    go_ret
    exact ⟨_, rfl, FIN.out⟩
  | succ n ih =>
    intro a b w B B' va vb hn ha hb hs
    cases a with
    | nil =>
      obtain rfl : va = .pointer none := ha
      obtain ⟨ub, rfl⟩ := hb.ptr
      have FIN : Hid (In0 w (.pointer ub) (T.nil.join b) ∧ Nx w w) := by rw [join_nil]; exact ⟨hb.dom, Nx.refl _⟩
      clear hb ih
      go_enter Try.func58, Try.ntmps58
      go_wp2_with fail
      go_ret
      exact ⟨_, rfl, FIN.out⟩
    | nd l k x r =>
      cases b with
      | nil =>
        obtain rfl : vb = .pointer none := hb
        have FIN : Hid (In0 w va ((T.nd l k x r).join .nil) ∧ Nx w w) := by rw [join_nil']; exact ⟨ha.dom, Nx.refl _⟩
        obtain ⟨b, pl, pr, rfl, _⟩ := ha
        clear ih
        go_enter Try.func58, Try.ntmps58
        go_wp2_with fail
        go_ret
        exact ⟨_, rfl, FIN.out⟩
      | nd l' k' x' r' =>
        have HA := Lib.hid ha
        have HB := Lib.hid hb
        obtain ⟨b, pl, pr, rfl, hb1, hk, hl, hr, k1, k2⟩ := ha
        obtain ⟨b', pl', pr', rfl, hb1', hk', hl', hr', k1', k2'⟩ := hb
        obtain ⟨ul, rfl⟩ := hl.ptr
        obtain ⟨ur, rfl⟩ := hr.ptr
        obtain ⟨ul', rfl⟩ := hl'.ptr
        obtain ⟨ur', rfl⟩ := hr'.ptr
        have HT := Lib.hid (above_any w b b' k x k' x' _ _ _ _ _ _ (node_at hk) (node_at hk'))
        have HK := Lib.hid hk
        have HK' := Lib.hid hk'
        have HL := Lib.hid hl
        have HR := Lib.hid hr
        have HL' := Lib.hid hl'
        have HR' := Lib.hid hr'
        have HN := Lib.hid hn
        have HS := Lib.hid hs
        have IH := Lib.hid ih
        clear hk hk' hl hr hl' hr' hn hs ih
        by_cases e : top k k' = true
        · have he : Hid ((T.nd l k x r).join (.nd l' k' x' r') = .nd l k x (r.join (.nd l' k' x' r'))) := by rw [join_nd, if_pos e]; rfl
          rw [e] at HT
          clear e
          go_enter Try.func58, Try.ntmps58
          go_wp2_with fail
          refine HT.out.mono ?_
          rintro e w1 ⟨rfl, q, rfl⟩
          have n1 : Nx w (w.drewN q) := Nx.drewN (Nx.refl _) q
          have D := NodeAt.nx HK.out n1
          obtain ⟨d0, d1, d2, d3, d4, d5⟩ := D
          have JA := Lib.hid (fun (W : World) (hW : Nx w W) => IH.out r (.nd l' k' x' r') W _ _ _ _ (by have := HN.out; simp only [T.size] at *; omega) (HR.out.nx hW) (HB.out.nx hW) (by have := HS.out; simp only [T.size] at *; omega))
          have WA := Lib.hid (fun (W : World) (u : Option Addr) (hW : Nx w W) (hu : In0 W (.pointer u) (r.join (.nd l' k' x' r'))) => with_any W k x (T.nd l k x r).size (.pointer ul) (.pointer ur) (.pointer ul) (.pointer u) l _ _ _ (HL.out.nx hW) hu k1 k2 (by have := HS.out; have := join_size r (.nd l' k' x' r'); simp only [T.size] at *; omega))
          have N1 := Lib.hid n1
          clear n1 IH
          unfold nodeC at WA
          generalize w.drewN q = w1 at *
          go_wp2_with fail
          go_region_held3 (fun W => W.cell? ⟨b, 0, none⟩ = some (.string (S k)) ∧ W.cell? ⟨b, 1, none⟩ = some (.string (S x)) ∧ W.cell? ⟨b, 2, none⟩ = some (.int .u32 (rank k)) ∧ W.cell? ⟨b, 3, none⟩ = some (.int .i64 (T.nd l k x r).size) ∧ W.cell? ⟨b, 4, none⟩ = some (.pointer ul) ∧ W.cell? ⟨b, 5, none⟩ = some (.pointer ur))
            (first | go_keep | exact (fun h => ⟨h.c0, h.c1, h.c2, h.c3, h.c4, h.c5⟩) (NodeAt.nx HK.out (N1.out.trans (Nx.trans (Nx.drew (Nx.refl _)) (hn2.trans hn3)))) | exact (fun h => ⟨h.c0, h.c1, h.c2, h.c3, h.c4, h.c5⟩) (NodeAt.nx HK.out (N1.out.trans (Nx.trans (Nx.drew (Nx.refl _)) hn2))))
            ((first
              | (go_at_call 58; refine (JA.out _ (N1.out.trans (Nx.drew (Nx.refl _)))).mono ?_; rintro e w2 ⟨v2, rfl, hv2, hn2⟩; obtain ⟨u2, rfl⟩ := hv2.ptr)
              | (go_at_call 57; refine (WA.out _ _ (N1.out.trans (Nx.trans (Nx.drew (Nx.refl _)) hn2)) hv2).mono ?_; rintro e w3 ⟨v3, rfl, hv3, hn3⟩)))
          obtain ⟨uv, rfl⟩ := hv3.ptr
          have FIN : Hid (In0 w3 (.pointer uv) ((T.nd l k x r).join (.nd l' k' x' r')) ∧ Nx w w3) := by
            rw [he.out]
            exact ⟨hv3, N1.out.trans (Nx.trans (Nx.drew (Nx.refl _)) (hn2.trans hn3))⟩
          clear hv2 hn2 hv3 hn3
          go_wp2_with fail
          go_ret
          exact ⟨_, rfl, FIN.out⟩
        · have he : Hid ((T.nd l k x r).join (.nd l' k' x' r') = .nd ((T.nd l k x r).join l') k' x' r') := by rw [join_nd, if_neg e]; rfl
          have e : top k k' = false := by simpa using e
          rw [e] at HT
          clear e
          go_enter Try.func58, Try.ntmps58
          go_wp2_with fail
          refine HT.out.mono ?_
          rintro e w1 ⟨rfl, q, rfl⟩
          have n1 : Nx w (w.drewN q) := Nx.drewN (Nx.refl _) q
          have D := NodeAt.nx HK'.out n1
          obtain ⟨d0, d1, d2, d3, d4, d5⟩ := D
          have JA := Lib.hid (fun (W : World) (hW : Nx w W) => IH.out (.nd l k x r) l' W _ _ _ _ (by have := HN.out; simp only [T.size] at *; omega) (HA.out.nx hW) (HL'.out.nx hW) (by have := HS.out; simp only [T.size] at *; omega))
          have WA := Lib.hid (fun (W : World) (u : Option Addr) (hW : Nx w W) (hu : In0 W (.pointer u) ((T.nd l k x r).join l')) => with_any W k' x' (T.nd l' k' x' r').size (.pointer ul') (.pointer ur') (.pointer u) (.pointer ur') _ r' _ _ hu (HR'.out.nx hW) k1' k2' (by have := HS.out; have := join_size (.nd l k x r) l'; simp only [T.size] at *; omega))
          have N1 := Lib.hid n1
          clear n1 IH
          unfold nodeC at WA
          generalize w.drewN q = w1 at *
          go_wp2_with fail
          go_region_held3 (fun W => W.cell? ⟨b', 0, none⟩ = some (.string (S k')) ∧ W.cell? ⟨b', 1, none⟩ = some (.string (S x')) ∧ W.cell? ⟨b', 2, none⟩ = some (.int .u32 (rank k')) ∧ W.cell? ⟨b', 3, none⟩ = some (.int .i64 (T.nd l' k' x' r').size) ∧ W.cell? ⟨b', 4, none⟩ = some (.pointer ul') ∧ W.cell? ⟨b', 5, none⟩ = some (.pointer ur'))
            (first | go_keep | exact (fun h => ⟨h.c0, h.c1, h.c2, h.c3, h.c4, h.c5⟩) (NodeAt.nx HK'.out (N1.out.trans (Nx.trans (Nx.drew (Nx.refl _)) (hn2.trans hn3)))) | exact (fun h => ⟨h.c0, h.c1, h.c2, h.c3, h.c4, h.c5⟩) (NodeAt.nx HK'.out (N1.out.trans (Nx.trans (Nx.drew (Nx.refl _)) hn2))))
            ((first
              | (go_at_call 58; refine (JA.out _ (N1.out.trans (Nx.drew (Nx.refl _)))).mono ?_; rintro e w2 ⟨v2, rfl, hv2, hn2⟩; obtain ⟨u2, rfl⟩ := hv2.ptr)
              | (go_at_call 57; refine (WA.out _ _ (N1.out.trans (Nx.trans (Nx.drew (Nx.refl _)) hn2)) hv2).mono ?_; rintro e w3 ⟨v3, rfl, hv3, hn3⟩)))
          obtain ⟨uv, rfl⟩ := hv3.ptr
          have FIN : Hid (In0 w3 (.pointer uv) ((T.nd l k x r).join (.nd l' k' x' r')) ∧ Nx w w3) := by
            rw [he.out]
            exact ⟨hv3, N1.out.trans (Nx.trans (Nx.drew (Nx.refl _)) (hn2.trans hn3))⟩
          clear hv2 hn2 hv3 hn3
          go_wp2_with fail
          go_ret
          exact ⟨_, rfl, FIN.out⟩
end Go.Proofs.Ytekcphpeaoaaaaa
