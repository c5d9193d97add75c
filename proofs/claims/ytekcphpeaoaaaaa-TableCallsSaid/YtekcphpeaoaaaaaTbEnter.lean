/- Package table: a position is moved: enter, before, next, step, pass. -/
import Derived.Test.YtekcphpeaoaaaaaTbPos
import Derived.RegionTactic
namespace Go.Proofs.Ytekcphpeaoaaaaa
open Go.RowKit
set_option linter.unusedVariables false

/-- What a call on a position leaves: the pairs that are ahead. -/
def Moved (w0 : World) (B pb n : Nat) (G : Nat → Prop) (W : World) (xs : List KV) (W' : World) : Prop :=
  ∃ G' s', PosAt W' B pb G' s' ∧ Mv G W G' W' ∧ StkIn w0 B s' ∧ flow s' = xs ∧ s'.length ≤ n
theorem drop_all_below {key : Str} {a : List KV} (h : ∀ x ∈ a, lt x.1 key = true) (b : List KV) : (a ++ b).drop (place key (a ++ b)) = b.drop (place key b) := by
  rw [place_all h, List.drop_length_add_append]

set_option maxRecDepth 100000 in
theorem enter_any (w0 W : World) (B pb n : Nat) (G : Nat → Prop) (s : Stk) (v : Value) (t : T) (key : Str) (hB : Below B w0 W) (hB2 : B ≤ W.heap.size) (hs : StkIn w0 B s) (ht : In w0 B v t) (hsrt : Srt t.pairs) (ht2 : t.size ≤ 100000000) (hp : PosAt W B pb G s) (hn : s.length + t.size ≤ n) (hn2 : n ≤ 1000000000) :
    Calls Try.prog 59 #[ptrV pb, v, .string (S key)] W fun e W' => e = .returned (.tuple #[]) ∧ Moved w0 B pb n G W (t.pairs.drop (place key t.pairs) ++ flow s) W' := by
  obtain ⟨u, rfl⟩ := ht.ptr
  obtain ⟨XS, hXS⟩ : ∃ XS, t.pairs.drop (place key t.pairs) ++ flow s = XS := ⟨_, rfl⟩
  rw [hXS]
  have ST : Hid (In w0 B (.pointer u) t ∧ Srt t.pairs ∧ t.size ≤ 100000000 ∧ ∃ G' s', PosAt W B pb G' s' ∧ Mv G W G' W ∧ StkIn w0 B s' ∧ t.pairs.drop (place key t.pairs) ++ flow s' = XS ∧ s'.length + t.size ≤ n) :=
    ⟨ht, hsrt, ht2, G, s, hp, Mv.refl hp.cel, hs, hXS, hn⟩
  have GE := Lib.hid hp.ge
  have HB := Lib.hid hB
  have HB2 := Lib.hid hB2
  have HN := Lib.hid hn2
  clear ht hsrt ht2 hp hs hXS hn hB hB2 hn2
  unfold ptrV
  go_enter Try.func59, Try.ntmps59
  go_wp2
  go_loopg [1] t.size (fun k p wr => ∃ (q : Option Addr) (t' : T), p = .pointer q ∧ Hid (t'.size ≤ k ∧ In w0 B (.pointer q) t' ∧ Srt t'.pairs ∧ t'.size ≤ 100000000 ∧ ∃ G' s', PosAt wr B pb G' s' ∧ Mv G W G' wr ∧ StkIn w0 B s' ∧ t'.pairs.drop (place key t'.pairs) ++ flow s' = XS ∧ s'.length + t'.size ≤ n))
  case atStart => exact ⟨u, t, rfl, ⟨Nat.le_refl _, ST.out⟩⟩
  case round =>
    obtain ⟨q, t', rfl, hh⟩ := hrel
    cases t' with
    | nil =>
      obtain rfl : q = none := by have := hh.out.2.1; simpa [In] using this
      go_wp2
      go_end0
      obtain ⟨_, _, _, _, G', s', h1, h2, h3, h4, h5⟩ := hh.out
      exact ⟨rfl, G', s', h1, h2, h3, by rw [← h4]; rfl, by omega⟩
    | nd l k x r =>
      obtain ⟨hsz, hin, hsr, h100, G', s', hp, hm, hst, hfl, hln⟩ := hh.out
      have bel := HB.out.trans (mv_below hm GE.out HB2.out)
      have hinr := hin
      obtain ⟨b, pl, pr, e, hb, hk, hl, hr, k1, k2⟩ := hin
      simp only [Value.pointer.injEq] at e
      subst e
      obtain ⟨c0, _, _, _, c4, c5⟩ := node_at (hk.at_ bel hb)
      obtain ⟨ul, rfl⟩ := hl.ptr
      obtain ⟨ur, rfl⟩ := hr.ptr
      obtain ⟨s1, s2, s3, s4⟩ := srt_mid.1 hsr
      have hmid := place_mid (k := key) hsr
      have hlt := S_lt k key
      by_cases e : lt k key = true
      · have NXT : Hid (r.size < gk ∧ (r.size ≤ r.size ∧ In w0 B (.pointer ur) r ∧ Srt r.pairs ∧ r.size ≤ 100000000 ∧ ∃ G' s', PosAt wr B pb G' s' ∧ Mv G W G' wr ∧ StkIn w0 B s' ∧ r.pairs.drop (place key r.pairs) ++ flow s' = XS ∧ s'.length + r.size ≤ n)) := by
          refine ⟨by simp only [T.size] at hsz; omega, Nat.le_refl _, hr, s2, by simp only [T.size] at h100; omega, G', s', hp, hm, hst, ?_, by simp only [T.size] at hln; omega⟩
          rw [← hfl]
          show _ = (l.pairs ++ (k, x) :: r.pairs).drop (place key (l.pairs ++ (k, x) :: r.pairs)) ++ flow s'
          rw [hmid, if_pos e, show l.pairs.length + 1 + place key r.pairs = l.pairs.length + (place key r.pairs + 1) from by omega, List.drop_length_add_append, List.drop_succ_cons]
        rw [e] at hlt
        clear e hh hk hl hr hst hp hm hfl hsr hmid s1 s2 s3 s4 c4 bel hinr hln hsz h100
        go_wp2
        go_roundg r.size
        case measure => exact NXT.out.1
        case rel => exact ⟨ur, r, rfl, NXT.out.2⟩
      · obtain ⟨v, hvb, hvr, hvp, hvg⟩ := hp
        have d0 : wr.cell? ⟨pb, 0, none⟩ = some v := by rw [hvb.cell]; rfl
        have e' : lt k key = false := by simpa using e
        have hgt : v.ownBlock ≠ some pb := fun e => by
          obtain ⟨_, cs, hc⟩ := own_row_blk hvr e
          have := hvb.symm.trans hc
          simp at this
        have PUSH : Hid (∀ (cs : Array Value) (w3 : World) (g cap : Nat), w3.ownsRow B 22 1 (.slice (some ⟨g, 0, none⟩) (s'.length + 1) cap) (s'.length + 1) (rowOf s' ++ [ptrV b]) → (wr.alloc (.cells cs 22)).grownBy w3 v.ownBlock → (v.ownBlock = some g ∨ g = wr.heap.size + 1) →
            (l.size < gk ∧ (l.size ≤ l.size ∧ In w0 B (.pointer ul) l ∧ Srt l.pairs ∧ l.size ≤ 100000000 ∧ ∃ G' s'', PosAt (w3.setCell ⟨pb, 0, none⟩ (.slice (some ⟨g, 0, none⟩) (s'.length + 1) cap)) B pb G' s'' ∧ Mv G W G' (w3.setCell ⟨pb, 0, none⟩ (.slice (some ⟨g, 0, none⟩) (s'.length + 1) cap)) ∧ StkIn w0 B s'' ∧ l.pairs.drop (place key l.pairs) ++ flow s'' = XS ∧ s''.length + l.size ≤ n)) ∧
            w3.cell? ⟨pb, 0, none⟩ = some v ∧ w3.frozen? ⟨pb, 0, none⟩ = false ∧ ∀ u, (w3.setCell ⟨pb, 0, none⟩ u).cell? ⟨b, 4, none⟩ = some (.pointer ul)) := fun cs w3 g cap hown hgrow hat => by
          obtain ⟨G'', hp'', hm''⟩ := pos_push (t := .nd l k x r) hvb hvr hvp hvg hown hgrow hat
          have C3 : Chd (fun j => v.ownBlock = some j) wr w3 := (Nx.alloc (Nx.refl wr) _).chd.trans (Chd.of_grown hgrow)
          have b3 : BlkIs w3 pb 86 #[v] := hvb.chd C3 hgt
          refine ⟨⟨by simp only [T.size] at hsz; omega, Nat.le_refl _, hl, s1, by simp only [T.size] at h100; omega, G'', (b, .nd l k x r) :: s', hp'', hm.trans hm'', ?_, ?_, ?_⟩, ?_, b3.frozen 0, fun u => ?_⟩
          · intro e he
            rcases List.mem_cons.1 he with rfl | he
            · exact ⟨hinr, by simp, hsr, h100⟩
            · exact hst e he
          · rw [← hfl]
            show _ = (l.pairs ++ (k, x) :: r.pairs).drop (place key (l.pairs ++ (k, x) :: r.pairs)) ++ flow s'
            rw [hmid, if_neg e, List.drop_append_of_le_length (place_le key l.pairs), flow_cons]
            simp [flow1]
          · simp only [T.size] at hln; simp only [List.length_cons]; omega
          · rw [b3.cell]; rfl
          · have hbp : b ≠ pb := by omega
            have k3 : BlkIs w3 b 66 _ := (hk.at_ bel hb).chd C3 (fun e => by have := (own_row_blk hvr e).1; omega)
            exact (node_at (k3.chd (Chd.set w3 pb 0 u) hbp)).c4
        rw [e'] at hlt
        have ROW := Lib.hid hvr
        have hown := fun o => hvr.alloc (w := wr) o
        have HO := Lib.hid hown
        have hbase : B ≤ wr.heap.size := by have := hvb.lt; omega
        have hlen : s'.length + 1 ≤ 1000000000 := by have := HN.out; simp only [T.size] at hln; omega
        clear e e' hh hk hl hr hst hm hfl hsr hmid s1 s2 s3 s4 c5 bel hinr hln hsz hvb hvr hvg hgt hvp hown hb h100
        obtain ⟨i0, hi, hz0, hz1, hz2⟩ := info_parts node_info
        go_wp2_with (at_builtin; refine wpList_append_lies _ rfl _ _ 84 rfl B 22 i0 (.pointer none) 1 8 Try.underlying84 hi hz0 hz1 hz2 rfl (by decide) v s'.length (rowOf s') rfl (HO.out _) ⟨wr.heap.size, 0, none⟩ 1 1 [ptrV b] rfl rfl (cell_one _ _ _) (by simp [ptrV, Value.oneCell']) (by decide) (by unfold maxLen; omega) (by omega) (by simp; omega) _ rfl ?_; intro g cap w3 hown2 hgrow hat hlt3; obtain ⟨NXT, f1, f2, f3⟩ := PUSH.out _ w3 g cap hown2 hgrow (hat.imp id fun e => by rw [e]; simp))
        go_roundg l.size
        case measure => exact NXT.1
        case rel => exact ⟨ul, l, rfl, NXT.2⟩

def topV : Stk → Value
  | [] => .pointer none
  | e :: _ => ptrV e.1
theorem rowOf_cons (e : Nat × T) (s : Stk) : rowOf (e :: s) = rowOf s ++ [ptrV e.1] := by unfold rowOf; rw [List.reverse_cons, List.map_append]; rfl
theorem rowOf_length (s : Stk) : (rowOf s).length = s.length := by unfold rowOf; simp
/-- The last cell of a row that belongs to a position. -/
theorem pos_last {W : World} {B : Nat} {v : Value} {e : Nat × T} {s : Stk} (hr : W.ownsRow B 22 1 v (e :: s).length (rowOf (e :: s))) : ∃ g cap, v = .slice (some ⟨g, 0, none⟩) (s.length + 1) cap ∧ W.cell? ⟨g, s.length, none⟩ = some (ptrV e.1) ∧ s.length + 1 ≤ cap ∧ cap ≤ maxLen ∧
    W.ownsRow B 22 1 (.slice (some ⟨g, 0, none⟩) s.length cap) s.length (rowOf s) := by
  have hr0 := hr
  rcases hr.2 with ⟨_, h0⟩ | ⟨g, cap, cur, rfl, hb, hg, hnc, hcm, hcs, htake⟩
  · cases h0
  · have hc := World.ownsRow.cells (w := W) hr0 (g := g) rfl s.length (ptrV e.1) (by rw [rowOf_cons, List.getElem?_append_right (by rw [rowOf_length]; exact Nat.le_refl _), rowOf_length]; simp)
    rw [add_plain, Nat.zero_add] at hc
    refine ⟨g, cap, rfl, hc, hnc, hcm, ?_⟩
    rw [rowOf_cons] at hr0
    exact ownsRow_pop (by rw [rowOf_length]; simp) hr0

set_option maxRecDepth 100000 in
theorem next_any (W : World) (B pb : Nat) (G : Nat → Prop) (s : Stk) (hp : PosAt W B pb G s) (hl : s.length ≤ 1000000000) :
    Calls Try.prog 63 #[ptrV pb] W fun e W' => e = .returned (topV s) ∧ ∃ n, W' = W.drewN n := by
  obtain ⟨v, hb, hr, _, _⟩ := hp
  have d0 : W.cell? ⟨pb, 0, none⟩ = some v := by rw [hb.cell]; rfl
  unfold ptrV
  cases s with
  | nil =>
    have hv : ∃ A c, v = .slice A 0 c := by
      rcases hr.2 with ⟨hv, _⟩ | ⟨g, cap, cur, hv, _⟩
      · exact ⟨_, _, hv⟩
      · exact ⟨_, _, hv⟩
    obtain ⟨A, c, rfl⟩ := hv
    clear hb hr
    go_enter Try.func63, Try.ntmps63
    go_wp2
    go_ret
    exact ⟨rfl, 0, rfl⟩
  | cons e s =>
    obtain ⟨g, cap, rfl, hc, h1, h2, _⟩ := pos_last hr
    simp only [List.length_cons] at hl
    unfold maxLen at h2
    have hne : (((s.length + 1 : Nat) : Int) == 0) = false := by simp; omega
    have hne2 : (((s.length : Nat) : Int) + 1 == 0) = false := by simp; omega
    have hw : IntKind.i64.wrap (((s.length + 1 : Nat) : Int) - 1) = (s.length : Int) := by rw [IntWalk.i64_in _ (by omega)]; omega
    have hw2 : IntKind.i64.wrap ((s.length : Int) + 1 - 1) = (s.length : Int) := by rw [IntWalk.i64_in _ (by omega)]; omega
    clear hb hr
    unfold ptrV at hc
    go_enter Try.func63, Try.ntmps63
    go_wp2_with fail
    go_quiet (fail)
    go_wp2
    go_ret
    exact ⟨rfl, _, rfl⟩
end Go.Proofs.Ytekcphpeaoaaaaa
