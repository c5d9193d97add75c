/- Package table, as functions of lists: trees that are arranged by ranks, and what sorted pairs they hold. No function of the program is named here. -/
import Derived.Test.YtekcphpeaoaaaaaTbPure
namespace Go.Proofs.Ytekcphpeaoaaaaa
set_option linter.unusedVariables false

def rstep (x : Int) (c : UInt8) : Int := (((x.toNat ^^^ c.toNat) * 16777619 % 4294967296 : Nat) : Int)
def rankF (x : Int) (k : Str) : Int := k.foldl rstep x
def rank (k : Str) : Int := rankF 2166136261 k
theorem rstep_bd (x : Int) (c : UInt8) : 0 ≤ rstep x c ∧ rstep x c ≤ 4294967295 := by
  unfold rstep
  have := Nat.mod_lt ((x.toNat ^^^ c.toNat) * 16777619) (show 0 < 4294967296 by omega)
  omega
theorem rankF_bd : ∀ (k : Str) (x : Int), 0 ≤ x → x ≤ 4294967295 → 0 ≤ rankF x k ∧ rankF x k ≤ 4294967295
  | [], x, h, h2 => ⟨h, h2⟩
  | c :: k, x, _, _ => rankF_bd k (rstep x c) (rstep_bd x c).1 (rstep_bd x c).2
theorem rank_bd (k : Str) : 0 ≤ rank k ∧ rank k ≤ 4294967295 := rankF_bd k _ (by omega) (by omega)
theorem rankF_snoc (x : Int) (k : Str) (c : UInt8) : rankF x (k ++ [c]) = rstep (rankF x k) c := by unfold rankF; rw [List.foldl_append]; rfl

/-- Whether a key has its place above another one. -/
def top (a b : Str) : Bool := decide (rank b < rank a) || (decide (rank a = rank b) && lt a b)
theorem top_iff {a b : Str} : top a b = true ↔ rank b < rank a ∨ (rank a = rank b ∧ lt a b = true) := by unfold top; simp
theorem top_trans {a b c : Str} (h : top a b = true) (k : top b c = true) : top a c = true := by
  rw [top_iff] at *
  rcases h with h | ⟨h, h2⟩ <;> rcases k with k | ⟨k, k2⟩
  · left; omega
  · left; omega
  · left; omega
  · right; exact ⟨h.trans k, lt_trans h2 k2⟩
theorem top_conn {a b : Str} (h : top a b = false) (hn : a ≠ b) : top b a = true := by
  rw [top_iff]
  have h1 : ¬ top a b = true := by rw [h]; decide
  rw [top_iff] at h1
  by_cases e : rank a = rank b
  · right
    refine ⟨e.symm, gt_of ?_ hn⟩
    cases e2 : lt a b with
    | false => rfl
    | true => exact absurd (.inr ⟨e, e2⟩) h1
  · left
    have : ¬ rank b < rank a := fun x => h1 (.inl x)
    omega
theorem top_ne {a b : Str} (h : top a b = true) : a ≠ b := by
  rintro rfl
  rw [top_iff] at h
  rcases h with h | ⟨_, h⟩
  · omega
  · rw [lt_irrefl] at h; cases h

inductive T where
  | nil
  | nd (l : T) (k v : Str) (r : T)
namespace T
def pairs : T → List KV
  | nil => []
  | nd l k v r => l.pairs ++ (k, v) :: r.pairs
def pre : T → List KV
  | nil => []
  | nd l k v r => (k, v) :: (l.pre ++ r.pre)
def size : T → Nat
  | nil => 0
  | nd l k v r => l.size + 1 + r.size
theorem size_eq : ∀ t : T, t.size = t.pairs.length
  | nil => rfl
  | nd l k v r => by simp only [size, pairs, List.length_append, List.length_cons, size_eq l, size_eq r]; omega
def Heap : T → Prop
  | nil => True
  | nd l k v r => (∀ e ∈ l.pairs, top k e.1 = true) ∧ (∀ e ∈ r.pairs, top k e.1 = true) ∧ l.Heap ∧ r.Heap
def cut (key : Str) : T → T × T
  | nil => (nil, nil)
  | nd l k v r => if lt k key then (nd l k v (r.cut key).1, (r.cut key).2) else ((l.cut key).1, nd (l.cut key).2 k v r)
def put (key val : Str) : T → T
  | nil => nd nil key val nil
  | nd l k v r =>
    if top key k then nd ((nd l k v r).cut key).1 key val ((nd l k v r).cut key).2
    else if lt key k then nd (l.put key val) k v r
    else if lt k key then nd l k v (r.put key val)
    else nd l key val r
def find (key : Str) : T → T
  | nil => nil
  | nd l k v r => if k = key then nd l k v r else if lt key k then l.find key else r.find key
def join : T → T → T
  | nil, h => h
  | nd l k v r, nil => nd l k v r
  | nd l k v r, nd l' k' v' r' => if top k k' then nd l k v (join r (nd l' k' v' r')) else nd (join (nd l k v r) l') k' v' r'
  termination_by a b => a.size + b.size
  decreasing_by all_goals (simp only [size]; omega)
def drop (key : Str) : T → T
  | nil => nil
  | nd l k v r => if lt key k then nd (l.drop key) k v r else if lt k key then nd l k v (r.drop key) else join l r
end T

/-! ### Cutting -/
theorem cut_pairs (key : Str) : ∀ t : T, Srt t.pairs → (t.cut key).1.pairs = t.pairs.take (place key t.pairs) ∧ (t.cut key).2.pairs = t.pairs.drop (place key t.pairs)
  | .nil, _ => ⟨rfl, rfl⟩
  | .nd l k v r, hs => by
    obtain ⟨h1, h2, h3, h4⟩ := srt_mid.1 hs
    have il := cut_pairs key l h1
    have ir := cut_pairs key r h2
    have hp := place_mid (k := key) hs
    show (T.cut key (.nd l k v r)).1.pairs = (l.pairs ++ (k, v) :: r.pairs).take (place key (l.pairs ++ (k, v) :: r.pairs)) ∧ (T.cut key (.nd l k v r)).2.pairs = (l.pairs ++ (k, v) :: r.pairs).drop (place key (l.pairs ++ (k, v) :: r.pairs))
    rw [hp]
    unfold T.cut
    by_cases hk : lt k key = true
    · rw [if_pos hk, if_pos hk]
      have e1 : l.pairs.length + 1 + place key r.pairs = l.pairs.length + (1 + place key r.pairs) := by omega
      constructor
      · show l.pairs ++ (k, v) :: (T.cut key r).1.pairs = _
        rw [ir.1, e1, List.take_length_add_append, Nat.add_comm 1, List.take_succ_cons]
      · show (T.cut key r).2.pairs = _
        rw [ir.2, e1, List.drop_length_add_append, Nat.add_comm 1, List.drop_succ_cons]
    · rw [if_neg hk, if_neg hk]
      have hle := place_le key l.pairs
      constructor
      · show (T.cut key l).1.pairs = _
        rw [il.1, List.take_append_of_le_length hle]
      · show (T.cut key l).2.pairs ++ (k, v) :: r.pairs = _
        rw [il.2, List.drop_append_of_le_length hle]
theorem cut_heap (key : Str) : ∀ t : T, Srt t.pairs → t.Heap → (t.cut key).1.Heap ∧ (t.cut key).2.Heap
  | .nil, _, _ => ⟨trivial, trivial⟩
  | .nd l k v r, hs, hh => by
    obtain ⟨h1, h2, h3, h4⟩ := srt_mid.1 hs
    obtain ⟨a1, a2, a3, a4⟩ := hh
    have il := cut_heap key l h1 a3
    have ir := cut_heap key r h2 a4
    have pl := cut_pairs key l h1
    have pr := cut_pairs key r h2
    unfold T.cut
    by_cases hk : lt k key = true
    · rw [if_pos hk]
      exact ⟨⟨a1, fun e he => a2 e (by rw [pr.1] at he; exact List.mem_of_mem_take he), a3, ir.1⟩, ir.2⟩
    · rw [if_neg hk]
      exact ⟨il.1, ⟨fun e he => a1 e (by rw [pl.2] at he; exact List.mem_of_mem_drop he), a2, il.2, a4⟩⟩

/-! ### Putting -/
theorem hit_mid {key k v : Str} {a b : List KV} (hs : Srt (a ++ (k, v) :: b)) : hit key (a ++ (k, v) :: b) = if lt k key then hit key b else if lt key k then hit key a else true := by
  obtain ⟨h1, h2, h3, h4⟩ := srt_mid.1 hs
  have e : ∀ {x y : Bool}, (x = true ↔ y = true) → x = y := fun {x y} h => by cases x <;> cases y <;> simp_all
  apply e
  rw [hit_mem hs]
  by_cases c1 : lt k key = true
  · rw [if_pos c1, hit_mem h2]
    constructor
    · rintro ⟨e, he, rfl⟩
      rcases List.mem_append.1 he with he | he
      · have := lt_trans (h3 e he) c1; rw [lt_irrefl] at this; cases this
      · rcases List.mem_cons.1 he with rfl | he
        · rw [lt_irrefl] at c1; cases c1
        · exact ⟨e, he, rfl⟩
    · rintro ⟨e, he, rfl⟩
      exact ⟨e, List.mem_append_right _ (List.mem_cons_of_mem _ he), rfl⟩
  · rw [if_neg c1]
    by_cases c2 : lt key k = true
    · rw [if_pos c2, hit_mem h1]
      constructor
      · rintro ⟨e, he, rfl⟩
        rcases List.mem_append.1 he with he | he
        · exact ⟨e, he, rfl⟩
        · rcases List.mem_cons.1 he with rfl | he
          · rw [lt_irrefl] at c2; cases c2
          · have := lt_trans c2 (h4 e he); rw [lt_irrefl] at this; cases this
      · rintro ⟨e, he, rfl⟩
        exact ⟨e, List.mem_append_left _ he, rfl⟩
    · rw [if_neg c2]
      have : k = key := lt_conn (by simpa using c1) (by simpa using c2)
      exact ⟨fun _ => rfl, fun _ => ⟨(k, v), by simp, this⟩⟩
theorem ins_mid {key val k v : Str} {a b : List KV} (hs : Srt (a ++ (k, v) :: b)) : ins key val (a ++ (k, v) :: b) =
    if lt key k then ins key val a ++ (k, v) :: b else if lt k key then a ++ (k, v) :: ins key val b else a ++ (key, val) :: b := by
  obtain ⟨h1, h2, h3, h4⟩ := srt_mid.1 hs
  have hp := place_mid (k := key) hs
  have hh := hit_mid (key := key) hs
  unfold ins
  rw [hp, hh]
  by_cases c1 : lt k key = true
  · have c2 : ¬ lt key k = true := by rw [lt_asymm c1]; decide
    rw [if_pos c1, if_pos c1, if_neg c2, if_pos c1]
    have e1 : a.length + 1 + place key b = a.length + (place key b + 1) := by omega
    rw [e1, List.take_length_add_append, List.take_succ_cons, Nat.add_assoc, List.drop_length_add_append, Nat.add_right_comm, List.drop_succ_cons]
    simp
  · rw [if_neg c1, if_neg c1, if_neg c1]
    by_cases c2 : lt key k = true
    · rw [if_pos c2, if_pos c2]
      have hle := place_le key a
      have hle2 : place key a + (if hit key a = true then 1 else 0) ≤ a.length := by
        by_cases e : hit key a = true
        · rw [if_pos e]
          unfold hit at e
          cases e2 : a.drop (place key a) with
          | nil => rw [e2] at e; cases e
          | cons y r =>
            have := congrArg List.length e2
            rw [List.length_drop, List.length_cons] at this
            omega
        · rw [if_neg e]; exact hle
      rw [List.take_append_of_le_length hle, List.drop_append_of_le_length hle2]
      simp
    · have hk : k = key := lt_conn (by simpa using c1) (by simpa using c2)
      subst hk
      rw [if_neg c2, if_neg c2, if_pos rfl]
      have : place k a = a.length := place_full (fun x hx => h3 x hx)
      rw [this, List.take_append_of_le_length (Nat.le_refl _), List.take_length]
      rw [show a.length + 1 = a.length + 1 from rfl, List.drop_length_add_append, List.drop_succ_cons, List.drop_zero]
theorem put_pairs (key val : Str) : ∀ t : T, Srt t.pairs → t.Heap → (t.put key val).pairs = ins key val t.pairs
  | .nil, _, _ => rfl
  | .nd l k v r, hs, hh => by
    obtain ⟨h1, h2, h3, h4⟩ := srt_mid.1 hs
    obtain ⟨a1, a2, a3, a4⟩ := hh
    have il := put_pairs key val l h1 a3
    have ir := put_pairs key val r h2 a4
    unfold T.put
    by_cases ct : top key k = true
    · rw [if_pos ct]
      have hc := cut_pairs key (.nd l k v r) hs
      have hno : hit key (T.nd l k v r).pairs = false := by
        cases e : hit key (T.nd l k v r).pairs with
        | false => rfl
        | true =>
          obtain ⟨e, he, e2⟩ := (hit_mem hs).1 e
          have he : e ∈ l.pairs ++ (k, v) :: r.pairs := he
          rcases List.mem_append.1 he with he | he
          · exact absurd e2.symm (top_ne (top_trans ct (a1 e he)))
          · rcases List.mem_cons.1 he with rfl | he
            · exact absurd e2.symm (top_ne ct)
            · exact absurd e2.symm (top_ne (top_trans ct (a2 e he)))
      show (T.cut key (.nd l k v r)).1.pairs ++ (key, val) :: (T.cut key (.nd l k v r)).2.pairs = _
      rw [hc.1, hc.2]
      unfold ins
      rw [hno]
      simp
    · rw [if_neg ct]
      have hi := ins_mid (key := key) (val := val) hs
      show _ = ins key val (l.pairs ++ (k, v) :: r.pairs)
      rw [hi]
      by_cases c1 : lt key k = true
      · rw [if_pos c1, if_pos c1, ← il]; rfl
      · rw [if_neg c1, if_neg c1]
        by_cases c2 : lt k key = true
        · rw [if_pos c2, if_pos c2, ← ir]; rfl
        · rw [if_neg c2, if_neg c2]; rfl
theorem put_heap (key val : Str) : ∀ t : T, Srt t.pairs → t.Heap → (t.put key val).Heap
  | .nil, _, _ => ⟨(by intro e he; cases he), (by intro e he; cases he), trivial, trivial⟩
  | .nd l k v r, hs, hh => by
    have hh0 := hh
    obtain ⟨h1, h2, h3, h4⟩ := srt_mid.1 hs
    obtain ⟨a1, a2, a3, a4⟩ := hh
    have pl := put_pairs key val l h1 a3
    have pr := put_pairs key val r h2 a4
    unfold T.put
    by_cases ct : top key k = true
    · rw [if_pos ct]
      have hc := cut_pairs key (.nd l k v r) hs
      have hx := cut_heap key (.nd l k v r) hs hh0
      have hall : ∀ e ∈ (T.nd l k v r).pairs, top key e.1 = true := fun e he => by
        have he : e ∈ l.pairs ++ (k, v) :: r.pairs := he
        rcases List.mem_append.1 he with he | he
        · exact top_trans ct (a1 e he)
        · rcases List.mem_cons.1 he with rfl | he
          · exact ct
          · exact top_trans ct (a2 e he)
      exact ⟨fun e he => hall e (by rw [hc.1] at he; exact List.mem_of_mem_take he), fun e he => hall e (by rw [hc.2] at he; exact List.mem_of_mem_drop he), hx.1, hx.2⟩
    · rw [if_neg ct]
      have hk : key ≠ k → top k key = true := fun hn => top_conn (by simpa using ct) hn
      by_cases c1 : lt key k = true
      · rw [if_pos c1]
        refine ⟨fun e he => ?_, a2, put_heap key val l h1 a3, a4⟩
        rw [pl, ins_mem h1] at he
        rcases he with rfl | he
        · exact hk (lt_ne c1)
        · exact a1 e he.1
      · rw [if_neg c1]
        by_cases c2 : lt k key = true
        · rw [if_pos c2]
          refine ⟨a1, fun e he => ?_, a3, put_heap key val r h2 a4⟩
          rw [pr, ins_mem h2] at he
          rcases he with rfl | he
          · exact hk (lt_ne c2).symm
          · exact a2 e he.1
        · rw [if_neg c2]
          have e : key = k := lt_conn (by simpa using c1) (by simpa using c2)
          subst e
          exact ⟨a1, a2, a3, a4⟩

/-! ### Joining and dropping -/
theorem join_pairs : ∀ (a b : T), (a.join b).pairs = a.pairs ++ b.pairs
  | .nil, b => by unfold T.join; simp [T.pairs]
  | .nd l k v r, .nil => by unfold T.join; simp [T.pairs]
  | .nd l k v r, .nd l' k' v' r' => by
    unfold T.join
    have h1 := join_pairs r (.nd l' k' v' r')
    have h2 := join_pairs (.nd l k v r) l'
    split
    · simp only [T.pairs, h1, List.append_assoc, List.cons_append]
    · simp only [T.pairs, h2, List.append_assoc, List.cons_append]
  termination_by a b => a.size + b.size
  decreasing_by all_goals (simp only [T.size]; omega)
theorem join_heap : ∀ (a b : T), Srt (a.pairs ++ b.pairs) → a.Heap → b.Heap → (a.join b).Heap
  | .nil, b, _, _, hb => by unfold T.join; exact hb
  | .nd l k v r, .nil, _, ha, _ => by unfold T.join; exact ha
  | .nd l k v r, .nd l' k' v' r', hs, ha, hb => by
    have p1 := join_pairs r (.nd l' k' v' r')
    have p2 := join_pairs (.nd l k v r) l'
    have ha0 := ha
    have hb0 := hb
    obtain ⟨a1, a2, a3, a4⟩ := ha
    obtain ⟨b1, b2, b3, b4⟩ := hb
    obtain ⟨s1, s2, s3⟩ := srt_append.1 hs
    have hkk : lt k k' = true := s3 (k, v) (by simp [T.pairs]) (k', v') (by simp [T.pairs])
    have sr : Srt (r.pairs ++ (T.nd l' k' v' r').pairs) := by
      have : Srt (l.pairs ++ ((k, v) :: (r.pairs ++ (T.nd l' k' v' r').pairs))) := by
        have h0 := hs
        simp only [T.pairs, List.append_assoc, List.cons_append] at h0 ⊢
        exact h0
      exact (srt_mid.1 this).2.1
    have sl : Srt ((T.nd l k v r).pairs ++ l'.pairs) := by
      have : Srt (((T.nd l k v r).pairs ++ l'.pairs) ++ ((k', v') :: r'.pairs)) := by
        have h0 := hs
        simp only [T.pairs, List.append_assoc, List.cons_append] at h0 ⊢
        exact h0
      exact (srt_mid.1 this).1
    have i1 := join_heap r (.nd l' k' v' r') sr a4 hb0
    have i2 := join_heap (.nd l k v r) l' sl ha0 b3
    unfold T.join
    by_cases c : top k k' = true
    · rw [if_pos c]
      refine ⟨a1, fun e he => ?_, a3, i1⟩
      rw [p1] at he
      rcases List.mem_append.1 he with he | he
      · exact a2 e he
      · have he : e ∈ l'.pairs ++ (k', v') :: r'.pairs := he
        rcases List.mem_append.1 he with he | he
        · exact top_trans c (b1 e he)
        · rcases List.mem_cons.1 he with rfl | he
          · exact c
          · exact top_trans c (b2 e he)
    · rw [if_neg c]
      have c' : top k' k = true := top_conn (by simpa using c) (lt_ne hkk)
      refine ⟨fun e he => ?_, b2, i2, b4⟩
      rw [p2] at he
      rcases List.mem_append.1 he with he | he
      · have he : e ∈ l.pairs ++ (k, v) :: r.pairs := he
        rcases List.mem_append.1 he with he | he
        · exact top_trans c' (a1 e he)
        · rcases List.mem_cons.1 he with rfl | he
          · exact c'
          · exact top_trans c' (a2 e he)
      · exact b1 e he
  termination_by a b => a.size + b.size
  decreasing_by all_goals (simp only [T.size]; omega)
theorem era_mid {key k v : Str} {a b : List KV} (hs : Srt (a ++ (k, v) :: b)) : era key (a ++ (k, v) :: b) =
    if lt key k then era key a ++ (k, v) :: b else if lt k key then a ++ (k, v) :: era key b else a ++ b := by
  obtain ⟨h1, h2, h3, h4⟩ := srt_mid.1 hs
  refine srt_ext (era_srt hs) ?_ fun e => ?_
  · by_cases c1 : lt key k = true
    · rw [if_pos c1]; exact srt_mid.2 ⟨era_srt h1, h2, fun x hx => h3 x ((era_mem h1 x).1 hx).1, h4⟩
    · rw [if_neg c1]
      by_cases c2 : lt k key = true
      · rw [if_pos c2]; exact srt_mid.2 ⟨h1, era_srt h2, h3, fun x hx => h4 x ((era_mem h2 x).1 hx).1⟩
      · rw [if_neg c2]; exact srt_append.2 ⟨h1, h2, fun x hx y hy => lt_trans (h3 x hx) (h4 y hy)⟩
  · rw [era_mem hs]
    by_cases c1 : lt key k = true
    · rw [if_pos c1, List.mem_append, List.mem_append, era_mem h1, List.mem_cons]
      constructor
      · rintro ⟨h | h, hn⟩
        · exact .inl ⟨h, hn⟩
        · exact .inr h
      · rintro (h | h)
        · exact ⟨.inl h.1, h.2⟩
        · refine ⟨.inr h, ?_⟩
          rcases h with rfl | h
          · exact (lt_ne c1).symm
          · exact (lt_ne (lt_trans c1 (h4 e h))).symm
    · rw [if_neg c1]
      by_cases c2 : lt k key = true
      · rw [if_pos c2, List.mem_append, List.mem_append, List.mem_cons, List.mem_cons, era_mem h2]
        constructor
        · rintro ⟨h | rfl | h, hn⟩
          · exact .inl h
          · exact .inr (.inl rfl)
          · exact .inr (.inr ⟨h, hn⟩)
        · rintro (h | rfl | h)
          · exact ⟨.inl h, lt_ne (lt_trans (h3 e h) c2)⟩
          · exact ⟨.inr (.inl rfl), lt_ne c2⟩
          · exact ⟨.inr (.inr h.1), h.2⟩
      · rw [if_neg c2, List.mem_append, List.mem_append, List.mem_cons]
        have hk : k = key := lt_conn (by simpa using c2) (by simpa using c1)
        subst hk
        constructor
        · rintro ⟨h | rfl | h, hn⟩
          · exact .inl h
          · exact absurd rfl hn
          · exact .inr h
        · rintro (h | h)
          · exact ⟨.inl h, lt_ne (h3 e h)⟩
          · exact ⟨.inr (.inr h), (lt_ne (h4 e h)).symm⟩
theorem drop_pairs (key : Str) : ∀ t : T, Srt t.pairs → (t.drop key).pairs = era key t.pairs
  | .nil, _ => rfl
  | .nd l k v r, hs => by
    obtain ⟨h1, h2, _, _⟩ := srt_mid.1 hs
    have il := drop_pairs key l h1
    have ir := drop_pairs key r h2
    show _ = era key (l.pairs ++ (k, v) :: r.pairs)
    rw [era_mid hs]
    unfold T.drop
    by_cases c1 : lt key k = true
    · rw [if_pos c1, if_pos c1, ← il]; rfl
    · rw [if_neg c1, if_neg c1]
      by_cases c2 : lt k key = true
      · rw [if_pos c2, if_pos c2, ← ir]; rfl
      · rw [if_neg c2, if_neg c2]; exact join_pairs l r
theorem drop_heap (key : Str) : ∀ t : T, Srt t.pairs → t.Heap → (t.drop key).Heap
  | .nil, _, _ => trivial
  | .nd l k v r, hs, hh => by
    obtain ⟨h1, h2, h3, h4⟩ := srt_mid.1 hs
    obtain ⟨a1, a2, a3, a4⟩ := hh
    have pl := drop_pairs key l h1
    have pr := drop_pairs key r h2
    unfold T.drop
    by_cases c1 : lt key k = true
    · rw [if_pos c1]
      exact ⟨fun e he => a1 e (by rw [pl, era_mem h1] at he; exact he.1), a2, drop_heap key l h1 a3, a4⟩
    · rw [if_neg c1]
      by_cases c2 : lt k key = true
      · rw [if_pos c2]
        exact ⟨a1, fun e he => a2 e (by rw [pr, era_mem h2] at he; exact he.1), a3, drop_heap key r h2 a4⟩
      · rw [if_neg c2]
        exact join_heap l r (srt_append.2 ⟨h1, h2, fun x hx y hy => lt_trans (h3 x hx) (h4 y hy)⟩) a3 a4

/-! ### Finding -/
theorem look_mid {key k v : Str} {a b : List KV} (hs : Srt (a ++ (k, v) :: b)) : look key (a ++ (k, v) :: b) = if k = key then some v else if lt key k then look key a else look key b := by
  obtain ⟨h1, h2, h3, h4⟩ := srt_mid.1 hs
  have ext : ∀ {x y : Option Str}, (∀ u, x = some u ↔ y = some u) → x = y := fun {x y} h => by
    cases x with
    | none => cases y with
      | none => rfl
      | some u => exact (h u).2 rfl
    | some u => exact ((h u).1 rfl).symm
  apply ext
  intro u
  rw [look_some hs, List.mem_append, List.mem_cons]
  by_cases e : k = key
  · subst e
    rw [if_pos rfl]
    constructor
    · rintro (h | h | h)
      · have := h3 _ h; rw [lt_irrefl] at this; cases this
      · simp only [Prod.mk.injEq, true_and] at h; rw [h]
      · have := h4 _ h; rw [lt_irrefl] at this; cases this
    · intro h; simp only [Option.some.injEq] at h; rw [h]; exact .inr (.inl rfl)
  · rw [if_neg e]
    by_cases c : lt key k = true
    · rw [if_pos c, look_some h1]
      constructor
      · rintro (h | h | h)
        · exact h
        · simp only [Prod.mk.injEq] at h; exact absurd h.1.symm e
        · have := lt_trans c (h4 _ h); rw [lt_irrefl] at this; cases this
      · exact fun h => .inl h
    · rw [if_neg c, look_some h2]
      have c' : lt k key = true := gt_of (by simpa using c) (fun x => e x.symm)
      constructor
      · rintro (h | h | h)
        · have := lt_trans (h3 _ h) c'; rw [lt_irrefl] at this; cases this
        · simp only [Prod.mk.injEq] at h; exact absurd h.1.symm e
        · exact h
      · exact fun h => .inr (.inr h)
def T.val : T → Option Str
  | .nil => none
  | .nd _ _ v _ => some v
theorem find_look (key : Str) : ∀ t : T, Srt t.pairs → (t.find key).val = look key t.pairs
  | .nil, _ => rfl
  | .nd l k v r, hs => by
    obtain ⟨h1, h2, _, _⟩ := srt_mid.1 hs
    show _ = look key (l.pairs ++ (k, v) :: r.pairs)
    rw [look_mid hs]
    unfold T.find
    by_cases e : k = key
    · rw [if_pos e, if_pos e]; rfl
    · rw [if_neg e, if_neg e]
      by_cases c : lt key k = true
      · rw [if_pos c, if_pos c, find_look key l h1]
      · rw [if_neg c, if_neg c, find_look key r h2]

/-! ### The order of a tree's nodes is told by its pairs -/
def kvAt (xs : List KV) (i : Nat) : KV := xs.getD i ([], [])
/-- Among the first pairs: the one of the greatest rank, the first of these. -/
def topU (xs : List KV) : Nat → Nat
  | 0 => 0
  | i + 1 => if rank (kvAt xs (topU xs i)).1 < rank (kvAt xs i).1 then i else topU xs i
def topIx (xs : List KV) : Nat := topU xs xs.length
theorem topU_le (xs : List KV) : ∀ i, topU xs i ≤ i - 1
  | 0 => Nat.le_refl _
  | i + 1 => by
    have := topU_le xs i
    unfold topU
    split <;> omega
theorem topU_spec (xs : List KV) : ∀ i, ∀ j, j < i → rank (kvAt xs j).1 ≤ rank (kvAt xs (topU xs i)).1 ∧ (j < topU xs i → rank (kvAt xs j).1 < rank (kvAt xs (topU xs i)).1)
  | 0, j, h => absurd h (by omega)
  | i + 1, j, h => by
    have ih := topU_spec xs i
    have hle := topU_le xs i
    unfold topU
    by_cases c : rank (kvAt xs (topU xs i)).1 < rank (kvAt xs i).1
    · rw [if_pos c]
      by_cases e : j = i
      · subst e; exact ⟨Int.le_refl _, fun x => absurd x (by omega)⟩
      · have := (ih j (by omega)).1
        exact ⟨by omega, fun _ => by omega⟩
    · rw [if_neg c]
      by_cases e : j = i
      · subst e; exact ⟨by omega, fun x => absurd x (by omega)⟩
      · exact ih j (by omega)
theorem topIx_lt {xs : List KV} (h : xs ≠ []) : topIx xs < xs.length := by
  have := topU_le xs xs.length
  have : 0 < xs.length := List.length_pos_iff.2 h
  unfold topIx; omega
def nodes (xs : List KV) : List KV :=
  if h : xs = [] then [] else kvAt xs (topIx xs) :: (nodes (xs.take (topIx xs)) ++ nodes (xs.drop (topIx xs + 1)))
  termination_by xs.length
  decreasing_by
  · have := topIx_lt h; rw [List.length_take]; omega
  · have := topIx_lt h; rw [List.length_drop]; omega
theorem nodes_nil : nodes [] = [] := by unfold nodes; rfl
theorem nodes_cons {xs : List KV} (h : xs ≠ []) : nodes xs = kvAt xs (topIx xs) :: (nodes (xs.take (topIx xs)) ++ nodes (xs.drop (topIx xs + 1))) := by
  rw [nodes, dif_neg h]
theorem topIx_mid {a b : List KV} {k v : Str} (hs : Srt (a ++ (k, v) :: b)) (h1 : ∀ e ∈ a, top k e.1 = true) (h2 : ∀ e ∈ b, top k e.1 = true) : topIx (a ++ (k, v) :: b) = a.length := by
  have hx := topIx_lt (xs := a ++ (k, v) :: b) (by simp)
  have sp := topU_spec (a ++ (k, v) :: b) (a ++ (k, v) :: b).length
  obtain ⟨_, _, s3, s4⟩ := srt_mid.1 hs
  have hk : kvAt (a ++ (k, v) :: b) a.length = (k, v) := by unfold kvAt; simp [List.getD]
  change (topU (a ++ (k, v) :: b) (a ++ (k, v) :: b).length) < _ at hx
  change topU (a ++ (k, v) :: b) (a ++ (k, v) :: b).length = _
  generalize topU (a ++ (k, v) :: b) (a ++ (k, v) :: b).length = t at *
  rcases Nat.lt_trichotomy t a.length with c | c | c
  · have hm : kvAt (a ++ (k, v) :: b) t ∈ a := by
      unfold kvAt
      rw [List.getD_eq_getElem?_getD, List.getElem?_append_left c, List.getElem?_eq_getElem c]
      exact List.getElem_mem c
    have q := (sp a.length (by simp)).1
    rw [hk] at q
    have r := h1 _ hm
    have s := s3 _ hm
    rw [top_iff] at r
    rcases r with r | ⟨_, r⟩
    · simp only at q; omega
    · have := lt_asymm r; rw [s] at this; cases this
  · exact c
  · have hm : kvAt (a ++ (k, v) :: b) t ∈ b := by
      unfold kvAt
      rw [List.getD_eq_getElem?_getD, List.getElem?_append_right (by omega)]
      obtain ⟨d, hd⟩ : ∃ d, t - a.length = d + 1 := ⟨t - a.length - 1, by omega⟩
      rw [hd, List.getElem?_cons_succ]
      have : d < b.length := by simp at hx; omega
      rw [List.getElem?_eq_getElem this]
      exact List.getElem_mem this
    have q := (sp a.length (by simp)).2 c
    rw [hk] at q
    have r := h2 _ hm
    rw [top_iff] at r
    rcases r with r | ⟨r, _⟩
    · simp only at q; omega
    · simp only at q; omega
theorem pre_nodes : ∀ t : T, Srt t.pairs → t.Heap → t.pre = nodes t.pairs
  | .nil, _, _ => by rw [show T.pairs .nil = [] from rfl, nodes_nil]; rfl
  | .nd l k v r, hs, hh => by
    obtain ⟨h1, h2, _, _⟩ := srt_mid.1 hs
    obtain ⟨a1, a2, a3, a4⟩ := hh
    have hx := topIx_mid hs a1 a2
    have hk : kvAt (l.pairs ++ (k, v) :: r.pairs) l.pairs.length = (k, v) := by unfold kvAt; simp [List.getD]
    show (k, v) :: (l.pre ++ r.pre) = nodes (l.pairs ++ (k, v) :: r.pairs)
    rw [nodes_cons (by simp), hx, hk, List.take_append_of_le_length (Nat.le_refl _), List.take_length, List.drop_length_add_append, List.drop_succ_cons, List.drop_zero, pre_nodes l h1 a3, pre_nodes r h2 a4]
theorem nodes_length : ∀ xs : List KV, (nodes xs).length = xs.length := by
  intro xs
  induction h : xs.length using Nat.strongRecOn generalizing xs with
  | _ n ih =>
    by_cases e : xs = []
    · subst e; rw [nodes_nil]; exact h
    · have hx := topIx_lt e
      rw [nodes_cons e, List.length_cons, List.length_append, ih _ (by rw [← h]; exact (by rw [List.length_take]; omega : (xs.take (topIx xs)).length < xs.length)) _ rfl,
        ih _ (by rw [← h]; exact (by rw [List.length_drop]; omega : (xs.drop (topIx xs + 1)).length < xs.length)) _ rfl, List.length_take, List.length_drop]
      omega
end Go.Proofs.Ytekcphpeaoaaaaa
