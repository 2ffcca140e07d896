/- rook numbers as sets of squares that are free of each other: a move of the squares that keeps them apart changes none -/
import Derived.Test.YtellnklbkjajbaaDoorMd
import Derived.Test.YtellnklbkjajbaaDoorHq
namespace Go.Proofs.YtellnklbkjajbaaDoor
open Go.RowKit

def freeB (s t : Nat × Nat) : Bool := decide (s.1 ≠ t.1) && decide (s.2 ≠ t.2)
theorem freeB_comm (s t : Nat × Nat) : freeB s t = freeB t s := by
  unfold freeB
  rw [decide_eq_decide.2 (ne_comm (a := s.1) (b := t.1)), decide_eq_decide.2 (ne_comm (a := s.2) (b := t.2))]
/-- In how many ways k squares of a list are free of each other. -/
def rkN : Nat → List (Nat × Nat) → Nat
  | 0, _ => 1
  | _ + 1, [] => 0
  | k + 1, s :: L => rkN (k + 1) L + rkN k (L.filter (freeB s))
termination_by k L => (k, L.length)
theorem rkN_zero (L : List (Nat × Nat)) : rkN 0 L = 1 := by rw [rkN]
theorem rkN_nil (k : Nat) : rkN (k + 1) [] = 0 := by rw [rkN]
theorem rkN_cons (k : Nat) (s : Nat × Nat) (L : List (Nat × Nat)) : rkN (k + 1) (s :: L) = rkN (k + 1) L + rkN k (L.filter (freeB s)) := by rw [rkN]
theorem rkN_two (k : Nat) (a b : Nat × Nat) (l : List (Nat × Nat)) :
    rkN k (l.filter (freeB a)) + rkN k ((a :: l).filter (freeB b)) = rkN k (l.filter (freeB b)) + rkN k ((b :: l).filter (freeB a)) := by
  cases h : freeB b a with
  | false =>
    have h' : freeB a b = false := by rw [freeB_comm]; exact h
    rw [List.filter_cons_of_neg (by rw [h]; decide), List.filter_cons_of_neg (by rw [h']; decide), Nat.add_comm]
  | true =>
    have h' : freeB a b = true := by rw [freeB_comm]; exact h
    rw [List.filter_cons_of_pos h, List.filter_cons_of_pos h']
    cases k with
    | zero => simp only [rkN_zero]
    | succ k =>
      rw [rkN_cons, rkN_cons, List.filter_filter, List.filter_filter]
      have : (l.filter fun x => freeB a x && freeB b x) = l.filter fun x => freeB b x && freeB a x := List.filter_congr fun x _ => Bool.and_comm _ _
      rw [this]
      omega
theorem rkN_perm : ∀ (k : Nat) {L L' : List (Nat × Nat)}, L.Perm L' → rkN k L = rkN k L'
  | 0, _, _, _ => by rw [rkN_zero, rkN_zero]
  | k + 1, _, _, h => by
    induction h with
    | nil => rfl
    | cons a h ih => rw [rkN_cons, rkN_cons, ih, rkN_perm k (h.filter _)]
    | swap a b l =>
      rw [rkN_cons, rkN_cons, rkN_cons, rkN_cons, Nat.add_assoc, Nat.add_assoc, rkN_two]
    | trans _ _ h1 h2 => exact h1.trans h2
theorem rkN_map (f : Nat × Nat → Nat × Nat) (hf : ∀ s t, freeB (f s) (f t) = freeB s t) : ∀ (k : Nat) (L : List (Nat × Nat)), rkN k (L.map f) = rkN k L
  | 0, _ => by rw [rkN_zero, rkN_zero]
  | k + 1, [] => rfl
  | k + 1, s :: L => by
    rw [List.map_cons, rkN_cons, rkN_cons, rkN_map f hf (k + 1) L, List.filter_map]
    have : (L.filter (freeB (f s) ∘ f)) = L.filter (freeB s) := List.filter_congr fun x _ => hf s x
    rw [this, rkN_map f hf k (L.filter (freeB s))]
termination_by k L => (k, L.length)

/-- The squares of the rows rs, the first of which is row i, that are in no column of tk. -/
def sqs : Nat → List Nat → Nat → List (Nat × Nat)
  | _, [], _ => []
  | i, r :: rs, tk => (elems (sub r tk)).map (fun j => (i, j)) ++ sqs (i + 1) rs tk
theorem sqs_ge : ∀ (rs : List Nat) (i tk : Nat), ∀ s ∈ sqs i rs tk, i ≤ s.1
  | [], _, _, s, h => by cases h
  | r :: rs, i, tk, s, h => by
    rcases List.mem_append.1 h with h | h
    · obtain ⟨j, _, rfl⟩ := List.mem_map.1 h; exact Nat.le_refl _
    · have := sqs_ge rs (i + 1) tk s h; omega
theorem elems_or (r tk j : Nat) : elems (sub r (tk ||| 2 ^ j)) = (elems (sub r tk)).filter fun j' => decide (j ≠ j') := by
  unfold elems
  rw [List.filter_filter]
  refine List.filter_congr fun x _ => ?_
  rw [sub_bit, sub_bit, Nat.testBit_or, Nat.testBit_two_pow]
  by_cases e : j = x
  · subst e; simp
  · simp [e]
theorem sqs_filter : ∀ (rs : List Nat) (i tk i' j : Nat), i' < i → (sqs i rs tk).filter (freeB (i', j)) = sqs i rs (tk ||| 2 ^ j)
  | [], _, _, _, _, _ => rfl
  | r :: rs, i, tk, i', j, h => by
    rw [sqs, sqs, List.filter_append, sqs_filter rs (i + 1) tk i' j (by omega), List.filter_map, elems_or]
    congr 2
    refine List.filter_congr fun x _ => ?_
    have : i' ≠ i := by omega
    simp [freeB, this]
theorem row_step (k i : Nat) (R : List (Nat × Nat)) : ∀ js : List Nat, rkN (k + 1) (js.map (fun j => (i, j)) ++ R) = rkN (k + 1) R + (js.map fun j => rkN k (R.filter (freeB (i, j)))).sum
  | [] => by simp
  | j :: js => by
    rw [List.map_cons, List.cons_append, rkN_cons, row_step k i R js, List.filter_append]
    have : (js.map (fun j => (i, j))).filter (freeB (i, j)) = [] := by
      refine List.filter_eq_nil_iff.2 fun s hs => ?_
      obtain ⟨j', _, rfl⟩ := List.mem_map.1 hs
      simp [freeB]
    rw [this, List.nil_append, List.map_cons, List.sum_cons]
    omega
theorem cnt_rkN : ∀ (rs : List Nat) (i tk k : Nat), cnt rs tk k = rkN k (sqs i rs tk)
  | [], _, _, 0 => by rw [rkN_zero]; rfl
  | [], _, _, k + 1 => by rw [sqs, rkN_nil]; rfl
  | r :: rs, _, tk, 0 => by rw [cnt_zero, rkN_zero]
  | r :: rs, i, tk, k + 1 => by
    rw [cnt, sqs, row_step, cnt_rkN rs (i + 1) tk (k + 1)]
    congr 2
    refine List.map_congr_left fun j hj => ?_
    rw [cnt_rkN rs (i + 1) (tk ||| 2 ^ j) k, sqs_filter rs (i + 1) tk i j (by omega)]
theorem mem_sqs : ∀ (rs : List Nat) (i a b : Nat), (a, b) ∈ sqs i rs 0 ↔ i ≤ a ∧ b < 6 ∧ (rs.getD (a - i) 0).testBit b = true
  | [], i, a, b => by simp [sqs]
  | r :: rs, i, a, b => by
    rw [sqs, List.mem_append, mem_sqs rs (i + 1) a b, List.mem_map]
    have hs : sub r 0 = r := Nat.eq_of_testBit_eq fun j => by rw [sub_bit]; simp
    rw [hs]
    constructor
    · rintro (⟨j, hj, e⟩ | ⟨h1, h2, h3⟩)
      · obtain ⟨rfl, rfl⟩ := Prod.mk.inj e
        obtain ⟨h6, hb⟩ := elems_mem hj
        exact ⟨Nat.le_refl _, h6, by rw [Nat.sub_self]; exact hb⟩
      · refine ⟨by omega, h2, ?_⟩
        rw [show a - i = (a - (i + 1)) + 1 by omega]
        exact h3
    · rintro ⟨h1, h2, h3⟩
      by_cases e : a = i
      · subst e
        rw [Nat.sub_self] at h3
        exact .inl ⟨b, List.mem_filter.2 ⟨List.mem_range.2 h2, h3⟩, rfl⟩
      · refine .inr ⟨by omega, h2, ?_⟩
        rw [show a - i = (a - (i + 1)) + 1 by omega] at h3
        exact h3
theorem elems_nodup (x : Nat) : (elems x).Nodup := List.Pairwise.filter _ List.nodup_range
theorem nodup_map {α β : Type} {f : α → β} (hf : ∀ a b, f a = f b → a = b) {l : List α} (h : l.Nodup) : (l.map f).Nodup :=
  List.pairwise_map.2 (h.imp fun hne e => hne (hf _ _ e))
theorem sqs_nodup : ∀ (rs : List Nat) (i tk : Nat), (sqs i rs tk).Nodup
  | [], _, _ => List.nodup_nil
  | r :: rs, i, tk => by
    rw [sqs]
    refine List.nodup_append.2 ⟨nodup_map (fun a b e => (Prod.mk.inj e).2) (elems_nodup _), sqs_nodup rs (i + 1) tk, fun s hs t ht e => ?_⟩
    obtain ⟨j, _, rfl⟩ := List.mem_map.1 hs
    have := sqs_ge rs (i + 1) tk t ht
    rw [← e] at this
    simp at this
    omega
/-- Whether a square is on a board. -/
def onB (bs : List Nat) (s : Nat × Nat) : Bool := (bs.getD s.1 0).testBit s.2
theorem mem_on {bs : List Nat} (h : ∀ x ∈ bs, x < 64) (s : Nat × Nat) : s ∈ sqs 0 bs 0 ↔ onB bs s = true := by
  obtain ⟨a, b⟩ := s
  rw [mem_sqs]
  unfold onB
  simp only [Nat.zero_le, true_and, Nat.sub_zero]
  refine ⟨fun h => h.2, fun hb => ⟨Nat.lt_of_not_le fun hle => ?_, hb⟩⟩
  have hx : bs.getD a 0 < 64 := by
    by_cases ha : a < bs.length
    · exact h _ (natD_mem ha)
    · have : bs.getD a 0 = 0 := by simp [show bs.length ≤ a by omega]
      rw [this]; decide
  rw [Nat.testBit_lt_two_pow (Nat.lt_of_lt_of_le hx (Nat.pow_le_pow_right (n := 2) (by decide) (show 6 ≤ b from hle)))] at hb
  cases hb
/-- What is moved by f becomes the other one. -/
structure Moved (f : Nat × Nat → Nat × Nat) (bs bs' : List Nat) : Prop where
  back : ∀ s, f (f s) = s
  keep : ∀ s t, freeB (f s) (f t) = freeB s t
  on : ∀ s, onB bs' s = onB bs (f s)
theorem Moved.cnt {f : Nat × Nat → Nat × Nat} {bs bs' : List Nat} (h : Moved f bs bs') (h1 : ∀ x ∈ bs, x < 64) (h2 : ∀ x ∈ bs', x < 64) (k : Nat) : cnt bs' 0 k = cnt bs 0 k := by
  rw [cnt_rkN bs' 0 0 k, cnt_rkN bs 0 0 k, ← rkN_map f h.keep k (sqs 0 bs 0)]
  refine rkN_perm k ((List.perm_ext_iff_of_nodup (sqs_nodup _ _ _) (nodup_map (fun a b e => by rw [← h.back a, e, h.back]) (sqs_nodup _ _ _))).2 fun s => ?_)
  rw [mem_on h2, h.on s, List.mem_map]
  constructor
  · intro hs
    exact ⟨f s, (mem_on h1 _).2 hs, h.back s⟩
  · rintro ⟨t, ht, rfl⟩
    rw [h.back]
    exact (mem_on h1 t).1 ht
theorem list_same {xs ys : List Int} (hl : xs.length = ys.length) (h : ∀ k, k < xs.length → xs.getD k 0 = ys.getD k 0) : xs = ys := of_decide_eq_true (eqB_all hl h)
theorem Moved.rooks {f : Nat × Nat → Nat × Nat} {bs bs' : List Nat} {n : Nat} (h : Moved f bs bs') (h1 : Brd n bs) (h2 : Brd n bs') : rookL bs' = rookL bs := by
  have a := h1.len
  have b := h2.len
  have c := pw6 n h1.le
  refine list_same (by rw [rookL_length, rookL_length, a, b]) fun k hk => ?_
  rw [rookL_length] at hk
  rw [rookL_get _ (by omega), rookL_get _ (by omega), h.cnt (fun x hx => by have := h1.lt x hx; omega) (fun x hx => by have := h2.lt x hx; omega)]
theorem phi_one (v v' : List Int) (k : Nat) : ∀ m, (∀ j, j < m → k < j → v.getD j 0 = v'.getD j 0) → phi v k m - phi v' k m = if k < m then v.getD k 0 - v'.getD k 0 else 0
  | 0, _ => by simp [phi]
  | m + 1, h => by
    have ih := phi_one v v' k m fun j hj hk => h j (by omega) hk
    rw [phi, phi]
    by_cases e : k = m
    · subst e
      have hc : chooseN k k = 1 := by
        have : ∀ a, chooseN a a = 1 := by
          have hz : ∀ a b, a < b → chooseN a b = 0 := by
            intro a
            induction a with
            | zero => intro b hb; cases b with
              | zero => omega
              | succ b => rfl
            | succ a ih => intro b hb; cases b with
              | zero => omega
              | succ b => rw [chooseN, ih b (by omega), ih (b + 1) (by omega)]
          intro a
          induction a with
          | zero => rfl
          | succ a ih => rw [chooseN, ih, hz a (a + 1) (by omega)]
        exact this k
      rw [if_neg (Nat.lt_irrefl _)] at ih
      rw [if_pos (Nat.lt_succ_self _), hc]
      omega
    · by_cases e2 : k < m
      · rw [if_pos e2] at ih
        rw [if_pos (by omega), h m (by omega) e2]
        omega
      · rw [if_neg e2] at ih
        rw [if_neg (by omega)]
        have hc : chooseN m k = 0 := by
          have hz : ∀ a b, a < b → chooseN a b = 0 := by
            intro a
            induction a with
            | zero => intro b hb; cases b with
              | zero => omega
              | succ b => rfl
            | succ a ih => intro b hb; cases b with
              | zero => omega
              | succ b => rw [chooseN, ih b (by omega), ih (b + 1) (by omega)]
          exact hz m k (by omega)
        rw [hc]
        simp
        omega
theorem hits_same {n : Nat} {v v' : List Int} (hv : v.length = n + 1) (hv' : v'.length = n + 1) (h1 : ∀ x ∈ v, I64 x) (h2 : ∀ x ∈ v', I64 x)
    (h : ∀ k, k ≤ n → accH v k (n + 1) = accH v' k (n + 1)) : v = v' := by
  have down : ∀ d, d ≤ n + 1 → ∀ k, n + 1 - d ≤ k → k ≤ n → v.getD k 0 = v'.getD k 0 := by
    intro d
    induction d with
    | zero => intro _ k a b; omega
    | succ d ih =>
      intro hd k a b
      by_cases e : n + 1 - d ≤ k
      · exact ih (by omega) k e b
      · have hk := h k b
        rw [accH_phi, accH_phi] at hk
        have hp := phi_one v v' k (n + 1) fun j hj hkj => ih (by omega) j (by omega) (by omega)
        rw [if_pos (by omega)] at hp
        have i1 := h1 _ (getD_mem (show k < v.length by omega))
        have i2 := h2 _ (getD_mem (show k < v'.length by omega))
        unfold I64 at i1 i2
        unfold wrap64 at hk
        omega
  exact list_same (by omega) fun k hk => down (n + 1) (Nat.le_refl _) k (by omega) (by omega)
theorem Moved.hits {f : Nat × Nat → Nat × Nat} {bs bs' : List Nat} {n : Nat} (h : Moved f bs bs') (h1 : Brd n bs) (h2 : Brd n bs') : hitsL bs' = hitsL bs := by
  have hr := h.rooks h1 h2
  refine hits_same (n := n) (by rw [hitsL_length, h2.len]) (by rw [hitsL_length, h1.len]) (hitsL_I64 _) (hitsL_I64 _) fun k hk => ?_
  rw [hits_want h1 hk, hits_want h2 hk, hr]
end Go.Proofs.YtellnklbkjajbaaDoor
