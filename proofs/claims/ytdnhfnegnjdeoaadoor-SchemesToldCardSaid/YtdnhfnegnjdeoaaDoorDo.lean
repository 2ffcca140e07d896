/- A graph without a node that was made alone: its odd threes, its edges, its numbers -/
import Derived.Test.YtdnhfnegnjdeoaaDoorDn
namespace Go.Proofs.YtdnhfnegnjdeoaaDoor
open Go.RowKit

theorem adj_over {n : Nat} {bs : List Nat} (h : Gr n bs) (i j : Nat) (hij : n ≤ i ∨ n ≤ j) : adj bs i j = false := by
  unfold adj
  rcases hij with hi | hj
  · have : bs.getD i 0 = 0 := by have := h.len; simp [show bs.length ≤ i by omega]
    rw [this]; exact Nat.zero_testBit j
  · exact h.bit i hj
theorem adj_sym {n : Nat} {bs : List Nat} (h : Gr n bs) (i j : Nat) : adj bs i j = adj bs j i := by
  by_cases hi : i < n
  · by_cases hj : j < n
    · exact h.sym i j hi hj
    · rw [adj_over h i j (.inr (by omega)), adj_over h j i (.inl (by omega))]
  · rw [adj_over h i j (.inl (by omega)), adj_over h j i (.inr (by omega))]
theorem adj_irr {n : Nat} {bs : List Nat} (h : Gr n bs) (i : Nat) : adj bs i i = false := by
  by_cases hi : i < n
  · exact h.irr i hi
  · exact adj_over h i i (.inl (by omega))
theorem odd3_adj (bs : List Nat) (i j k : Nat) : odd3 bs i j k = ((adj bs i j != adj bs i k) != adj bs j k) := rfl
theorem oddK_sm (bs : List Nat) (i j : Nat) : ∀ k, (oddK bs i j k : Int) = sm (fun k => bi (odd3 bs i j k)) k
  | 0 => rfl
  | k + 1 => by rw [oddK, sm, Int.natCast_add, oddK_sm bs i j k]; rfl
theorem oddJ_sm (bs : List Nat) (i : Nat) : ∀ j, (oddJ bs i j : Int) = P2 (fun j k => bi (odd3 bs i j k)) j
  | 0 => rfl
  | j + 1 => by rw [oddJ, P2_succ, Int.natCast_add, oddJ_sm bs i j, oddK_sm]
theorem oddI_sm (bs : List Nat) : ∀ i, (oddI bs i : Int) = P3 (fun i j k => bi (odd3 bs i j k)) i
  | 0 => rfl
  | i + 1 => by rw [oddI, P3_succ, Int.natCast_add, oddI_sm bs i, oddJ_sm]
/-- The odd threes with v, as the law counts them. -/
def wit (bs : List Nat) (v i j : Nat) : Int := if i ≠ v ∧ j ≠ v then bi (odd3 bs i j v) else 0
theorem wit_sym {n : Nat} {bs : List Nat} (h : Gr n bs) (v i j : Nat) : wit bs v i j = wit bs v j i := by
  unfold wit
  have e : odd3 bs i j v = odd3 bs j i v := by
    rw [odd3_adj, odd3_adj, adj_sym h i j]
    cases adj bs j i <;> cases adj bs i v <;> cases adj bs j v <;> rfl
  rw [e]
  by_cases h1 : i = v <;> by_cases h2 : j = v <;> simp [h1, h2]
theorem wit_self (bs : List Nat) (v i : Nat) : wit bs v i v = 0 := by unfold wit; simp
theorem wit_sum {m : Nat} {bs : List Nat} (h : Gr (m + 1) bs) {v : Nat} (hv : v ≤ m) : P2 (wit bs v) (m + 1) = P2 (fun i j => bi (odd3 bs (sk v i) (sk v j) v)) m := by
  rw [P2_split (wit bs v) v (wit_sym h v) m hv, sm_congr (f := fun i => wit bs v (sk v i) v) (g := fun _ => 0) m fun i _ => wit_self bs v _, sm_zero, Int.add_zero]
  refine P2_congr m fun i j _ _ => ?_
  unfold wit
  rw [if_pos ⟨sk_ne v i, sk_ne v j⟩]
theorem alone_odd3 {m : Nat} {bs : List Nat} {v i j k : Nat} (hv : v ≤ m) (hi : i < m) (hj : j < m) (hk : k < m) : odd3 (aloneL (m + 1) bs v) i j k = odd3 bs (sk v i) (sk v j) (sk v k) := by
  rw [odd3_adj, odd3_adj, alone_adj hv hi hj, alone_adj hv hi hk, alone_adj hv hj hk]
  generalize adj bs (sk v i) (sk v j) = a
  generalize adj bs (sk v i) (sk v k) = b
  generalize adj bs (sk v j) (sk v k) = c
  generalize adj bs v (sk v i) = x
  generalize adj bs v (sk v j) = y
  generalize adj bs v (sk v k) = z
  cases a <;> cases b <;> cases c <;> cases x <;> cases y <;> cases z <;> rfl
theorem odd_total {m : Nat} {bs : List Nat} (h : Gr (m + 1) bs) {v : Nat} (hv : v ≤ m) : (oddI bs (m + 1) : Int) = oddI (aloneL (m + 1) bs v) m + P2 (wit bs v) (m + 1) := by
  rw [oddI_sm, oddI_sm, P3_split _ v (fun i j k => by
      show bi _ = bi _
      congr 1
      rw [odd3_adj, odd3_adj, adj_sym h k j]
      cases adj bs i j <;> cases adj bs i k <;> cases adj bs j k <;> rfl) (fun i j k => by
      show bi _ = bi _
      congr 1
      rw [odd3_adj, odd3_adj, adj_sym h j i]
      cases adj bs i j <;> cases adj bs i k <;> cases adj bs j k <;> rfl) m hv, wit_sum h hv]
  congr 1
  exact P3_congr m fun i j k hi hj hk => by rw [alone_odd3 hv hi (by omega) (by omega)]
theorem edges_sum {m : Nat} {bs : List Nat} (h : Gr (m + 1) bs) {v : Nat} (hv : v ≤ m) (h1 : 1 ≤ m) : sm (fun i => (pop 16 ((aloneL (m + 1) bs v).getD i 0) : Int)) m = 2 * P2 (wit bs v) (m + 1) := by
  have hA := alone_gr h hv h1
  rw [sm_congr (g := fun i => sm (fun z => bi (adj (aloneL (m + 1) bs v) i z)) m) m fun i _ => deg_sm hA i]
  rw [both_sum (fun i z => bi (adj (aloneL (m + 1) bs v) i z)) (fun i j => by show bi _ = bi _; rw [adj_sym hA]) (fun i => by show bi _ = 0; rw [adj_irr hA]; rfl) m, wit_sum h hv]
  congr 1
  refine P2_congr m fun i j hi hj => ?_
  show bi _ = bi _
  congr 1
  rw [alone_adj hv hi (by omega), odd3_adj, adj_sym h v (sk v i), adj_sym h v (sk v j)]
  cases adj bs (sk v i) (sk v j) <;> cases adj bs (sk v i) v <;> cases adj bs (sk v j) v <;> rfl

/-- What a graph's numbers say. -/
structure Srg (n : Nat) (bs : List Nat) (K L M : Nat) : Prop where
  deg : ∀ i, i < n → pop 16 (bs.getD i 0) = K
  com : ∀ i j, i < n → j < n → i ≠ j → com bs i j = if adj bs i j then L else M
theorem srg_have {n : Nat} {bs : List Nat} {K L M : Nat} (h : Gr n bs) (hh : haveB n bs K L M = true) : Srg n bs K L M := by
  have hd := of_decide_eq_true hh
  refine ⟨fun i hi => (hd i hi).1, fun i j hi hj hne => ?_⟩
  rcases Nat.lt_or_gt_of_ne hne with hlt | hlt
  · rw [com_comm, (hd j hj).2 i hlt, adj_sym h i j]; rfl
  · exact (hd i hi).2 j hlt
theorem readP_srg {n : Nat} {bs : List Nat} {K L M : Nat} (h : Gr n bs) (hr : readP n bs = some (K, L, M)) : Srg n bs K L M := by
  unfold readP at hr
  split at hr
  · cases hr
  · split at hr
    · rename_i hh
      obtain ⟨e1, e2⟩ := Prod.mk.inj (Option.some.inj hr)
      obtain ⟨e3, e4⟩ := Prod.mk.inj e2
      subst e1 e3 e4
      exact srg_have h hh
    · cases hr
theorem srg_readP {n : Nat} {bs : List Nat} {K L M : Nat} (h : Gr n bs) (hs : Srg n bs K L M) (h1 : 1 ≤ K) (h2 : K + 2 ≤ n) : readP n bs = some (K, L, M) := by
  have hp := h.pos
  have hK := hs.deg 0 hp
  have hnear : nearS bs ≠ 0 := fun e => by
    have e' : bs.getD 0 0 = 0 := e
    rw [e', pop_of_zero] at hK; omega
  have hfar : farS n bs ≠ 0 := fun e => by
    have := far_pop h
    rw [e, pop_of_zero] at this; omega
  obtain ⟨a1, a2, a3⟩ := near_facts h hnear
  obtain ⟨b1, b2, b3⟩ := far_facts h hfar
  have hL : com bs 0 (Lib.ctz 64 (nearS bs)) = L := by
    have e : adj bs 0 (Lib.ctz 64 (nearS bs)) = true := a1
    rw [hs.com 0 _ hp a3 (by omega), e]; rfl
  have hM : com bs 0 (Lib.ctz 64 (farS n bs)) = M := by
    have e : adj bs 0 (Lib.ctz 64 (farS n bs)) = false := b1
    rw [hs.com 0 _ hp b3 (by omega), e]; rfl
  have hN : pop 16 (nearS bs) = K := hK
  have := readP_yes (n := n) hnear hfar (by
    rw [hN, hL, hM]
    exact haveB_good (fun i hi => hs.deg i hi) fun i j hi hj => hs.com i j hi (by omega) (by omega))
  rw [this, hN, hL, hM]
theorem xr_bool (a t : Bool) : bi (a != t) = bi a + bi t - (bi (a && t) + bi (a && t)) := by cases a <;> cases t <;> rfl
theorem xr_true (a t : Bool) : bi (a != (true != t)) = 1 - bi (a != t) := by cases a <;> cases t <;> rfl
theorem xr_false (a t : Bool) : (a != (false != t)) = (a != t) := by cases a <;> cases t <;> rfl
theorem xr_two (a b t : Bool) : bi ((a != t) && (b != t)) = bi (a && b) + bi t - (bi (a && t) + bi (b && t)) := by cases a <;> cases b <;> cases t <;> rfl
theorem xr_ff (a b t : Bool) : bi ((a != (false != t)) && (b != (false != t))) = bi ((a != t) && (b != t)) := by cases a <;> cases b <;> cases t <;> rfl
theorem xr_tt (a b t : Bool) : bi ((a != (true != t)) && (b != (true != t))) = (1 - (bi (a != t) + bi (b != t))) + bi ((a != t) && (b != t)) := by cases a <;> cases b <;> cases t <;> rfl
theorem xr_tf (a b t : Bool) : bi ((a != (true != t)) && (b != (false != t))) = bi (b != t) - bi ((a != t) && (b != t)) := by cases a <;> cases b <;> cases t <;> rfl
theorem xr_ft (a b t : Bool) : bi ((a != (false != t)) && (b != (true != t))) = bi (a != t) - bi ((a != t) && (b != t)) := by cases a <;> cases b <;> cases t <;> rfl
section
variable {m : Nat} {bs : List Nat} {v : Nat}
/-- A sum over the nodes but v of what is 0 at v is that over all. -/
theorem sm_skip (f : Nat → Int) (hv : v ≤ m) (h0 : f v = 0) : sm (fun z => f (sk v z)) m = sm f (m + 1) := by
  rw [sm_split f v m hv, h0]; omega
def swb (bs : List Nat) (v i z : Nat) : Bool := adj bs i z != (adj bs v i != adj bs v z)
theorem swb_v (h : Gr (m + 1) bs) (i : Nat) : swb bs v i v = false := by
  unfold swb
  rw [adj_irr h v, adj_sym h i v]
  cases adj bs v i <;> rfl
theorem alone_deg (h : Gr (m + 1) bs) (hv : v ≤ m) (h1 : 1 ≤ m) {i : Nat} (hi : i < m) : (pop 16 ((aloneL (m + 1) bs v).getD i 0) : Int) = sm (fun z => bi (swb bs v (sk v i) z)) (m + 1) := by
  rw [deg_sm (alone_gr h hv h1), ← sm_skip (fun z => bi (swb bs v (sk v i) z)) hv (by show bi _ = 0; rw [swb_v h]; rfl)]
  exact sm_congr m fun z hz => by rw [alone_adj hv hi hz]; rfl
theorem alone_com (h : Gr (m + 1) bs) (hv : v ≤ m) (h1 : 1 ≤ m) {i j : Nat} (hi : i < m) (hj : j < m) : (com (aloneL (m + 1) bs v) i j : Int) = sm (fun z => bi (swb bs v (sk v i) z && swb bs v (sk v j) z)) (m + 1) := by
  rw [com_sm (alone_gr h hv h1), ← sm_skip (fun z => bi (swb bs v (sk v i) z && swb bs v (sk v j) z)) hv (by show bi _ = 0; rw [swb_v h]; rfl)]
  exact sm_congr m fun z hz => by rw [alone_adj hv hi hz, alone_adj hv hj hz]; rfl
/-- Over all nodes: neighbours of i and of v that are not of both. -/
theorem sum_x {K L M : Nat} (h : Gr (m + 1) bs) (hs : Srg (m + 1) bs K L M) (hv : v ≤ m) {i : Nat} (hi : i < m + 1) (hne : i ≠ v) :
    sm (fun z => bi (adj bs i z != adj bs v z)) (m + 1) = 2 * K - 2 * ((if adj bs v i then L else M : Nat) : Int) := by
  have e1 : sm (fun z => bi (adj bs i z != adj bs v z)) (m + 1) = sm (fun z => (bi (adj bs i z) + bi (adj bs v z)) - (bi (adj bs i z && adj bs v z) + bi (adj bs i z && adj bs v z))) (m + 1) :=
    sm_congr _ fun z _ => xr_bool _ _
  rw [e1, sm_sub, sm_add, sm_add, ← deg_sm h, ← deg_sm h, ← com_sm h, hs.deg i hi, hs.deg v (by omega), hs.com i v hi (by omega) hne, adj_sym h i v]
  omega
theorem sum_xx {K L M : Nat} (h : Gr (m + 1) bs) (hs : Srg (m + 1) bs K L M) (hv : v ≤ m) {i j : Nat} (hi : i < m + 1) (hj : j < m + 1) (hne : i ≠ v) (hnj : j ≠ v) (hij : i ≠ j) :
    sm (fun z => bi ((adj bs i z != adj bs v z) && (adj bs j z != adj bs v z))) (m + 1) = ((if adj bs i j then L else M : Nat) : Int) + K - (((if adj bs v i then L else M : Nat) : Int) + ((if adj bs v j then L else M : Nat) : Int)) := by
  have e1 : sm (fun z => bi ((adj bs i z != adj bs v z) && (adj bs j z != adj bs v z))) (m + 1) = sm (fun z => (bi (adj bs i z && adj bs j z) + bi (adj bs v z)) - (bi (adj bs i z && adj bs v z) + bi (adj bs j z && adj bs v z))) (m + 1) :=
    sm_congr _ fun z _ => xr_two _ _ _
  rw [e1, sm_sub, sm_add, sm_add, ← deg_sm h, ← com_sm h, ← com_sm h, ← com_sm h, hs.deg v (by omega), hs.com i v hi (by omega) hne, hs.com j v hj (by omega) hnj, hs.com i j hi hj hij, adj_sym h i v, adj_sym h j v]
theorem alone_int {K L M : Nat} (h : Gr (m + 1) bs) (hs : Srg (m + 1) bs K L M) (hv : v ≤ m) (h1 : 1 ≤ m) (hN : ((m + 1 : Nat) : Int) = 2 * (2 * K - L - M)) :
    (∀ i, i < m → (pop 16 ((aloneL (m + 1) bs v).getD i 0) : Int) = 2 * ((K:Int) - M)) ∧
    (∀ i j, i < m → j < m → i ≠ j → (com (aloneL (m + 1) bs v) i j : Int) = if adj (aloneL (m + 1) bs v) i j then (K:Int) + L - 2 * M else (K:Int) - M) := by
  have hone := sm_one (m + 1)
  constructor
  · intro i hi
    have hd := alone_deg (v := v) h hv h1 hi
    have hx := sum_x (v := v) h hs hv (sk_lt hi) (sk_ne v i)
    cases ht : adj bs v (sk v i) with
    | false =>
      rw [ht] at hx
      have e : sm (fun z => bi (swb bs v (sk v i) z)) (m + 1) = sm (fun z => bi (adj bs (sk v i) z != adj bs v z)) (m + 1) := sm_congr _ fun z _ => by unfold swb; rw [ht, xr_false]
      simp only [Bool.false_eq_true, if_false] at hx
      omega
    | true =>
      rw [ht] at hx
      have e : sm (fun z => bi (swb bs v (sk v i) z)) (m + 1) = sm (fun z => 1 - bi (adj bs (sk v i) z != adj bs v z)) (m + 1) := sm_congr _ fun z _ => by unfold swb; rw [ht, xr_true]
      rw [sm_sub, hone] at e
      simp only [if_true] at hx
      omega
  · intro i j hi hj hij
    have hc := alone_com (v := v) h hv h1 hi hj
    have ha := alone_adj (bs := bs) hv hi hj
    have hxi := sum_x (v := v) h hs hv (sk_lt hi) (sk_ne v i)
    have hxj := sum_x (v := v) h hs hv (sk_lt hj) (sk_ne v j)
    have hxx := sum_xx (v := v) h hs hv (sk_lt hi) (sk_lt hj) (sk_ne v i) (sk_ne v j) (fun e => hij (sk_inj e))
    rw [ha]
    unfold swb at hc
    cases hti : adj bs v (sk v i) <;> cases htj : adj bs v (sk v j) <;> cases hij2 : adj bs (sk v i) (sk v j)
    all_goals
      rw [hti] at hxi
      rw [htj] at hxj
      rw [hti, htj, hij2] at hxx
      rw [hti, htj] at hc
      first
        | rw [sm_congr (m + 1) fun z _ => xr_ff _ _ _] at hc
        | (rw [sm_congr (m + 1) fun z _ => xr_tt _ _ _, sm_add, sm_sub, sm_add, hone] at hc)
        | (rw [sm_congr (m + 1) fun z _ => xr_tf _ _ _, sm_sub] at hc)
        | (rw [sm_congr (m + 1) fun z _ => xr_ft _ _ _, sm_sub] at hc)
      simp at hxi hxj hxx ⊢
      omega
theorem alone_srg {K L M K' L' M' : Nat} (h : Gr (m + 1) bs) (hs : Srg (m + 1) bs K L M) (hv : v ≤ m) (h1 : 1 ≤ m) (hN : ((m + 1 : Nat) : Int) = 2 * (2 * K - L - M))
    (hK : (K' : Int) = 2 * (K - M)) (hL : (L' : Int) = K + L - 2 * M) (hM : (M' : Int) = K - M) : Srg m (aloneL (m + 1) bs v) K' L' M' := by
  obtain ⟨a, b⟩ := alone_int h hs hv h1 hN
  refine ⟨fun i hi => by have := a i hi; omega, fun i j hi hj hij => ?_⟩
  have := b i j hi hj hij
  cases ht : adj (aloneL (m + 1) bs v) i j <;> rw [ht] at this <;> simp at this ⊢ <;> omega
theorem alone_near {K L M : Nat} (h : Gr (m + 1) bs) (hs : Srg (m + 1) bs K L M) (hv : v ≤ m) (h1 : 1 ≤ m) (hN : ((m + 1 : Nat) : Int) = 2 * (2 * K - L - M)) (hk : ¬ 2 * ((K:Int) - M) < 1) : 0 ≤ (K:Int) + L - 2 * M := by
  obtain ⟨a, b⟩ := alone_int h hs hv h1 hN
  have hA := alone_gr h hv h1
  have h0 := a 0 (by omega)
  have hnear : nearS (aloneL (m + 1) bs v) ≠ 0 := fun e => by
    have e' : (aloneL (m + 1) bs v).getD 0 0 = 0 := e
    rw [e', pop_of_zero] at h0; omega
  obtain ⟨a1, a2, a3⟩ := near_facts hA hnear
  have hc := b 0 _ (by omega) a3 (by omega)
  have e : adj (aloneL (m + 1) bs v) 0 (Lib.ctz 64 (nearS (aloneL (m + 1) bs v))) = true := a1
  rw [e, if_pos rfl] at hc
  omega
end
end Go.Proofs.YtdnhfnegnjdeoaaDoor
