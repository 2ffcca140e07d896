/- The numbers of a graph: pure facts. -/
import Derived.Test.YtdnhfnegnjdeoaaDoorGm
import Derived.Test.YtdnhfnegnjdeoaaDoorBt
namespace Go.Proofs.YtdnhfnegnjdeoaaDoor
open Go.RowKit

/-- How many neighbours two nodes have in common. -/
def com (bs : List Nat) (i j : Nat) : Nat := pop 16 (bs.getD i 0 &&& bs.getD j 0)
theorem com_comm (bs : List Nat) (i j : Nat) : com bs i j = com bs j i := by unfold com; rw [Nat.and_comm]
theorem com_le (bs : List Nat) (i j : Nat) : com bs i j ≤ 16 := pop_le _ _
def haveB (n : Nat) (bs : List Nat) (K L M : Nat) : Bool := decide (∀ i, i < n → pop 16 (bs.getD i 0) = K ∧ ∀ j, j < i → com bs i j = if (bs.getD i 0).testBit j then L else M)
theorem haveB_size {n : Nat} {bs : List Nat} {K L M i : Nat} (hi : i < n) (h : pop 16 (bs.getD i 0) ≠ K) : haveB n bs K L M = false := decide_eq_false fun c => h (c i hi).1
theorem haveB_pair {n : Nat} {bs : List Nat} {K L M i j : Nat} (hi : i < n) (hj : j < i) (h : com bs i j ≠ if (bs.getD i 0).testBit j then L else M) : haveB n bs K L M = false := decide_eq_false fun c => h ((c i hi).2 j hj)
theorem haveB_good {n : Nat} {bs : List Nat} {K L M : Nat} (h : ∀ i, i < n → pop 16 (bs.getD i 0) = K) (h' : ∀ i j, i < n → j < i → com bs i j = if (bs.getD i 0).testBit j then L else M) : haveB n bs K L M = true :=
  decide_eq_true fun i hi => ⟨h i hi, fun j hj => h' i j hi hj⟩

def nearS (bs : List Nat) : Nat := bs.getD 0 0
def farS (n : Nat) (bs : List Nat) : Nat := (oth n bs).getD 0 0
/-- The numbers of a graph, if it has any. -/
def readP (n : Nat) (bs : List Nat) : Option (Nat × Nat × Nat) :=
  if nearS bs = 0 ∨ farS n bs = 0 then none
  else if haveB n bs (pop 16 (nearS bs)) (com bs 0 (Lib.ctz 64 (nearS bs))) (com bs 0 (Lib.ctz 64 (farS n bs))) then
    some (pop 16 (nearS bs), com bs 0 (Lib.ctz 64 (nearS bs)), com bs 0 (Lib.ctz 64 (farS n bs))) else none

theorem readP_near {n : Nat} {bs : List Nat} (h : nearS bs = 0) : readP n bs = none := by unfold readP; rw [if_pos (.inl h)]
theorem readP_far {n : Nat} {bs : List Nat} (h : farS n bs = 0) : readP n bs = none := by unfold readP; rw [if_pos (.inr h)]
theorem readP_yes {n : Nat} {bs : List Nat} (h : nearS bs ≠ 0) (h' : farS n bs ≠ 0) (hh : haveB n bs (pop 16 (nearS bs)) (com bs 0 (Lib.ctz 64 (nearS bs))) (com bs 0 (Lib.ctz 64 (farS n bs))) = true) :
    readP n bs = some (pop 16 (nearS bs), com bs 0 (Lib.ctz 64 (nearS bs)), com bs 0 (Lib.ctz 64 (farS n bs))) := by
  unfold readP; rw [if_neg (by omega), if_pos hh]
theorem readP_no {n : Nat} {bs : List Nat} (hh : haveB n bs (pop 16 (nearS bs)) (com bs 0 (Lib.ctz 64 (nearS bs))) (com bs 0 (Lib.ctz 64 (farS n bs))) = false) : readP n bs = none := by
  unfold readP
  split
  · rfl
  · rw [if_neg (by rw [hh]; simp)]
theorem near_facts {n : Nat} {bs : List Nat} (h : Gr n bs) (h0 : nearS bs ≠ 0) : (bs.getD 0 0).testBit (Lib.ctz 64 (nearS bs)) = true ∧ 0 < Lib.ctz 64 (nearS bs) ∧ Lib.ctz 64 (nearS bs) < n := by
  have hb := (ctz_bit (nearS bs) (h.get16 0) h0).1
  generalize Lib.ctz 64 (nearS bs) = u at *
  have hb' : (bs.getD 0 0).testBit u = true := hb
  refine ⟨hb', ?_, ?_⟩
  · refine Nat.pos_of_ne_zero fun e => ?_
    subst e; rw [h.irr 0 h.pos] at hb'; cases hb'
  · refine Nat.lt_of_not_le fun hle => ?_
    rw [h.bit 0 hle] at hb'; cases hb'
theorem far_facts {n : Nat} {bs : List Nat} (h : Gr n bs) (h0 : farS n bs ≠ 0) : (bs.getD 0 0).testBit (Lib.ctz 64 (farS n bs)) = false ∧ 0 < Lib.ctz 64 (farS n bs) ∧ Lib.ctz 64 (farS n bs) < n := by
  have h' := oth_gr h
  have hf : nearS (oth n bs) = farS n bs := rfl
  rw [← hf] at h0 ⊢
  obtain ⟨h1, h2, h3⟩ := near_facts h' h0
  refine ⟨?_, h2, h3⟩
  rw [oth_bit h.pos] at h1
  simp at h1
  exact h1.2.1
theorem far_pop {n : Nat} {bs : List Nat} (h : Gr n bs) : pop 16 (farS n bs) + pop 16 (bs.getD 0 0) + 1 = n := by
  have h1 : pop 16 (farS n bs) = pop n ((oth n bs).getD 0 0) := h.pop _ ((oth_gr h).get 0)
  rw [h1, h.pop _ (h.get 0)]
  exact oth_pop h h.pos
theorem readP_few {n : Nat} {bs : List Nat} (h : Gr n bs) (hk : pop 16 (bs.getD 0 0) < 1) : readP n bs = none :=
  readP_near (pop_zero (n := n) (h.get 0) (by show pop n (bs.getD 0 0) = 0; rw [← h.pop _ (h.get 0)]; omega))
theorem readP_many {n : Nat} {bs : List Nat} (h : Gr n bs) (hk : n < pop 16 (bs.getD 0 0) + 2) : readP n bs = none := by
  have := far_pop h
  refine readP_far (pop_zero (n := n) ((oth_gr h).get 0) ?_)
  have e : pop 16 (farS n bs) = pop n ((oth n bs).getD 0 0) := h.pop _ ((oth_gr h).get 0)
  show pop n ((oth n bs).getD 0 0) = 0
  omega
theorem readP_size {n : Nat} {bs : List Nat} {i : Nat} (hi : i < n) (h : pop 16 (bs.getD i 0) ≠ pop 16 (bs.getD 0 0)) : readP n bs = none := readP_no (haveB_size hi h)
theorem readP_pairs {n : Nat} {bs : List Nat} {a b c d : Nat} (ha : a < n) (hb : b < a) (hc : c < n) (hd : d < c) (ht : (bs.getD a 0).testBit b = (bs.getD c 0).testBit d) (h : com bs a b ≠ com bs c d) : readP n bs = none := by
  refine readP_no ?_
  generalize com bs 0 (Lib.ctz 64 (nearS bs)) = L
  generalize com bs 0 (Lib.ctz 64 (farS n bs)) = M
  by_cases e : com bs a b = if (bs.getD a 0).testBit b then L else M
  · refine haveB_pair hc hd ?_
    rw [← ht, ← e]; exact fun x => h x.symm
  · exact haveB_pair ha hb e

/-- The pairs that have been looked at ahead of (i, j). -/
def PS (i j a b : Nat) : Prop := b < a ∧ (a < i ∨ (a = i ∧ b < j))
/-- What l says of the pairs of one kind so far. -/
def Seen (bs : List Nat) (t : Bool) (i j : Nat) (l : Int) : Prop :=
  (l = -1 ∧ ∀ a b, PS i j a b → (bs.getD a 0).testBit b ≠ t) ∨
  (∃ k : Nat, l = k ∧ k ≤ 16 ∧ (∃ a b, PS i j a b ∧ (bs.getD a 0).testBit b = t ∧ com bs a b = k) ∧ ∀ a b, PS i j a b → (bs.getD a 0).testBit b = t → com bs a b = k)
theorem PS_next {i j a b : Nat} (h : PS i (j + 1) a b) : PS i j a b ∨ (a = i ∧ b = j) := by
  obtain ⟨h1, h2⟩ := h
  rcases h2 with h2 | ⟨h2, h3⟩
  · exact .inl ⟨h1, .inl h2⟩
  · by_cases e : b = j
    · exact .inr ⟨h2, e⟩
    · exact .inl ⟨h1, .inr ⟨h2, by omega⟩⟩
theorem PS_mono {i j a b : Nat} (h : PS i j a b) : PS i (j + 1) a b := ⟨h.1, h.2.imp id fun x => ⟨x.1, by omega⟩⟩
theorem PS_last {i j : Nat} (h : j < i) : PS i (j + 1) i j := ⟨h, .inr ⟨rfl, by omega⟩⟩
theorem Seen.start (bs : List Nat) (t : Bool) : Seen bs t 0 0 (-1) := .inl ⟨rfl, fun a b h => by obtain ⟨h1, h2⟩ := h; omega⟩
theorem Seen.skip {bs : List Nat} {t : Bool} {i j : Nat} {l : Int} (h : Seen bs t i j l) (ht : (bs.getD i 0).testBit j ≠ t) : Seen bs t i (j + 1) l := by
  rcases h with ⟨hl, h⟩ | ⟨k, hl, hk, ⟨a, b, h1, h2⟩, h⟩
  · refine .inl ⟨hl, fun a b hp => ?_⟩
    rcases PS_next hp with hp | ⟨rfl, rfl⟩
    · exact h a b hp
    · exact ht
  · refine .inr ⟨k, hl, hk, ⟨a, b, PS_mono h1, h2⟩, fun a b hp hb => ?_⟩
    rcases PS_next hp with hp | ⟨rfl, rfl⟩
    · exact h a b hp hb
    · exact absurd hb ht
theorem Seen.first {bs : List Nat} {t : Bool} {i j : Nat} {l : Int} (h : Seen bs t i j l) (hl : l < 0) (hj : j < i) (ht : (bs.getD i 0).testBit j = t) : Seen bs t i (j + 1) (com bs i j : Nat) := by
  rcases h with ⟨_, h⟩ | ⟨k, rfl, _⟩
  · refine .inr ⟨_, rfl, com_le _ _ _, ⟨i, j, PS_last hj, ht, rfl⟩, fun a b hp hb => ?_⟩
    rcases PS_next hp with hp | ⟨rfl, rfl⟩
    · exact absurd hb (h a b hp)
    · rfl
  · omega
theorem Seen.more {bs : List Nat} {t : Bool} {i j : Nat} {l : Int} (h : Seen bs t i j l) (hl : l = (com bs i j : Nat)) : Seen bs t i (j + 1) l := by
  rcases h with ⟨e, _⟩ | ⟨k, rfl, hk, ⟨a, b, h1, h2⟩, h⟩
  · omega
  · refine .inr ⟨k, rfl, hk, ⟨a, b, PS_mono h1, h2⟩, fun a b hp hb => ?_⟩
    rcases PS_next hp with hp | ⟨rfl, rfl⟩
    · exact h a b hp hb
    · omega
theorem Seen.row {bs : List Nat} {t : Bool} {i : Nat} {l : Int} (h : Seen bs t i i l) : Seen bs t (i + 1) 0 l := by
  have hp : ∀ a b, PS (i + 1) 0 a b → PS i i a b := by
    rintro a b ⟨h1, h2⟩
    by_cases e : a = i
    · exact ⟨h1, .inr ⟨e, by omega⟩⟩
    · exact ⟨h1, .inl (by omega)⟩
  have hq : ∀ a b, PS i i a b → PS (i + 1) 0 a b := by
    rintro a b ⟨h1, h2⟩
    exact ⟨h1, .inl (by omega)⟩
  rcases h with ⟨hl, h⟩ | ⟨k, hl, hk, ⟨a, b, h1, h2⟩, h⟩
  · exact .inl ⟨hl, fun a b x => h a b (hp a b x)⟩
  · exact .inr ⟨k, hl, hk, ⟨a, b, hq a b h1, h2⟩, fun a b x => h a b (hp a b x)⟩
theorem Seen.bad {n : Nat} {bs : List Nat} {t : Bool} {i j : Nat} {l : Int} (h : Seen bs t i j l) (hl : ¬ l < 0) (hi : i < n) (hj : j < i) (ht : (bs.getD i 0).testBit j = t) (hne : l ≠ (com bs i j : Nat)) : readP n bs = none := by
  rcases h with ⟨e, _⟩ | ⟨k, rfl, hk, ⟨a, b, ⟨h1, h3⟩, h2, h4⟩, h⟩
  · omega
  · exact readP_pairs (a := a) (b := b) (by omega) h1 hi hj (by rw [h2, ht]) (by omega)
theorem Seen.bd {bs : List Nat} {t : Bool} {i j : Nat} {l : Int} (h : Seen bs t i j l) : -1 ≤ l ∧ l ≤ 16 := by
  rcases h with ⟨e, _⟩ | ⟨k, rfl, hk, _⟩ <;> omega
theorem seen_end {n : Nat} {bs : List Nat} {l m : Int} (h : Gr n bs) (hs : ∀ i, i < n → pop 16 (bs.getD i 0) = pop 16 (bs.getD 0 0)) (h1 : ¬ pop 16 (bs.getD 0 0) < 1) (h2 : ¬ n < pop 16 (bs.getD 0 0) + 2)
    (hl : Seen bs true n 0 l) (hm : Seen bs false n 0 m) : ∃ L M : Nat, l = L ∧ m = M ∧ readP n bs = some (pop 16 (bs.getD 0 0), L, M) := by
  have hnear : nearS bs ≠ 0 := fun e => by
    have e' : bs.getD 0 0 = 0 := e
    rw [e', pop_of_zero] at h1; omega
  have hfar : farS n bs ≠ 0 := fun e => by
    have := far_pop h
    rw [e, pop_of_zero] at this; omega
  obtain ⟨a1, a2, a3⟩ := near_facts h hnear
  obtain ⟨b1, b2, b3⟩ := far_facts h hfar
  have hps : ∀ a b, b < a → a < n → PS n 0 a b := fun a b x y => ⟨x, .inl y⟩
  have e1 : (bs.getD (Lib.ctz 64 (nearS bs)) 0).testBit 0 = true := by rw [h.sym _ 0 a3 h.pos]; exact a1
  have e2 : (bs.getD (Lib.ctz 64 (farS n bs)) 0).testBit 0 = false := by rw [h.sym _ 0 b3 h.pos]; exact b1
  rcases hl with ⟨_, hl⟩ | ⟨L, rfl, _, _, hl⟩
  · exact absurd e1 (hl _ 0 (hps _ _ a2 a3))
  rcases hm with ⟨_, hm⟩ | ⟨M, rfl, _, _, hm⟩
  · exact absurd e2 (hm _ 0 (hps _ _ b2 b3))
  have f1 := hl _ 0 (hps _ _ a2 a3) e1
  have f2 := hm _ 0 (hps _ _ b2 b3) e2
  rw [com_comm] at f1 f2
  refine ⟨L, M, rfl, rfl, ?_⟩
  have hh : haveB n bs (pop 16 (nearS bs)) (com bs 0 (Lib.ctz 64 (nearS bs))) (com bs 0 (Lib.ctz 64 (farS n bs))) = true := by
    rw [f1, f2]
    refine haveB_good hs fun i j hi hj => ?_
    cases e : (bs.getD i 0).testBit j
    · exact hm i j (hps i j hj hi) e
    · exact hl i j (hps i j hj hi) e
  rw [readP_yes hnear hfar hh, f1, f2]
  rfl
end Go.Proofs.YtdnhfnegnjdeoaaDoor
