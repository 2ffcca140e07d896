/- The graph of all others; two conditions more -/
import Derived.Test.YtdnhfnegnjdeoaaDoorUa
namespace Go.Proofs.YtdnhfnegnjdeoaaDoor
open Go.RowKit

section
variable {n : Nat} {bs : List Nat} {K L M : Nat}
theorem oth_adj (n : Nat) (bs : List Nat) {i j : Nat} (hi : i < n) (hj : j < n) : adj (oth n bs) i j = !(adj bs i j || decide (i = j)) := by
  unfold adj
  rw [oth_bit hi, decide_eq_true hj, Bool.true_and]
theorem oth_ne (n : Nat) (bs : List Nat) {i j : Nat} (hi : i < n) (hj : j < n) (h : i ≠ j) : adj (oth n bs) i j = !adj bs i j := by
  rw [oth_adj n bs hi hj, decide_eq_false h, Bool.or_false]
theorem oth_deg (h : Gr n bs) (hs : Srg n bs K L M) {i : Nat} (hi : i < n) : (pop 16 ((oth n bs).getD i 0) : Int) = (n:Int) - K - 1 := by
  have e : sm (fun z => bi (adj (oth n bs) i z)) n = sm (fun z => (1 - dl i z) - bi (adj bs i z)) n := by
    refine sm_congr n fun z hz => ?_
    unfold dl
    by_cases e : z = i
    · subst e
      rw [oth_adj n bs hi hz, adj_irr h, if_pos rfl, decide_eq_true rfl]
      decide
    · rw [oth_ne n bs hi hz (fun x => e x.symm), if_neg e]
      cases adj bs i z <;> decide
  rw [deg_sm (oth_gr h), e, sm_sub, sm_sub, sm_one, sm_dl hi, srg_deg h hs hi]
  omega
theorem oth_com (h : Gr n bs) (hs : Srg n bs K L M) {i j : Nat} (hi : i < n) (hj : j < n) (hij : i ≠ j) :
    (com (oth n bs) i j : Int) = if adj (oth n bs) i j then (n:Int) - 2 - 2 * K + M else (n:Int) - 2 * K + L := by
  have e : sm (fun z => bi (adj (oth n bs) i z && adj (oth n bs) j z)) n =
      sm (fun z => (((1 - dl i z) - dl j z) - (bi (adj bs i z) + bi (adj bs j z))) + (bi (adj bs i z && adj bs j z) + (bi (adj bs i j) * dl i z + bi (adj bs i j) * dl j z))) n := by
    refine sm_congr n fun z hz => ?_
    unfold dl
    by_cases e1 : z = i
    · subst e1
      rw [oth_adj n bs hi hz, adj_irr h, if_pos rfl, if_neg hij, decide_eq_true rfl, adj_sym h j z]
      cases adj bs z j <;> simp [bi]
    · by_cases e2 : z = j
      · subst e2
        rw [oth_ne n bs hi hz (fun x => e1 x.symm), oth_adj n bs hj hz, adj_irr h, if_neg e1, if_pos rfl, decide_eq_true rfl]
        cases adj bs i z <;> decide
      · rw [oth_ne n bs hi hz (fun x => e1 x.symm), oth_ne n bs hj hz (fun x => e2 x.symm), if_neg e1, if_neg e2]
        cases adj bs i z <;> cases adj bs j z <;> cases adj bs i j <;> decide
  rw [com_sm (oth_gr h), e, sm_add, sm_sub, sm_sub, sm_sub, sm_add, sm_add, sm_add, sm_mul, sm_mul, sm_one, sm_dl hi, sm_dl hj, srg_deg h hs hi, srg_deg h hs hj, srg_com h hs hi hj hij, oth_ne n bs hi hj hij]
  cases adj bs i j <;> simp [bi] <;> omega
/-- Its numbers. -/
theorem oth_srg (h : Gr n bs) (hs : Srg n bs K L M) {K' L' M' : Nat} (hK : (K':Int) = (n:Int) - K - 1) (hL : (L':Int) = (n:Int) - 2 - 2 * K + M) (hM : (M':Int) = (n:Int) - 2 * K + L) : Srg n (oth n bs) K' L' M' := by
  refine ⟨fun i hi => ?_, fun i j hi hj hij => ?_⟩
  · have := oth_deg h hs hi; omega
  · have := oth_com h hs hi hj hij
    cases ht : adj (oth n bs) i j <;> rw [ht] at this <;> simp at this ⊢ <;> omega
/-- They are not below 0. -/
theorem oth_pos (h : Gr n bs) (hs : Srg n bs K L M) (h1 : 1 ≤ K) (h2 : K + 2 ≤ n) : 0 ≤ (n:Int) - 2 - 2 * K + M ∧ 0 ≤ (n:Int) - 2 * K + L := by
  have hp := h.pos
  constructor
  · obtain ⟨y, hy, ha⟩ := sm_pos n (show 0 < sm (fun z => bi (adj (oth n bs) 0 z)) n by rw [← deg_sm (oth_gr h), oth_deg h hs hp]; omega)
    have ha := bi_one ha
    have hy0 : 0 ≠ y := fun e => by rw [← e, adj_irr (oth_gr h)] at ha; cases ha
    have := oth_com h hs hp hy hy0
    rw [ha, if_pos rfl] at this
    omega
  · obtain ⟨y, hy, ha⟩ := sm_pos n (show 0 < sm (fun z => bi (adj bs 0 z)) n by rw [srg_deg h hs hp]; omega)
    have ha := bi_one ha
    have hy0 : 0 ≠ y := fun e => by rw [← e, adj_irr h] at ha; cases ha
    have := oth_com h hs hp hy hy0
    rw [oth_ne n bs hp hy hy0, ha] at this
    simp at this
    omega
/-- No graph has 4 neighbours, none in common of neighbours, and 2 of others. -/
theorem srg_four (h : Gr n bs) (hs : Srg n bs 4 0 2) (hn : 6 ≤ n) : False := by
  have hp := h.pos
  have nb : ∀ x, x < n → ∀ c, adj bs x c = true → x ≠ c := fun x _ c hc e => by rw [e, adj_irr h] at hc; cases hc
  obtain ⟨x, hx, hx1⟩ := sm_pos n (show 0 < sm (fun z => (1 - dl 0 z) - bi (adj bs 0 z)) n by rw [sm_sub, sm_sub, sm_one, sm_dl hp, srg_deg h hs hp]; omega)
  have hx2 : x ≠ 0 ∧ adj bs 0 x = false := by
    unfold dl at hx1
    by_cases e : x = 0
    · rw [if_pos e, e, adj_irr h] at hx1; exact absurd hx1 (by decide)
    · rw [if_neg e] at hx1
      cases ha : adj bs 0 x
      · exact ⟨e, rfl⟩
      · rw [ha] at hx1; exact absurd hx1 (by decide)
  obtain ⟨hx0, h0x⟩ := hx2
  have h0 := srg_deg h hs hp
  have h1 := srg_deg h hs hx
  have h2 := srg_com h hs hp hx (fun e => hx0 e.symm)
  rw [h0x, if_neg (by decide)] at h2
  have half : ∀ c, c < n → adj bs x c = true → adj bs 0 c = false → ∀ w, w < n → bi (adj bs 0 w && adj bs c w) = bi (adj bs 0 w) - bi (adj bs 0 w && adj bs x w) := by
    intro c hc hxc h0c
    have hc0 : 0 ≠ c := fun e => by rw [← e, adj_sym h x 0, h0x] at hxc; cases hxc
    have e1 := srg_com h hs hx hc (nb x hx c hxc)
    rw [hxc, if_pos rfl] at e1
    have e2 := srg_com h hs hp hc hc0
    rw [h0c, if_neg (by decide)] at e2
    have hz := sm_eq (f := fun _ => 0) (g := fun w => bi (adj bs x w && adj bs c w)) n (fun w _ => (bi_01 _).1) (by rw [sm_zero, e1]; rfl)
    refine sm_eq n (fun w hw => ?_) (by rw [e2, sm_sub, h0, h2]; rfl)
    have := hz w hw
    cases a1 : adj bs 0 w <;> cases a2 : adj bs c w <;> cases a3 : adj bs x w <;> rw [a2, a3] at this <;> first | decide | exact absurd this (by decide)
  have pick : ∀ c, 0 < bi (adj bs x c) - bi (adj bs 0 c && adj bs x c) → adj bs x c = true ∧ adj bs 0 c = false := by
    intro c hc
    cases a1 : adj bs x c <;> cases a2 : adj bs 0 c <;> rw [a1, a2] at hc <;> first | exact ⟨rfl, rfl⟩ | exact absurd hc (by decide)
  obtain ⟨c, hc, hc1⟩ := sm_pos n (show 0 < sm (fun w => bi (adj bs x w) - bi (adj bs 0 w && adj bs x w)) n by rw [sm_sub, h1, h2]; decide)
  obtain ⟨hxc, h0c⟩ := pick c hc1
  obtain ⟨d, hd, hd1⟩ := sm_pos n (show 0 < sm (fun w => (bi (adj bs x w) - bi (adj bs 0 w && adj bs x w)) - dl c w) n by rw [sm_sub, sm_sub, h1, h2, sm_dl hc]; decide)
  have hcd : c ≠ d := fun e => by
    subst e
    unfold dl at hd1
    rw [if_pos rfl, hxc, h0c] at hd1
    exact absurd hd1 (by decide)
  have hd2 : 0 < bi (adj bs x d) - bi (adj bs 0 d && adj bs x d) := by
    unfold dl at hd1
    rw [if_neg (fun e => hcd e.symm)] at hd1
    omega
  obtain ⟨hxd, h0d⟩ := pick d hd2
  have ec := half c hc hxc h0c
  have ed := half d hd hxd h0d
  have hle : sm (fun w => (bi (adj bs 0 w) - bi (adj bs 0 w && adj bs x w)) + dl x w) n ≤ sm (fun w => bi (adj bs c w && adj bs d w)) n := by
    refine sm_le n fun w hw => ?_
    have e1 := ec w hw
    have e2 := ed w hw
    unfold dl
    by_cases e : w = x
    · subst e
      rw [if_pos rfl, h0x, adj_sym h c w, adj_sym h d w, hxc, hxd]; simp [bi]
    · rw [if_neg e]
      cases a1 : adj bs 0 w <;> cases a2 : adj bs c w <;> cases a3 : adj bs d w <;> cases a4 : adj bs x w <;> rw [a1, a2, a4] at e1 <;> rw [a1, a3, a4] at e2 <;> first | decide | exact absurd e1 (by decide) | exact absurd e2 (by decide)
  rw [sm_add, sm_sub, h0, h2, sm_dl hx, srg_com h hs hc hd hcd] at hle
  split at hle <;> exact absurd hle (by decide)
/-- Where nodes that are not joined have no neighbour in common, the graph is parts of K+1. -/
theorem srg_parts (h : Gr n bs) (hs : Srg n bs K L 0) : (n:Int) % (K + 1) = 0 := by
  have tr : ∀ i j k, i < n → j < n → k < n → (i = j ∨ adj bs i j = true) → (j = k ∨ adj bs j k = true) → (i = k ∨ adj bs i k = true) := by
    intro i j k hi hj hk h1 h2
    rcases h1 with e | h1
    · rw [e]; exact h2
    · rcases h2 with e | h2
      · rw [← e]; exact .inr h1
      · by_cases e : i = k
        · exact .inl e
        · refine .inr ?_
          cases ha : adj bs i k
          · have hc := srg_com h hs hi hk e
            rw [ha, if_neg (by decide)] at hc
            have := sm_eq (f := fun _ => 0) (g := fun w => bi (adj bs i w && adj bs k w)) n (fun w _ => (bi_01 _).1) (by rw [sm_zero, hc]; rfl) j hj
            rw [h1, adj_sym h k j, h2] at this
            exact absurd this (by decide)
          · rfl
  have sy : ∀ i j, (i = j ∨ adj bs i j = true) → (j = i ∨ adj bs j i = true) := fun i j e => by
    rcases e with e | e
    · exact .inl e.symm
    · rw [adj_sym h] at e; exact .inr e
  -- the least of each part
  let lst : Nat → Bool := fun j => (List.range j).all fun k => !adj bs j k
  have hl : ∀ j, lst j = true → ∀ k, k < j → adj bs j k = false := fun j hj k hk => by
    have := List.all_eq_true.1 hj k (List.mem_range.2 hk)
    simpa using this
  have hl2 : ∀ j, lst j = false → ∃ k, k < j ∧ adj bs j k = true := fun j hj => by
    obtain ⟨k, hk, e⟩ := List.all_eq_false.1 hj
    exact ⟨k, List.mem_range.1 hk, by simpa using e⟩
  have ex : ∀ t i, i ≤ t → i < n → ∃ m, m < n ∧ lst m = true ∧ (i = m ∨ adj bs i m = true) := by
    intro t
    induction t with
    | zero => intro i hi hn; exact ⟨i, hn, by rw [show i = 0 by omega]; rfl, .inl rfl⟩
    | succ t ih =>
      intro i hi hn
      cases hb : lst i
      · obtain ⟨k, hk, ha⟩ := hl2 i hb
        obtain ⟨m, hm, h1, h2⟩ := ih k (by omega) (by omega)
        exact ⟨m, hm, h1, tr i k m hn (by omega) hm (.inr ha) h2⟩
      · exact ⟨i, hn, hb, .inl rfl⟩
  have one : ∀ i, i < n → sm (fun j => bi (lst j) * (dl i j + bi (adj bs i j))) n = 1 := by
    intro i hi
    obtain ⟨m, hm, h1, h2⟩ := ex i i (Nat.le_refl _) hi
    rw [← sm_dl hm]
    refine sm_congr n fun j hj => ?_
    unfold dl
    by_cases e : j = m
    · subst e
      rw [if_pos rfl, h1]
      rcases h2 with e2 | e2
      · rw [← e2, if_pos rfl, adj_irr h]; decide
      · rw [if_neg (fun x => by rw [x, adj_irr h] at e2; cases e2), e2]; decide
    · rw [if_neg e]
      cases hb : lst j
      · simp [bi]
      · have no : ¬ (i = j ∨ adj bs i j = true) := fun hij => by
          rcases tr m i j hm hi hj (sy i m h2) hij with e3 | e3
          · exact e e3.symm
          · rcases Nat.lt_or_gt_of_ne e with hlt | hlt
            · rw [hl m h1 j hlt] at e3; cases e3
            · rw [adj_sym h, hl j hb m hlt] at e3; cases e3
        rw [if_neg (fun x => no (.inl x.symm))]
        cases ha : adj bs i j
        · decide
        · exact absurd (.inr ha) no
  have tot : sm (fun i => sm (fun j => bi (lst j) * (dl i j + bi (adj bs i j))) n) n = n := by
    rw [sm_congr (g := fun _ => 1) n one, sm_one]
  rw [sm_swap, sm_congr (g := fun j => ((K:Int) + 1) * bi (lst j)) n fun j hj => by
    rw [sm_mul, sm_add, sm_congr (f := fun i => bi (adj bs i j)) (g := fun i => bi (adj bs j i)) n fun i _ => by rw [adj_sym h], srg_deg h hs hj,
      sm_congr (f := fun i => dl i j) (g := fun i => dl j i) n fun i _ => by unfold dl; simp [eq_comm], sm_dl hj, Int.mul_comm, Int.add_comm], sm_mul] at tot
  rw [← tot]
  exact Int.mul_emod_right _ _
end
end Go.Proofs.YtdnhfnegnjdeoaaDoor
