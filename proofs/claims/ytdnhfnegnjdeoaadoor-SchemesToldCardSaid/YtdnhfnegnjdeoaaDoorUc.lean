/- A graph's numbers have no reason against them -/
import Derived.Test.YtdnhfnegnjdeoaaDoorUb
import Derived.Test.YtdnhfnegnjdeoaaDoorXl
namespace Go.Proofs.YtdnhfnegnjdeoaaDoor
open Go.RowKit

/-- What is counted of a graph's numbers. -/
def cntB (n K L M : Int) : Bool :=
  decide (n * K % 2 = 0) && (decide (K * L % 2 = 0) && (decide (n * K * L % 6 = 0) && ((decide (K ≤ L + 1) || decide (2 * L - K + 3 ≤ M)) && (!(decide (K = 4 ∧ L = 0 ∧ M = 2)) && (decide (M ≠ 0) || decide (n % (K + 1) = 0))))))
def cnt2B (n K L M : Int) : Bool := cntB n K L M && (decide (0 ≤ n - 2 - 2 * K + M) && (decide (0 ≤ n - 2 * K + L) && cntB n (n - K - 1) (n - 2 - 2 * K + M) (n - 2 * K + L)))
def toldN (n : Nat) : Bool :=
  (List.range n).all fun k => (List.range k).all fun l => (List.range (k + 1)).all fun m =>
    !(decide ((k:Int) * ((k:Int) - l - 1) = ((n:Int) - k - 1) * m)) || (!(askB n k l m) || (!(cnt2B n k l m) || decide (reaF n k l m = 0)))
theorem toldA : ∀ n < 17, toldN n = true := by decide +kernel

section
variable {n : Nat} {bs : List Nat} {K L M : Nat}
theorem srg_cnt (h : Gr n bs) (hs : Srg n bs K L M) (h1 : 1 ≤ K) (h2 : K + 2 ≤ n) : cntB n K L M = true := by
  obtain ⟨t1, t2⟩ := srg_tri h hs
  unfold cntB
  rw [decide_eq_true (srg_even h hs), decide_eq_true t1, decide_eq_true t2, Bool.true_and, Bool.true_and, Bool.true_and, Bool.and_eq_true, Bool.and_eq_true, Bool.or_eq_true, Bool.or_eq_true]
  refine ⟨?_, ?_, ?_⟩
  · by_cases e : K ≤ L + 1
    · exact .inl (decide_eq_true (by omega))
    · exact .inr (decide_eq_true (srg_wide h hs h1 (by omega)))
  · rw [Bool.not_eq_true', decide_eq_false_iff_not]
    rintro ⟨e1, e2, e3⟩
    have e1 : K = 4 := by omega
    have e2 : L = 0 := by omega
    have e3 : M = 2 := by omega
    subst e1 e2 e3
    exact srg_four h hs (by omega)
  · by_cases e : M = 0
    · subst e
      exact .inr (decide_eq_true (srg_parts h hs))
    · exact .inl (decide_eq_true (by omega))
theorem srg_told (h : Gr n bs) (hs : Srg n bs K L M) (ha : askB n K L M = true) : reaF n K L M = 0 := by
  have hA := ask_of ha
  have h1 := hA.k1
  have h2 := hA.kn
  have h3 := hA.lk
  have h4 := hA.mlk
  obtain ⟨p1, p2⟩ := oth_pos h hs (by omega) (by omega)
  have ho := oth_srg h hs (K' := n - K - 1) (L' := (n - 2 + M) - 2 * K) (M' := (n + L) - 2 * K) (by omega) (by omega) (by omega)
  have c1 := srg_cnt h hs (by omega) (by omega)
  have c2 := srg_cnt (oth_gr h) ho (by omega) (by omega)
  rw [show (((n - K - 1 : Nat)) : Int) = n - K - 1 by omega, show ((((n - 2 + M) - 2 * K : Nat)) : Int) = n - 2 - 2 * K + M by omega, show ((((n + L) - 2 * K : Nat)) : Int) = n - 2 * K + L by omega] at c2
  have c3 : cnt2B n K L M = true := by unfold cnt2B; rw [c1, c2, decide_eq_true p1, decide_eq_true p2]; rfl
  have hle := h.le
  have hc := List.all_eq_true.1 (List.all_eq_true.1 (List.all_eq_true.1 (toldA n (by omega)) K (List.mem_range.2 (by omega))) L (List.mem_range.2 (by omega))) M (List.mem_range.2 (by omega))
  rw [decide_eq_true (srg_paths h hs), ha, c3] at hc
  simpa using hc
/-- The numbers read of a graph are asked about. -/
theorem srg_ask (h : Gr n bs) (hs : Srg n bs K L M) (h1 : 1 ≤ K) (h2 : K + 2 ≤ n) : askB n K L M = true := by
  have hp := h.pos
  have hle := h.le
  obtain ⟨p1, p2⟩ := oth_pos h hs h1 h2
  -- a neighbour y of 0
  obtain ⟨y, hy, ha⟩ := sm_pos n (show 0 < sm (fun z => bi (adj bs 0 z)) n by rw [srg_deg h hs hp]; omega)
  have ha := bi_one ha
  have hy0 : 0 ≠ y := fun e => by rw [← e, adj_irr h] at ha; cases ha
  have hL := srg_com h hs hp hy hy0
  rw [ha, if_pos rfl] at hL
  have hl : sm (fun w => bi (adj bs 0 w && adj bs y w) + dl y w) n ≤ sm (fun w => bi (adj bs 0 w)) n := by
    refine sm_le n fun w hw => ?_
    unfold dl
    by_cases e : w = y
    · subst e
      rw [if_pos rfl, adj_irr h w, ha]; decide
    · rw [if_neg e]
      cases adj bs 0 w <;> cases adj bs y w <;> decide
  rw [sm_add, hL, sm_dl hy, srg_deg h hs hp] at hl
  obtain ⟨x, hx, hb⟩ := sm_pos n (show 0 < sm (fun z => bi (adj (oth n bs) 0 z)) n by rw [← deg_sm (oth_gr h), oth_deg h hs hp]; omega)
  have hb := bi_one hb
  have hx0 : 0 ≠ x := fun e => by rw [← e, adj_irr (oth_gr h)] at hb; cases hb
  rw [oth_ne n bs hp hx hx0] at hb
  have hM := srg_com h hs hp hx hx0
  rw [show adj bs 0 x = false by simpa using hb, if_neg (by decide)] at hM
  have hm : sm (fun w => bi (adj bs 0 w && adj bs x w)) n ≤ sm (fun w => bi (adj bs 0 w)) n := sm_le n fun w hw => by
    cases adj bs 0 w <;> cases adj bs x w <;> decide
  rw [hM, srg_deg h hs hp] at hm
  refine decide_eq_true ⟨?_, ?_, ?_, ?_, ?_, ?_, ?_, ?_⟩ <;> try omega
  have he := srg_even h hs
  by_cases e : n = 3
  · obtain rfl : K = 1 := by omega
    subst e
    exact absurd he (by decide)
  · omega
theorem readP_bounds {n : Nat} {bs : List Nat} {K L M : Nat} (h : Gr n bs) (hr : readP n bs = some (K, L, M)) : 1 ≤ K ∧ K + 2 ≤ n := by
  have e : pop 16 (bs.getD 0 0) = K := (readP_srg h hr).deg 0 h.pos
  refine ⟨?_, ?_⟩
  · by_cases c : pop 16 (bs.getD 0 0) < 1
    · rw [readP_few h c] at hr; cases hr
    · omega
  · by_cases c : n < pop 16 (bs.getD 0 0) + 2
    · rw [readP_many h c] at hr; cases hr
    · omega
theorem oth_read {n : Nat} {bs : List Nat} {K L M : Nat} (h : Gr n bs) (hr : readP n bs = some (K, L, M)) :
    ∃ K' L' M' : Nat, (K':Int) = (n:Int) - K - 1 ∧ (L':Int) = (n:Int) - 2 - 2 * K + M ∧ (M':Int) = (n:Int) - 2 * K + L ∧ readP n (oth n bs) = some (K', L', M') := by
  have hs := readP_srg h hr
  obtain ⟨b1, b2⟩ := readP_bounds h hr
  obtain ⟨p1, p2⟩ := oth_pos h hs b1 b2
  refine ⟨n - K - 1, (n - 2 + M) - 2 * K, (n + L) - 2 * K, by omega, by omega, by omega, ?_⟩
  exact srg_readP (oth_gr h) (oth_srg h hs (by omega) (by omega) (by omega)) (by omega) (by omega)
theorem oth_none {n : Nat} {bs : List Nat} (h : Gr n bs) (hr : readP n bs = none) : readP n (oth n bs) = none := by
  cases e : readP n (oth n bs) with
  | none => rfl
  | some p =>
    obtain ⟨K, L, M⟩ := p
    obtain ⟨_, _, _, _, _, _, e2⟩ := oth_read (oth_gr h) e
    rw [oth_oth h, hr] at e2
    cases e2
/-- Numbers read of a graph are asked about and have no reason against them. -/
theorem read_told {n : Nat} {bs : List Nat} {K L M : Nat} (h : Gr n bs) (hr : readP n bs = some (K, L, M)) : askB n K L M = true ∧ reaF n K L M = 0 := by
  have hs := readP_srg h hr
  obtain ⟨b1, b2⟩ := readP_bounds h hr
  have ha := srg_ask h hs b1 b2
  exact ⟨ha, srg_told h hs ha⟩
end
end Go.Proofs.YtdnhfnegnjdeoaaDoor
