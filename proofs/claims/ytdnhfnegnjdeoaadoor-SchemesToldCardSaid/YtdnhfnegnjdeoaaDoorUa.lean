/- What a strongly regular graph's numbers must satisfy: counted, without eigenvalues -/
import Derived.Test.YtdnhfnegnjdeoaaDoorDo
namespace Go.Proofs.YtdnhfnegnjdeoaaDoor
open Go.RowKit

theorem sm_mul (c : Int) (f : Nat → Int) : ∀ n, sm (fun i => c * f i) n = c * sm f n
  | 0 => by simp [sm]
  | n + 1 => by rw [sm, sm, sm_mul c f n, Int.mul_add]
theorem sm_swap (f : Nat → Nat → Int) (m : Nat) : ∀ n, sm (fun i => sm (fun j => f i j) m) n = sm (fun j => sm (fun i => f i j) n) m
  | 0 => (sm_zero m).symm
  | n + 1 => by rw [sm, sm_swap f m n, ← sm_add]; rfl
theorem sm_le {f g : Nat → Int} : ∀ (n : Nat), (∀ i, i < n → f i ≤ g i) → sm f n ≤ sm g n
  | 0, _ => Int.le_refl _
  | n + 1, h => by
    have h1 := sm_le n fun i hi => h i (by omega)
    have h2 := h n (by omega)
    rw [sm, sm]; omega
theorem sm_eq {f g : Nat → Int} : ∀ (n : Nat), (∀ i, i < n → f i ≤ g i) → sm f n = sm g n → ∀ i, i < n → f i = g i
  | 0, _, _, i, hi => by omega
  | n + 1, h, e, i, hi => by
    have h1 := sm_le n fun i hi => h i (by omega)
    have h2 := h n (by omega)
    rw [sm, sm] at e
    by_cases e2 : i = n
    · subst e2; omega
    · exact sm_eq n (fun i hi => h i (by omega)) (by omega) i (by omega)
def dl (v z : Nat) : Int := if z = v then 1 else 0
theorem sm_pick (f : Nat → Int) (v : Nat) : ∀ n, v < n → sm (fun z => if z = v then f z else 0) n = f v
  | 0, h => by omega
  | n + 1, h => by
    rw [sm]
    by_cases e : v = n
    · subst e
      rw [sm_congr (g := fun _ => 0) v fun i hi => if_neg (by omega), sm_zero, if_pos rfl]; omega
    · rw [sm_pick f v n (by omega), if_neg (by omega)]; omega
theorem sm_dl {v n : Nat} (h : v < n) : sm (dl v) n = 1 := sm_pick (fun _ => 1) v n h
theorem sm_pos {f : Nat → Int} : ∀ (n : Nat), 0 < sm f n → ∃ i, i < n ∧ 0 < f i
  | 0, h => by simp [sm] at h
  | n + 1, h => by
    rw [sm] at h
    by_cases e : 0 < f n
    · exact ⟨n, by omega, e⟩
    · obtain ⟨i, hi, hp⟩ := sm_pos (f := f) n (by omega)
      exact ⟨i, by omega, hp⟩
theorem bi_and (a b : Bool) : bi (a && b) = bi a * bi b := by cases a <;> cases b <;> rfl
theorem bi_01 (a : Bool) : 0 ≤ bi a ∧ bi a ≤ 1 := by cases a <;> decide
theorem bi_one {a : Bool} (h : 0 < bi a) : a = true := by cases a <;> first | rfl | (exact absurd h (by decide))
/-- Over all threes in all orders: six times. -/
theorem all_sum (f : Nat → Nat → Nat → Int) (hs : ∀ i j k, f i j k = f i k j) (ht : ∀ i j k, f i j k = f j i k) (h0 : ∀ i k, f i i k = 0) : ∀ m,
    sm (fun i => sm (fun j => sm (fun k => f i j k) m) m) m = 6 * P3 f m
  | 0 => rfl
  | m + 1 => by
    have h1 : ∀ i k, f i k k = 0 := fun i k => by rw [ht, hs, h0]
    have h2 : ∀ i k, f i k i = 0 := fun i k => by rw [hs, h0]
    have hb : sm (fun j => sm (fun k => f m j k) m) m = 2 * P2 (f m) m := both_sum (f m) (hs m) (fun i => h1 m i) m
    have e1 : ∀ i, sm (fun j => sm (fun k => f i j k) (m + 1)) (m + 1) = sm (fun j => sm (fun k => f i j k) m) m + sm (fun j => f i j m) m + (sm (fun k => f i m k) m + f i m m) := fun i => by
      rw [sm]
      have : sm (fun j => sm (fun k => f i j k) (m + 1)) m = sm (fun j => sm (fun k => f i j k) m + f i j m) m := sm_congr m fun j _ => rfl
      rw [this, sm_add]; rfl
    have e2 : sm (fun i => sm (fun j => sm (fun k => f i j k) (m + 1)) (m + 1)) (m + 1) = sm (fun i => (sm (fun j => sm (fun k => f i j k) m) m + sm (fun j => f i j m) m) + (sm (fun k => f i m k) m + f i m m)) (m + 1) := sm_congr _ fun i _ => e1 i
    rw [e2, sm, sm_add, sm_add, sm_add, all_sum f hs ht h0 m, P3_succ]
    have e3 : sm (fun i => sm (fun j => f i j m) m) m = 2 * P2 (f m) m := by
      rw [← hb]
      exact sm_congr m fun i _ => sm_congr m fun j _ => by rw [hs i j m, ht i m j]
    have e4 : sm (fun i => sm (fun k => f i m k) m) m = 2 * P2 (f m) m := by
      rw [← hb]
      exact sm_congr m fun i _ => sm_congr m fun j _ => ht i m j
    have e5 : sm (fun i => f i m m) m = 0 := by rw [sm_congr (g := fun _ => 0) m fun i _ => h1 i m, sm_zero]
    have e6 : sm (fun j => f m j m) m = 0 := by rw [sm_congr (g := fun _ => 0) m fun j _ => h2 m j, sm_zero]
    have e7 : sm (fun k => f m m k) m = 0 := by rw [sm_congr (g := fun _ => 0) m fun k _ => h0 m k, sm_zero]
    rw [e3, e4, e5, e6, e7, hb, h0]
    omega

section
variable {n : Nat} {bs : List Nat} {K L M : Nat}
theorem srg_deg (h : Gr n bs) (hs : Srg n bs K L M) {i : Nat} (hi : i < n) : sm (fun z => bi (adj bs i z)) n = K := by rw [← deg_sm h, hs.deg i hi]
theorem srg_com (h : Gr n bs) (hs : Srg n bs K L M) {i j : Nat} (hi : i < n) (hj : j < n) (hij : i ≠ j) : sm (fun z => bi (adj bs i z && adj bs j z)) n = if adj bs i j then (L:Int) else M := by
  rw [← com_sm h, hs.com i j hi hj hij]
  split <;> rfl
/-- Paths of two edges. -/
theorem srg_paths (h : Gr n bs) (hs : Srg n bs K L M) : (K:Int) * (K - L - 1) = ((n:Int) - K - 1) * M := by
  have hp := h.pos
  have e1 : sm (fun z => sm (fun y => bi (adj bs 0 y) * bi (adj bs z y)) n) n = K * K := by
    rw [sm_swap]
    rw [sm_congr (g := fun y => (K:Int) * bi (adj bs 0 y)) n fun y hy => by
      rw [sm_mul, sm_congr (f := fun i => bi (adj bs i y)) (g := fun i => bi (adj bs y i)) n fun i _ => by rw [adj_sym h], srg_deg h hs hy, Int.mul_comm]]
    rw [sm_mul, srg_deg h hs hp]
  have e2 : sm (fun z => sm (fun y => bi (adj bs 0 y) * bi (adj bs z y)) n) n = sm (fun z => (((K:Int) - M) * dl 0 z + ((L:Int) - M) * bi (adj bs 0 z)) + (M:Int) * 1) n := by
    refine sm_congr n fun z hz => ?_
    have e3 : sm (fun y => bi (adj bs 0 y) * bi (adj bs z y)) n = sm (fun y => bi (adj bs 0 y && adj bs z y)) n := sm_congr n fun y _ => (bi_and _ _).symm
    rw [e3]
    unfold dl
    by_cases e : z = 0
    · subst e
      rw [if_pos rfl, adj_irr h, sm_congr (g := fun y => bi (adj bs 0 y)) n fun y _ => by rw [Bool.and_self], srg_deg h hs hp]
      simp [bi]
    · rw [if_neg e, srg_com h hs hp hz (by omega)]
      cases adj bs 0 z <;> simp [bi] <;> omega
  rw [e2, sm_add, sm_add, sm_mul, sm_mul, sm_mul, sm_dl hp, srg_deg h hs hp, sm_one] at e1
  grind
theorem srg_even (h : Gr n bs) (hs : Srg n bs K L M) : (n:Int) * K % 2 = 0 := by
  have e := both_sum (fun i z => bi (adj bs i z)) (fun i j => by show bi _ = bi _; rw [adj_sym h]) (fun i => by show bi _ = 0; rw [adj_irr h]; rfl) n
  rw [sm_congr (g := fun _ => (K:Int) * 1) n fun i hi => by rw [srg_deg h hs hi, Int.mul_one], sm_mul, sm_one, Int.mul_comm] at e
  omega
def tri (bs : List Nat) (i j k : Nat) : Int := bi (adj bs i j && adj bs i k && adj bs j k)
theorem tri_row (h : Gr n bs) (hs : Srg n bs K L M) {x y : Nat} (hx : x < n) (hy : y < n) : sm (fun z => tri bs x y z) n = (L:Int) * bi (adj bs x y) := by
  cases ht : adj bs x y with
  | false => rw [sm_congr (g := fun _ => 0) n fun z _ => by unfold tri; rw [ht]; rfl, sm_zero]; simp [bi]
  | true =>
    have hne : x ≠ y := fun e => by subst e; rw [adj_irr h] at ht; cases ht
    rw [sm_congr (g := fun z => bi (adj bs x z && adj bs y z)) n fun z _ => by unfold tri; rw [ht, Bool.true_and], srg_com h hs hx hy hne, ht]
    simp [bi]
theorem tri_all (h : Gr n bs) (hs : Srg n bs K L M) {x : Nat} (hx : x < n) : sm (fun y => sm (fun z => tri bs x y z) n) n = (L:Int) * K := by
  rw [sm_congr (g := fun y => (L:Int) * bi (adj bs x y)) n fun y hy => tri_row h hs hx hy, sm_mul, srg_deg h hs hx]
theorem tri_s (h : Gr n bs) (i j k : Nat) : tri bs i j k = tri bs i k j := by
  unfold tri
  rw [adj_sym h k j]
  cases adj bs i j <;> cases adj bs i k <;> cases adj bs j k <;> rfl
theorem tri_t (h : Gr n bs) (i j k : Nat) : tri bs i j k = tri bs j i k := by
  unfold tri
  rw [adj_sym h j i]
  cases adj bs i j <;> cases adj bs i k <;> cases adj bs j k <;> rfl
theorem tri_0 (h : Gr n bs) (i k : Nat) : tri bs i i k = 0 := by unfold tri; rw [adj_irr h]; rfl
theorem srg_tri (h : Gr n bs) (hs : Srg n bs K L M) : (K:Int) * L % 2 = 0 ∧ (n:Int) * K * L % 6 = 0 := by
  constructor
  · have e := both_sum (fun y z => tri bs 0 y z) (fun i j => tri_s h 0 i j) (fun i => by show tri bs 0 i i = 0; rw [tri_t h, tri_s h, tri_0 h]) n
    rw [tri_all h hs h.pos, Int.mul_comm] at e
    omega
  · have e := all_sum (tri bs) (tri_s h) (tri_t h) (tri_0 h) n
    rw [sm_congr (g := fun _ => (L:Int) * K * 1) n fun i hi => by rw [tri_all h hs hi, Int.mul_one], sm_mul, sm_one] at e
    have : (n:Int) * K * L = L * K * n := by grind
    rw [this]
    omega
/-- Two neighbours of a node that are none of each other. -/
theorem srg_wide (h : Gr n bs) (hs : Srg n bs K L M) (h1 : 1 ≤ K) (hL : L + 1 < K) : 2 * (L:Int) - K + 3 ≤ M := by
  have hp := h.pos
  obtain ⟨y, hy, hay⟩ := sm_pos n (show 0 < sm (fun z => bi (adj bs 0 z)) n by rw [srg_deg h hs hp]; omega)
  have hay := bi_one hay
  have hy0 : 0 ≠ y := fun e => by rw [← e, adj_irr h] at hay; cases hay
  have hLy := srg_com h hs hp hy hy0
  rw [hay, if_pos rfl] at hLy
  obtain ⟨z, hz, haz⟩ := sm_pos n (show 0 < sm (fun z => (bi (adj bs 0 z) - bi (adj bs 0 z && adj bs y z)) - dl y z) n by
    rw [sm_sub, sm_sub, srg_deg h hs hp, hLy, sm_dl hy]; omega)
  have hz3 : adj bs 0 z = true ∧ adj bs y z = false ∧ z ≠ y := by
    unfold dl at haz
    by_cases e : z = y
    · subst e
      rw [if_pos rfl, hay, adj_irr h] at haz
      exact absurd haz (by decide)
    · rw [if_neg e] at haz
      cases a1 : adj bs 0 z <;> cases a2 : adj bs y z <;> rw [a1, a2] at haz <;> first | exact ⟨rfl, rfl, e⟩ | exact absurd haz (by decide)
  obtain ⟨h0z, hyz, hne⟩ := hz3
  have hz0 : 0 ≠ z := fun e => by rw [← e, adj_irr h] at h0z; cases h0z
  have hLz := srg_com h hs hp hz hz0
  rw [h0z, if_pos rfl] at hLz
  have hM := srg_com h hs hy hz (fun e => hne e.symm)
  rw [hyz, if_neg (by decide)] at hM
  have hle : sm (fun w => ((bi (adj bs 0 w && adj bs y w) + bi (adj bs 0 w && adj bs z w)) - bi (adj bs 0 w)) + ((dl y w + dl z w) + dl 0 w)) n ≤ sm (fun w => bi (adj bs y w && adj bs z w)) n := by
    refine sm_le n fun w _ => ?_
    unfold dl
    by_cases e1 : w = y
    · subst e1
      rw [if_pos rfl, if_neg (fun e => hne e.symm), if_neg (fun e => hy0 e.symm), hay, adj_irr h, adj_sym h z w, hyz]
      decide
    · by_cases e2 : w = z
      · subst e2
        rw [if_neg e1, if_pos rfl, if_neg (fun e => hz0 e.symm), h0z, adj_irr h w, hyz]
        decide
      · by_cases e3 : w = 0
        · subst e3
          rw [if_neg e1, if_neg e2, if_pos rfl, adj_irr h 0, adj_sym h y 0, adj_sym h z 0, hay, h0z]
          decide
        · rw [if_neg e1, if_neg e2, if_neg e3]
          cases adj bs 0 w <;> cases adj bs y w <;> cases adj bs z w <;> decide
  rw [hM, sm_add, sm_sub, sm_add, sm_add, sm_add, hLy, hLz, srg_deg h hs hp, sm_dl hy, sm_dl hz, sm_dl hp] at hle
  omega
end
end Go.Proofs.YtdnhfnegnjdeoaaDoor
