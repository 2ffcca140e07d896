/- hit numbers: their sums, and backward -/
import Derived.Test.YtellnklbkjajbaaDoorHp
namespace Go.Proofs.YtellnklbkjajbaaDoor
open Go.RowKit

theorem wrap_q (a : Int) : ∃ q, wrap64 a = a + 18446744073709551616 * q := ⟨(wrap64 a - a) / 18446744073709551616, by unfold wrap64; omega⟩
theorem wrap_shift (a q : Int) : wrap64 (a + 18446744073709551616 * q) = wrap64 a := by unfold wrap64; omega
theorem wrap_mul (a b : Int) : wrap64 (wrap64 a * b) = wrap64 (a * b) := by
  obtain ⟨q, hq⟩ := wrap_q a
  rw [hq, Int.add_mul, Int.mul_assoc, wrap_shift]

/-- The first m hit numbers, each with the ways to choose k. -/
def phi (v : List Int) (k : Nat) : Nat → Int
  | 0 => 0
  | m + 1 => phi v k m + v.getD m 0 * (chooseN m k : Nat)
/-- What the law's loop has summed. -/
def accH (v : List Int) (k : Nat) : Nat → Int
  | 0 => 0
  | m + 1 => wrap64 (accH v k m + wrap64 (v.getD m 0 * (chooseN m k : Nat)))
theorem accH_phi (v : List Int) (k : Nat) : ∀ m, accH v k m = wrap64 (phi v k m)
  | 0 => by rw [accH, phi]; exact (wrap_in (by decide) (by decide)).symm
  | m + 1 => by rw [accH, phi, accH_phi v k m, wrap_add, wrap_add']
theorem phi_set (v : List Int) (k h : Nat) (x : Int) (hh : h < v.length) : ∀ m, phi (v.set h x) k m = phi v k m + if h < m then (x - v.getD h 0) * (chooseN h k : Nat) else 0
  | 0 => by simp [phi]
  | m + 1 => by
    rw [phi, phi, phi_set v k h x hh m]
    by_cases e : h = m
    · subst e
      have : (v.set h x).getD h 0 = x := by simp [hh]
      rw [this, if_neg (Nat.lt_irrefl h), if_pos (Nat.lt_succ_self h), Int.sub_mul]
      omega
    · have : (v.set h x).getD m 0 = v.getD m 0 := by simp [e]
      rw [this]
      by_cases e2 : h < m
      · rw [if_pos e2, if_pos (by omega)]; omega
      · rw [if_neg e2, if_neg (by omega)]; omega
theorem phi_hit1 (bs : List Nat) (v : List Int) (p : List Nat) (k : Nat) (hv : v.length = bs.length + 1) :
    wrap64 (phi (hit1 bs v p) k (bs.length + 1)) = wrap64 (phi v k (bs.length + 1) + (chooseN (hitK bs p bs.length) k : Nat)) := by
  have hh := hitK_le bs p bs.length
  unfold hit1
  generalize hitK bs p bs.length = h at *
  rw [phi_set v k h _ (by omega), if_pos (by omega)]
  obtain ⟨q, hq⟩ := wrap_q (v.getD h 0 + 1)
  have : wrap64 (v.getD h 0 + 1) - v.getD h 0 = 1 + 18446744073709551616 * q := by omega
  rw [this, Int.add_mul, Int.one_mul, Int.mul_assoc, ← Int.add_assoc, wrap_shift]
theorem phi_fold (bs : List Nat) (k : Nat) : ∀ (ps : List (List Nat)) (v : List Int), v.length = bs.length + 1 →
    wrap64 (phi (ps.foldl (hit1 bs) v) k (bs.length + 1)) = wrap64 (phi v k (bs.length + 1) + (((ps.map fun p => chooseN (hitK bs p bs.length) k).sum : Nat) : Int))
  | [], v, _ => by simp
  | p :: ps, v, hv => by
    rw [List.foldl_cons, phi_fold bs k ps _ (by rw [hit1_length, hv]), ← wrap_add, phi_hit1 bs v p k hv, wrap_add, List.map_cons, List.sum_cons, Int.natCast_add, Int.add_assoc]
theorem phi_zero (k : Nat) (n : Nat) : ∀ m, phi (List.replicate n 0) k m = 0
  | 0 => rfl
  | m + 1 => by
    rw [phi, phi_zero k n m]
    have : (List.replicate n (0:Int)).getD m 0 = 0 := by
      by_cases h : m < n <;> simp [h]
    rw [this, Int.zero_mul]; rfl
theorem hits_sum {n : Nat} {bs : List Nat} (hb : Brd n bs) (k : Nat) : accH (hitsL bs) k (n + 1) = wrap64 ((cnt bs 0 k * fac (n - k) : Nat) : Int) := by
  have hl := hb.len
  have h := phi_fold bs k (allP bs.length) (List.replicate (bs.length + 1) 0) (by simp)
  rw [accH_phi]
  rw [phi_zero, Int.zero_add, hl, hits_rooks hb k] at h
  rw [← h]
  unfold hitsL
  rw [hl]
theorem hits_want {n : Nat} {bs : List Nat} (hb : Brd n bs) {k : Nat} (hk : k ≤ n) : accH (hitsL bs) k (n + 1) = wrap64 ((rookL bs).getD k 0 * (fac (n - k) : Nat)) := by
  rw [hits_sum hb k, rookL_get bs (by rw [hb.len]; exact hk), wrap_mul, Int.natCast_mul]

theorem hitK_other {n : Nat} {bs p : List Nat} (hl : bs.length = n) (hp : ∀ i, i < n → p.getD i 0 < n) : ∀ k, k ≤ n → hitK (otherL n bs) p k + hitK bs p k = k
  | 0, _ => rfl
  | k + 1, hk => by
    have ih := hitK_other hl hp k (by omega)
    rw [hitK, hitK, otherL_get (by omega), sub_bit, Nat.testBit_two_pow_sub_one, decide_eq_true (hp k (by omega))]
    cases (bs.getD k 0).testBit (p.getD k 0) <;> simp <;> omega
theorem set_rev (v : List Int) (n h : Nat) (x : Int) (hv : v.length = n + 1) (hh : h ≤ n) : v.reverse.set (n - h) x = (v.set h x).reverse := by
  refine List.ext_getElem (by simp) fun i h1 h2 => ?_
  simp only [List.length_set, List.length_reverse] at h1
  rw [List.getElem_set, List.getElem_reverse, List.getElem_reverse, List.getElem_set]
  simp only [List.length_set]
  by_cases e : n - h = i
  · rw [if_pos e, if_pos (by omega)]
  · rw [if_neg e, if_neg (by omega)]
theorem getD_rev (v : List Int) (n h : Nat) (hv : v.length = n + 1) (hh : h ≤ n) : v.reverse.getD (n - h) 0 = v.getD h 0 := by
  have h1 : n - h < v.reverse.length := by simp; omega
  have h2 : h < v.length := by omega
  simp only [List.getD_eq_getElem?_getD, List.getElem?_eq_getElem h1, List.getElem?_eq_getElem h2, Option.getD_some, List.getElem_reverse]
  congr 1
  omega
theorem fold_rev {n : Nat} {bs : List Nat} (hl : bs.length = n) : ∀ (ps : List (List Nat)) (v : List Int), v.length = n + 1 → (∀ p ∈ ps, ∀ i, i < n → p.getD i 0 < n) →
    ps.foldl (hit1 (otherL n bs)) v.reverse = (ps.foldl (hit1 bs) v).reverse
  | [], _, _, _ => rfl
  | p :: ps, v, hv, hp => by
    have h := hitK_other hl (hp p List.mem_cons_self) n (Nat.le_refl _)
    have e : hit1 (otherL n bs) v.reverse p = (hit1 bs v p).reverse := by
      unfold hit1
      rw [otherL_length, hl]
      generalize hitK (otherL n bs) p n = a at *
      obtain ⟨b, hb⟩ : ∃ b, hitK bs p n = b := ⟨_, rfl⟩
      rw [hb] at h ⊢
      obtain rfl : a = n - b := by omega
      rw [getD_rev v n b hv (by omega), set_rev v n b _ hv (by omega)]
    rw [List.foldl_cons, List.foldl_cons, e, fold_rev hl ps _ (by rw [hit1_length, hv]) fun p' h' => hp p' (List.mem_cons_of_mem _ h')]
theorem hits_other {n : Nat} {bs : List Nat} (hb : Brd n bs) : (hitsL (otherL n bs)).reverse = hitsL bs := by
  have hl := hb.len
  unfold hitsL
  rw [otherL_length, hl]
  have h := fold_rev hl (allP n) (List.replicate (n + 1) 0) (by simp) fun p hp i hi => by
    rw [allP_comps] at hp
    have h1 := comps_bit _ _ _ _ hp (p.getD i 0) (natD_mem (by rw [comps_length _ _ _ _ hp]; exact hi))
    rw [Nat.testBit_two_pow_sub_one] at h1
    exact of_decide_eq_true h1
  rw [List.reverse_replicate] at h
  rw [h, List.reverse_reverse]
end Go.Proofs.YtellnklbkjajbaaDoor
