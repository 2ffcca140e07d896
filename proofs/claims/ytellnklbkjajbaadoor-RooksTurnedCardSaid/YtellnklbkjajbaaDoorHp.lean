/- hits of permutations: Hits' numbers in the mathematics -/
import Derived.Test.YtellnklbkjajbaaDoorHm
namespace Go.Proofs.YtellnklbkjajbaaDoor
open Go.RowKit

theorem elem8_elems : ∀ s < 64, elem8 s = elems s := by decide +kernel

/-- What completes a permutation of which the columns tk are taken. -/
def comps (full : Nat) : Nat → Nat → List (List Nat)
  | 0, _ => [[]]
  | m + 1, tk => (elem8 (sub full tk)).flatMap fun j => (comps full m (tk ||| 2 ^ j)).map fun p => j :: p
theorem permsF_comps (full : Nat) : ∀ (m tk : Nat) (q : List Nat), permsF (List.replicate m full) tk q = (comps full m tk).map fun p => q ++ p
  | 0, _, q => by simp [permsF, comps]
  | m + 1, tk, q => by
    rw [List.replicate_succ, permsF, comps, List.map_flatMap]
    congr 1
    funext j
    rw [permsF_comps full m, List.map_map]
    refine List.map_congr_left fun p _ => ?_
    simp
theorem other_zero (n : Nat) : otherL n (List.replicate n 0) = List.replicate n (2 ^ n - 1) := by
  unfold otherL
  rw [List.map_replicate]
  congr 1
  refine Nat.eq_of_testBit_eq fun j => ?_
  rw [sub_bit]; simp
theorem allP_comps (n : Nat) : allP n = comps (2 ^ n - 1) n 0 := by
  unfold allP
  rw [other_zero, permsF_comps]
  simp

/-- The hits of what is left of a permutation. -/
def sufH : List Nat → List Nat → Nat
  | r :: rs, j :: js => (if r.testBit j then 1 else 0) + sufH rs js
  | _, _ => 0
theorem hitK_cons (r j : Nat) (rs js : List Nat) (k : Nat) : hitK (r :: rs) (j :: js) (k + 1) = (if r.testBit j then 1 else 0) + hitK rs js k := by
  induction k with
  | zero => simp [hitK]
  | succ k ih => rw [hitK, ih, hitK]; simp only [List.getD_cons_succ]; omega
theorem hitK_suf : ∀ (rs js : List Nat), rs.length = js.length → hitK rs js rs.length = sufH rs js
  | [], [], _ => rfl
  | r :: rs, j :: js, h => by
    rw [List.length_cons, hitK_cons, sufH, hitK_suf rs js (by simpa using h)]
  | [], _ :: _, h => by simp at h
  | _ :: _, [], h => by simp at h
theorem comps_length (full : Nat) : ∀ (m tk : Nat) (p : List Nat), p ∈ comps full m tk → p.length = m
  | 0, _, p, h => by simp [comps] at h; subst h; rfl
  | m + 1, tk, p, h => by
    rw [comps, List.mem_flatMap] at h
    obtain ⟨j, _, h⟩ := h
    obtain ⟨p', h', rfl⟩ := List.mem_map.1 h
    rw [List.length_cons, comps_length full m _ p' h']
theorem comps_bit (full : Nat) : ∀ (m tk : Nat) (p : List Nat), p ∈ comps full m tk → ∀ j ∈ p, full.testBit j = true
  | 0, _, p, h => by simp [comps] at h; subst h; simp
  | m + 1, tk, p, h => by
    rw [comps, List.mem_flatMap] at h
    obtain ⟨j, hj, h⟩ := h
    obtain ⟨p', h', rfl⟩ := List.mem_map.1 h
    intro i hi
    rcases List.mem_cons.1 hi with rfl | hi
    · have := (elem8_mem hj).2
      rw [sub_bit] at this
      simp only [Bool.and_eq_true] at this
      exact this.1
    · exact comps_bit full m _ p' h' i hi

theorem sum_flat (f : List Nat → Nat) (g : Nat → List (List Nat)) (l : List Nat) : ((l.flatMap g).map f).sum = (l.map fun j => ((g j).map f).sum).sum := by
  induction l with
  | nil => rfl
  | cons a l ih => rw [List.flatMap_cons, List.map_append, List.sum_append, ih]; rfl
theorem sum_plus (f g : List Nat → Nat) (l : List (List Nat)) : (l.map fun p => f p + g p).sum = (l.map f).sum + (l.map g).sum := by
  induction l with
  | nil => rfl
  | cons a l ih => simp only [List.map_cons, List.sum_cons, ih]; omega

theorem wsum_comps (full : Nat) (hf : full < 64) : ∀ (rs : List Nat) (tk k : Nat), ((comps full rs.length tk).map fun p => chooseN (sufH rs p) k).sum = wsum full rs tk k
  | [], tk, k => by simp [comps, sufH, wsum]
  | r :: rs, tk, 0 => by
    rw [List.length_cons, comps, sum_flat, wsum, elem8_elems _ (sub_le full tk 6 hf)]
    congr 1
    refine List.map_congr_left fun j _ => ?_
    rw [← wsum_comps full hf rs, List.map_map]
    congr 1
    refine List.map_congr_left fun p _ => ?_
    simp only [Function.comp_apply]
    cases sufH (r :: rs) (j :: p) <;> cases sufH rs p <;> rfl
  | r :: rs, tk, k + 1 => by
    rw [List.length_cons, comps, sum_flat, wsum, elem8_elems _ (sub_le full tk 6 hf)]
    congr 1
    refine List.map_congr_left fun j _ => ?_
    rw [← wsum_comps full hf rs, ← wsum_comps full hf rs, List.map_map]
    cases hb : r.testBit j with
    | false =>
      simp only [Bool.false_eq_true, if_false, Nat.add_zero]
      congr 1
      refine List.map_congr_left fun p _ => ?_
      simp [sufH, hb]
    | true =>
      simp only [if_true]
      rw [← sum_plus]
      congr 1
      refine List.map_congr_left fun p _ => ?_
      simp only [Function.comp_apply, sufH, hb, if_true, Nat.add_comm 1]
      rfl

theorem fl_full : ∀ n ≤ 6, fl (2 ^ n - 1) = n := by decide
theorem hits_rooks {n : Nat} {bs : List Nat} (hb : Brd n bs) (k : Nat) : ((allP n).map fun p => chooseN (hitK bs p n) k).sum = cnt bs 0 k * fac (n - k) := by
  have hl := hb.len
  have h6 := pw6 n hb.le
  have h := wsum_comps (2 ^ n - 1) (by omega) bs 0 k
  rw [hl, ← allP_comps, wsum_cnt (2 ^ n - 1) bs 0 k (fun r hr j hj => by
    have h1 := hb.lt r hr
    rw [Nat.testBit_two_pow_sub_one]
    refine decide_eq_true (Decidable.byContradiction fun hn => ?_)
    have := Nat.testBit_lt_two_pow (x := r) (i := j) (Nat.lt_of_lt_of_le h1 (Nat.pow_le_pow_right (by decide) (by omega)))
    rw [this] at hj; cases hj) (by
    have : sub (2 ^ n - 1) 0 = 2 ^ n - 1 := Nat.eq_of_testBit_eq fun j => by rw [sub_bit]; simp
    rw [this, fl_full n hb.le, hl]), hl] at h
  rw [← h]
  congr 1
  refine List.map_congr_left fun p hp => ?_
  rw [allP_comps] at hp
  rw [← hitK_suf bs p (by rw [hl, comps_length _ _ _ _ hp]), hl]
end Go.Proofs.YtellnklbkjajbaaDoor
