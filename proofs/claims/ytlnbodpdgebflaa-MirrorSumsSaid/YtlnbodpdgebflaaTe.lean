/- the polynomials' tables by cases: both recursions' steps -/
import Derived.Test.YtlnbodpdgebflaaV1
import Derived.Test.YtlnbodpdgebflaaV2
namespace Go.Proofs.Ytlnbodpdgebflaa
open Go.RowKit
theorem decD_len : ∀ f n, (decD f n).length ≤ f
  | 0, _ => Nat.le_refl _
  | f + 1, n => by
    unfold decD
    split
    · exact Nat.zero_le _
    · simpa using decD_len f (n / 16)
theorem dR_len (g u x : Nat) : (dR g u x).length ≤ 13 := decD_len _ _
theorem dP_len (g u x : Nat) : (dP g u x).length ≤ 4 := decD_len _ _
section
variable {g u x : Nat} (hg : g < 17) (h3 : g ≠ 3) (hu : u < nE g) (hx : x < nE g)
include hg h3 hu hx
theorem dR_low : loB g u x = true ↔ dR g u x ≠ [] := by
  have h := (r_chk hg h3 hu hx).2
  unfold chkR2 at h
  rw [← lo_bit hg hu hx] at h
  simp only [Bool.and_eq_true, beq_iff_eq] at h
  rw [h.1]; simp
theorem dR_bd : Bnd 8 (dR g u x) := by
  have h := (r_chk hg h3 hu hx).2
  unfold chkR2 at h
  have h := (Bool.and_eq_true_iff.1 h).2
  intro c hc
  have := List.all_eq_true.1 h c hc
  simp only [Bool.and_eq_true, decide_eq_true_eq] at this
  omega
theorem dP_bd : Bnd 8 (dP g u x) := by
  have h := (p_chk hg h3 hu hx).2
  unfold chkP2 at h
  intro c hc
  have := List.all_eq_true.1 h c hc
  simp only [Bool.and_eq_true, decide_eq_true_eq] at this
  omega
theorem dR_one (e : u = x) : dR g u x = [1] := by
  have h := (r_chk hg h3 hu hx).1
  unfold chkR at h
  rw [if_pos e] at h
  exact beq_iff_eq.1 h
theorem dR_nil (e : u ≠ x) (hl : ln g x ≤ ln g u) : dR g u x = [] := by
  have h := (r_chk hg h3 hu hx).1
  unfold chkR at h
  rw [if_neg e, (fast hg hu).1, (fast hg hx).1, if_pos hl] at h
  exact beq_iff_eq.1 h
theorem dR_fall (e : u ≠ x) (hl : ln g u < ln g x) (hf : ln g (rt g u (lastL g x)) < ln g u) : dR g u x = dR g (rt g u (lastL g x)) (rt g x (lastL g x)) := by
  have h0 : x ≠ 0 := fun q => by rw [q, ln_zero hg] at hl; omega
  have h := (r_chk hg h3 hu hx).1
  have hl3 := (last_ok hg hx h0).2.1
  unfold chkR at h
  rw [if_neg e, (fast hg hu).1, (fast hg hx).1, if_neg (by omega), (fast hg hx).2.2.2 h0] at h
  simp only [(fast hg (tb hg hu hl3).2.1).1] at h
  rw [if_pos hf] at h
  exact beq_iff_eq.1 h
theorem dR_step (e : u ≠ x) (hl : ln g u < ln g x) (hf : ¬ ln g (rt g u (lastL g x)) < ln g u) :
    dR g u x = rStepM (dR g (rt g u (lastL g x)) (rt g x (lastL g x))) (dR g u (rt g x (lastL g x))) ∧ dR g u x = rStepR (dR g (rt g u (lastL g x)) (rt g x (lastL g x))) (dR g u (rt g x (lastL g x))) := by
  have h0 : x ≠ 0 := fun q => by rw [q, ln_zero hg] at hl; omega
  have h := (r_chk hg h3 hu hx).1
  have hl3 := (last_ok hg hx h0).2.1
  unfold chkR at h
  rw [if_neg e, (fast hg hu).1, (fast hg hx).1, if_neg (by omega), (fast hg hx).2.2.2 h0] at h
  simp only [(fast hg (tb hg hu hl3).2.1).1] at h
  rw [if_neg hf] at h
  simp only [Bool.and_eq_true, beq_iff_eq] at h
  exact h.1
theorem dP_one (e : u = x) : dP g u x = [1] := by
  have h := (p_chk hg h3 hu hx).1
  unfold chkPp at h
  rw [if_pos e] at h
  exact beq_iff_eq.1 h
theorem dP_nil (e : u ≠ x) (hl : loB g u x = false) : dP g u x = [] := by
  have h := (p_chk hg h3 hu hx).1
  unfold chkPp at h
  rw [if_neg e, ← lo_bit hg hu hx, hl, if_neg (by simp)] at h
  exact beq_iff_eq.1 h
theorem dP_step (e : u ≠ x) (hl : loB g u x = true) : (ln g x - ln g u + 1) / 2 ≤ (pSumM g u x).length ∧
    dP g u x = trL (((pSumM g u x).take ((ln g x - ln g u + 1) / 2)).map (fun c => -c)) ∧ dP g u x = addL [] (trL ((pSumR g u x).take (min ((ln g x - ln g u + 1) / 2) (pSumR g u x).length))) (-1) 0 := by
  have h := (p_chk hg h3 hu hx).1
  unfold chkPp at h
  rw [if_neg e, ← lo_bit hg hu hx, hl, if_pos rfl, (fast hg hu).1, (fast hg hx).1] at h
  simp only [Bool.and_eq_true, beq_iff_eq, decide_eq_true_eq] at h
  exact ⟨h.1.1, h.1.2, h.2⟩
end
theorem btw_eq {g u x : Nat} (hg : g < 17) (hu : u < nE g) (hx : x < nE g) : btw g u x = (List.range' (u + 1) (x - u)).filter fun y => loB g u y && loB g y x := by
  refine List.filter_congr fun y hy => ?_
  have := List.mem_range'_1.1 hy
  rw [lo_bit hg hu (by omega), lo_bit hg (by omega) hx]
/-- The sums as they grow: the elements to k. -/
def btwK (g u x k : Nat) : List Nat := (List.range' (u + 1) k).filter fun y => loB g u y && loB g y x
theorem btwK_succ (g u x k : Nat) : btwK g u x (k + 1) = if (loB g u (u + 1 + k) && loB g (u + 1 + k) x) = true then btwK g u x k ++ [u + 1 + k] else btwK g u x k := by
  unfold btwK
  rw [List.range'_1_concat, List.filter_append]
  by_cases h : (loB g u (u + 1 + k) && loB g (u + 1 + k) x) = true
  · rw [if_pos h]; simp only [List.filter_cons, List.filter_nil, h, if_true]
  · rw [if_neg h]; simp only [List.filter_cons, List.filter_nil, h]; simp
def sumMK (g u x k : Nat) : List Int := (btwK g u x k).foldl (fun a y => plusL a (tmsL (dR g u y) (dP g y x))) []
def sumRK (g u x k : Nat) : List Int := (btwK g u x k).foldl (fun a y => inR (dP g y x) (dR g u y) 0 a) []
theorem sumMK_yes {g u x k : Nat} (h : (loB g u (u + 1 + k) && loB g (u + 1 + k) x) = true) : sumMK g u x (k + 1) = plusL (sumMK g u x k) (tmsL (dR g u (u + 1 + k)) (dP g (u + 1 + k) x)) := by
  unfold sumMK; rw [btwK_succ, if_pos h]; simp
theorem sumMK_no {g u x k : Nat} (h : ¬ (loB g u (u + 1 + k) && loB g (u + 1 + k) x) = true) : sumMK g u x (k + 1) = sumMK g u x k := by
  unfold sumMK; rw [btwK_succ, if_neg h]
theorem sumRK_yes {g u x k : Nat} (h : (loB g u (u + 1 + k) && loB g (u + 1 + k) x) = true) : sumRK g u x (k + 1) = inR (dP g (u + 1 + k) x) (dR g u (u + 1 + k)) 0 (sumRK g u x k) := by
  unfold sumRK; rw [btwK_succ, if_pos h]; simp
theorem sumRK_no {g u x k : Nat} (h : ¬ (loB g u (u + 1 + k) && loB g (u + 1 + k) x) = true) : sumRK g u x (k + 1) = sumRK g u x k := by
  unfold sumRK; rw [btwK_succ, if_neg h]
theorem sumM_end {g u x : Nat} (hg : g < 17) (hu : u < nE g) (hx : x < nE g) : sumMK g u x (x - u) = pSumM g u x := by unfold sumMK btwK pSumM; rw [btw_eq hg hu hx]
theorem sumR_end {g u x : Nat} (hg : g < 17) (hu : u < nE g) (hx : x < nE g) : sumRK g u x (x - u) = pSumR g u x := by unfold sumRK btwK pSumR; rw [btw_eq hg hu hx]
/-- Lengths and sizes as they grow. -/
theorem tms_len {f h : List Int} {a b : Nat} (hf : f.length ≤ a) (hh : h.length ≤ b) : (tmsL f h).length ≤ a + b := by
  unfold tmsL
  split
  · simp
  · rename_i q
    rw [muL_len f h (fun e => q (.inl (by rw [e]; rfl))) (fun e => q (.inr (by rw [e]; rfl)))]; omega
theorem Bnd.mono {M K : Nat} {l : List Int} (h : Bnd M l) (hk : M ≤ K) : Bnd K l := fun c hc => by have := h c hc; omega
theorem shfL_bd {M : Nat} {l : List Int} (n : Nat) (h : Bnd M l) : Bnd M (shfL n l) := by
  induction n with
  | zero => exact h
  | succ n ih => intro c hc; rcases List.mem_cons.1 hc with e | e; · subst e; omega
                 exact ih c e
theorem map_bd {T K : Nat} {t : Int} {q : List Int} (ht : -(T : Int) ≤ t ∧ t ≤ T) (h : Bnd K q) : Bnd (T * K) (q.map (t * ·)) := by
  intro c hc
  obtain ⟨y, hy, rfl⟩ := List.mem_map.1 hc
  exact mul_bd' ht (h y hy)
theorem addL_len {p q : List Int} {t : Int} {s n : Nat} (hp : p.length ≤ n) (hq : s + q.length ≤ n) : (addL p q t s).length ≤ n := by
  refine Nat.le_trans (trL_le _) ?_
  rw [adL_len, shfL_len, List.length_map]; omega
theorem addL_bd {M K T : Nat} {p q : List Int} {t : Int} (s : Nat) (hp : Bnd M p) (hq : Bnd K q) (ht : -(T : Int) ≤ t ∧ t ≤ T) : Bnd (M + T * K) (addL p q t s) := (hp.add (shfL_bd s (map_bd ht hq))).trim
theorem inR_snoc (p : List Int) (c : Int) : ∀ (r : List Int) (k : Nat) (a : List Int), inR p (r ++ [c]) k a = addL (inR p r k a) p c (k + r.length)
  | [], k, a => rfl
  | d :: r, k, a => by
    have := inR_snoc p c r (k + 1) (addL a p d k)
    simp only [List.cons_append, inR, List.length_cons]
    rw [this, show k + 1 + r.length = k + (r.length + 1) by omega]
theorem inR_ok {p : List Int} (hp : p.length ≤ 4) (bp : Bnd 8 p) : ∀ (r : List Int) (k M : Nat) (a : List Int), k + r.length ≤ 13 → Bnd 8 r → a.length ≤ 17 → Bnd M a → (inR p r k a).length ≤ 17 ∧ Bnd (M + r.length * 64) (inR p r k a)
  | [], k, M, a, _, _, h1, h2 => ⟨h1, h2.mono (by simp)⟩
  | d :: r, k, M, a, hk, br, h1, h2 => by
    simp only [List.length_cons] at hk
    have := inR_ok hp bp r (k + 1) (M + 8 * 8) (addL a p d k) (by omega) (fun c hc => br c (by simp [hc])) (addL_len h1 (by omega)) (addL_bd k h2 bp (br d (by simp)))
    refine ⟨this.1, this.2.mono ?_⟩
    simp only [List.length_cons]; omega
theorem tms_bd {M K : Nat} {f h : List Int} (hf : Bnd M f) (hh : Bnd K h) : Bnd (f.length * (M * K)) (tmsL f h) := by
  unfold tmsL
  split
  · intro c hc; simp at hc
  · exact Bnd.mul hh hf
theorem sumM_ok {g u x : Nat} (hg : g < 17) (h3 : g ≠ 3) (hu : u < nE g) (hx : x < nE g) : ∀ k, k ≤ x - u → (sumMK g u x k).length ≤ 17 ∧ Bnd (k * 832) (sumMK g u x k)
  | 0, _ => ⟨Nat.zero_le _, fun c hc => by simp [sumMK, btwK] at hc⟩
  | k + 1, hk => by
    have ih := sumM_ok hg h3 hu hx k (by omega)
    by_cases h : (loB g u (u + 1 + k) && loB g (u + 1 + k) x) = true
    · rw [sumMK_yes h]
      have hy : u + 1 + k < nE g := by omega
      have b := tms_bd (dR_bd hg h3 hu hy) (dP_bd hg h3 hy hx)
      have l := tms_len (dR_len g u (u + 1 + k)) (dP_len g (u + 1 + k) x)
      refine ⟨Nat.le_trans (trL_le _) ?_, ((ih.2.add b).trim).mono ?_⟩
      · rw [adL_len]; omega
      · have := dR_len g u (u + 1 + k)
        have : (dR g u (u + 1 + k)).length * (8 * 8) ≤ 13 * 64 := Nat.mul_le_mul_right _ this
        omega
    · rw [sumMK_no h]
      exact ⟨ih.1, ih.2.mono (by omega)⟩
theorem sumR_ok {g u x : Nat} (hg : g < 17) (h3 : g ≠ 3) (hu : u < nE g) (hx : x < nE g) : ∀ k, k ≤ x - u → (sumRK g u x k).length ≤ 17 ∧ Bnd (k * 832) (sumRK g u x k)
  | 0, _ => ⟨Nat.zero_le _, fun c hc => by simp [sumRK, btwK] at hc⟩
  | k + 1, hk => by
    have ih := sumR_ok hg h3 hu hx k (by omega)
    by_cases h : (loB g u (u + 1 + k) && loB g (u + 1 + k) x) = true
    · rw [sumRK_yes h]
      have hy : u + 1 + k < nE g := by omega
      have b := inR_ok (dP_len g (u + 1 + k) x) (dP_bd hg h3 hy hx) _ 0 _ _ (by rw [Nat.zero_add]; exact dR_len g u (u + 1 + k)) (dR_bd hg h3 hu hy) ih.1 ih.2
      refine ⟨b.1, b.2.mono ?_⟩
      have := dR_len g u (u + 1 + k)
      have : (dR g u (u + 1 + k)).length * 64 ≤ 13 * 64 := Nat.mul_le_mul_right _ this
      omega
    · rw [sumRK_no h]
      exact ⟨ih.1, ih.2.mono (by omega)⟩
theorem lo_trans {g u y x : Nat} (hg : g < 17) (hu : u < nE g) (hy : y < nE g) (hx : x < nE g) (h1 : loB g u y = true) (h2 : loB g y x = true) : loB g u x = true :=
  ((ord_two hg hy hx).2.2 h2).1 u hu h1
theorem nE_chk : ((List.range 17).all fun g => g == 3 || decide (nE g ≤ 48)) = true := by decide +kernel
theorem nE_le {g : Nat} (hg : g < 17) (h3 : g ≠ 3) : nE g ≤ 48 := by
  have h := List.all_eq_true.1 nE_chk g (List.mem_range.2 hg)
  simp only [Bool.or_eq_true, beq_iff_eq, decide_eq_true_eq] at h
  exact h.resolve_left h3
theorem ints_lit (l : List Int) (w : World) (hl : l.length ≤ 1000) (hb : ∀ x ∈ l, I64 x) : Ints (w.alloc (.cells (ints l).toArray 3)) (.slice (some ⟨w.heap.size, 0, none⟩) l.length l.length) l := by
  have h := World.ownsRow_lit (base := w.heap.size) (e := 3) (size := 1) w (ints l).toArray l.length (Nat.le_refl _) (by unfold maxLen; omega) (by simp [ints])
  exact Ints.of_owns (by simpa using h) (by omega) hb
theorem ints_none (w : World) : Ints w (.slice none 0 0) [] := ⟨⟨none, 0, rfl, Nat.le_refl _, by simp [ints], by simp, .inl rfl⟩, by simp⟩
theorem ints_one (w : World) : Ints (w.alloc (.cells #[.int .i64 1] 3)) (.slice (some ⟨w.heap.size, 0, none⟩) 1 1) [1] := ints_lit [1] w (by simp) (by intro x hx; simp at hx; subst hx; unfold I64; omega)
end Go.Proofs.Ytlnbodpdgebflaa
