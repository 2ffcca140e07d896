/- Rook numbers as counts; a square is taken away. -/
import Derived.Test.YtellnklbkjajbaaDoorWi
import Derived.Test.YtellnklbkjajbaaDoorRk
namespace Go.Proofs.YtellnklbkjajbaaDoor
open Go.RowKit

theorem wrap_add (a b : Int) : wrap64 (wrap64 a + b) = wrap64 (a + b) := by unfold wrap64; omega
theorem wrap_add' (a b : Int) : wrap64 (a + wrap64 b) = wrap64 (a + b) := by unfold wrap64; omega
theorem wrap_idem (a : Int) : wrap64 (wrap64 a) = wrap64 a := by unfold wrap64; omega
theorem wrap_I64 (a : Int) : I64 (wrap64 a) := by unfold I64 wrap64; omega
theorem I64_wrap {a : Int} (h : I64 a) : wrap64 a = a := wrap_in h.1 h.2

/-- In how many ways k rooks stand on the rows rs, on no column of tk. -/
def cnt : List Nat → Nat → Nat → Nat
  | [], _, k => if k = 0 then 1 else 0
  | _ :: rs, tk, 0 => cnt rs tk 0
  | r :: rs, tk, k + 1 => cnt rs tk (k + 1) + ((elems (sub r tk)).map fun j => cnt rs (tk ||| 2 ^ j) k).sum

def cntS (rs : List Nat) (tk k0 m : Nat) : Int := if k0 ≤ m then (cnt rs tk (m - k0) : Nat) else 0

theorem fold_mod (f : List Int → Nat → List Int) (c : Nat → Int) (m : Nat) (P : List Int → Prop) (hP : ∀ v j, P v → P (f v j)) (h : ∀ v j, P v → wrap64 ((f v j).getD m 0) = wrap64 (v.getD m 0 + c j)) :
    ∀ (js : List Nat) (v : List Int), P v → wrap64 ((js.foldl f v).getD m 0) = wrap64 (v.getD m 0 + (js.map c).sum)
  | [], v, _ => by simp
  | j :: js, v, hv => by
    rw [List.foldl_cons, fold_mod f c m P hP h js _ (hP v j hv), ← wrap_add, h v j hv, wrap_add, List.map_cons, List.sum_cons, Int.add_assoc]
theorem sum_cast (g : Nat → Nat) (js : List Nat) : ((js.map g).sum : Nat) = (js.map fun j => ((g j : Nat) : Int)).sum := by
  induction js with
  | nil => rfl
  | cons j js ih => simp only [List.map_cons, List.sum_cons, Int.natCast_add, ih]
theorem rk_mod : ∀ (rs : List Nat) (tk k0 m : Nat) (vs : List Int), k0 + rs.length < vs.length → m < vs.length →
    wrap64 ((rk rs tk k0 vs).getD m 0) = wrap64 (vs.getD m 0 + cntS rs tk k0 m)
  | [], tk, k0, m, vs, h, hm => by
    simp only [List.length_nil, Nat.add_zero] at h
    by_cases e : k0 = m
    · subst e
      simp [rk, cntS, cnt, h, wrap_idem]
    · have : (rk [] tk k0 vs).getD m 0 = vs.getD m 0 := by simp [rk, e]
      rw [this]
      have : cntS [] tk k0 m = 0 := by
        unfold cntS cnt
        split
        · rw [if_neg (by omega)]; rfl
        · rfl
      rw [this, Int.add_zero]
  | r :: rs, tk, k0, m, vs, h, hm => by
    rw [List.length_cons] at h
    have hP : ∀ (v : List Int) (j : Nat), v.length = vs.length → (rk rs (tk ||| 2 ^ j) (k0 + 1) v).length = vs.length := fun v j hv => by rw [rk_length]; exact hv
    rw [rk, fold_mod _ (fun j => cntS rs (tk ||| 2 ^ j) (k0 + 1) m) m (fun v => v.length = vs.length) hP (fun v j hv => rk_mod rs _ _ m v (by omega) (by omega)) _ _ (by rw [rk_length]),
      ← wrap_add, rk_mod rs tk k0 m vs (by omega) hm, wrap_add, Int.add_assoc]
    congr 2
    unfold cntS
    by_cases h1 : k0 + 1 ≤ m
    · rw [if_pos (by omega), if_pos (by omega)]
      obtain ⟨d, rfl⟩ : ∃ d, m = k0 + 1 + d := ⟨m - (k0 + 1), by omega⟩
      rw [show k0 + 1 + d - k0 = d + 1 by omega, cnt, Int.natCast_add, sum_cast]
      simp only [show k0 + 1 ≤ k0 + 1 + d from Nat.le_add_right _ _, if_true, show k0 + 1 + d - (k0 + 1) = d by omega]
    · have hz : ((elems (sub r tk)).map fun j => if k0 + 1 ≤ m then ((cnt rs (tk ||| 2 ^ j) (m - (k0 + 1)) : Nat) : Int) else 0).sum = 0 := by
        simp only [if_neg h1]
        induction (elems (sub r tk)) with
        | nil => rfl
        | cons j js ih => simp only [List.map_cons, List.sum_cons, ih]; rfl
      rw [hz, Int.add_zero]
      by_cases h0 : k0 ≤ m
      · obtain rfl : k0 = m := by omega
        rw [if_pos h0, if_pos h0, Nat.sub_self, cnt]
      · rw [if_neg h0, if_neg h0]
theorem rk_I64 : ∀ (rs : List Nat) (tk k0 : Nat) (vs : List Int), (∀ x ∈ vs, I64 x) → ∀ x ∈ rk rs tk k0 vs, I64 x
  | [], tk, k0, vs, h => fun x hx => by
    rcases List.mem_or_eq_of_mem_set hx with hx | rfl
    · exact h x hx
    · exact wrap_I64 _
  | r :: rs, tk, k0, vs, h => by
    have : ∀ (js : List Nat) (v : List Int), (∀ x ∈ v, I64 x) → ∀ x ∈ js.foldl (fun v j => rk rs (tk ||| 2 ^ j) (k0 + 1) v) v, I64 x := by
      intro js
      induction js with
      | nil => exact fun v hv => hv
      | cons j js ih => exact fun v hv => ih _ (rk_I64 rs _ _ v hv)
    exact this _ _ (rk_I64 rs tk k0 vs h)
theorem rookL_I64 (bs : List Nat) : ∀ x ∈ rookL bs, I64 x := rk_I64 _ _ _ _ fun x hx => by
  have := List.eq_of_mem_replicate hx
  subst this
  unfold I64; omega
theorem rookL_get (bs : List Nat) {m : Nat} (hm : m ≤ bs.length) : (rookL bs).getD m 0 = wrap64 (cnt bs 0 m : Nat) := by
  have hI : I64 ((rookL bs).getD m 0) := rookL_I64 bs _ (getD_mem (by rw [rookL_length]; omega))
  have := rk_mod bs 0 0 m (List.replicate (bs.length + 1) 0) (by simp) (by simp; omega)
  rw [← I64_wrap hI]
  unfold rookL
  rw [this]
  simp [cntS, show m < bs.length + 1 by omega]
end Go.Proofs.YtellnklbkjajbaaDoor
