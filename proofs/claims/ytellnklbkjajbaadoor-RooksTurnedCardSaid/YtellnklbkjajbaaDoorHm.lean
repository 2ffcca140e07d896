/- hits and rooks: the mathematics -/
import Derived.Test.YtellnklbkjajbaaDoorHt
import Derived.Test.YtellnklbkjajbaaDoorMd
namespace Go.Proofs.YtellnklbkjajbaaDoor
open Go.RowKit

def S6 (f : Nat → Nat) : Nat := f 0 + (f 1 + (f 2 + (f 3 + (f 4 + f 5))))
theorem sumS (s : Nat) (f : Nat → Nat) : ((elems s).map f).sum = S6 fun j => if s.testBit j then f j else 0 := sum6 s f
theorem S6_swap (g : Nat → Nat → Nat) : (S6 fun i => S6 fun j => g i j) = S6 fun j => S6 fun i => g i j := by
  unfold S6; dsimp only; omega
theorem S6_add (f g : Nat → Nat) : (S6 fun i => f i + g i) = S6 f + S6 g := by unfold S6; dsimp only; omega
theorem S6_mul (c : Nat) (f : Nat → Nat) : (S6 fun i => c * f i) = c * S6 f := by unfold S6; simp only [Nat.mul_add]
theorem S6_congr {f g : Nat → Nat} (h : ∀ i, i < 6 → f i = g i) : S6 f = S6 g := by
  unfold S6; rw [h 0 (by decide), h 1 (by decide), h 2 (by decide), h 3 (by decide), h 4 (by decide), h 5 (by decide)]
def fl (s : Nat) : Nat := S6 fun j => if s.testBit j then 1 else 0
theorem fl_less {s j : Nat} (hj : j < 6) (h : s.testBit j = true) : fl s = fl (sub s (2 ^ j)) + 1 := by
  have := sum_one (s := s) (F := fun _ => 1) hj h
  rw [sumS, sumS] at this
  exact this

/-- D: one more column is taken. -/
theorem cnt_more (full : Nat) (rs : List Nat) : ∀ (tk k : Nat), (∀ r ∈ rs, ∀ j, r.testBit j = true → full.testBit j = true) →
    ((elems (sub full tk)).map fun j => cnt rs (tk ||| 2 ^ j) k).sum + k * cnt rs tk k = fl (sub full tk) * cnt rs tk k := by
  induction rs with
  | nil =>
    intro tk k _
    cases k with
    | zero => simp only [cnt]; rw [sumS]; simp [fl]
    | succ k =>
      have e : (fun j => cnt [] (tk ||| 2 ^ j) (k + 1)) = fun _ => 0 := by funext j; rfl
      rw [e, sumS]
      simp [cnt, S6]
  | cons r rs ih =>
    intro tk k hr
    have hrs : ∀ r ∈ rs, ∀ j, r.testBit j = true → full.testBit j = true := fun x hx => hr x (List.mem_cons_of_mem _ hx)
    cases k with
    | zero =>
      simp only [cnt_zero]
      rw [sumS]; simp [fl]
    | succ k =>
      have h1 := ih tk (k + 1) hrs
      have h2 : (S6 fun i => if (sub r tk).testBit i then (S6 fun j => if (sub full (tk ||| 2 ^ i)).testBit j then cnt rs (tk ||| 2 ^ i ||| 2 ^ j) k else 0) + (k + 1) * cnt rs (tk ||| 2 ^ i) k else 0) =
          S6 fun i => if (sub r tk).testBit i then fl (sub full tk) * cnt rs (tk ||| 2 ^ i) k else 0 := by
        refine S6_congr fun i hi => ?_
        cases hb : (sub r tk).testBit i with
        | false => rfl
        | true =>
          simp only [if_true]
          have hf : (sub full tk).testBit i = true := by
            rw [sub_bit] at hb ⊢
            simp only [Bool.and_eq_true] at hb
            rw [hr r List.mem_cons_self i hb.1, hb.2]; rfl
          have := ih (tk ||| 2 ^ i) k hrs
          rw [sumS] at this
          rw [fl_less hi hf, ← sub_or, Nat.succ_mul, Nat.succ_mul, ← this]
          omega
      have h3 : (S6 fun j => if (sub full tk).testBit j then (S6 fun i => if (sub r (tk ||| 2 ^ j)).testBit i then cnt rs (tk ||| 2 ^ j ||| 2 ^ i) k else 0) else 0) =
          S6 fun i => if (sub r tk).testBit i then (S6 fun j => if (sub full (tk ||| 2 ^ i)).testBit j then cnt rs (tk ||| 2 ^ i ||| 2 ^ j) k else 0) else 0 := by
        have e1 : ∀ (b : Bool) (f : Nat → Nat), (if b then S6 f else 0) = S6 fun i => if b then f i else 0 := by
          intro b f; cases b <;> simp [S6]
        simp only [e1]
        rw [S6_swap]
        refine S6_congr fun i _ => S6_congr fun j _ => ?_
        rw [Nat.or_assoc, Nat.or_assoc, Nat.or_comm (2 ^ j) (2 ^ i)]
        simp only [sub_bit, Nat.testBit_or, pw_bit]
        by_cases e : j = i
        · subst e; simp
        · have e' : ¬ i = j := fun h => e h.symm
          simp only [e, e', decide_false, Bool.or_false]
          cases full.testBit j <;> cases tk.testBit j <;> cases r.testBit i <;> cases tk.testBit i <;> rfl
      have e2 : (S6 fun i => if (sub r tk).testBit i then (S6 fun j => if (sub full (tk ||| 2 ^ i)).testBit j then cnt rs (tk ||| 2 ^ i ||| 2 ^ j) k else 0) + (k + 1) * cnt rs (tk ||| 2 ^ i) k else 0) =
          (S6 fun i => if (sub r tk).testBit i then (S6 fun j => if (sub full (tk ||| 2 ^ i)).testBit j then cnt rs (tk ||| 2 ^ i ||| 2 ^ j) k else 0) else 0) + (k + 1) * S6 fun i => if (sub r tk).testBit i then cnt rs (tk ||| 2 ^ i) k else 0 := by
        rw [← S6_mul, ← S6_add]
        refine S6_congr fun i _ => ?_
        cases (sub r tk).testBit i <;> simp
      have e3 : (S6 fun i => if (sub r tk).testBit i then fl (sub full tk) * cnt rs (tk ||| 2 ^ i) k else 0) = fl (sub full tk) * S6 fun i => if (sub r tk).testBit i then cnt rs (tk ||| 2 ^ i) k else 0 := by
        rw [← S6_mul]
        refine S6_congr fun i _ => ?_
        cases (sub r tk).testBit i <;> simp
      have e4 : (S6 fun j => if (sub full tk).testBit j then cnt (r :: rs) (tk ||| 2 ^ j) (k + 1) else 0) =
          (S6 fun j => if (sub full tk).testBit j then cnt rs (tk ||| 2 ^ j) (k + 1) else 0) + S6 fun j => if (sub full tk).testBit j then (S6 fun i => if (sub r (tk ||| 2 ^ j)).testBit i then cnt rs (tk ||| 2 ^ j ||| 2 ^ i) k else 0) else 0 := by
        rw [← S6_add]
        refine S6_congr fun j _ => ?_
        rw [cnt, sumS]
        cases (sub full tk).testBit j <;> simp
      rw [sumS] at h1
      rw [sumS, e4, h3, cnt, sumS, Nat.mul_add, Nat.mul_add, ← h1, ← e3, ← h2, e2]
      omega
theorem cnt_over (rs : List Nat) : ∀ (tk k : Nat), rs.length < k → cnt rs tk k = 0 := by
  induction rs with
  | nil => intro tk k h; simp only [List.length_nil] at h; simp [cnt]; omega
  | cons r rs ih =>
    intro tk k h
    rw [List.length_cons] at h
    cases k with
    | zero => omega
    | succ k =>
      rw [cnt, ih tk (k + 1) (by omega), sumS]
      have : (S6 fun j => if (sub r tk).testBit j then cnt rs (tk ||| 2 ^ j) k else 0) = S6 fun _ => 0 := S6_congr fun j _ => by rw [ih _ k (by omega)]; simp
      rw [this]; rfl

def fac : Nat → Nat
  | 0 => 1
  | n + 1 => (n + 1) * fac n
def chooseN : Nat → Nat → Nat
  | _, 0 => 1
  | 0, _ + 1 => 0
  | n + 1, k + 1 => chooseN n (k + 1) + chooseN n k

/-- The permutations that are left, each with the ways to choose k of its hits. -/
def wsum (full : Nat) : List Nat → Nat → Nat → Nat
  | [], _, k => chooseN 0 k
  | _ :: rs, tk, 0 => ((elems (sub full tk)).map fun j => wsum full rs (tk ||| 2 ^ j) 0).sum
  | r :: rs, tk, k + 1 => ((elems (sub full tk)).map fun j => wsum full rs (tk ||| 2 ^ j) (k + 1) + if r.testBit j then wsum full rs (tk ||| 2 ^ j) k else 0).sum

theorem wsum_cnt (full : Nat) (rs : List Nat) : ∀ (tk k : Nat), (∀ r ∈ rs, ∀ j, r.testBit j = true → full.testBit j = true) → fl (sub full tk) = rs.length → wsum full rs tk k = cnt rs tk k * fac (rs.length - k) := by
  induction rs with
  | nil =>
    intro tk k _ _
    cases k <;> simp [wsum, cnt, chooseN, fac]
  | cons r rs ih =>
    intro tk k hr hl
    have hrs : ∀ r ∈ rs, ∀ j, r.testBit j = true → full.testBit j = true := fun x hx => hr x (List.mem_cons_of_mem _ hx)
    rw [List.length_cons] at hl ⊢
    have hl' : ∀ j, j < 6 → (sub full tk).testBit j = true → fl (sub full (tk ||| 2 ^ j)) = rs.length := fun j hj hb => by
      have := fl_less hj hb
      rw [← sub_or] at this
      omega
    cases k with
    | zero =>
      rw [wsum, sumS, cnt_zero, Nat.one_mul, Nat.sub_zero, fac]
      have : (S6 fun j => if (sub full tk).testBit j then wsum full rs (tk ||| 2 ^ j) 0 else 0) = S6 fun j => fac rs.length * if (sub full tk).testBit j then 1 else 0 := S6_congr fun j hj => by
        cases hb : (sub full tk).testBit j with
        | false => simp
        | true => simp only [if_true]; rw [ih _ 0 hrs (hl' j hj hb), cnt_zero, Nat.sub_zero, Nat.one_mul, Nat.mul_one]
      rw [this, S6_mul, ← hl, Nat.mul_comm]
      rfl
    | succ k =>
      have h1 := cnt_more full rs tk (k + 1) hrs
      rw [sumS, hl] at h1
      rw [wsum, sumS, cnt, sumS]
      have e : (S6 fun j => if (sub full tk).testBit j then wsum full rs (tk ||| 2 ^ j) (k + 1) + (if r.testBit j then wsum full rs (tk ||| 2 ^ j) k else 0) else 0) =
          S6 (fun j => fac (rs.length - (k + 1)) * if (sub full tk).testBit j then cnt rs (tk ||| 2 ^ j) (k + 1) else 0) + S6 fun j => fac (rs.length - k) * if (sub r tk).testBit j then cnt rs (tk ||| 2 ^ j) k else 0 := by
        rw [← S6_add]
        refine S6_congr fun j hj => ?_
        cases hb : (sub full tk).testBit j with
        | false =>
          have : (sub r tk).testBit j = false := by
            rw [sub_bit] at hb ⊢
            cases hrj : r.testBit j with
            | false => rfl
            | true => rw [hr r List.mem_cons_self j hrj] at hb; simpa using hb
          rw [this]; simp
        | true =>
          have ht : tk.testBit j = false := by
            rw [sub_bit] at hb
            simp only [Bool.and_eq_true, Bool.not_eq_true'] at hb
            exact hb.2
          simp only [if_true]
          rw [ih _ (k + 1) hrs (hl' j hj hb), ih _ k hrs (hl' j hj hb), sub_bit, ht, Nat.mul_comm (cnt _ _ _)]
          cases r.testBit j <;> simp [Nat.mul_comm]
      rw [e, S6_mul, S6_mul, Nat.add_mul, Nat.add_sub_add_right, Nat.mul_comm (S6 _) (fac _)]
      congr 1
      by_cases hk : k + 1 ≤ rs.length
      · obtain ⟨d, hd⟩ : ∃ d, rs.length - (k + 1) = d := ⟨_, rfl⟩
        have hd2 : rs.length - k = d + 1 := by omega
        rw [hd2, hd, fac]
        have : (S6 fun j => if (sub full tk).testBit j then cnt rs (tk ||| 2 ^ j) (k + 1) else 0) = (d + 1) * cnt rs tk (k + 1) := by
          have h2 : (rs.length + 1) = (d + 1) + (k + 1) := by omega
          rw [h2, Nat.add_mul (d + 1) (k + 1)] at h1
          omega
        rw [this, ← Nat.mul_assoc, Nat.mul_comm (fac d), Nat.mul_comm _ (cnt rs tk (k + 1))]
      · have : (S6 fun j => if (sub full tk).testBit j then cnt rs (tk ||| 2 ^ j) (k + 1) else 0) = S6 fun _ => 0 := S6_congr fun j _ => by rw [cnt_over rs _ _ (by omega)]; simp
        rw [this, cnt_over rs _ _ (by omega), Nat.zero_mul]
        simp [S6]
end Go.Proofs.YtellnklbkjajbaaDoor
