/- stairs: their rook numbers, and what was reckoned over all heights; stairs: what was reckoned over all heights of at most six rows -/
import Derived.Test.YtellnklbkjajbaaDoorSp
import Derived.Test.YtellnklbkjajbaaDoorHz
namespace Go.Proofs.YtellnklbkjajbaaDoor
open Go.RowKit

/-- In how many ways k rooks can be placed in rows of these rising lengths, if t columns are taken. -/
def gst : List Nat → Nat → Nat → Nat
  | [], _, k => if k = 0 then 1 else 0
  | _ :: rs, t, 0 => gst rs t 0
  | r :: rs, t, k + 1 => gst rs t (k + 1) + (r - t) * gst rs (t + 1) k

theorem sum_const (c : Nat) : ∀ l : List Nat, (l.map fun _ => c).sum = l.length * c
  | [] => by simp
  | a :: l => by rw [List.map_cons, List.sum_cons, sum_const c l, List.length_cons, Nat.succ_mul, Nat.add_comm]
theorem elems_fl (s : Nat) : (elems s).length = fl s := by
  have := sumS s fun _ => 1
  rw [sum_const, Nat.mul_one] at this
  exact this
theorem cnt_gst : ∀ (rs : List Nat) (tk k : Nat), (∀ r ∈ rs, r ≤ 6 ∧ ∀ j, tk.testBit j = true → j < r) → rs.Pairwise (· ≤ ·) → cnt (stL rs) tk k = gst rs (fl tk) k
  | [], tk, k, _, _ => by cases k <;> simp [stL, cnt, gst]
  | r :: rs, tk, k, h, hp => by
    obtain ⟨hp1, hp2⟩ := List.pairwise_cons.1 hp
    obtain ⟨h6, htk⟩ := h r (List.mem_cons_self ..)
    have ih := fun tk k h => cnt_gst rs tk k h hp2
    have e : stL (r :: rs) = (2 ^ r - 1) :: stL rs := rfl
    rw [e]
    have h1 := ih tk k fun r' hr => h r' (List.mem_cons_of_mem _ hr)
    cases k with
    | zero => rw [gst, ← h1, cnt]
    | succ k =>
      rw [gst, ← h1, cnt]
      congr 1
      have hfl : fl (sub (2 ^ r - 1) tk) = r - fl tk := by
        have a := fl_or_and (sub (2 ^ r - 1) tk) tk
        have b : fl (sub (2 ^ r - 1) tk ||| tk) = r := by
          have : sub (2 ^ r - 1) tk ||| tk = 2 ^ r - 1 := Nat.eq_of_testBit_eq fun j => by
            rw [Nat.testBit_or, sub_bit, Nat.testBit_two_pow_sub_one]
            cases ht : tk.testBit j with
            | true => simp [htk j ht]
            | false => simp
          rw [this, fl_full r h6]
        have c : fl (sub (2 ^ r - 1) tk &&& tk) = 0 := by
          have : sub (2 ^ r - 1) tk &&& tk = 0 := Nat.eq_of_testBit_eq fun j => by
            rw [Nat.testBit_and, sub_bit, Nat.zero_testBit]
            cases tk.testBit j <;> simp
          rw [this]; rfl
        omega
      have hall : ∀ j ∈ elems (sub (2 ^ r - 1) tk), cnt (stL rs) (tk ||| 2 ^ j) k = gst rs (fl tk + 1) k := fun j hj => by
        obtain ⟨hj6, hjb⟩ := elems_mem hj
        rw [sub_bit, Nat.testBit_two_pow_sub_one, Bool.and_eq_true, decide_eq_true_eq, Bool.not_eq_true'] at hjb
        rw [ih (tk ||| 2 ^ j) k fun r' hr => ⟨(h r' (List.mem_cons_of_mem _ hr)).1, fun i hi => ?_⟩, fl_plus hj6 hjb.2]
        rw [Nat.testBit_or, Bool.or_eq_true, Nat.testBit_two_pow, decide_eq_true_eq] at hi
        have := hp1 r' hr
        rcases hi with hi | rfl
        · have := htk i hi; omega
        · omega
      rw [List.map_congr_left hall, sum_const, elems_fl, hfl]
end Go.Proofs.YtellnklbkjajbaaDoor

namespace Go.Proofs.YtellnklbkjajbaaDoor
open Go.RowKit

def rkG (n : Nat) (l : List Nat) : List Nat := (List.range (n + 1)).map fun k => gst l 0 k
/-- The product of x and the first k numbers less their places. -/
def pK (s : List Int) (x : Int) : Nat → Int
  | 0 => 1
  | i + 1 => wrap64 (pK s x i * (x + s.getD i 0 - i))
/-- A polynomial by falling products, times x + d. -/
def mulF (q : List Int) (d : Int) : List Int := (List.range (q.length + 1)).map fun (m : Nat) => (if m = 0 then 0 else q.getD (m - 1) 0) + (m + d) * q.getD m 0
def encG (D : List Int) : List Int := (D.foldl mulF [1]).reverse
/-- The same divided by x + d, and what is left. -/
def syn (d : Int) (c : Int) : List Int → List Int
  | [] => [c]
  | p :: ps => c :: syn d (p - (ps.length + d) * c) ps
def decG : Nat → Int → List Int → List Int
  | 0, _, _ => []
  | f + 1, d, rp => match rp with
    | [] => []
    | [_] => []
    | p :: ps => if (syn d p ps).getLastD 1 = 0 then d :: decG f d (syn d p ps).dropLast else decG f (d + 1) (p :: ps)
def stpS (n : Nat) (S : List Int) : Bool := (List.range n).all fun i => decide (0 ≤ S.getD i 0) && decide (S.getD i 0 ≤ 20) && (decide (i = 0) || (decide (S.getD (i - 1) 0 ≤ S.getD i 0) && (decide (S.getD i 0 ≤ 0) || decide (S.getD (i - 1) 0 ≠ S.getD i 0))))
def chkG (n : Nat) (l : List Nat) : Bool :=
  decide ((steepV (dfL (nats l))).length = n) && stpS n (steepV (dfL (nats l))) &&
  (List.range 11).all (fun x => decide (fcK (nats (rkG n l)) n (x : Nat) (n + 1) = pK (nats l) (x : Nat) n) && decide (pK (steepV (dfL (nats l))) (x : Nat) n = pK (nats l) (x : Nat) n)) &&
  decide (dfL (steepV (dfL (nats l))) = dfL (nats l)) && decide (decG 20 (-6) (nats (rkG n l)) = dfL (nats l)) && decide (encG (dfL (nats l)) = nats (rkG n l)) &&
  okB (stL l) && decide (htL (stL l) = nats l) && (rkG n l).all fun r => decide (r < 1000000)
theorem chk1 : (hts 1 1 0).all (chkG 1) = true := by decide +kernel
theorem chk2 : (hts 2 2 0).all (chkG 2) = true := by decide +kernel
theorem chk3 : (hts 3 3 0).all (chkG 3) = true := by decide +kernel
theorem chk4 : (hts 4 4 0).all (chkG 4) = true := by decide +kernel
end Go.Proofs.YtellnklbkjajbaaDoor
