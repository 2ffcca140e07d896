/- A square is taken away, or its row and column. -/
import Derived.Test.YtellnklbkjajbaaDoorMc
namespace Go.Proofs.YtellnklbkjajbaaDoor
open Go.RowKit

theorem cnt_zero (rs : List Nat) (tk : Nat) : cnt rs tk 0 = 1 := by
  induction rs with
  | nil => rfl
  | cons r rs ih => rw [cnt, ih]

theorem sum6 (s : Nat) (f : Nat → Nat) : ((elems s).map f).sum = (if s.testBit 0 then f 0 else 0) + ((if s.testBit 1 then f 1 else 0) + ((if s.testBit 2 then f 2 else 0) + ((if s.testBit 3 then f 3 else 0) + ((if s.testBit 4 then f 4 else 0) + (if s.testBit 5 then f 5 else 0))))) := by
  have h : List.range 6 = [0, 1, 2, 3, 4, 5] := rfl
  rw [elems, h]
  simp only [List.filter]
  cases s.testBit 0 <;> cases s.testBit 1 <;> cases s.testBit 2 <;> cases s.testBit 3 <;> cases s.testBit 4 <;> cases s.testBit 5 <;> simp
theorem pw_bit (j k : Nat) : (2 ^ j).testBit k = decide (j = k) := by rw [Nat.testBit_two_pow]
theorem part6 {s : Nat} {F G H : Nat → Nat} {j j' : Nat} (h : s.testBit j' = true → F j' = G j' + (if j' = j then 0 else H j')) :
    (if s.testBit j' then F j' else 0) = (if s.testBit j' then G j' else 0) + (if (sub s (2 ^ j)).testBit j' then H j' else 0) := by
  rw [sub_bit, pw_bit]
  cases hs : s.testBit j' with
  | false => simp
  | true =>
    rw [h hs]
    by_cases e : j' = j
    · subst e; simp
    · simp [e, show ¬ j = j' from fun h => e h.symm]
theorem sum_split {s : Nat} {F G H : Nat → Nat} {j : Nat} (h : ∀ j', s.testBit j' = true → F j' = G j' + (if j' = j then 0 else H j')) :
    ((elems s).map F).sum = ((elems s).map G).sum + ((elems (sub s (2 ^ j))).map H).sum := by
  rw [sum6, sum6, sum6, part6 (h 0), part6 (h 1), part6 (h 2), part6 (h 3), part6 (h 4), part6 (h 5)]
  omega
theorem sum_one {s : Nat} {F : Nat → Nat} {j : Nat} (hj : j < 6) (h : s.testBit j = true) : ((elems s).map F).sum = ((elems (sub s (2 ^ j))).map F).sum + F j := by
  rw [sum6, sum6]
  simp only [sub_bit, pw_bit]
  match j, hj, h with
  | 0, _, h => simp [h]; omega
  | 1, _, h => simp [h]; omega
  | 2, _, h => simp [h]; omega
  | 3, _, h => simp [h]; omega
  | 4, _, h => simp [h]; omega
  | 5, _, h => simp [h]; omega

theorem sub_sub (r a b : Nat) : sub (sub r a) b = sub (sub r b) a := by
  refine Nat.eq_of_testBit_eq fun j => ?_
  simp only [sub_bit]
  cases r.testBit j <;> cases a.testBit j <;> cases b.testBit j <;> rfl
theorem sub_or (r a b : Nat) : sub r (a ||| b) = sub (sub r a) b := by
  refine Nat.eq_of_testBit_eq fun j => ?_
  simp only [sub_bit, Nat.testBit_or]
  cases r.testBit j <;> cases a.testBit j <;> cases b.testBit j <;> rfl
theorem sub_skip (r tk j : Nat) (h : tk.testBit j = true) : sub (sub r (2 ^ j)) tk = sub r tk := by
  refine Nat.eq_of_testBit_eq fun i => ?_
  simp only [sub_bit, pw_bit]
  by_cases e : j = i
  · subst e; rw [h]; simp
  · simp [e]

/-- Square j of row i is taken away. -/
def del : List Nat → Nat → Nat → List Nat
  | [], _, _ => []
  | r :: rs, 0, j => sub r (2 ^ j) :: rs
  | r :: rs, i + 1, j => r :: del rs i j
theorem del_set (rs : List Nat) (i j : Nat) (h : i < rs.length) : del rs i j = rs.set i (sub (rs.getD i 0) (2 ^ j)) := by
  induction rs generalizing i with
  | nil => simp at h
  | cons r rs ih =>
    cases i with
    | zero => simp [del]
    | succ i => rw [List.length_cons] at h; simp only [del, List.set_cons_succ]; rw [ih i (by omega)]; simp
theorem or_bit (tk j' j : Nat) (h : ¬ j' = j) : (tk ||| 2 ^ j').testBit j = tk.testBit j := by rw [Nat.testBit_or, pw_bit]; simp [h]
theorem or_self_bit (tk j : Nat) : (tk ||| 2 ^ j).testBit j = true := by rw [Nat.testBit_or, pw_bit]; simp
theorem cnt_skip (rs : List Nat) (j : Nat) : ∀ (i tk k : Nat), tk.testBit j = true → cnt (del rs i j) tk k = cnt rs tk k := by
  induction rs with
  | nil => intro i tk k _; rfl
  | cons r rs ih =>
    intro i tk k h
    cases i with
    | zero =>
      cases k with
      | zero => rfl
      | succ k => rw [del, cnt, cnt, sub_skip r tk j h]
    | succ i =>
      cases k with
      | zero => rw [del, cnt, cnt, ih i tk 0 h]
      | succ k =>
        rw [del, cnt, cnt, ih i tk (k + 1) h]
        congr 2
        refine List.map_congr_left fun j' _ => ih i _ k ?_
        rw [Nat.testBit_or, h]; rfl

theorem cnt_del (rs : List Nat) (j : Nat) (hj : j < 6) : ∀ (i tk k : Nat), i < rs.length → (rs.getD i 0).testBit j = true → tk.testBit j = false →
    cnt rs tk (k + 1) = cnt (del rs i j) tk (k + 1) + cnt (rs.eraseIdx i) (tk ||| 2 ^ j) k := by
  induction rs with
  | nil => intro i tk k h; simp at h
  | cons r rs ih =>
    intro i tk k h hb ht
    rw [List.length_cons] at h
    cases i with
    | zero =>
      have hb' : r.testBit j = true := hb
      rw [del, cnt, cnt, List.eraseIdx_cons_zero, sum_one hj (by rw [sub_bit, hb', ht]; rfl), sub_sub r tk]
      omega
    | succ i =>
      have hb' : (rs.getD i 0).testBit j = true := hb
      have h1 := ih i tk k (by omega) hb' ht
      rw [del, cnt, cnt, List.eraseIdx_cons_succ, h1]
      cases k with
      | zero =>
        simp only [cnt_zero]
        omega
      | succ k =>
        have hs := sum_split (s := sub r tk) (F := fun j' => cnt rs (tk ||| 2 ^ j') (k + 1)) (G := fun j' => cnt (del rs i j) (tk ||| 2 ^ j') (k + 1)) (H := fun j' => cnt (rs.eraseIdx i) (tk ||| 2 ^ j ||| 2 ^ j') k) (j := j) (fun j' _ => by
          by_cases e : j' = j
          · subst e
            rw [if_pos rfl]
            exact (cnt_skip rs j' i _ _ (or_self_bit tk j')).symm
          · rw [if_neg e, ih i (tk ||| 2 ^ j') k (by omega) hb' (by rw [or_bit _ _ _ e, ht])]
            congr 2
            rw [Nat.or_assoc, Nat.or_assoc, Nat.or_comm (2 ^ j')])
        rw [hs, cnt, sub_or]
        omega

def shift (j j' : Nat) : Nat := if j' < j then j' else j' - 1
theorem col_sub : ∀ j < 6, ∀ r < 64, ∀ tk < 64, sub (woN j r) (woN j tk) = woN j (sub r tk) := by decide +kernel
theorem col_elems : ∀ j < 6, ∀ s < 64, s.testBit j = false → elems (woN j s) = (elems s).map (shift j) := by decide +kernel
theorem col_or : ∀ j < 6, ∀ j' < 6, ∀ tk < 64, j' ≠ j → woN j tk ||| 2 ^ shift j j' = woN j (tk ||| 2 ^ j') := by decide +kernel
theorem col_self : ∀ j < 6, woN j (2 ^ j) = 0 := by decide +kernel
theorem cnt_col (j : Nat) (hj : j < 6) (rs : List Nat) : ∀ (tk k : Nat), (∀ r ∈ rs, r < 64) → tk < 64 → tk.testBit j = true → cnt (rs.map (woN j)) (woN j tk) k = cnt rs tk k := by
  induction rs with
  | nil => intro tk k _ _ _; rfl
  | cons r rs ih =>
    intro tk k hr ht hb
    have hrs : ∀ r ∈ rs, r < 64 := fun x hx => hr x (List.mem_cons_of_mem _ hx)
    cases k with
    | zero => rw [cnt_zero, cnt_zero]
    | succ k =>
      have hr0 := hr r List.mem_cons_self
      rw [List.map_cons, cnt, cnt, ih tk (k + 1) hrs ht hb, col_sub j hj r hr0 tk ht, col_elems j hj _ (sub_le r tk 6 hr0) (by rw [sub_bit, hb]; simp), List.map_map]
      congr 2
      refine List.map_congr_left fun j' hj' => ?_
      obtain ⟨h6, hbj⟩ := elems_mem hj'
      have hne : j' ≠ j := fun e => by subst e; rw [sub_bit, hb] at hbj; simp at hbj
      simp only [Function.comp_apply]
      rw [col_or j hj j' h6 tk ht hne, ih _ k hrs (Nat.or_lt_two_pow (n := 6) ht (Nat.pow_lt_pow_right (by decide) h6)) (by rw [or_bit _ _ _ hne, hb])]

theorem cnt_cut {n : Nat} {bs : List Nat} (hb : Brd n bs) {i j : Nat} (hi : i < n) (hj : j < n) (h : (bs.getD i 0).testBit j = true) (k : Nat) :
    cnt bs 0 (k + 1) = cnt (bs.set i (sub (bs.getD i 0) (2 ^ j))) 0 (k + 1) + cnt (withoutL bs i j) 0 k := by
  have hj6 : j < 6 := Nat.lt_of_lt_of_le hj hb.le
  have hil : i < bs.length := by rw [hb.len]; exact hi
  rw [cnt_del bs j hj6 i 0 k hil h (Nat.zero_testBit j), del_set bs i j hil, Nat.zero_or]
  congr 1
  have hr : ∀ r ∈ bs.eraseIdx i, r < 64 := fun r hr => Nat.lt_of_lt_of_le (hb.lt r (List.mem_of_mem_eraseIdx hr)) (pw6 n hb.le).2
  rw [← cnt_col j hj6 (bs.eraseIdx i) (2 ^ j) k hr (Nat.pow_lt_pow_right (a := 2) (n := 6) (by decide) hj6) (by rw [pw_bit]; simp), col_self j hj6, withoutL, List.eraseIdx_eq_take_drop_succ]
end Go.Proofs.YtellnklbkjajbaaDoor
