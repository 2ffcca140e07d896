/- SignsDesigns: the mathematics, and size -/
import Derived.Test.YtopmdmafameknaaRw
import Derived.Test.YtopmdmafameknaaRd
namespace Go.Proofs.Ytopmdmafameknaa
open Go.RowKit

set_option maxHeartbeats 1000000 in
theorem size_any (x : Nat) (w : World) (hx : x < 65536) :
    Calls Try.prog 56 #[.int .i64 x] w fun e w' => e = .returned (.int .i64 (pop 16 x)) ∧ w = w' := by
  have hp0 := pop_le 16 x
  go_enter Try.func56, Try.ntmps56
  go_wp2_with fail
  go_loop [0, 3] (fun y s => ∃ z m : Nat, z < 65536 ∧ y = .int .i64 z ∧ s = .int .i64 m ∧ m + pop 16 z = pop 16 x) (fun y _ => (intOf y).toNat)
  case atStart => exact ⟨x, 0, hx, rfl, rfl, by omega⟩
  case round =>
    obtain ⟨z, m, hz, rfl, rfl, hs⟩ := hrel
    by_cases h0 : 0 < z
    · have h1 := i64_and z (z - 1) (by omega) (by omega)
      have hc1 : ((z - 1 : Nat) : Int) = (z : Int) - 1 := by omega
      rw [hc1] at h1
      have hlt := and_lt_one z h0
      have hk := pop_kern 16 z h0 hz
      have HS : Hid (m + 1 + pop 16 (z &&& (z - 1)) = pop 16 x) := (show _ = _ by omega)
      have hm : m ≤ 16 := by omega
      clear hc1 hk hs
      generalize z &&& (z - 1) = u at *
      go_wp2
      go_round
      case rel => exact ⟨u, m + 1, by omega, rfl, by go_num, HS.out⟩
      case measure => simp [intOf]; omega
    · obtain rfl : z = 0 := by omega
      have e0 : pop 16 0 = 0 := by decide
      have HS : Hid (m = pop 16 x) := (show _ = _ by omega)
      clear hs e0
      go_wp2
      go_ret
      exact ⟨ret_int (by rw [HS.out]), rfl⟩

theorem size_n {n x : Nat} (w : World) (hn : n ≤ 16) (hx : x < 2 ^ n) :
    Calls Try.prog 56 #[.int .i64 x] w fun e w' => e = .returned (.int .i64 (pop n x)) ∧ w = w' := by
  have := size_any x w (Nat.lt_of_lt_of_le hx (pw_nat n hn).2)
  rwa [pop16 n x hn hx] at this

/-- Words that differ at half of the places, or at all. -/
def Far (n : Nat) (x y : Int) : Prop := x ≠ y ∧ (2 * pop n (x.toNat ^^^ y.toNat) = n ∨ pop n (x.toNat ^^^ y.toNat) = n)
theorem Far.symm {n : Nat} {x y : Int} (h : Far n x y) : Far n y x := ⟨fun e => h.1 e.symm, by rw [Nat.xor_comm]; exact h.2⟩
theorem far_mk {n x y : Nat} (hn : 1 ≤ n) (h : 2 * pop n (x ^^^ y) = n ∨ pop n (x ^^^ y) = n) : Far n (x:Int) (y:Int) := by
  refine ⟨fun e => ?_, by simpa using h⟩
  have e : x = y := by omega
  subst e
  have : pop n (x ^^^ x) = 0 := by
    rw [Nat.xor_self]
    induction n with
    | zero => rfl
    | succ n ih =>
      rw [pop]
      by_cases h1 : 1 ≤ n
      · have hz : ∀ m, pop m 0 = 0 := fun m => by
          induction m with
          | zero => rfl
          | succ m ih => rw [pop, ih]; simp
        rw [hz n]; simp
      · have : n = 0 := by omega
        subst this; simp [pop]
  omega
theorem xor_both (a b c : Nat) : (a ^^^ c) ^^^ b = (a ^^^ b) ^^^ c := by rw [Nat.xor_assoc, Nat.xor_comm c, ← Nat.xor_assoc]

theorem all_far {n : Nat} {hs : List Nat} (hm : Mat n hs) (hb : Bal n hs) : (nats (allW n hs)).Pairwise (Far n) := by
  have hp : ∀ i, i < n → ∀ k, k < n → i ≠ k → 2 * pop n (hs.getD i 0 ^^^ hs.getD k 0) = n := by
    intro i hi k hk hne
    rcases Nat.lt_or_ge i k with h | h
    · rw [Nat.xor_comm]; exact hb k hk i h
    · exact hb i hi k (by omega)
  have key : ∀ i k x y, i < 2 * n → k < 2 * n → i < k → (allW n hs)[i]? = some x → (allW n hs)[k]? = some y → 2 * pop n (x ^^^ y) = n ∨ pop n (x ^^^ y) = n := by
    intro i k x y hi hk hik hx hy
    have get : ∀ q z, q < 2 * n → (allW n hs)[q]? = some z → z = if q < n then hs.getD q 0 else hs.getD (q - n) 0 ^^^ (2 ^ n - 1) := by
      intro q z hq hz
      unfold allW at hz
      by_cases h : q < n
      · rw [List.getElem?_append_left (by rw [hm.len]; exact h)] at hz
        rw [if_pos h]; simp [hz]
      · rw [List.getElem?_append_right (by rw [hm.len]; omega), hm.len, List.getElem?_map] at hz
        have hl : q - n < hs.length := by rw [hm.len]; omega
        rw [if_neg h]
        simp [hl] at hz
        simp [hl, hz]
    rw [get i x hi hx, get k y hk hy]
    have pf := fun x => pop_full n x
    split <;> split
    · left; exact hp i (by omega) k (by omega) (by omega)
    · rw [← Nat.xor_assoc]
      by_cases e : i = k - n
      · right
        rw [← e, Nat.xor_self]
        have := pf 0
        have hz : pop n 0 = 0 := by
          have : ∀ m, pop m 0 = 0 := fun m => by
            induction m with
            | zero => rfl
            | succ m ih => rw [pop, ih]; simp
          exact this n
        omega
      · left
        have h1 := hp i (by omega) (k - n) (by omega) e
        have := pf (hs.getD i 0 ^^^ hs.getD (k - n) 0)
        omega
    · omega
    · left
      rw [xor_pair]
      exact hp (i - n) (by omega) (k - n) (by omega) (by omega)
  rw [nats, List.pairwise_map, List.pairwise_iff_getElem]
  intro i k hi hk hik
  rw [allW_length, hm.len] at hi hk
  exact far_mk hm.pos (key i k _ _ hi hk hik (by simp) (by simp))

theorem words_far {n : Nat} {hs : List Nat} (hm : Mat n hs) (hb : Bal n hs) : (wordsL n hs).Pairwise (Far n) :=
  (List.Perm.pairwise_iff (fun h => h.symm) (List.mergeSort_perm _ _).symm).1 (all_far hm hb)
theorem words_le (n : Nat) (hs : List Nat) : (wordsL n hs).Pairwise fun a b => a ≤ b := by
  have := List.pairwise_mergeSort (le := fun (x y : Int) => decide (x ≤ y)) (fun a b c h1 h2 => by simp at *; omega) (fun a b => by simp; omega) (nats (allW n hs))
  exact this.imp fun h => by simpa using h

def wd (n : Nat) (hs : List Nat) (k : Nat) : Nat := ((wordsL n hs).getD k 0).toNat
theorem wd_lt {n : Nat} {hs : List Nat} (hm : Mat n hs) (k : Nat) (hk : k < 2 * n) : wd n hs k < 2 ^ n ∧ (wordsL n hs).getD k 0 = (wd n hs k : Int) := by
  have hl : k < (wordsL n hs).length := by rw [wordsL_length, hm.len]; exact hk
  have hmem := wordsL_mem (getD_mem hl)
  obtain ⟨x, hx, e⟩ := List.mem_map.1 hmem
  have := allW_lt hm x hx
  unfold wd
  rw [← e]
  exact ⟨by simpa using this, by simp⟩
theorem wd_pair {n : Nat} {hs : List Nat} (hm : Mat n hs) (hb : Bal n hs) (i k : Nat) (hi : i < 2 * n) (hk : k < i) : wd n hs k < wd n hs i ∧ (2 * pop n (wd n hs i ^^^ wd n hs k) = n ∨ pop n (wd n hs i ^^^ wd n hs k) = n) := by
  have hl : i < (wordsL n hs).length := by rw [wordsL_length, hm.len]; exact hi
  have h1 := List.pairwise_iff_getElem.1 (words_far hm hb) k i (by omega) hl hk
  have h2 := List.pairwise_iff_getElem.1 (words_le n hs) k i (by omega) hl hk
  have e1 : (wordsL n hs)[k] = (wordsL n hs).getD k 0 := by simp [show k < (wordsL n hs).length by omega]
  have e2 : (wordsL n hs)[i] = (wordsL n hs).getD i 0 := by simp [hl]
  rw [e1, e2, (wd_lt hm k (by omega)).2, (wd_lt hm i hi).2] at h1 h2
  obtain ⟨g1, g2⟩ := h1
  refine ⟨by omega, ?_⟩
  rw [Nat.xor_comm]
  simpa using g2

/-- A balanced matrix in normal form. -/
structure Nor (n : Nat) (g : List Nat) : Prop where
  mat : Mat n g
  bal : Bal n g
  first : g.getD 0 0 = 0
  bit : ∀ i, i < n → (g.getD i 0).testBit 0 = false
theorem nor_norm {n : Nat} {hs : List Nat} (hm : Mat n hs) (hb : Bal n hs) : Nor n (normL n hs) where
  mat := plant_mat _ hm.pos hm.le
  bal := of_decide_eq_true (show balB n (normL n hs) = true by rw [bal_norm hm]; exact decide_eq_true hb)
  first := norm_first hm
  bit := fun i hi => by
    have := norm_bit (n := n) (hs := hs) i hi
    rw [Nat.testBit_zero, this]; rfl
theorem nor_over {n : Nat} {g : List Nat} (h : Nor n g) : Nor n (overL n g) where
  mat := plant_mat _ h.mat.pos h.mat.le
  bal := bal_over_of h.bal
  first := by
    have e : (overL n g).getD 0 0 = mk n (colF g 0) := plant_get h.mat.pos
    rw [e]
    refine mk_ext (Nat.two_pow_pos n) fun j hj => ?_
    rw [Nat.zero_testBit]; exact (h.bit j hj).symm
  bit := fun i hi => by
    have e : (overL n g).getD i 0 = mk n (colF g i) := plant_get hi
    rw [e, mk_bit]
    unfold colF
    rw [h.first]; simp

theorem dsg_one {n : Nat} {g : List Nat} (h : Nor n g) (i : Nat) (hi : i < n) (h0 : 0 < i) : 2 * pop n (g.getD i 0 ^^^ (2 ^ n - 1)) = n := by
  have h1 := h.bal i hi 0 h0
  rw [h.first, Nat.xor_zero] at h1
  have := pop_full n (g.getD i 0)
  omega
theorem full_bit {n x : Nat} (hn : 1 ≤ n) (h : x.testBit 0 = false) : (x ^^^ (2 ^ n - 1)) % 2 = 1 := by
  have : (x ^^^ (2 ^ n - 1)).testBit 0 = true := by rw [Nat.testBit_xor, h, Nat.testBit_two_pow_sub_one, decide_eq_true (by omega : 0 < n)]; rfl
  rw [Nat.testBit_zero] at this
  simpa using this
theorem dsg_pop {n : Nat} {g : List Nat} (h : Nor n g) (i : Nat) (hi : i < n) (h0 : 0 < i) : pop (n - 1) (dsgR n (g.getD i 0)) + 1 = n / 2 := by
  have h1 := dsg_one h i hi h0
  have hb := full_bit h.mat.pos (h.bit i hi)
  have e : n = (n - 1) + 1 := by omega
  have h2 := pop_low (n - 1) (g.getD i 0 ^^^ (2 ^ n - 1))
  rw [← e, hb] at h2
  unfold dsgR
  omega
theorem and_div2 (x y : Nat) : (x &&& y) / 2 = (x / 2) &&& (y / 2) := by
  have := Nat.shiftRight_and_distrib (a := x) (b := y) (i := 1)
  simpa [Nat.shiftRight_eq_div_pow] using this
theorem dsg_pair {n : Nat} {g : List Nat} (h : Nor n g) (i k : Nat) (hi : i < n) (h0 : 0 < k) (hk : k < i) : pop (n - 1) (dsgR n (g.getD i 0) &&& dsgR n (g.getD k 0)) + 1 = n / 4 := by
  have h1 := dsg_one h i hi (by omega)
  have h2 := dsg_one h k (by omega) h0
  have h3 := h.bal i hi k hk
  have hx := pop_xor_and n (g.getD i 0 ^^^ (2 ^ n - 1)) (g.getD k 0 ^^^ (2 ^ n - 1))
  rw [xor_pair] at hx
  have b1 := full_bit h.mat.pos (h.bit i hi)
  have b2 := full_bit h.mat.pos (h.bit k (by omega))
  have hb : ((g.getD i 0 ^^^ (2 ^ n - 1)) &&& (g.getD k 0 ^^^ (2 ^ n - 1))) % 2 = 1 := by
    have : ((g.getD i 0 ^^^ (2 ^ n - 1)) &&& (g.getD k 0 ^^^ (2 ^ n - 1))).testBit 0 = true := by
      rw [Nat.testBit_and, Nat.testBit_zero, Nat.testBit_zero, b1, b2]; rfl
    rw [Nat.testBit_zero] at this
    simpa using this
  have e : n = (n - 1) + 1 := by omega
  have h4 := pop_low (n - 1) ((g.getD i 0 ^^^ (2 ^ n - 1)) &&& (g.getD k 0 ^^^ (2 ^ n - 1)))
  rw [← e, hb, and_div2] at h4
  unfold dsgR
  omega
/-- A column of the design. -/
theorem dsg_col {n : Nat} {g : List Nat} (a k : Nat) (ha : a < n - 1) (hk : k < n - 1) : (dsgR n ((overL n g).getD (a + 1) 0)).testBit k = (dsgR n (g.getD (k + 1) 0)).testBit a := by
  have e : (overL n g).getD (a + 1) 0 = mk n (colF g (a + 1)) := plant_get (by omega)
  unfold dsgR
  rw [← Nat.testBit_succ, ← Nat.testBit_succ, Nat.testBit_xor, Nat.testBit_xor, Nat.testBit_two_pow_sub_one, Nat.testBit_two_pow_sub_one, decide_eq_true (by omega : k + 1 < n), decide_eq_true (by omega : a + 1 < n), e, mk_bit, decide_eq_true (by omega : k + 1 < n)]
  rfl
theorem dsgL_get {n : Nat} {hs : List Nat} (k : Nat) (hk : k < n - 1) : (dsgL n hs).getD k 0 = dsgR n ((normL n hs).getD (k + 1) 0) := by simp [dsgL, hk]
end Go.Proofs.Ytopmdmafameknaa
