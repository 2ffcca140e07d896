/- Double and awake -/
import Derived.Test.YtopmdmafameknaaPl
import Derived.KernelRfl
namespace Go.Proofs.Ytopmdmafameknaa
open Go.RowKit

def oddB (i j : Nat) : Bool := pop 16 (i &&& j) % 2 == 1

set_option maxHeartbeats 1000000 in
theorem double1_any (i j : Nat) (w : World) (hi : i < 65536) (hj : j < 65536) :
    Calls Try.prog 69 #[.int .i64 i, .int .i64 j] w fun e w' => e = .returned (.bool (oddB i j)) ∧ w = w' := by
  have ha := i64_and i j (by omega) (by omega)
  have hl : i &&& j ≤ i := Nat.and_le_left
  have HO := Lib.hid (ones_any (i &&& j) w (by omega))
  have HB : Hid (oddB i j = (pop 16 (i &&& j) % 2 == 1)) := rfl
  have hp := pop_le 16 (i &&& j)
  generalize i &&& j = x at *
  generalize pop 16 x = p at *
  go_enter Try.func69, Try.ntmps69
  go_wp2_with fail
  refine HO.out.mono ?_
  rintro e w' ⟨rfl, rfl⟩
  go_wp2
  go_ret
  refine ⟨ret_bool ?_, rfl⟩
  rw [HB.out]
  rcases Nat.mod_two_eq_zero_or_one p with h | h
  · rw [h]; simp; omega
  · rw [h]; simp; omega

theorem double1_tells (n : Nat) (w : World) (hn : n ≤ 16) : Tells 69 #[] n oddB w where
  enter := fun args w => by kernel_rfl
  call := fun i j w' hi hj _ => (double1_any i j w' (by omega) (by omega)).mono fun e w'' ⟨he, hw⟩ => by subst hw; exact ⟨he, Below.refl _ _⟩

def doubleS (k : Nat) : List Nat := plantL (2 ^ k) oddB
def DoublePost (w : World) (k : Int) (e : Ending) (w' : World) : Prop :=
  (if 0 ≤ k ∧ k ≤ 4 then ∃ v, e = .returned (.tuple #[v, .int .i64 0]) ∧ Nats w' v (doubleS k.toNat) else e = .returned (.tuple #[.slice none 0 0, .int .i64 2])) ∧ Below w.heap.size w w'

theorem plant_nats {w : World} {n g : Nat} {f : Nat → Nat → Bool} (hn : n ≤ 16) (h : NatBlk w g (plantL n f)) : Nats w (.slice (some ⟨g, 0, none⟩) n n) (plantL n f) := by
  have := h.nats (by rw [plant_length]; omega) fun x hx => by
    obtain ⟨i, _, rfl⟩ := List.mem_map.1 hx
    exact Nat.lt_of_lt_of_le (mk_lt n (f i)) (pw_nat n hn).2
  rwa [plant_length] at this

set_option maxHeartbeats 1000000 in
theorem double_any (k : Int) (w : World) :
    Calls Try.prog 25 #[.int .i64 k] w (DoublePost w k) := by
  by_cases h0 : k < 0
  · have HP : Hid (¬ (0 ≤ k ∧ k ≤ 4)) := fun h => by omega
    go_enter Try.func25, Try.ntmps25
    go_wp2
    go_ret2
    exact ⟨by rw [if_neg HP.out]; rfl, Below.refl _ _⟩
  by_cases h4 : 4 < k
  · have HP : Hid (¬ (0 ≤ k ∧ k ≤ 4)) := fun h => by omega
    go_enter Try.func25, Try.ntmps25
    go_wp2
    go_ret2
    exact ⟨by rw [if_neg HP.out]; rfl, Below.refl _ _⟩
  have HP : Hid (0 ≤ k ∧ k ≤ 4) := ⟨by omega, by omega⟩
  obtain ⟨n, rfl⟩ := Int.eq_ofNat_of_zero_le (show 0 ≤ k by omega)
  have hpw := wrap_pw n (by omega)
  have hn16 : 2 ^ n ≤ 16 := Nat.pow_le_pow_right (by decide) (show n ≤ 4 by omega)
  have HC := Lib.hid (plant_any (2 ^ n) 69 #[] oddB w hn16 (double1_tells _ w hn16))
  rw [pw_cast] at HC
  have HN : Hid (∀ w' g, NatBlk w' g (plantL (2 ^ n) oddB) → Nats w' (.slice (some ⟨g, 0, none⟩) (2 ^ n) (2 ^ n)) (doubleS n)) := fun w' g h => plant_nats hn16 h
  go_enter Try.func25, Try.ntmps25
  go_wp2_with fail
  refine HC.out.mono ?_
  rintro e w1 ⟨rfl, hB, hb⟩
  have HB := Lib.hid hb
  have HV := Lib.hid (HN.out _ _ hB)
  clear hB hb hn16
  go_wp2
  go_ret2
  exact ⟨by rw [if_pos HP.out, Int.toNat_natCast]; exact ⟨_, rfl, HV.out⟩, HB.out⟩

theorem newInts (w : World) (xs : List Int) (hn : xs.length ≤ 100) (hb : ∀ x ∈ xs, I64 x) (t : TypeId) : Ints (w.alloc (.cells (ints xs).toArray t)) (.slice (some ⟨w.heap.size, 0, none⟩) xs.length xs.length) xs := by
  refine ⟨⟨_, xs.length, by rw [ints_length], by rw [ints_length]; exact Nat.le_refl _, by rw [ints_length]; omega, by unfold maxLen; omega, .inr ⟨w.heap.size, 0, rfl, by simp, fun k x hx => ?_⟩⟩, hb⟩
  rw [Nat.zero_add, World.cell?_alloc_new]
  simpa using hx

theorem double_one : nats (doubleS 1) = [0, 2] := by decide +kernel

set_option maxHeartbeats 1000000 in
theorem awake_any (w : World) : Calls Try.prog 21 #[] w fun e w' => e = .returned (.bool true) ∧ Below w.heap.size w w' := by
  have HD := Lib.hid (double_any 1 w)
  go_enter Try.func21, Try.ntmps21
  go_wp2_with fail
  refine HD.out.mono ?_
  intro e w1 hq
  obtain ⟨hq, hb1⟩ := hq
  rw [if_pos ⟨by decide, by decide⟩] at hq
  obtain ⟨v, rfl, hv⟩ := hq
  have hv' : Ints w1 v (nats (doubleS 1)) := hv
  rw [double_one] at hv'
  have h2 : Ints (w1.alloc (.cells #[.int .i64 0, .int .i64 2] 3)) (.slice (some ⟨w1.heap.size, 0, none⟩) 2 2) [0, 2] := by
    have := newInts w1 [0, 2] (by decide) (by intro x hx; simp at hx; rcases hx with rfl | rfl <;> exact ⟨by decide, by decide⟩) 3
    simpa [ints] using this
  have HE := Lib.hid (equal_any v _ [0, 2] [0, 2] _ (hv'.below ((Below.refl _ _).alloc (Nat.le_refl _) (.cells #[.int .i64 0, .int .i64 2] 3)) (Nat.le_refl _)) h2)
  have HB := Lib.hid (hb1.alloc hb1.size (.cells #[.int .i64 0, .int .i64 2] 3))
  clear hv hv' h2 hb1
  go_wp2_with fail
  refine HE.out.mono ?_
  rintro e w2 ⟨rfl, hb2⟩
  have HB2 := Lib.hid (HB.out.trans (hb2.mono HB.out.size))
  clear hb2
  rw [show eqB [0, 2] [0, 2] = true by decide]
  go_wp2
  go_ret
  exact ⟨rfl, HB2.out⟩
end Go.Proofs.Ytopmdmafameknaa
