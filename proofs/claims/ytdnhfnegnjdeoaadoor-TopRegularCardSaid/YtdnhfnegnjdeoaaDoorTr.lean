/- the law's regular: a permutation of four as a matrix -/
import Derived.Test.YtdnhfnegnjdeoaaDoorPl
import Derived.Test.YtdnhfnegnjdeoaaDoorRo
namespace Go.Proofs.YtdnhfnegnjdeoaaDoor
open Go.RowKit

def metN (xs : List Int) : Nat → Nat
  | 0 => 0
  | k+1 => metN xs k ||| 2 ^ (xs.getD k 0).toNat
def goodK (xs : List Int) (k : Nat) : Prop := ∀ j, j < k → (0 ≤ xs.getD j 0 ∧ xs.getD j 0 ≤ 3) ∧ (metN xs j).testBit (xs.getD j 0).toNat = false
instance (xs : List Int) (k : Nat) : Decidable (goodK xs k) := by unfold goodK; infer_instance
def regB (xs : List Int) : Bool := decide (xs.length = 4 ∧ goodK xs xs.length)
def pwL (xs : List Int) : List Nat := xs.map fun x => 2 ^ x.toNat
theorem pwL_length (xs : List Int) : (pwL xs).length = xs.length := by simp [pwL]
theorem pwL_get {xs : List Int} {k : Nat} (h : k < xs.length) : (pwL xs).getD k 0 = 2 ^ (xs.getD k 0).toNat := by simp [pwL, h]
theorem metN_lt {xs : List Int} {k : Nat} (h : goodK xs k) : metN xs k < 16 := by
  induction k with
  | zero => exact (by decide : 0 < 16)
  | succ k ih =>
    refine Nat.or_lt_two_pow (n := 4) (ih fun j hj => h j (by omega)) ?_
    have := (h k (by omega)).1
    exact Nat.pow_lt_pow_right (by decide) (by omega)
theorem regB_bad {xs : List Int} {j : Nat} (hj : j < xs.length) (h : ¬ ((0 ≤ xs.getD j 0 ∧ xs.getD j 0 ≤ 3) ∧ (metN xs j).testBit (xs.getD j 0).toNat = false)) : regB xs = false :=
  decide_eq_false fun ⟨_, c⟩ => h (c j hj)
theorem regB_len {xs : List Int} (h : xs.length ≠ 4) : regB xs = false := decide_eq_false fun ⟨c, _⟩ => h c
theorem pwL_i64 {xs : List Int} (h : goodK xs xs.length) : ∀ z ∈ nats (pwL xs), I64 z := by
  intro z hz
  obtain ⟨y, hy, rfl⟩ := List.mem_map.1 hz
  obtain ⟨x, hx, rfl⟩ := List.mem_map.1 hy
  obtain ⟨j, hj, rfl⟩ := mem_getD hx
  have := (h j hj).1
  have h3 : 2 ^ (xs.getD j 0).toNat ≤ 2 ^ 3 := Nat.pow_le_pow_right (by decide) (by omega)
  generalize 2 ^ (xs.getD j 0).toNat = p at *
  unfold I64; omega

def RegPost (w : World) (xs : List Int) (e : Ending) (w' : World) : Prop :=
  ∃ u, e = .returned (.tuple #[u, .bool (regB xs)]) ∧ (regB xs = true → Nats w' u (pwL xs)) ∧ Below w.heap.size w w'
theorem RegPost.no {w w' : World} {xs : List Int} (h : regB xs = false) (hb : Below w.heap.size w w') (u : Value) : RegPost w xs (.returned (.tuple #[u, .bool false])) w' :=
  ⟨u, by rw [h], fun c => (by rw [h] at c; cases c), hb⟩

set_option maxRecDepth 100000 in
set_option maxHeartbeats 2000000 in
theorem regular_any (v : Value) (xs : List Int) (w : World) (h : Ints w v xs) :
    Calls Tryd.prog 58 #[v] w (RegPost w xs) := by
  obtain ⟨ao, cap, rfl, h1, h2, hx⟩ := h.open
  have HX := Lib.hid hx
  obtain ⟨i0, hi0, hz0, hz1, hz2⟩ := info_parts Tryd.info3
  have HSN := Lib.hid (fun k (hk : k < xs.length) => (by have := gr_snoc k (pwL_length xs) hk; rwa [pwL_get hk] at this : nats ((pwL xs).take (k + 1)) = nats ((pwL xs).take k) ++ [((2 ^ (xs.getD k 0).toNat : Nat) : Int)]))
  have HL := Lib.hid (fun k (hk : k ≤ xs.length) => (by rw [nats_length, List.length_take, pwL_length]; omega : (nats ((pwL xs).take k)).length = k))
  have HEnd : Hid ((pwL xs).take xs.length = pwL xs) := Lib.hid (List.take_of_length_le (by rw [pwL_length]; exact Nat.le_refl _))
  clear h hx
  go_enter Tryd.func58, Tryd.ntmps58
  go_wp2_with fail
  go_loopw [4, 5, 10] (fun m s ii wr => ∃ k : Nat, k ≤ xs.length ∧ ii = .int .i64 k ∧ m = .int .i64 (metN xs k : Nat) ∧ goodK xs k ∧ wr.ownsRow w.heap.size 3 1 s (nats ((pwL xs).take k)).length (ints (nats ((pwL xs).take k))) ∧ Below w.heap.size w wr) (fun _ _ ii _ => xs.length - (intOf ii).toNat)
  case atStart => exact ⟨0, Nat.zero_le _, rfl, rfl, fun j hj => absurd hj (by omega), World.ownsRow_nil _ _ _ _, Below.refl _ _⟩
  case round =>
    obtain ⟨k, hk, rfl, rfl, hg, hB, hb⟩ := hrel
    have HO := Lib.hid hB
    have HB := Lib.hid hb
    have HG := Lib.hid hg
    have hm16 := metN_lt hg
    obtain ⟨ao', c', rfl⟩ := owns_form hB
    clear hB hb hg
    by_cases hlt : k < xs.length
    · obtain ⟨b, o, rfl, hck⟩ := HX.out k hlt
      have hck' := ck hck HB.out
      have HS := Lib.hid (HSN.out k hlt)
      have hll : (nats ((pwL xs).take k)).length ≤ k := Nat.le_of_eq (HL.out k hk)
      clear hck
      by_cases hneg : xs.getD k 0 < 0
      · have HBad : Hid (regB xs = false) := Lib.hid (regB_bad hlt (by omega))
        generalize xs.getD k 0 = x at *
        go_wp2_with fail
        go_ret2
        exact RegPost.no HBad.out HB.out _
      by_cases hbig : 3 < xs.getD k 0
      · have HBad : Hid (regB xs = false) := Lib.hid (regB_bad hlt (by omega))
        generalize xs.getD k 0 = x at *
        go_wp2_with fail
        go_ret2
        exact RegPost.no HBad.out HB.out _
      obtain ⟨y, hy⟩ : ∃ y : Nat, xs.getD k 0 = (y : Int) := ⟨(xs.getD k 0).toNat, by omega⟩
      have hy3 : y ≤ 3 := by omega
      have HM : Hid (metN xs (k + 1) = metN xs k ||| 2 ^ y) := Lib.hid (by rw [metN, hy]; rfl)
      have HBad : Hid ((metN xs k).testBit y = true → regB xs = false) := Lib.hid fun ht => regB_bad hlt (by rw [hy]; intro c; rw [show ((y:Nat):Int).toNat = y from rfl, ht] at c; exact absurd c.2 (by decide))
      have HNx : Hid ((metN xs k).testBit y = false → goodK xs (k + 1)) := Lib.hid fun ht j hj => by
        by_cases e : j = k
        · subst e; rw [hy]; exact ⟨⟨by omega, by omega⟩, ht⟩
        · exact HG.out j (by omega)
      rw [hy] at HS hck'
      rw [show ((y:Nat):Int).toNat = y from rfl] at HS
      have HV := Lib.hid (bit_and1' (metN xs k) y (by omega))
      have hor := or_pw (metN xs k) y (by omega) (by omega)
      have hpw := wrap_pw y (by omega)
      have HPC := Lib.hid (pw_cast y)
      clear hy HX HG hneg hbig
      generalize metN xs k = m at *
      generalize nats ((pwL xs).take k) = tp at *
      cases ht : m.testBit y with
      | true =>
        have hv : (bits .and .i64 ((m:Int) / 2 ^ y) 1 == 1) = true := by rw [HV.out, ht]
        have HBad' := Lib.hid (HBad.out ht)
        clear ht HBad HNx
        go_wp2_with fail
        go_ret2
        exact RegPost.no HBad'.out HB.out _
      | false =>
        have hv : (bits .and .i64 ((m:Int) / 2 ^ y) 1 == 1) = false := by rw [HV.out, ht]
        have HN' := Lib.hid (HNx.out ht)
        clear ht HBad HNx
        go_wp2_with (at_builtin; refine wpList_append_own _ rfl _ _ 22 rfl w.heap.size 3 i0 (.int .i64 0) 1 8 Tryd.underlying22 hi0 hz0 hz1 hz2 rfl (by decide) _ _ _ rfl (HO.out.alloc _) ⟨wr.heap.size, 0, none⟩ 1 1 [.int .i64 (2 ^ y : Nat)] rfl rfl (by rw [HPC.out]; exact newOne _ _ _) (oneInt _) (by unfold maxLen; omega) (by omega) (by have := HB.out.size; simp; omega) ?_)
        intro v' w2 hown' hgrow _
        have HR := Lib.hid (int_step HO.out HB.out HB.out.size hown' hgrow)
        clear hown' hgrow
        go_wp2
        go_roundw
        case rel => exact ⟨k + 1, by omega, by go_num, by rw [HM.out], HN'.out, by rw [HS.out]; exact HR.out.1, HR.out.2⟩
        case measure => simp [intOf]; omega
    · obtain rfl : k = xs.length := by omega
      have hll := HL.out xs.length (Nat.le_refl _)
      have HV : Hid (Nats wr (.slice ao' (nats ((pwL xs).take xs.length)).length c') (pwL xs)) := Lib.hid (by
        have h := HO.out
        rw [HEnd.out] at h ⊢
        exact Ints.of_owns h (by rw [nats_length, pwL_length]; omega) (pwL_i64 HG.out))
      by_cases h4 : xs.length = 4
      · have HR : Hid (regB xs = true) := Lib.hid (decide_eq_true ⟨h4, HG.out⟩)
        have hd : ((xs.length : Int) == 4) = true := by simp; omega
        clear h4
        generalize nats ((pwL xs).take xs.length) = tp at *
        go_wp2_with fail
        go_ret2
        exact ⟨_, by rw [HR.out, ← hd]; rfl, fun _ => HV.out, HB.out⟩
      · have HR : Hid (regB xs = false) := Lib.hid (regB_len h4)
        have hd : ((xs.length : Int) == 4) = false := by simp; omega
        clear h4
        generalize nats ((pwL xs).take xs.length) = tp at *
        go_wp2_with fail
        go_ret2
        exact ⟨_, by rw [HR.out, ← hd]; rfl, fun c => (by rw [HR.out] at c; cases c), HB.out⟩
end Go.Proofs.YtdnhfnegnjdeoaaDoor
