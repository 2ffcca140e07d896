/- the reference's Differences; Factor on both sides -/
import Derived.Test.YtellnklbkjajbaaDoorRi
import Derived.Test.YtellnklbkjajbaaDoorSx
import Derived.Test.YtellnklbkjajbaaDoorRk
import Derived.Test.YtellnklbkjajbaaDoorRr
namespace Go.Proofs.YtellnklbkjajbaaDoor
open Go.RowKit

/-- The first k numbers, less their places. -/
def dif (xs : List Int) : Nat → List Int
  | 0 => []
  | k + 1 => dif xs k ++ [xs.getD k 0 - k]
theorem dif_length (xs : List Int) : ∀ k, (dif xs k).length = k
  | 0 => rfl
  | k + 1 => by rw [dif, List.length_append, dif_length xs k]; rfl
def dfL (xs : List Int) : List Int := risL (dif xs xs.length)
theorem dif_bd (xs : List Int) (h : ∀ x ∈ xs, -1000 ≤ x ∧ x ≤ 1000) : ∀ k, k ≤ xs.length → k ≤ 20 → ∀ y ∈ dif xs k, -1020 ≤ y ∧ y ≤ 1000
  | 0, _, _, y, hy => by simp [dif] at hy
  | k + 1, hk, hk2, y, hy => by
    rw [dif, List.mem_append, List.mem_singleton] at hy
    rcases hy with hy | rfl
    · exact dif_bd xs h k (by omega) (by omega) y hy
    · have := h _ (getD_mem (show k < xs.length by omega)); omega

set_option maxRecDepth 100000 in
set_option maxHeartbeats 1000000 in
theorem rDiff_any (v : Value) (xs : List Int) (w : World) (h : Ints w v xs) (hl : xs.length ≤ 20) (hb : ∀ x ∈ xs, -1000 ≤ x ∧ x ≤ 1000) :
    Calls Tryd.prog 46 #[v] w fun e w' => ∃ v', e = .returned v' ∧ Ints w' v' (dfL xs) ∧ Below w.heap.size w w' := by
  obtain ⟨ao, cap, rfl, h1, _, hx⟩ := h.cells
  have HX := Lib.hid hx
  have HBd : Hid (∀ k, k < xs.length → -1000 ≤ xs.getD k 0 ∧ xs.getD k 0 ≤ 1000) := Lib.hid fun k hk => hb _ (getD_mem hk)
  have HD : Hid (∀ y ∈ dif xs xs.length, I64 y) := Lib.hid fun y hy => by have := dif_bd xs hb xs.length (Nat.le_refl _) hl y hy; unfold I64; omega
  have HRs := Lib.hid (fun v w h hl => rising_any v (dif xs xs.length) w h hl)
  have HRe : Hid (risL (dif xs xs.length) = dfL xs) := rfl
  rw [HRe.out] at HRs
  have HB0 := Lib.hid (Below.refl w.heap.size w)
  obtain ⟨i0, hi, hz0, hz1, hz2⟩ := info_parts Tryd.info3
  clear h hx hb
  go_enter Tryd.func46, Tryd.ntmps46
  go_wp2_with fail
  go_loopw [3, 8] (fun s i wr => ∃ k : Nat, k ≤ xs.length ∧ i = .int .i64 k ∧ wr.ownsRow w.heap.size 3 1 s (dif xs k).length (ints (dif xs k)) ∧ Below w.heap.size w wr) (fun _ i _ => xs.length - (intOf i).toNat)
  case atStart => exact ⟨0, Nat.zero_le _, rfl, World.ownsRow_nil _ _ _ _, HB0.out⟩
  case round =>
    obtain ⟨k, hk, rfl, hB, hb⟩ := hrel
    have HO := Lib.hid hB
    have HB := Lib.hid hb
    obtain ⟨ao', c', rfl⟩ := owns_form hB
    clear hB hb
    by_cases hlt : k < xs.length
    · obtain ⟨b, o, rfl, hck⟩ := HX.out wr HB.out k hlt
      have HS : Hid (dif xs (k + 1) = dif xs k ++ [xs.getD k 0 - k]) := rfl
      have hbd := HBd.out k hlt
      have hll : (dif xs k).length ≤ 20 := by rw [dif_length]; omega
      generalize xs.getD k 0 = x at *
      generalize dif xs k = tp at *
      go_wp2_with (at_builtin; refine wpList_append_own _ rfl _ _ 22 rfl w.heap.size 3 i0 (.int .i64 0) 1 8 Tryd.underlying22 hi hz0 hz1 hz2 rfl (by decide) _ _ _ rfl (HO.out.alloc _) ⟨wr.heap.size, 0, none⟩ 1 1 [.int .i64 (x - k)] rfl rfl (newOne _ _ _) (oneInt _) (by unfold maxLen; omega) (by omega) (by have := HB.out.size; simp; omega) ?_)
      intro v' w2 hown' hgrow _
      have HR := Lib.hid (int_step HO.out HB.out HB.out.size hown' hgrow)
      clear hown' hgrow
      go_wp2
      go_roundw
      case rel => exact ⟨k + 1, by omega, by go_num, by rw [HS.out]; exact HR.out.1, HR.out.2⟩
      case measure => simp [intOf]; omega
    · obtain rfl : k = xs.length := by omega
      have hdl := dif_length xs xs.length
      have HC := Lib.hid (HRs.out _ wr (Ints.of_owns HO.out (by omega) HD.out) (by omega))
      rw [hdl] at HC ⊢
      clear hdl HO HD HRs
      go_wp2_with fail
      refine HC.out.mono ?_
      rintro e w2 ⟨v2, rfl, hv2, hb2⟩
      have HV := Lib.hid hv2
      have HB2 := Lib.hid (HB.out.trans (hb2.mono HB.out.size))
      clear hv2 hb2
      go_wp2
      go_ret
      exact ⟨_, rfl, HV.out, HB2.out⟩

/-- y times x (x - 1) .., which are m numbers. -/
def ffK (y x : Int) : Nat → Int
  | 0 => y
  | i + 1 => wrap64 (ffK y x i * (x - i))
/-- The sum of the first k rook numbers, each times its falling product. -/
def fcK (rs : List Int) (n : Nat) (x : Int) : Nat → Int
  | 0 => 0
  | k + 1 => wrap64 (fcK rs n x k + ffK (rs.getD k 0) x (n - k))
end Go.Proofs.YtellnklbkjajbaaDoor
