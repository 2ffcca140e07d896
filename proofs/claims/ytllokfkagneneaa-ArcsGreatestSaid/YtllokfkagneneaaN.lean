/- planes: newPlane -/
import Derived.Test.YtllokfkagneneaaA
namespace Go.Proofs.Ytllokfkagneneaa
open Go.RowKit

theorem Try.info31 : (Try.prog.info? 31).map (fun i => (i.zero, i.size, i.bytes)) = some (some (tri 0 0 0), 3, 24) := by kernel_rfl

theorem tri_step {w wr w1 : World} {B : Nat} {v v' : Value} {xs : List T3} {t : T3} {o : Obj} (hown : wr.ownsRow B 31 3 v xs.length (flat xs)) (hnx : Below B w wr) (hB : B ≤ wr.heap.size)
    (hown' : w1.ownsRow B 31 3 v' (xs.length + 1) (flat xs ++ cells3 t)) (hg : (wr.alloc o).grownBy w1 v.ownBlock) :
    w1.ownsRow B 31 3 v' (xs ++ [t]).length (flat (xs ++ [t])) ∧ Below B w w1 := by
  refine ⟨by rw [flat_snoc, List.length_append]; exact hown', (hnx.alloc hB _).grown hg (by simp; omega) fun k hk => (hown.lt k hk).1⟩

theorem PlaneAt.new {w : World} {v : Value} {p : Nat} (h : Tris w v (ptsL p)) (t : TypeId) : PlaneAt (w.alloc (.cells #[.int .i64 p, v] t)) w.heap.size p := by
  refine ⟨v, ?_, ?_, h.below ((Below.refl w.heap.size w).alloc (Nat.le_refl _) _) (Nat.le_refl _), by simp⟩
  · simp only [World.cell?, heap_alloc_new]; rfl
  · simp only [World.cell?, heap_alloc_new]; rfl

set_option maxHeartbeats 2000000 in
theorem newPlane_any (p : Nat) (w : World) (hp : isPn p) :
    Calls Try.prog 110 #[.int .i64 p] w fun e w' => ∃ b, e = .returned (.pointer (some ⟨b, 0, none⟩)) ∧ w.heap.size ≤ b ∧ PlaneAt w' b p ∧ Below w.heap.size w w' := by
  obtain ⟨hp2, hp7⟩ := hp.le
  obtain ⟨i0, hi, hz0, hz1, hz2⟩ := info_parts Try.info31
  have HO := Lib.hid (owns_three w w.heap.size (0,0,1) 31 (Nat.le_refl _))
  clear hp
  go_enter Try.func110, Try.ntmps110
  go_wp2
  go_loopw [3, 10] (fun v i wr => ∃ k : Nat, k ≤ p ∧ i = .int .i64 k ∧ wr.ownsRow w.heap.size 31 3 v (L1 k).length (flat (L1 k)) ∧ Below w.heap.size w wr) (fun _ i _ => p - (intOf i).toNat)
  case atStart => exact ⟨0, Nat.zero_le _, rfl, HO.out, (Below.refl _ _).alloc (Nat.le_refl _) _⟩
  case round =>
    obtain ⟨k, hk, rfl, hown, hnx⟩ := hrel
    have HB := Lib.hid hnx
    have HN := Lib.hid hown
    have hle : (L1 k).length ≤ 100 := by rw [L1_length]; omega
    clear hown hnx
    by_cases hlt : k < p
    · have HS := Lib.hid (L1_succ k)
      generalize L1 k = xs at *
      go_wp2_with (at_builtin; refine wpList_append_own _ rfl _ _ 22 rfl w.heap.size 31 i0 (tri 0 0 0) 3 24 Try.underlying22 hi hz0 hz1 hz2 rfl (by decide) _ _ _ rfl (HN.out.alloc _) ⟨wr.heap.size, 0, none⟩ 1 1 (cells3 (0, 1, k)) rfl rfl (newThree _ _ _ _ _) (one3 _) (by unfold maxLen; omega) (by omega) (by have := HB.out.size; simp; omega) ?_)
      intro v' w1 hown' hgrow _
      have HR := Lib.hid (tri_step HN.out HB.out HB.out.size hown' hgrow)
      clear hown' hgrow
      go_wp2
      go_roundw
      case rel => exact ⟨k + 1, by omega, by go_num, by rw [HS.out]; exact HR.out.1, HR.out.2⟩
      case measure => simp [intOf]; omega
    · obtain rfl : k = p := by omega
      rw [← L2_zero] at HN
      clear hle hlt hk HO
      go_wp2
      go_loopw [3, 20] (fun v i wr => ∃ y : Nat, y ≤ k ∧ i = .int .i64 y ∧ wr.ownsRow w.heap.size 31 3 v (L2 k y 0).length (flat (L2 k y 0)) ∧ Below w.heap.size w wr) (fun _ i _ => k - (intOf i).toNat)
      case atStart => exact ⟨0, Nat.zero_le _, rfl, HN.out, HB.out⟩
      case round =>
        obtain ⟨y, hy, rfl, hown2, hnx2⟩ := hrel
        have HB2 := Lib.hid hnx2
        have HN2 := Lib.hid hown2
        clear hown2 hnx2
        by_cases hlt : y < k
        · go_wp2
          go_loopw [3, 24] (fun v i wr => ∃ z : Nat, z ≤ k ∧ i = .int .i64 z ∧ wr.ownsRow w.heap.size 31 3 v (L2 k y z).length (flat (L2 k y z)) ∧ Below w.heap.size w wr) (fun _ i _ => k - (intOf i).toNat)
          case atStart => exact ⟨0, Nat.zero_le _, rfl, HN2.out, HB2.out⟩
          case round =>
            obtain ⟨z, hz, rfl, hown3, hnx3⟩ := hrel
            have HB3 := Lib.hid hnx3
            have HN3 := Lib.hid hown3
            have hle := L2_le k y z hp7 hy hz
            clear hown3 hnx3
            by_cases hlt2 : z < k
            · have HS := Lib.hid (L2_succ k y z)
              generalize L2 k y z = xs at *
              go_wp2_with (at_builtin; refine wpList_append_own _ rfl _ _ 22 rfl w.heap.size 31 i0 (tri 0 0 0) 3 24 Try.underlying22 hi hz0 hz1 hz2 rfl (by decide) _ _ _ rfl (HN3.out.alloc _) ⟨wr.heap.size, 0, none⟩ 1 1 (cells3 (1, y, z)) rfl rfl (newThree _ _ _ _ _) (one3 _) (by unfold maxLen; omega) (by omega) (by have := HB3.out.size; simp; omega) ?_)
              intro v' w1 hown' hgrow _
              have HR := Lib.hid (tri_step HN3.out HB3.out HB3.out.size hown' hgrow)
              clear hown' hgrow
              go_wp2
              go_roundw
              case rel => exact ⟨z + 1, by omega, by go_num, by rw [HS.out]; exact HR.out.1, HR.out.2⟩
              case measure => simp [intOf]; omega
            · obtain rfl : z = k := by omega
              rw [← L2_row] at HN3
              go_wp2
              go_roundw
              case rel => exact ⟨y + 1, by omega, by go_num, HN3.out, HB3.out⟩
              case measure => simp [intOf]; omega
        · obtain rfl : y = k := by omega
          have HT := Lib.hid (Tris.of_owns HN2.out rfl (by simp [L2, L1]) (by have := L2_le y y 0 hp7 (by omega) (by omega); omega))
          obtain ⟨ao, c, rfl⟩ := owns_form HN2.out
          clear HN HB HN2 hy hlt hi hz0 hz1 hz2
          generalize (L2 y y 0).length = n at *
          go_wp2
          go_ret
          exact ⟨wr.heap.size, rfl, HB2.out.size, PlaneAt.new HT.out 86, HB2.out.alloc HB2.out.size _⟩
end Go.Proofs.Ytllokfkagneneaa
