/- planes: the reference's Points -/
import Derived.Test.YtllokfkagneneaaM
namespace Go.Proofs.Ytllokfkagneneaa
open Go.RowKit

def accB (p : Nat) (t : T3) : Bool := decide (t = unitS p t.1 t.2.1 t.2.2) && !decide (t = (0, 0, 0))
def rowL (p x y n : Nat) : List T3 := ((List.range n).map fun (z : Nat) => ((x:Int), (y:Int), (z:Int))).filter (accB p)
def slabL (p x n : Nat) : List T3 := (List.range n).flatMap fun y => rowL p x y p
def allL (p n : Nat) : List T3 := (List.range n).flatMap fun x => slabL p x p
def rptL (p x y z : Nat) : List T3 := allL p x ++ slabL p x y ++ rowL p x y z
theorem rowL_succ (p x y n : Nat) : rowL p x y (n+1) = rowL p x y n ++ if accB p ((x:Int), (y:Int), (n:Int)) = true then [((x:Int), (y:Int), (n:Int))] else [] := by
  simp only [rowL, List.range_succ, List.map_append, List.filter_append, List.map_cons, List.map_nil, List.filter_cons, List.filter_nil]
theorem rptL_zero (p : Nat) : rptL p 0 0 0 = [] := rfl
theorem rptL_yes (p x y z : Nat) (h : accB p ((x:Int), (y:Int), (z:Int)) = true) : rptL p x y (z+1) = rptL p x y z ++ [((x:Int), (y:Int), (z:Int))] := by
  simp only [rptL, rowL_succ, if_pos h, List.append_assoc]
theorem rptL_no (p x y z : Nat) (h : accB p ((x:Int), (y:Int), (z:Int)) = false) : rptL p x y (z+1) = rptL p x y z := by
  simp [rptL, rowL_succ, h]
theorem rptL_row (p x y : Nat) : rptL p x (y+1) 0 = rptL p x y p := by simp [rptL, rowL, slabL, List.range_succ]
theorem rptL_slab (p x : Nat) : rptL p (x+1) 0 0 = rptL p x p 0 := by simp [rptL, rowL, slabL, allL, List.range_succ]
theorem rptL_le (p x y z : Nat) (hp : p ≤ 7) (hx : x ≤ 2) (hy : y ≤ p) (hz : z ≤ p) : (rptL p x y z).length ≤ 200 := by
  have h1 : ∀ x y n, (rowL p x y n).length ≤ n := fun x y n => by
    have := List.length_filter_le (accB p) ((List.range n).map fun (z : Nat) => ((x:Int), (y:Int), (z:Int)))
    simpa [rowL] using this
  have h2 : ∀ x n, (slabL p x n).length ≤ n * p := by
    intro x n
    induction n with
    | zero => simp [slabL]
    | succ n ih =>
      have := h1 x n p
      simp only [slabL, List.range_succ, List.flatMap_append, List.length_append, List.flatMap_cons, List.flatMap_nil, List.append_nil, Nat.add_mul] at *
      omega
  have h3 : ∀ n, (allL p n).length ≤ n * (p * p) := by
    intro n
    induction n with
    | zero => simp [allL]
    | succ n ih =>
      have := h2 n p
      simp only [allL, List.range_succ, List.flatMap_append, List.length_append, List.flatMap_cons, List.flatMap_nil, List.append_nil, Nat.add_mul] at *
      omega
  have a := h1 x y z
  have b := h2 x y
  have c := h3 x
  have b' : y * p ≤ 7 * 7 := Nat.mul_le_mul (by omega) hp
  have c' : x * (p * p) ≤ 2 * (7 * 7) := Nat.mul_le_mul hx (Nat.mul_le_mul hp hp)
  simp only [rptL, List.length_append]
  omega
theorem rptL_all (p : Nat) (hp : isPn p) : rptL p 2 0 0 = ptsL p := by
  rcases hp with rfl | rfl | rfl | rfl <;> decide +kernel

set_option maxHeartbeats 4000000 in
set_option maxRecDepth 100000 in
theorem rpoints_any (p : Nat) (w : World) (hp : isPn p) :
    Calls Try.prog 24 #[.int .i64 p] w fun e w' => ∃ v, e = .returned v ∧ w'.ownsRow w.heap.size 31 3 v (ptsL p).length (flat (ptsL p)) ∧ Below w.heap.size w w' := by
  obtain ⟨hp2, hp7⟩ := hp.le
  obtain ⟨i0, hi, hz0, hz1, hz2⟩ := info_parts Try.info31
  have HA := Lib.hid (rptL_all p hp)
  clear hp
  go_enter Try.func24, Try.ntmps24
  go_wp2
  go_loopw [3, 8] (fun v i wr => ∃ x : Nat, x ≤ 2 ∧ i = .int .i64 x ∧ wr.ownsRow w.heap.size 31 3 v (rptL p x 0 0).length (flat (rptL p x 0 0)) ∧ Below w.heap.size w wr) (fun _ i _ => 2 - (intOf i).toNat)
  case atStart => exact ⟨0, Nat.zero_le _, rfl, World.ownsRow_nil _ _ _ _, Below.refl _ _⟩
  case round =>
    obtain ⟨x, hx, rfl, hown, hnx⟩ := hrel
    have HB1 := Lib.hid hnx
    have HN1 := Lib.hid hown
    clear hown hnx
    by_cases hltx : x < 2
    · have hxi : decide ((x:Int) < 2) = true := by simp; omega
      go_wp2
      go_loopw [3, 12] (fun v i wr => ∃ y : Nat, y ≤ p ∧ i = .int .i64 y ∧ wr.ownsRow w.heap.size 31 3 v (rptL p x y 0).length (flat (rptL p x y 0)) ∧ Below w.heap.size w wr) (fun _ i _ => p - (intOf i).toNat)
      case atStart => exact ⟨0, Nat.zero_le _, rfl, HN1.out, HB1.out⟩
      case round =>
        obtain ⟨y, hy, rfl, hown2, hnx2⟩ := hrel
        have HB2 := Lib.hid hnx2
        have HN2 := Lib.hid hown2
        clear hown2 hnx2
        by_cases hlty : y < p
        · go_wp2
          go_loopw [3, 16] (fun v i wr => ∃ z : Nat, z ≤ p ∧ i = .int .i64 z ∧ wr.ownsRow w.heap.size 31 3 v (rptL p x y z).length (flat (rptL p x y z)) ∧ Below w.heap.size w wr) (fun _ i _ => p - (intOf i).toNat)
          case atStart => exact ⟨0, Nat.zero_le _, rfl, HN2.out, HB2.out⟩
          case round =>
            obtain ⟨z, hz, rfl, hown3, hnx3⟩ := hrel
            have HB3 := Lib.hid hnx3
            have HN3 := Lib.hid hown3
            have hle := rptL_le p x y z hp7 hx hy hz
            clear hown3 hnx3
            by_cases hltz : z < p
            · have HY := Lib.hid (rptL_yes p x y z)
              have HNo := Lib.hid (rptL_no p x y z)
              have HBa := Lib.hid (HB3.out.alloc HB3.out.size (.cells #[.int .i64 x, .int .i64 y, .int .i64 z] 31))
              have HNa := Lib.hid (HN3.out.alloc (.cells #[.int .i64 x, .int .i64 y, .int .i64 z] 31))
              have HI := Lib.hid (IntBlk.new wr 31 [(x:Int), (y:Int), (z:Int)])
              obtain ⟨q1, q2, q3, hu⟩ : ∃ q1 q2 q3, unitS p x y z = (q1, q2, q3) := ⟨_, _, _, rfl⟩
              have HU : Hid (∀ W, Calls Try.prog 69 #[.int .i64 p, tri x y z] W fun e w' => e = .returned (tri q1 q2 q3) ∧ Below W.heap.size W w') := fun W => by
                have := unit_any p x y z W hp2 hp7
                rw [Int.emod_eq_of_lt (a := (x:Int)) (by omega) (by omega), Int.emod_eq_of_lt (a := (y:Int)) (by omega) (by omega), Int.emod_eq_of_lt (a := (z:Int)) (by omega) (by omega), hu] at this
                exact this
              have HAc : Hid (accB p ((x:Int), (y:Int), (z:Int)) = (decide (((x:Int), (y:Int), (z:Int)) = (q1, q2, q3)) && !decide (((x:Int), (y:Int), (z:Int)) = (0, 0, 0)))) := by
                show (decide _ && _) = _; rw [hu]
              generalize rptL p x y z = xs at *
              clear hu
              have d0 : (wr.alloc (.cells #[.int .i64 x, .int .i64 y, .int .i64 z] 31)).cell? ⟨wr.heap.size, 0, none⟩ = some (.int .i64 x) := HI.out.cell (i := 0) (by simp)
              have d1 : (wr.alloc (.cells #[.int .i64 x, .int .i64 y, .int .i64 z] 31)).cell? ⟨wr.heap.size, 1, none⟩ = some (.int .i64 y) := HI.out.cell (i := 1) (by simp)
              have d2 : (wr.alloc (.cells #[.int .i64 x, .int .i64 y, .int .i64 z] 31)).cell? ⟨wr.heap.size, 2, none⟩ = some (.int .i64 z) := HI.out.cell (i := 2) (by simp)
              clear HI
              cases e1 : decide (((x:Int), (y:Int), (z:Int)) = (q1, q2, q3)) with
              | false =>
                have he : ∀ w, (binOp .eql 31 (tri x y z) (tri q1 q2 q3)).run Try.prog w = .ok (.bool false) w := fun w => by rw [run_eql_tri, e1]
                have HNo' := Lib.hid (HNo.out (by rw [HAc.out, e1]; rfl))
                clear e1
                go_wp2_with fail
                generalize wr.alloc (.cells #[.int .i64 x, .int .i64 y, .int .i64 z] 31) = W at *
                (first | go_region_with ((go_at_call 69; refine (HU.out _).mono ?_; rintro e w' ⟨rfl, hbx⟩; have k0 := ck (W := W.drew) d0 hbx; have k1 := ck (W := W.drew) d1 hbx; have k2 := ck (W := W.drew) d2 hbx; have KO := Lib.hid (owns_below (w := W.drew) HNa.out hbx (Nat.le_refl _)); have KB := Lib.hid ((HBa.out.drew).trans (hbx.mono HBa.out.size)))) | fail)
                all_goals
                  go_wp2
                  go_roundw
                  case rel => exact ⟨z + 1, by omega, by go_num, by rw [HNo'.out]; exact KO.out, KB.out⟩
                  case measure => simp [intOf]; omega
              | true =>
                have he : ∀ w, (binOp .eql 31 (tri x y z) (tri q1 q2 q3)).run Try.prog w = .ok (.bool true) w := fun w => by rw [run_eql_tri, e1]
                cases e2 : decide (((x:Int), (y:Int), (z:Int)) = (0, 0, 0)) with
                | true =>
                have hn : ∀ w, (binOp .neq 31 (tri x y z) (tri 0 0 0)).run Try.prog w = .ok (.bool false) w := fun w => by rw [run_neq_tri, e2]; rfl
                have HNo' := Lib.hid (HNo.out (by rw [HAc.out, e1, e2]; rfl))
                clear e1 e2
                go_wp2_with fail
                generalize wr.alloc (.cells #[.int .i64 x, .int .i64 y, .int .i64 z] 31) = W at *
                go_region_held3 (fun w' => w'.cell? ⟨wr.heap.size, 0, none⟩ = some (.int .i64 x) ∧ w'.cell? ⟨wr.heap.size, 1, none⟩ = some (.int .i64 y) ∧ w'.cell? ⟨wr.heap.size, 2, none⟩ = some (.int .i64 z) ∧ w'.ownsRow w.heap.size 31 3 u3 xs.length (flat xs) ∧ Below w.heap.size w w') (first | exact ⟨d0, d1, d2, HNa.out, HBa.out.drew⟩ | assumption | (obtain ⟨k0, k1, k2, ko, kb⟩ := ‹_ ∧ _›; exact ⟨ck k0 hbx, ck k1 hbx, ck k2 hbx, owns_below ko hbx (Nat.le_refl _), kb.trans (hbx.mono kb.size)⟩)) (first | (go_at_call 69; refine (HU.out _).mono ?_; rintro e w' ⟨rfl, hbx⟩))
                obtain ⟨k0, k1, k2, ko, kb⟩ := ‹_ ∧ _›
                have KO := Lib.hid ko
                have KB := Lib.hid kb
                clear ko kb
                all_goals
                  go_wp2
                  go_roundw
                  case rel => exact ⟨z + 1, by omega, by go_num, by rw [HNo'.out]; exact KO.out, KB.out⟩
                  case measure => simp [intOf]; omega
                | false =>
                have hn : ∀ w, (binOp .neq 31 (tri x y z) (tri 0 0 0)).run Try.prog w = .ok (.bool true) w := fun w => by rw [run_neq_tri, e2]; rfl
                have HS := Lib.hid (HY.out (by rw [HAc.out, e1, e2]; rfl))
                clear e1 e2
                go_wp2_with fail
                generalize wr.alloc (.cells #[.int .i64 x, .int .i64 y, .int .i64 z] 31) = W at *
                go_region_held3 (fun w' => w'.cell? ⟨wr.heap.size, 0, none⟩ = some (.int .i64 x) ∧ w'.cell? ⟨wr.heap.size, 1, none⟩ = some (.int .i64 y) ∧ w'.cell? ⟨wr.heap.size, 2, none⟩ = some (.int .i64 z) ∧ w'.ownsRow w.heap.size 31 3 u3 xs.length (flat xs) ∧ Below w.heap.size w w') (first | exact ⟨d0, d1, d2, HNa.out, HBa.out.drew⟩ | assumption | (obtain ⟨k0, k1, k2, ko, kb⟩ := ‹_ ∧ _›; exact ⟨ck k0 hbx, ck k1 hbx, ck k2 hbx, owns_below ko hbx (Nat.le_refl _), kb.trans (hbx.mono kb.size)⟩)) (first | (go_at_call 69; refine (HU.out _).mono ?_; rintro e w' ⟨rfl, hbx⟩))
                obtain ⟨k0, k1, k2, ko, kb⟩ := ‹_ ∧ _›
                have KO := Lib.hid ko
                have KB := Lib.hid kb
                clear ko kb
                all_goals
                  go_wp2_with (at_builtin; refine wpList_append_own _ rfl _ _ 22 rfl w.heap.size 31 i0 (tri 0 0 0) 3 24 Try.underlying22 hi hz0 hz1 hz2 rfl (by decide) _ _ _ rfl (KO.out.alloc _) ⟨w'.heap.size, 0, none⟩ 1 1 (cells3 (x, y, z)) rfl rfl (newThree _ _ _ _ _) (one3 _) (by unfold maxLen; omega) (by omega) (by have := KB.out.size; simp; omega) ?_)
                  intro v' w1 hown' hgrow _
                  have HR := Lib.hid (tri_step KO.out KB.out KB.out.size hown' hgrow)
                  clear hown' hgrow
                  go_wp2
                  go_roundw
                  case rel => exact ⟨z + 1, by omega, by go_num, by rw [HS.out]; exact HR.out.1, HR.out.2⟩
                  case measure => simp [intOf]; omega
            · obtain rfl : z = p := by omega
              rw [← rptL_row] at HN3
              go_wp2
              go_roundw
              case rel => exact ⟨y + 1, by omega, by go_num, HN3.out, HB3.out⟩
              case measure => simp [intOf]; omega
        · obtain rfl : y = p := by omega
          rw [← rptL_slab] at HN2
          go_wp2
          go_roundw
          case rel => exact ⟨x + 1, by omega, by go_num, HN2.out, HB2.out⟩
          case measure => simp [intOf]; omega
    · obtain rfl : x = 2 := by omega
      rw [HA.out] at HN1
      go_wp2
      go_ret
      exact ⟨_, rfl, HN1.out, HB1.out⟩
end Go.Proofs.Ytllokfkagneneaa
