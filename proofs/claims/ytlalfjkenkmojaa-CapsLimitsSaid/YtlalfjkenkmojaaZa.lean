/- CapsLimits: the walk, ok arg -/
import Derived.Test.YtlalfjkenkmojaaLx
namespace Go.Proofs.Ytlalfjkenkmojaa
open Go.RowKit

set_option maxHeartbeats 4000000 in
set_option maxRecDepth 100000 in
theorem limits_ok_arg (n c : Nat) (k : Int) (w : World) (h1 : 1 ≤ n) (h2 : n ≤ 40) (h3 : 1 ≤ c) (h4 : c ≤ 3) (hS : n ≤ limS c) (hW : waB n c k = false) :
    Calls Try.prog 15 #[.int .i64 n, .int .i64 c, .int .i64 k] w fun e w' => e = .returned (.bool true) ∧ Below w.heap.size w w' := by
  have HAw := Lib.hid (fun w => awake_any w)
  have hixS := fun w => tabS c h3 h4 w
  obtain ⟨r, hno0, hsc⟩ := schur_ok n c w h1 h2 h3 h4 hS
  have HNo := Lib.hid hno0
  have HSc := Lib.hid hsc
  clear hno0 hsc
  generalize limS c = S at *
  have HWa := Lib.hid (fun w => Waerden_bad n c k w hW)
  clear hW
  go_enter Try.func15, Try.ntmps15
  go_wp2_with fail
  refine HSc.out.mono ?_
  rintro e w1 ⟨sa, sc, rfl, hsc, hcs, hb1⟩
  have HCs := Lib.hid hcs
  have HB1 := Lib.hid hb1
  clear hcs hb1 HSc
  go_wp2_with fail
  go_loopw [11] (fun i wr => ∃ x m : Nat, 1 ≤ x ∧ x ≤ n + 1 ∧ i = .int .i64 x ∧ wr = w1.drewN m) (fun i _ => n + 1 - (intOf i).toNat)
  case atStart => exact ⟨1, 0, Nat.le_refl _, by omega, rfl, rfl⟩
  case round =>
    obtain ⟨x, m, hx1, hxn, rfl, rfl⟩ := hrel
    by_cases hlt : x ≤ n
    · obtain ⟨i, hxi⟩ : ∃ i, i = x - 1 := ⟨_, rfl⟩
      have hin : i < n := by omega
      obtain ⟨b1, o1, rfl, hc1, hz1⟩ := HCs.out i hin
      have hx2 : (x:Int) - 1 = (i:Int) := by omega
      have hin2 : (i:Int) < (n:Int) := by omega
      obtain ⟨z, hz⟩ : ∃ z, z = r.getD i 0 := ⟨_, rfl⟩
      rw [← hz] at hc1 hz1
      have HZ := Lib.hid hz
      have HXI := Lib.hid hxi
      have hz0 : ((z:Int) < 0) = False := by simp
      clear hz hxi
      go_wp2_with fail
      go_loopw [12] (fun j wr => ∃ y m : Nat, x ≤ y ∧ y ≤ n + 1 ∧ j = .int .i64 y ∧ wr = w1.drewN m) (fun j _ => n + 1 - (intOf j).toNat)
      case atStart => exact ⟨x, m, Nat.le_refl _, by omega, rfl, rfl⟩
      case round =>
        obtain ⟨y, m2, hy1, hyn, rfl, rfl⟩ := hrel
        by_cases hlt2 : x + y ≤ n
        · obtain ⟨j, hyj⟩ : ∃ j, j = y - 1 := ⟨_, rfl⟩
          obtain ⟨t, htt⟩ : ∃ t, t = i + j + 1 := ⟨_, rfl⟩
          have hxi := HXI.out
          have hjn : j < n := by omega
          have htn : t < n := by omega
          obtain ⟨b2, o2, he2, hc2, hz2⟩ := HCs.out j hjn
          obtain ⟨b3, o3, he3, hc3, hz3⟩ := HCs.out t htn
          obtain ⟨rfl, rfl⟩ : b1 = b2 ∧ o1 = o2 := by simp only [Option.some.injEq, Addr.mk.injEq] at he2; exact ⟨he2.1, he2.2.1⟩
          obtain ⟨rfl, rfl⟩ : b1 = b3 ∧ o1 = o3 := by simp only [Option.some.injEq, Addr.mk.injEq] at he3; exact ⟨he3.1, he3.2.1⟩
          have hy2 : (y:Int) - 1 = (j:Int) := by omega
          have ht2 : (x:Int) + (y:Int) - 1 = (t:Int) := by omega
          have hjn2 : (j:Int) < (n:Int) := by omega
          have htn2 : (t:Int) < (n:Int) := by omega
          have hno := HNo.out i j (by omega)
          rw [← htt, ← HZ.out] at hno
          clear he2 he3 hxi hyj htt
          generalize r.getD j 0 = z2 at *
          generalize r.getD t 0 = z3 at *
          by_cases e12 : z = z2
          · subst e12
            have d1 : ((z:Int) == (z3:Int)) = false := beq_eq_false_iff_ne.2 (by omega)
            clear hno
            go_wp2_with fail
            go_quiet (fail)
            go_wp2
            go_roundw
            case rel => exact ⟨y + 1, _, by omega, by omega, by go_num, rfl⟩
            case measure => simp [intOf]; omega
          · have d1 : ((z:Int) == (z2:Int)) = false := beq_eq_false_iff_ne.2 (by omega)
            clear hno e12
            go_wp2_with fail
            go_quiet (fail)
            go_wp2
            go_roundw
            case rel => exact ⟨y + 1, _, by omega, by omega, by go_num, rfl⟩
            case measure => simp [intOf]; omega
        · go_wp2
          go_roundw
          case rel => exact ⟨x + 1, m2, by omega, by omega, by go_num, rfl⟩
          case measure => simp [intOf]; omega
    · have hxn : x = n + 1 := by omega
      have HBa := Lib.hid (below_drewN HB1.out m)
      clear HB1 HCs HNo
      generalize w1.drewN m = wa at *
      go_wp2_with fail
      refine (HWa.out _).mono ?_
      rintro e w' ⟨rfl, rfl⟩
      go_wp2_with fail
      refine (HAw.out _).mono ?_
      rintro e w9 ⟨rfl, hb9⟩
      have HB9 := Lib.hid (HBa.out.trans (hb9.mono HBa.out.size))
      clear hb9
      go_wp2
      go_ret
      exact ⟨rfl, HB9.out⟩
end Go.Proofs.Ytlalfjkenkmojaa
