/- CapsLimits: the walk, ok ok3 -/
import Derived.Test.YtlalfjkenkmojaaLx
namespace Go.Proofs.Ytlalfjkenkmojaa
open Go.RowKit

set_option maxHeartbeats 4000000 in
set_option maxRecDepth 100000 in
theorem limits_ok_ok3 (n c : Nat) (w : World) (h1 : 1 ≤ n) (h2 : n ≤ 40) (h3 : 1 ≤ c) (h4 : c ≤ 3) (hS : n ≤ limS c) (h5 : c = 3 → n ≤ 27) (hW : n ≤ limW c) :
    Calls Try.prog 15 #[.int .i64 n, .int .i64 c, .int .i64 3] w fun e w' => e = .returned (.bool true) ∧ Below w.heap.size w w' := by
  have HAw := Lib.hid (fun w => awake_any w)
  have hixS := fun w => tabS c h3 h4 w
  obtain ⟨r, hno0, hsc⟩ := schur_ok n c w h1 h2 h3 h4 hS
  have HNo := Lib.hid hno0
  have HSc := Lib.hid hsc
  clear hno0 hsc
  generalize limS c = S at *
  obtain ⟨r2, hno2, hwa⟩ := wa3_ok n c h1 h2 h3 h4 h5 hW
  have HNw := Lib.hid hno2
  have HWa := Lib.hid hwa
  clear hno2 hwa
  have hixW := fun w => tabW c h3 h4 w
  generalize limW c = W at *
  clear h5
  go_enter Try.func15, Try.ntmps15
  go_wp2_with fail
  refine HSc.out.mono ?_
  rintro e w1 ⟨sa, sc, rfl, hsc, hcs, hb1⟩
  have HCs := Lib.hid hcs
  have HB1 := Lib.hid hb1
  clear hcs hb1 HSc
  go_wp2_with fail
  go_loopw [11] (fun i wr => ∃ x m : Nat, 1 ≤ x ∧ x ≤ n + 1 ∧ i = .int .i64 x ∧ wr = w1.drewN m) (fun i _ => n + 1 - (intOf i).toNat)
  case atStart => exact ⟨1, 0, Nat.le_refl _, by omega, rfl, rfl⟩
  case round =>
    obtain ⟨x, m, hx1, hxn, rfl, rfl⟩ := hrel
    by_cases hlt : x ≤ n
    · obtain ⟨i, hxi⟩ : ∃ i, i = x - 1 := ⟨_, rfl⟩
      have hin : i < n := by omega
      obtain ⟨b1, o1, rfl, hc1, hz1⟩ := HCs.out i hin
      have hx2 : (x:Int) - 1 = (i:Int) := by omega
      have hin2 : (i:Int) < (n:Int) := by omega
      obtain ⟨z, hz⟩ : ∃ z, z = r.getD i 0 := ⟨_, rfl⟩
      rw [← hz] at hc1 hz1
      have HZ := Lib.hid hz
      have HXI := Lib.hid hxi
      have hz0 : ((z:Int) < 0) = False := by simp
      clear hz hxi
      go_wp2_with fail
      go_loopw [12] (fun j wr => ∃ y m : Nat, x ≤ y ∧ y ≤ n + 1 ∧ j = .int .i64 y ∧ wr = w1.drewN m) (fun j _ => n + 1 - (intOf j).toNat)
      case atStart => exact ⟨x, m, Nat.le_refl _, by omega, rfl, rfl⟩
      case round =>
        obtain ⟨y, m2, hy1, hyn, rfl, rfl⟩ := hrel
        by_cases hlt2 : x + y ≤ n
        · obtain ⟨j, hyj⟩ : ∃ j, j = y - 1 := ⟨_, rfl⟩
          obtain ⟨t, htt⟩ : ∃ t, t = i + j + 1 := ⟨_, rfl⟩
          have hxi := HXI.out
          have hjn : j < n := by omega
          have htn : t < n := by omega
          obtain ⟨b2, o2, he2, hc2, hz2⟩ := HCs.out j hjn
          obtain ⟨b3, o3, he3, hc3, hz3⟩ := HCs.out t htn
          obtain ⟨rfl, rfl⟩ : b1 = b2 ∧ o1 = o2 := by simp only [Option.some.injEq, Addr.mk.injEq] at he2; exact ⟨he2.1, he2.2.1⟩
          obtain ⟨rfl, rfl⟩ : b1 = b3 ∧ o1 = o3 := by simp only [Option.some.injEq, Addr.mk.injEq] at he3; exact ⟨he3.1, he3.2.1⟩
          have hy2 : (y:Int) - 1 = (j:Int) := by omega
          have ht2 : (x:Int) + (y:Int) - 1 = (t:Int) := by omega
          have hjn2 : (j:Int) < (n:Int) := by omega
          have htn2 : (t:Int) < (n:Int) := by omega
          have hno := HNo.out i j (by omega)
          rw [← htt, ← HZ.out] at hno
          clear he2 he3 hxi hyj htt
          generalize r.getD j 0 = z2 at *
          generalize r.getD t 0 = z3 at *
          by_cases e12 : z = z2
          · subst e12
            have d1 : ((z:Int) == (z3:Int)) = false := beq_eq_false_iff_ne.2 (by omega)
            clear hno
            go_wp2_with fail
            go_quiet (fail)
            go_wp2
            go_roundw
            case rel => exact ⟨y + 1, _, by omega, by omega, by go_num, rfl⟩
            case measure => simp [intOf]; omega
          · have d1 : ((z:Int) == (z2:Int)) = false := beq_eq_false_iff_ne.2 (by omega)
            clear hno e12
            go_wp2_with fail
            go_quiet (fail)
            go_wp2
            go_roundw
            case rel => exact ⟨y + 1, _, by omega, by omega, by go_num, rfl⟩
            case measure => simp [intOf]; omega
        · go_wp2
          go_roundw
          case rel => exact ⟨x + 1, m2, by omega, by omega, by go_num, rfl⟩
          case measure => simp [intOf]; omega
    · have hxn : x = n + 1 := by omega
      have HBa := Lib.hid (below_drewN HB1.out m)
      clear HB1 HCs HNo
      generalize w1.drewN m = wa at *
      go_wp2_with fail
      refine (HWa.out _).mono ?_
      rintro e w2 ⟨ta, tc, rfl, htc, hcw, hb2⟩
      have HCw := Lib.hid hcw
      have HB2 := Lib.hid (HBa.out.trans (hb2.mono HBa.out.size))
      clear hb2 hcw HWa
      go_wp2_with fail
      go_loopw [205] (fun i wr => ∃ a m : Nat, a ≤ n ∧ i = .int .i64 a ∧ wr = w2.drewN m) (fun i _ => n - (intOf i).toNat)
      case atStart => exact ⟨0, 0, Nat.zero_le _, rfl, rfl⟩
      case round =>
        obtain ⟨a, m, han, rfl, rfl⟩ := hrel
        by_cases hlta : a < n
        · obtain ⟨b0, o0, rfl, hc0, _⟩ := HCw.out a hlta
          have hlta2 : (a:Int) < (n:Int) := by omega
          obtain ⟨z0, hz0⟩ : ∃ z, z = r2.getD a 0 := ⟨_, rfl⟩
          rw [← hz0] at hc0
          have HZ := Lib.hid hz0
          clear hz0
          go_wp2_with fail
          go_loopw [17] (fun j wr => ∃ b m : Nat, 1 ≤ b ∧ b ≤ n + 1 ∧ j = .int .i64 b ∧ wr = w2.drewN m) (fun j _ => n + 1 - (intOf j).toNat)
          case atStart => exact ⟨1, m, Nat.le_refl _, by omega, rfl, rfl⟩
          case round =>
            obtain ⟨b, m3, hb1, hbn, rfl, rfl⟩ := hrel
            by_cases hlt2 : a + 2 * b < n
            · obtain ⟨t1, ht1⟩ : ∃ t, t = a + b := ⟨_, rfl⟩
              have htn1 : t1 < n := by omega
              obtain ⟨bb1, oo1, he1, hc1, _⟩ := HCw.out t1 htn1
              obtain ⟨rfl, rfl⟩ : b0 = bb1 ∧ o0 = oo1 := by simp only [Option.some.injEq, Addr.mk.injEq] at he1; exact ⟨he1.1, he1.2.1⟩
              have hti1 : (a:Int) + (b:Int) = (t1:Int) := by omega
              have htl1 : (t1:Int) < (n:Int) := by omega
              obtain ⟨t2, ht2⟩ : ∃ t, t = a + 2 * b := ⟨_, rfl⟩
              have htn2 : t2 < n := by omega
              obtain ⟨bb2, oo2, he2, hc2, _⟩ := HCw.out t2 htn2
              obtain ⟨rfl, rfl⟩ : b0 = bb2 ∧ o0 = oo2 := by simp only [Option.some.injEq, Addr.mk.injEq] at he2; exact ⟨he2.1, he2.2.1⟩
              have hti2 : (a:Int) + 2 * (b:Int) = (t2:Int) := by omega
              have htl2 : (t2:Int) < (n:Int) := by omega
              have hno := HNw.out a b hb1 (by omega)
              rw [← ht1, ← ht2, ← HZ.out] at hno
              clear he1 ht1 he2 ht2
              generalize r2.getD t1 0 = z1 at *
              generalize r2.getD t2 0 = z2 at *
              by_cases e1 : z1 = z0
              · have dz1 : ((z1:Int) == (z0:Int)) = true := beq_iff_eq.2 (by omega)
                have dz2 : ((z2:Int) == (z0:Int)) = false := beq_eq_false_iff_ne.2 (by omega)
                clear hno
                go_wp2_with fail
                go_loopw [18, 220] (fun s i wr => ((i = .int .i64 0 ∧ s = .bool true) ∨ (i = .int .i64 1 ∧ s = .bool true) ∨ (i = .int .i64 2 ∧ s = .bool true) ∨ (i = .int .i64 3 ∧ s = .bool false)) ∧ ∃ m : Nat, wr = w2.drewN m) (fun _ i _ => 3 - (intOf i).toNat)
                case atStart => exact ⟨.inl ⟨rfl, rfl⟩, m3, rfl⟩
                case round =>
                  obtain ⟨hrel, m4, rfl⟩ := hrel
                  rcases hrel with ⟨rfl, rfl⟩ | ⟨rfl, rfl⟩ | ⟨rfl, rfl⟩ | ⟨rfl, rfl⟩
                  · go_wp2_with fail
                    go_quiet (fail)
                    go_wp2
                    go_roundw
                    case rel => exact ⟨.inr (.inl ⟨rfl, rfl⟩), _, rfl⟩
                    case measure => simp [intOf]
                  · go_wp2_with fail
                    go_quiet (fail)
                    go_wp2
                    go_roundw
                    case rel => exact ⟨.inr (.inr (.inl ⟨rfl, rfl⟩)), _, rfl⟩
                    case measure => simp [intOf]
                  · go_wp2_with fail
                    go_quiet (fail)
                    go_wp2
                    go_roundw
                    case rel => exact ⟨.inr (.inr (.inr ⟨rfl, rfl⟩)), _, rfl⟩
                    case measure => simp [intOf]
                  · go_wp2
                    go_roundw
                    case rel => exact ⟨b + 1, m4, by omega, by omega, by go_num, rfl⟩
                    case measure => simp [intOf]; omega
              · have dz1 : ((z1:Int) == (z0:Int)) = false := beq_eq_false_iff_ne.2 (by omega)
                clear hno
                go_wp2_with fail
                go_loopw [18, 220] (fun s i wr => ((i = .int .i64 0 ∧ s = .bool true) ∨ (i = .int .i64 1 ∧ s = .bool true) ∨ (i = .int .i64 2 ∧ s = .bool false) ∨ (i = .int .i64 3 ∧ s = .bool false)) ∧ ∃ m : Nat, wr = w2.drewN m) (fun _ i _ => 3 - (intOf i).toNat)
                case atStart => exact ⟨.inl ⟨rfl, rfl⟩, m3, rfl⟩
                case round =>
                  obtain ⟨hrel, m4, rfl⟩ := hrel
                  rcases hrel with ⟨rfl, rfl⟩ | ⟨rfl, rfl⟩ | ⟨rfl, rfl⟩ | ⟨rfl, rfl⟩
                  · go_wp2_with fail
                    go_quiet (fail)
                    go_wp2
                    go_roundw
                    case rel => exact ⟨.inr (.inl ⟨rfl, rfl⟩), _, rfl⟩
                    case measure => simp [intOf]
                  · go_wp2_with fail
                    go_quiet (fail)
                    go_wp2
                    go_roundw
                    case rel => exact ⟨.inr (.inr (.inl ⟨rfl, rfl⟩)), _, rfl⟩
                    case measure => simp [intOf]
                  · go_wp2_with fail
                    go_quiet (fail)
                    go_wp2
                    go_roundw
                    case rel => exact ⟨.inr (.inr (.inr ⟨rfl, rfl⟩)), _, rfl⟩
                    case measure => simp [intOf]
                  · go_wp2
                    go_roundw
                    case rel => exact ⟨b + 1, m4, by omega, by omega, by go_num, rfl⟩
                    case measure => simp [intOf]; omega
            · go_wp2
              go_roundw
              case rel => exact ⟨a + 1, m3, by omega, by go_num, rfl⟩
              case measure => simp [intOf]; omega
        · obtain rfl : a = n := by omega
          have HB3 := Lib.hid (below_drewN HB2.out m)
          clear HB2 HCw HNw
          generalize w2.drewN m = w3 at *
          go_wp2_with fail
          refine (HAw.out _).mono ?_
          rintro e w9 ⟨rfl, hb9⟩
          have HB9 := Lib.hid (HB3.out.trans (hb9.mono HB3.out.size))
          clear hb9
          go_wp2
          go_ret
          exact ⟨rfl, HB9.out⟩
end Go.Proofs.Ytlalfjkenkmojaa
