/- CapsLimits: the walk, none ok4 -/
import Derived.Test.YtlalfjkenkmojaaLx
namespace Go.Proofs.Ytlalfjkenkmojaa
open Go.RowKit

set_option maxHeartbeats 4000000 in
set_option maxRecDepth 100000 in
theorem limits_none_ok4 (n c : Nat) (w : World) (h1 : 1 ≤ n) (h2 : n ≤ 40) (h3 : 1 ≤ c) (h4 : c ≤ 3) (hS : limS c < n) (h5 : c = 3 → n ≤ 27) (hW : n ≤ limV c) :
    Calls Try.prog 15 #[.int .i64 n, .int .i64 c, .int .i64 4] w fun e w' => e = .returned (.bool true) ∧ Below w.heap.size w w' := by
  have HAw := Lib.hid (fun w => awake_any w)
  have hixS := fun w => tabS c h3 h4 w
  have HSc := Lib.hid (schur_none n c w h1 h2 h3 h4 hS)
  generalize limS c = S at *
  obtain ⟨r2, hno2, hwa⟩ := wa4_ok n c h1 h2 h3 h4 h5 hW
  have HNw := Lib.hid hno2
  have HWa := Lib.hid hwa
  clear hno2 hwa
  have hixW := fun w => tabW c h3 h4 w
  have hixV := fun w => tabV c h3 h4 w
  generalize limV c = V at *
  generalize limW c = W at *
  clear h5
  go_enter Try.func15, Try.ntmps15
  go_wp2_with fail
  refine HSc.out.mono ?_
  rintro e w1 ⟨sa, sc, rfl, hb1⟩
  have HB1 := Lib.hid hb1
  clear hb1 HSc
  go_wp2_with fail
  go_loopw [11] (fun i wr => i = .int .i64 1 ∧ wr = w1) (fun _ _ => 0)
  case atStart => exact ⟨rfl, rfl⟩
  case round =>
    obtain ⟨rfl, rfl⟩ := hrel
    have HBa := HB1
    clear HB1
    go_wp2_with fail
    refine (HWa.out _).mono ?_
    rintro e w2 ⟨ta, tc, rfl, htc, hcw, hb2⟩
    have HCw := Lib.hid hcw
    have HB2 := Lib.hid (HBa.out.trans (hb2.mono HBa.out.size))
    clear hb2 hcw HWa
    go_wp2_with fail
    go_loopw [205] (fun i wr => ∃ a m : Nat, a ≤ n ∧ i = .int .i64 a ∧ wr = w2.drewN m) (fun i _ => n - (intOf i).toNat)
    case atStart => exact ⟨0, 0, Nat.zero_le _, rfl, rfl⟩
    case round =>
      obtain ⟨a, m, han, rfl, rfl⟩ := hrel
      by_cases hlta : a < n
      · obtain ⟨b0, o0, rfl, hc0, _⟩ := HCw.out a hlta
        have hlta2 : (a:Int) < (n:Int) := by omega
        obtain ⟨z0, hz0⟩ : ∃ z, z = r2.getD a 0 := ⟨_, rfl⟩
        rw [← hz0] at hc0
        have HZ := Lib.hid hz0
        clear hz0
        go_wp2_with fail
        go_loopw [17] (fun j wr => ∃ b m : Nat, 1 ≤ b ∧ b ≤ n + 1 ∧ j = .int .i64 b ∧ wr = w2.drewN m) (fun j _ => n + 1 - (intOf j).toNat)
        case atStart => exact ⟨1, m, Nat.le_refl _, by omega, rfl, rfl⟩
        case round =>
          obtain ⟨b, m3, hb1, hbn, rfl, rfl⟩ := hrel
          by_cases hlt2 : a + 3 * b < n
          · obtain ⟨t1, ht1⟩ : ∃ t, t = a + b := ⟨_, rfl⟩
            have htn1 : t1 < n := by omega
            obtain ⟨bb1, oo1, he1, hc1, _⟩ := HCw.out t1 htn1
            obtain ⟨rfl, rfl⟩ : b0 = bb1 ∧ o0 = oo1 := by simp only [Option.some.injEq, Addr.mk.injEq] at he1; exact ⟨he1.1, he1.2.1⟩
            have hti1 : (a:Int) + (b:Int) = (t1:Int) := by omega
            have htl1 : (t1:Int) < (n:Int) := by omega
            obtain ⟨t2, ht2⟩ : ∃ t, t = a + 2 * b := ⟨_, rfl⟩
            have htn2 : t2 < n := by omega
            obtain ⟨bb2, oo2, he2, hc2, _⟩ := HCw.out t2 htn2
            obtain ⟨rfl, rfl⟩ : b0 = bb2 ∧ o0 = oo2 := by simp only [Option.some.injEq, Addr.mk.injEq] at he2; exact ⟨he2.1, he2.2.1⟩
            have hti2 : (a:Int) + 2 * (b:Int) = (t2:Int) := by omega
            have htl2 : (t2:Int) < (n:Int) := by omega
            obtain ⟨t3, ht3⟩ : ∃ t, t = a + 3 * b := ⟨_, rfl⟩
            have htn3 : t3 < n := by omega
            obtain ⟨bb3, oo3, he3, hc3, _⟩ := HCw.out t3 htn3
            obtain ⟨rfl, rfl⟩ : b0 = bb3 ∧ o0 = oo3 := by simp only [Option.some.injEq, Addr.mk.injEq] at he3; exact ⟨he3.1, he3.2.1⟩
            have hti3 : (a:Int) + 3 * (b:Int) = (t3:Int) := by omega
            have htl3 : (t3:Int) < (n:Int) := by omega
            have hno := HNw.out a b hb1 (by omega)
            rw [← ht1, ← ht2, ← ht3, ← HZ.out] at hno
            clear he1 ht1 he2 ht2 he3 ht3
            generalize r2.getD t1 0 = z1 at *
            generalize r2.getD t2 0 = z2 at *
            generalize r2.getD t3 0 = z3 at *
            by_cases e1 : z1 = z0
            · by_cases e2 : z2 = z0
              · have dz1 : ((z1:Int) == (z0:Int)) = true := beq_iff_eq.2 (by omega)
                have dz2 : ((z2:Int) == (z0:Int)) = true := beq_iff_eq.2 (by omega)
                have dz3 : ((z3:Int) == (z0:Int)) = false := beq_eq_false_iff_ne.2 (by omega)
                clear hno
                go_wp2_with fail
                go_loopw [18, 220] (fun s i wr => ((i = .int .i64 0 ∧ s = .bool true) ∨ (i = .int .i64 1 ∧ s = .bool true) ∨ (i = .int .i64 2 ∧ s = .bool true) ∨ (i = .int .i64 3 ∧ s = .bool true) ∨ (i = .int .i64 4 ∧ s = .bool false)) ∧ ∃ m : Nat, wr = w2.drewN m) (fun _ i _ => 4 - (intOf i).toNat)
                case atStart => exact ⟨.inl ⟨rfl, rfl⟩, m3, rfl⟩
                case round =>
                  obtain ⟨hrel, m4, rfl⟩ := hrel
                  rcases hrel with ⟨rfl, rfl⟩ | ⟨rfl, rfl⟩ | ⟨rfl, rfl⟩ | ⟨rfl, rfl⟩ | ⟨rfl, rfl⟩
                  · go_wp2_with fail
                    go_quiet (fail)
                    go_wp2
                    go_roundw
                    case rel => exact ⟨.inr (.inl ⟨rfl, rfl⟩), _, rfl⟩
                    case measure => simp [intOf]
                  · go_wp2_with fail
                    go_quiet (fail)
                    go_wp2
                    go_roundw
                    case rel => exact ⟨.inr (.inr (.inl ⟨rfl, rfl⟩)), _, rfl⟩
                    case measure => simp [intOf]
                  · go_wp2_with fail
                    go_quiet (fail)
                    go_wp2
                    go_roundw
                    case rel => exact ⟨.inr (.inr (.inr (.inl ⟨rfl, rfl⟩))), _, rfl⟩
                    case measure => simp [intOf]
                  · go_wp2_with fail
                    go_quiet (fail)
                    go_wp2
                    go_roundw
                    case rel => exact ⟨.inr (.inr (.inr (.inr ⟨rfl, rfl⟩))), _, rfl⟩
                    case measure => simp [intOf]
                  · go_wp2
                    go_roundw
                    case rel => exact ⟨b + 1, m4, by omega, by omega, by go_num, rfl⟩
                    case measure => simp [intOf]; omega
              · have dz1 : ((z1:Int) == (z0:Int)) = true := beq_iff_eq.2 (by omega)
                have dz2 : ((z2:Int) == (z0:Int)) = false := beq_eq_false_iff_ne.2 (by omega)
                clear hno
                go_wp2_with fail
                go_loopw [18, 220] (fun s i wr => ((i = .int .i64 0 ∧ s = .bool true) ∨ (i = .int .i64 1 ∧ s = .bool true) ∨ (i = .int .i64 2 ∧ s = .bool true) ∨ (i = .int .i64 3 ∧ s = .bool false) ∨ (i = .int .i64 4 ∧ s = .bool false)) ∧ ∃ m : Nat, wr = w2.drewN m) (fun _ i _ => 4 - (intOf i).toNat)
                case atStart => exact ⟨.inl ⟨rfl, rfl⟩, m3, rfl⟩
                case round =>
                  obtain ⟨hrel, m4, rfl⟩ := hrel
                  rcases hrel with ⟨rfl, rfl⟩ | ⟨rfl, rfl⟩ | ⟨rfl, rfl⟩ | ⟨rfl, rfl⟩ | ⟨rfl, rfl⟩
                  · go_wp2_with fail
                    go_quiet (fail)
                    go_wp2
                    go_roundw
                    case rel => exact ⟨.inr (.inl ⟨rfl, rfl⟩), _, rfl⟩
                    case measure => simp [intOf]
                  · go_wp2_with fail
                    go_quiet (fail)
                    go_wp2
                    go_roundw
                    case rel => exact ⟨.inr (.inr (.inl ⟨rfl, rfl⟩)), _, rfl⟩
                    case measure => simp [intOf]
                  · go_wp2_with fail
                    go_quiet (fail)
                    go_wp2
                    go_roundw
                    case rel => exact ⟨.inr (.inr (.inr (.inl ⟨rfl, rfl⟩))), _, rfl⟩
                    case measure => simp [intOf]
                  · go_wp2_with fail
                    go_quiet (fail)
                    go_wp2
                    go_roundw
                    case rel => exact ⟨.inr (.inr (.inr (.inr ⟨rfl, rfl⟩))), _, rfl⟩
                    case measure => simp [intOf]
                  · go_wp2
                    go_roundw
                    case rel => exact ⟨b + 1, m4, by omega, by omega, by go_num, rfl⟩
                    case measure => simp [intOf]; omega
            · have dz1 : ((z1:Int) == (z0:Int)) = false := beq_eq_false_iff_ne.2 (by omega)
              clear hno
              go_wp2_with fail
              go_loopw [18, 220] (fun s i wr => ((i = .int .i64 0 ∧ s = .bool true) ∨ (i = .int .i64 1 ∧ s = .bool true) ∨ (i = .int .i64 2 ∧ s = .bool false) ∨ (i = .int .i64 3 ∧ s = .bool false) ∨ (i = .int .i64 4 ∧ s = .bool false)) ∧ ∃ m : Nat, wr = w2.drewN m) (fun _ i _ => 4 - (intOf i).toNat)
              case atStart => exact ⟨.inl ⟨rfl, rfl⟩, m3, rfl⟩
              case round =>
                obtain ⟨hrel, m4, rfl⟩ := hrel
                rcases hrel with ⟨rfl, rfl⟩ | ⟨rfl, rfl⟩ | ⟨rfl, rfl⟩ | ⟨rfl, rfl⟩ | ⟨rfl, rfl⟩
                · go_wp2_with fail
                  go_quiet (fail)
                  go_wp2
                  go_roundw
                  case rel => exact ⟨.inr (.inl ⟨rfl, rfl⟩), _, rfl⟩
                  case measure => simp [intOf]
                · go_wp2_with fail
                  go_quiet (fail)
                  go_wp2
                  go_roundw
                  case rel => exact ⟨.inr (.inr (.inl ⟨rfl, rfl⟩)), _, rfl⟩
                  case measure => simp [intOf]
                · go_wp2_with fail
                  go_quiet (fail)
                  go_wp2
                  go_roundw
                  case rel => exact ⟨.inr (.inr (.inr (.inl ⟨rfl, rfl⟩))), _, rfl⟩
                  case measure => simp [intOf]
                · go_wp2_with fail
                  go_quiet (fail)
                  go_wp2
                  go_roundw
                  case rel => exact ⟨.inr (.inr (.inr (.inr ⟨rfl, rfl⟩))), _, rfl⟩
                  case measure => simp [intOf]
                · go_wp2
                  go_roundw
                  case rel => exact ⟨b + 1, m4, by omega, by omega, by go_num, rfl⟩
                  case measure => simp [intOf]; omega
          · go_wp2
            go_roundw
            case rel => exact ⟨a + 1, m3, by omega, by go_num, rfl⟩
            case measure => simp [intOf]; omega
      · obtain rfl : a = n := by omega
        have HB3 := Lib.hid (below_drewN HB2.out m)
        clear HB2 HCw HNw
        generalize w2.drewN m = w3 at *
        go_wp2_with fail
        refine (HAw.out _).mono ?_
        rintro e w9 ⟨rfl, hb9⟩
        have HB9 := Lib.hid (HB3.out.trans (hb9.mono HB3.out.size))
        clear hb9
        go_wp2
        go_ret
        exact ⟨rfl, HB9.out⟩
end Go.Proofs.Ytlalfjkenkmojaa
