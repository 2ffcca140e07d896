/- the reference's roots, squares and Solve -/
import Derived.Test.YtdnhfnegnjdeoaaDoorXc
namespace Go.Proofs.YtdnhfnegnjdeoaaDoor
open Go.RowKit

def RootsV (K L M : Int) (e : Ending) : Prop :=
  ((¬ ∃ R S, RootP K L M R S) ∧ e = .returned (.tuple #[.int .i64 0, .int .i64 0, .bool false])) ∨ ∃ R S, RootP K L M R S ∧ e = .returned (.tuple #[.int .i64 R, .int .i64 S, .bool true])

set_option maxRecDepth 100000 in
set_option maxHeartbeats 2000000 in
theorem roots_exact (N K L M : Int) (w : World) (h : AskN N K L M) :
    Calls Tryd.prog 70 #[num4 N K L M] w fun e w' => RootsV K L M e ∧ Below w.heap.size w w' := by
  have hQ := Q4.new w 32 N K L M
  have HB := Lib.hid ((Below.refl w.heap.size w).alloc (Nat.le_refl _) (.cells #[.int .i64 N, .int .i64 K, .int .i64 L, .int .i64 M] 32))
  have HAsk := Lib.hid h
  obtain ⟨n4, n100, k1, kn, l0, lk, m0, mk⟩ := h
  unfold num4
  have q0 := hQ.c0
  have q1 := hQ.c1
  have q2 := hQ.c2
  have q3 := hQ.c3
  clear hQ
  go_enter Tryd.func70, Tryd.ntmps70
  go_wp2
  generalize w.alloc (.cells #[.int .i64 N, .int .i64 K, .int .i64 L, .int .i64 M] 32) = W at *
  go_loopw [5] (fun i wr => ∃ r : Int, -100 ≤ r ∧ r ≤ 101 ∧ i = .int .i64 r ∧ Hid (∀ j : Int, -100 ≤ j → j < r → ¬ RootP K L M j (L - M - j)) ∧ wr = W) (fun i _ => (300 - intOf i).toNat)
  case atStart => exact ⟨-100, by omega, by omega, rfl, Lib.hid fun j a b => absurd a (by omega), rfl⟩
  case round =>
    obtain ⟨r, hr1, hr2, rfl, HJ, rfl⟩ := hrel
    by_cases hr : r ≤ 100
    · have hb := mul_bd (x := r) (y := L - M - r) (A := 100) (B := 300) (by omega) (by omega)
      by_cases c1 : L - M - r ≤ r
      · by_cases c2 : r * (L - M - r) = M - K
        · have c2' : (r * (L - M - r) == M - K) = true := by simp [c2]
          have HR : Hid (RootP K L M r (L - M - r)) := Lib.hid ⟨c1, by omega, c2⟩
          clear c2
          go_wp2
          refine bodyPost_ret (v := .tuple #[.int .i64 r, .int .i64 (L - M - r), .bool true]) ?_ rfl ⟨.inr ⟨_, _, HR.out, rfl⟩, HB.out⟩
          simp [results, Tryd.f70, go_sem]
        · have c2' : (r * (L - M - r) == M - K) = false := by simp [c2]
          have HJ2 : Hid (∀ j : Int, -100 ≤ j → j < r + 1 → ¬ RootP K L M j (L - M - j)) := Lib.hid fun j a b hj => by
            by_cases e : j = r
            · subst e; exact c2 hj.prod
            · exact HJ.out j a (by omega) hj
          clear c2
          go_wp2
          go_roundw
          case rel => exact ⟨r + 1, by omega, by omega, by go_num, HJ2, trivial⟩
          case measure => simp [intOf]; omega
      · have HJ2 : Hid (∀ j : Int, -100 ≤ j → j < r + 1 → ¬ RootP K L M j (L - M - j)) := Lib.hid fun j a b hj => by
          by_cases e : j = r
          · subst e; exact c1 hj.le
          · exact HJ.out j a (by omega) hj
        go_wp2
        go_roundw
        case rel => exact ⟨r + 1, by omega, by omega, by go_num, HJ2, trivial⟩
        case measure => simp [intOf]; omega
    · have HN : Hid (¬ ∃ R S, RootP K L M R S) := Lib.hid fun ⟨R, S, hRS⟩ => by
        have ha := hRS.ask HAsk.out
        have hs := hRS.sum
        obtain rfl : S = L - M - R := by omega
        exact HJ.out R (by omega) (by omega) hRS
      go_wp2
      refine bodyPost_ret (v := .tuple #[.int .i64 0, .int .i64 0, .bool false]) ?_ rfl ⟨.inl ⟨HN.out, rfl⟩, HB.out⟩
      simp [results, Tryd.f70, go_sem]

set_option maxRecDepth 100000 in
set_option maxHeartbeats 2000000 in
theorem squares_exact (n : Nat) (w : World) (h4 : 4 ≤ n) (hn : n ≤ 100) :
    Calls Tryd.prog 71 #[.int .i64 n] w fun e w' => e = .returned (.bool (twoB n)) ∧ w = w' := by
  have HT : Hid (∀ a b : Nat, a ≤ n → b ≤ n → (a:Int) * (a:Int) + (b:Int) * (b:Int) = n → twoB n = true) := Lib.hid fun a b ha hb e => by
    have h1 : 0 ≤ (a:Int) * (a:Int) := Int.mul_nonneg (by omega) (by omega)
    have h2 : 0 ≤ (b:Int) * (b:Int) := Int.mul_nonneg (by omega) (by omega)
    exact twoB_true (by have := sq_lt11 (r := a) (by omega); omega) (by have := sq_lt11 (r := b) (by omega); omega) e
  have HF : Hid ((∀ a b : Nat, a < n + 1 → b < a + 1 → (a:Int) * (a:Int) + (b:Int) * (b:Int) ≠ n) → twoB n = false) := Lib.hid fun hall => twoB_false fun a b ha hb e => by
    have h1 : (a:Int) ≤ (a:Int) * (a:Int) := by
      rcases Nat.eq_zero_or_pos a with h | h
      · subst h; simp
      · have := Int.mul_le_mul_of_nonneg_left (show (1:Int) ≤ a by omega) (show (0:Int) ≤ a by omega)
        omega
    have h2 : (b:Int) ≤ (b:Int) * (b:Int) := by
      rcases Nat.eq_zero_or_pos b with h | h
      · subst h; simp
      · have := Int.mul_le_mul_of_nonneg_left (show (1:Int) ≤ b by omega) (show (0:Int) ≤ b by omega)
        omega
    rcases Nat.lt_or_ge b (a + 1) with hab | hab
    · exact hall a b (by omega) hab e
    · exact hall b a (by omega) (by omega) (by omega)
  go_enter Tryd.func71, Tryd.ntmps71
  go_wp2
  go_loop [7] (fun i => ∃ a : Nat, a ≤ n + 1 ∧ i = .int .i64 a ∧ Hid (∀ x b : Nat, x < a → b < x + 1 → (x:Int) * (x:Int) + (b:Int) * (b:Int) ≠ n)) (fun i => 200 - (intOf i).toNat)
  case atStart => exact ⟨0, Nat.zero_le _, rfl, Lib.hid fun x b hx _ => absurd hx (Nat.not_lt_zero x)⟩
  case round =>
    obtain ⟨a, ha, rfl, HJ⟩ := hrel
    by_cases hlt : a < n + 1
    · have hba := mul_bd (x := (a:Int)) (y := (a:Int)) (A := 100) (B := 100) (by omega) (by omega)
      go_wp2
      go_loop [12] (fun i => ∃ b : Nat, b ≤ a + 1 ∧ i = .int .i64 b ∧ Hid (∀ y : Nat, y < b → (a:Int) * (a:Int) + (y:Int) * (y:Int) ≠ n)) (fun i => 200 - (intOf i).toNat)
      case atStart => exact ⟨0, Nat.zero_le _, rfl, Lib.hid fun y hy => absurd hy (Nat.not_lt_zero y)⟩
      case round =>
        obtain ⟨b, hb, rfl, HI⟩ := hrel
        by_cases hlb : b < a + 1
        · have hbb := mul_bd (x := (b:Int)) (y := (b:Int)) (A := 100) (B := 100) (by omega) (by omega)
          by_cases he : (a:Int) * (a:Int) + (b:Int) * (b:Int) = n
          · have he' : ((a:Int) * (a:Int) + (b:Int) * (b:Int) == n) = true := by simp [he]
            have HTT := Lib.hid (HT.out a b (by omega) (by omega) he)
            clear he
            go_wp2
            go_ret
            exact ⟨ret_bool HTT.out.symm, rfl⟩
          · have he' : ((a:Int) * (a:Int) + (b:Int) * (b:Int) == n) = false := by simp [he]
            have HI2 : Hid (∀ y : Nat, y < b + 1 → (a:Int) * (a:Int) + (y:Int) * (y:Int) ≠ n) := Lib.hid fun y hy => by
              by_cases e : y = b
              · subst e; exact he
              · exact HI.out y (by omega)
            clear he
            go_wp2
            go_round
            case rel => exact ⟨b + 1, by omega, by go_num, HI2⟩
            case measure => simp [intOf]; omega
        · obtain rfl : b = a + 1 := by omega
          have HJ2 : Hid (∀ x b : Nat, x < a + 1 → b < x + 1 → (x:Int) * (x:Int) + (b:Int) * (b:Int) ≠ n) := Lib.hid fun x y hx hy => by
            by_cases e : x = a
            · rw [e] at hy ⊢; exact HI.out y hy
            · exact HJ.out x y (by omega) hy
          go_wp2
          go_round
          case rel => exact ⟨a + 1, by omega, by go_num, HJ2⟩
          case measure => simp [intOf]; omega
    · obtain rfl : a = n + 1 := by omega
      have HFF := Lib.hid (HF.out HJ.out)
      go_wp2
      go_ret
      exact ⟨ret_bool HFF.out.symm, rfl⟩

set_option maxRecDepth 100000 in
set_option maxHeartbeats 2000000 in
theorem rSolve_exact (N K L M : Int) (w : World) (h : AskN N K L M) : Calls Tryd.prog 30 #[num4 N K L M] w (SolPost w N K L M) := by
  have b1 := (Below.refl w.heap.size w).alloc (Nat.le_refl _) (.cells #[.int .i64 N, .int .i64 K, .int .i64 L, .int .i64 M] 32)
  have s1 : (w.alloc (.cells #[.int .i64 N, .int .i64 K, .int .i64 L, .int .i64 M] 32)).heap.size = w.heap.size + 1 := World.size_alloc _ _
  have Q1 := Q4.new w 32 N K L M
  have b2 := (Below.refl (w.alloc (.cells #[.int .i64 N, .int .i64 K, .int .i64 L, .int .i64 M] 32)).heap.size (w.alloc (.cells #[.int .i64 N, .int .i64 K, .int .i64 L, .int .i64 M] 32))).alloc (Nat.le_refl _) (.cells #[.int .i64 0, .int .i64 0, .int .i64 0, .int .i64 0] 46)
  have Q2 := Q4.new (w.alloc (.cells #[.int .i64 N, .int .i64 K, .int .i64 L, .int .i64 M] 32)) 46 0 0 0 0
  rw [s1] at Q2
  have Q1' := Q1.below b2
  have HB2 := Lib.hid (b1.trans (b2.mono b1.size))
  have p0 := Q1'.c0
  have p1 := Q1'.c1
  have p2 := Q1'.c2
  have p3 := Q1'.c3
  have HAsk := Lib.hid h
  have HR := Lib.hid (fun w => roots_exact N K L M w h)
  obtain ⟨n4, n100, k1, kn, l0, lk, m0, mk⟩ := h
  unfold num4 at HR ⊢
  clear b1 b2 Q1 s1
  go_enter Tryd.func30, Tryd.ntmps30
  go_wp2_with fail
  refine (HR.out _).mono ?_
  rintro e w1 ⟨hr, hb1⟩
  have Q3 := Q2.below hb1
  have P3 := Q1'.below hb1
  have HB3 := Lib.hid (HB2.out.trans (hb1.mono HB2.out.size))
  clear hb1 p0 p1 p2 p3 Q2 Q1' HR HB2
  have q0 := Q3.c0
  have q1 := Q3.c1
  have q2 := Q3.c2
  have q3 := Q3.c3
  have f0 := Q3.fr 0
  have f1 := Q3.fr 1
  have f2 := Q3.fr 2
  have f3 := Q3.fr 3
  have y0 := P3.c0
  have y1 := P3.c1
  have y2 := P3.c2
  have y3 := P3.c3
  rcases hr with ⟨hno, rfl⟩ | ⟨R, S, hRS, rfl⟩
  · have HNo := Lib.hid hno
    clear hno
    go_wp2_with fail
    have hS := Q3.store 0 0 0 0
    have hBS := set4_below HB3.out (A := w.heap.size + 1) (by omega) 0 0 0 0
    simp only [set4] at hS hBS
    refine bodyPost_ret (v := .tuple #[num4 0 0 0 0, .int .i64 5]) ?_ rfl ⟨⟨_, _, .inl ⟨HNo.out, rfl, rfl⟩, rfl⟩, hBS⟩
    simp [results, Tryd.f30, go_sem, hS.c0, hS.c1, hS.c2, hS.c3, num4]
  · have HRS := Lib.hid hRS
    obtain ⟨a1, a2, a3, a4, a5, a6⟩ := hRS.ask HAsk.out
    clear hRS
    obtain ⟨nn, rfl⟩ : ∃ nn : Nat, N = nn := ⟨N.toNat, by omega⟩
    go_wp2_with fail
    go_loopw [20] (fun i wr => ∃ f : Nat, f ≤ nn ∧ i = .int .i64 f ∧ Hid (∀ j : Nat, j < f → ¬ TimesP nn K R S j) ∧ wr = w1) (fun i _ => 200 - (intOf i).toNat)
    case atStart => exact ⟨0, Nat.zero_le _, rfl, Lib.hid fun j hj => absurd hj (Nat.not_lt_zero j), rfl⟩
    case round =>
      obtain ⟨f, hf, rfl, HJ, rfl⟩ := hrel
      by_cases hlt : f < nn
      · have hm1 := mul_bd (x := (f:Int)) (y := R) (A := 100) (B := 100) (by omega) (by omega)
        have hm2 := mul_bd (x := (nn:Int) - 1 - f) (y := S) (A := 100) (B := 100) (by omega) (by omega)
        by_cases he : K + (f:Int) * R + ((nn:Int) - 1 - f) * S = 0
        · have he' : (K + (f:Int) * R + ((nn:Int) - 1 - f) * S == 0) = true := by simp [he]
          have HT : Hid (TimesP nn K R S f) := Lib.hid (by unfold TimesP; grind)
          clear he
          go_wp2_with fail
          have hS := Q3.store R S f ((nn:Int) - 1 - f)
          have hBS := set4_below HB3.out (A := w.heap.size + 1) (by omega) R S f ((nn:Int) - 1 - f)
          simp only [set4] at hS hBS
          refine bodyPost_ret (v := .tuple #[num4 R S f ((nn:Int) - 1 - f), .int .i64 0]) ?_ rfl ⟨⟨_, _, .inr (.inr ⟨R, S, f, HRS.out, HT.out, rfl, rfl⟩), rfl⟩, hBS⟩
          simp [results, Tryd.f30, go_sem, hS.c0, hS.c1, hS.c2, hS.c3, num4]
        · have he' : (K + (f:Int) * R + ((nn:Int) - 1 - f) * S == 0) = false := by simp [he]
          have HJ2 : Hid (∀ j : Nat, j < f + 1 → ¬ TimesP nn K R S j) := Lib.hid fun j hj ht => by
            by_cases e : j = f
            · subst e
              refine he ?_
              unfold TimesP at ht
              grind
            · exact HJ.out j (by omega) ht
          clear he
          go_wp2_with fail
          go_roundw
          case rel => exact ⟨f + 1, by omega, by go_num, HJ2, trivial⟩
          case measure => simp [intOf]; omega
      · obtain rfl : f = nn := by omega
        have HNo : Hid (¬ ∃ F, TimesP f K R S F) := Lib.hid fun ⟨F, hF⟩ => by
          have h1 := hF.pos HRS.out HAsk.out
          obtain ⟨F', rfl⟩ : ∃ F' : Nat, F = F' := ⟨F.toNat, by omega⟩
          exact HJ.out F' (by omega) hF
        go_wp2_with fail
        have hS := Q3.store 0 0 0 0
        have hBS := set4_below HB3.out (A := w.heap.size + 1) (by omega) 0 0 0 0
        simp only [set4] at hS hBS
        refine bodyPost_ret (v := .tuple #[num4 0 0 0 0, .int .i64 4]) ?_ rfl ⟨⟨_, _, .inr (.inl ⟨R, S, HRS.out, HNo.out, rfl, rfl⟩), rfl⟩, hBS⟩
        simp [results, Tryd.f30, go_sem, hS.c0, hS.c1, hS.c2, hS.c3, num4]
end Go.Proofs.YtdnhfnegnjdeoaaDoor
