/- reason, Solve, Reason: what they end with -/
import Derived.Test.YtdnhfnegnjdeoaaDoorNt
namespace Go.Proofs.YtdnhfnegnjdeoaaDoor
open Go.RowKit

set_option maxRecDepth 100000 in
set_option maxHeartbeats 2000000 in
theorem Solve_bad (N K L M : Int) (w : World) (h : askB N K L M = false) : Calls Tryd.prog 26 #[num4 N K L M] w fun e w' => e = .returned (.tuple #[num4 0 0 0 0, .int .i64 2]) ∧ Below w.heap.size w w' := by
  have b1 := (Below.refl w.heap.size w).alloc (Nat.le_refl _) (.cells #[.int .i64 N, .int .i64 K, .int .i64 L, .int .i64 M] 24)
  have s1 : (w.alloc (.cells #[.int .i64 N, .int .i64 K, .int .i64 L, .int .i64 M] 24)).heap.size = w.heap.size + 1 := World.size_alloc _ _
  have Q1 := Q4.new w 24 N K L M
  have b2 := (Below.refl (w.alloc (.cells #[.int .i64 N, .int .i64 K, .int .i64 L, .int .i64 M] 24)).heap.size (w.alloc (.cells #[.int .i64 N, .int .i64 K, .int .i64 L, .int .i64 M] 24))).alloc (Nat.le_refl _) (.cells #[.int .i64 0, .int .i64 0, .int .i64 0, .int .i64 0] 39)
  have Q2 := Q4.new (w.alloc (.cells #[.int .i64 N, .int .i64 K, .int .i64 L, .int .i64 M] 24)) 39 0 0 0 0
  rw [s1] at Q2
  have Q1' := Q1.below b2
  have HB2 := Lib.hid (b1.trans (b2.mono b1.size))
  have p0 := Q1'.c0
  have p1 := Q1'.c1
  have p2 := Q1'.c2
  have p3 := Q1'.c3
  have HA := Lib.hid (fun w => isAsked_any N K L M w)
  rw [h] at HA
  unfold num4 at HA ⊢
  clear h b1 b2 Q1 Q1' s1
  go_enter Tryd.func26, Tryd.ntmps26
  go_wp2_with fail
  refine (HA.out _).mono ?_
  rintro e w1 ⟨rfl, hb1⟩
  have Q3 := Q2.below hb1
  have HB3 := Lib.hid (HB2.out.trans (hb1.mono HB2.out.size))
  have q0 := Q3.c0
  have q1 := Q3.c1
  have q2 := Q3.c2
  have q3 := Q3.c3
  have f0 := Q3.fr 0
  have f1 := Q3.fr 1
  have f2 := Q3.fr 2
  have f3 := Q3.fr 3
  clear hb1
  go_wp2_with fail
  have hS := Q3.store 0 0 0 0
  have hBS := set4_below HB3.out (A := w.heap.size + 1) (by omega) 0 0 0 0
  simp only [set4] at hS hBS
  refine bodyPost_ret (v := .tuple #[num4 0 0 0 0, .int .i64 2]) ?_ rfl ⟨rfl, hBS⟩
  simp [results, Tryd.f26, go_sem, hS.c0, hS.c1, hS.c2, hS.c3, num4]

set_option maxRecDepth 100000 in
set_option maxHeartbeats 2000000 in
theorem Solve_good (N K L M : Int) (w : World) (h : askB N K L M = true) : Calls Tryd.prog 26 #[num4 N K L M] w (SpecPost w N K L M) := by
  have b1 := (Below.refl w.heap.size w).alloc (Nat.le_refl _) (.cells #[.int .i64 N, .int .i64 K, .int .i64 L, .int .i64 M] 24)
  have s1 : (w.alloc (.cells #[.int .i64 N, .int .i64 K, .int .i64 L, .int .i64 M] 24)).heap.size = w.heap.size + 1 := World.size_alloc _ _
  have Q1 := Q4.new w 24 N K L M
  have b2 := (Below.refl (w.alloc (.cells #[.int .i64 N, .int .i64 K, .int .i64 L, .int .i64 M] 24)).heap.size (w.alloc (.cells #[.int .i64 N, .int .i64 K, .int .i64 L, .int .i64 M] 24))).alloc (Nat.le_refl _) (.cells #[.int .i64 0, .int .i64 0, .int .i64 0, .int .i64 0] 39)
  have Q2 := Q4.new (w.alloc (.cells #[.int .i64 N, .int .i64 K, .int .i64 L, .int .i64 M] 24)) 39 0 0 0 0
  rw [s1] at Q2
  have Q1' := Q1.below b2
  have HB2 := Lib.hid (b1.trans (b2.mono b1.size))
  have p0 := Q1'.c0
  have p1 := Q1'.c1
  have p2 := Q1'.c2
  have p3 := Q1'.c3
  have HA := Lib.hid (fun w => isAsked_any N K L M w)
  have HS := Lib.hid (fun w => spectrum_any N K L M w (ask_of h))
  rw [h] at HA
  unfold num4 at HA ⊢
  unfold SpecPost num4 at HS
  clear h b1 b2 Q1 s1
  go_enter Tryd.func26, Tryd.ntmps26
  go_wp2_with fail
  refine (HA.out _).mono ?_
  rintro e w1 ⟨rfl, hb1⟩
  have Q3 := Q2.below hb1
  have P3 := Q1'.below hb1
  have HB3 := Lib.hid (HB2.out.trans (hb1.mono HB2.out.size))
  have y0 := P3.c0
  have y1 := P3.c1
  have y2 := P3.c2
  have y3 := P3.c3
  clear hb1 P3
  go_wp2_with fail
  refine (HS.out _).mono ?_
  rintro e w2 ⟨hc, hb2⟩
  have Q5 := Q3.below hb2
  have HB5 := Lib.hid (HB3.out.trans (hb2.mono HB3.out.size))
  have q0 := Q5.c0
  have q1 := Q5.c1
  have q2 := Q5.c2
  have q3 := Q5.c3
  have f0 := Q5.fr 0
  have f1 := Q5.fr 1
  have f2 := Q5.fr 2
  have f3 := Q5.fr 3
  clear hb2 y0 y1 y2 y3
  rcases hc with (rfl | rfl) | ⟨R, S, F, G, hok, rfl⟩
  · go_wp2_with fail
    have hS := Q5.store 0 0 0 0
    have hBS := set4_below HB5.out (A := w.heap.size + 1) (by omega) 0 0 0 0
    simp only [set4] at hS hBS
    refine bodyPost_ret (v := .tuple #[num4 0 0 0 0, .int .i64 5]) ?_ rfl ⟨.inl (.inl rfl), hBS⟩
    simp [results, Tryd.f26, go_sem, hS.c0, hS.c1, hS.c2, hS.c3, num4]
  · go_wp2_with fail
    have hS := Q5.store 0 0 0 0
    have hBS := set4_below HB5.out (A := w.heap.size + 1) (by omega) 0 0 0 0
    simp only [set4] at hS hBS
    refine bodyPost_ret (v := .tuple #[num4 0 0 0 0, .int .i64 4]) ?_ rfl ⟨.inl (.inr rfl), hBS⟩
    simp [results, Tryd.f26, go_sem, hS.c0, hS.c1, hS.c2, hS.c3, num4]
  · have HOK := Lib.hid hok
    clear hok
    go_wp2_with fail
    have hS := Q5.store R S F G
    have hBS := set4_below HB5.out (A := w.heap.size + 1) (by omega) R S F G
    simp only [set4] at hS hBS
    refine bodyPost_ret (v := .tuple #[num4 R S F G, .int .i64 0]) ?_ rfl ⟨.inr ⟨_, _, _, _, HOK.out, rfl⟩, hBS⟩
    simp [results, Tryd.f26, go_sem, hS.c0, hS.c1, hS.c2, hS.c3, num4]
end Go.Proofs.YtdnhfnegnjdeoaaDoor
