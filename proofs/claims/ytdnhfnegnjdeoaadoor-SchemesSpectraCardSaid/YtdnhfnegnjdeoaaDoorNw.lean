/- SchemesSpectra: the walk -/
import Derived.Test.YtdnhfnegnjdeoaaDoorNv
namespace Go.Proofs.YtdnhfnegnjdeoaaDoor
open Go.RowKit

set_option maxRecDepth 100000 in
set_option maxHeartbeats 2000000 in
theorem spectra_bad (N K L M : Int) (w : World) (hT : Tab w) (h : askB N K L M = false) : Calls Tryd.prog 12 #[num4 N K L M] w fun e w' => e = .returned (.bool true) ∧ Below w.heap.size w w' := by
  have HAw := Lib.hid (fun w' (hb : Below w.heap.size w w') => awake_any w' (tab_below hT hb))
  have b1 := (Below.refl w.heap.size w).alloc (Nat.le_refl _) (.cells #[.int .i64 N, .int .i64 K, .int .i64 L, .int .i64 M] 32)
  have Q1 := Q4.new w 32 N K L M
  have HB1 := Lib.hid b1
  have p0 := Q1.c0
  have p1 := Q1.c1
  have p2 := Q1.c2
  have p3 := Q1.c3
  have HOf := Lib.hid (fun w => of_any N K L M w)
  have HSv := Lib.hid (fun w => Solve_bad N K L M w h)
  have HRs := Lib.hid (fun w => Reason_any N K L M w)
  rw [h] at HRs
  unfold num4 at HOf HSv HRs ⊢
  clear b1 h hT
  go_enter Tryd.func12, Tryd.ntmps12
  go_wp2_with fail
  refine (HOf.out _).mono ?_
  rintro e w2 ⟨rfl, hb⟩
  have P2 := Q1.below hb
  have HB2 := Lib.hid (HB1.out.trans (hb.mono HB1.out.size))
  clear hb p0 p1 p2 p3 Q1
  go_wp2_with fail
  refine (HSv.out _).mono ?_
  rintro e w3 ⟨rfl, hb⟩
  have P3 := P2.below hb
  have HB3 := Lib.hid (HB2.out.trans (hb.mono HB2.out.size))
  have hb4 := (Below.refl w3.heap.size w3).alloc (Nat.le_refl _) (.cells #[.int .i64 0, .int .i64 0, .int .i64 0, .int .i64 0] 39)
  have P4 := P3.below hb4
  have HB4 := Lib.hid (HB3.out.trans (hb4.mono HB3.out.size))
  have y0 := P4.c0
  have y1 := P4.c1
  have y2 := P4.c2
  have y3 := P4.c3
  clear hb P2 P3 hb4
  go_wp2_with fail
  refine (HOf.out _).mono ?_
  rintro e w5 ⟨rfl, hb⟩
  have HB5 := Lib.hid (HB4.out.trans (hb.mono HB4.out.size))
  clear hb y0 y1 y2 y3 P4
  go_wp2_with fail
  refine (HRs.out _).mono ?_
  intro e w6 hr
  rw [if_neg (by decide)] at hr
  obtain ⟨rfl, hb⟩ := hr
  have HB6 := Lib.hid (HB5.out.trans (hb.mono HB5.out.size))
  clear hb
  go_wp2_with fail
  refine (HAw.out _ HB6.out).mono ?_
  rintro e w7 ⟨rfl, hb⟩
  have HB7 := Lib.hid (HB6.out.trans (hb.mono HB6.out.size))
  clear hb
  go_wp2_with fail
  go_ret
  exact ⟨rfl, HB7.out⟩

set_option maxRecDepth 100000 in
set_option maxHeartbeats 4000000 in
theorem spectra_good (N K L M : Int) (w : World) (hT : Tab w) (h : askB N K L M = true) : Calls Tryd.prog 12 #[num4 N K L M] w fun e w' => e = .returned (.bool true) ∧ Below w.heap.size w w' := by
  have HAw := Lib.hid (fun w' (hb : Below w.heap.size w w') => awake_any w' (tab_below hT hb))
  have b1 := (Below.refl w.heap.size w).alloc (Nat.le_refl _) (.cells #[.int .i64 N, .int .i64 K, .int .i64 L, .int .i64 M] 32)
  have Q1 := Q4.new w 32 N K L M
  have HB1 := Lib.hid b1
  have p0 := Q1.c0
  have p1 := Q1.c1
  have p2 := Q1.c2
  have p3 := Q1.c3
  have HOf := Lib.hid (fun w => of_any N K L M w)
  have HSv := Lib.hid (fun w => Solve_good N K L M w h)
  have HRs := Lib.hid (fun w => Reason_any N K L M w)
  have HAs := Lib.hid (fun w => rAsked_any N K L M w)
  have hA := ask_of h
  rw [h] at HRs HAs
  unfold num4 at HOf HRs HAs ⊢
  unfold num4 SpecPost num4 at HSv
  clear b1 h hT
  obtain ⟨n4, n100, k1, kn, l0, lk, m0, mk⟩ := hA
  go_enter Tryd.func12, Tryd.ntmps12
  go_wp2_with fail
  refine (HOf.out _).mono ?_
  rintro e w2 ⟨rfl, hb⟩
  have P2 := Q1.below hb
  have HB2 := Lib.hid (HB1.out.trans (hb.mono HB1.out.size))
  clear hb p0 p1 p2 p3 Q1
  go_wp2_with fail
  refine (HSv.out _).mono ?_
  rintro e w3 ⟨hc, hb⟩
  have P3 := P2.below hb
  have HB3 := Lib.hid (HB2.out.trans (hb.mono HB2.out.size))
  clear hb P2
  rcases hc with (rfl | rfl) | ⟨R, S, F, G, hok, rfl⟩
  · have hb4 := (Below.refl w3.heap.size w3).alloc (Nat.le_refl _) (.cells #[.int .i64 0, .int .i64 0, .int .i64 0, .int .i64 0] 39)
    have P4 := P3.below hb4
    have HB4 := Lib.hid (HB3.out.trans (hb4.mono HB3.out.size))
    have y0 := P4.c0
    have y1 := P4.c1
    have y2 := P4.c2
    have y3 := P4.c3
    clear P3 hb4
    go_wp2_with fail
    refine (HOf.out _).mono ?_
    rintro e w5 ⟨rfl, hb⟩
    have HB5 := Lib.hid (HB4.out.trans (hb.mono HB4.out.size))
    clear hb y0 y1 y2 y3 P4
    go_wp2_with fail
    refine (HRs.out _).mono ?_
    intro e w6 hr
    replace hr : ReasonPost w5 e w6 := by first | exact hr | simpa using hr
    obtain ⟨hd, hb⟩ := hr
    have HB6 := Lib.hid (HB5.out.trans (hb.mono HB5.out.size))
    clear hb
    rcases hd with rfl | ⟨z, rfl⟩
    all_goals (
      go_wp2_with fail
      refine (HAw.out _ HB6.out).mono ?_
      rintro e w7 ⟨rfl, hb⟩
      have HB7 := Lib.hid (HB6.out.trans (hb.mono HB6.out.size))
      clear hb
      go_wp2_with fail
      go_ret
      exact ⟨rfl, HB7.out⟩)
  · have hb4 := (Below.refl w3.heap.size w3).alloc (Nat.le_refl _) (.cells #[.int .i64 0, .int .i64 0, .int .i64 0, .int .i64 0] 39)
    have P4 := P3.below hb4
    have HB4 := Lib.hid (HB3.out.trans (hb4.mono HB3.out.size))
    have y0 := P4.c0
    have y1 := P4.c1
    have y2 := P4.c2
    have y3 := P4.c3
    clear P3 hb4
    go_wp2_with fail
    refine (HOf.out _).mono ?_
    rintro e w5 ⟨rfl, hb⟩
    have HB5 := Lib.hid (HB4.out.trans (hb.mono HB4.out.size))
    clear hb y0 y1 y2 y3 P4
    go_wp2_with fail
    refine (HRs.out _).mono ?_
    intro e w6 hr
    replace hr : ReasonPost w5 e w6 := by first | exact hr | simpa using hr
    obtain ⟨hd, hb⟩ := hr
    have HB6 := Lib.hid (HB5.out.trans (hb.mono HB5.out.size))
    clear hb
    rcases hd with rfl | ⟨z, rfl⟩
    all_goals (
      go_wp2_with fail
      refine (HAw.out _ HB6.out).mono ?_
      rintro e w7 ⟨rfl, hb⟩
      have HB7 := Lib.hid (HB6.out.trans (hb.mono HB6.out.size))
      clear hb
      go_wp2_with fail
      go_ret
      exact ⟨rfl, HB7.out⟩)
  have hb4 := (Below.refl w3.heap.size w3).alloc (Nat.le_refl _) (.cells #[.int .i64 R, .int .i64 S, .int .i64 F, .int .i64 G] 39)
  have P4 := P3.below hb4
  have Q4' := Q4.new w3 39 R S F G
  have HB4 := Lib.hid (HB3.out.trans (hb4.mono HB3.out.size))
  have y0 := P4.c0
  have y1 := P4.c1
  have y2 := P4.c2
  have y3 := P4.c3
  have hle := hok.le
  have hr1 := hok.r1
  have hr2 := hok.r2
  have hs1 := hok.s1
  have hs2 := hok.s2
  have hf1 := hok.f1
  have hf2 := hok.f2
  have hg1 := hok.g1
  have hg2 := hok.g2
  have c1 : (R + S != L - M) = false := by have := hok.sum; simp [this]
  have c2 : (R * S != M - K) = false := by have := hok.prod; simp [this]
  have c3 : (F + G != N - 1) = false := by have := hok.fg; simp [this]
  have c4 : (K + F * R + G * S != 0) = false := by have := hok.tr; simp [this]
  have HTR := Lib.hid (spec_trace hok)
  have m1 := mul_bd (x := R) (y := S) (A := 200) (B := 200) (by omega) (by omega)
  have m2 := mul_bd (x := F) (y := R) (A := 200) (B := 200) (by omega) (by omega)
  have m3 := mul_bd (x := G) (y := S) (A := 200) (B := 200) (by omega) (by omega)
  have m4 := mul_bd (x := K) (y := K) (A := 200) (B := 200) (by omega) (by omega)
  have m5 := mul_bd (x := F * R) (y := R) (A := 40000) (B := 200) (by omega) (by omega)
  have m6 := mul_bd (x := G * S) (y := S) (A := 40000) (B := 200) (by omega) (by omega)
  have m7 := mul_bd (x := N) (y := K) (A := 200) (B := 200) (by omega) (by omega)
  have m8 := mul_bd (x := K) (y := K - L - 1) (A := 200) (B := 200) (by omega) (by omega)
  have m9 := mul_bd (x := N - K - 1) (y := M) (A := 200) (B := 200) (by omega) (by omega)
  obtain ⟨tb, t1, t2⟩ : ∃ tb, (K * K + F * R * R + G * S * S == N * K) = tb ∧ (K * (K - L - 1) == (N - K - 1) * M) = tb := by
    by_cases e : K * (K - L - 1) = (N - K - 1) * M
    · exact ⟨true, beq_iff_eq.2 (HTR.out.2 e), beq_iff_eq.2 e⟩
    · exact ⟨false, beq_eq_false_iff_ne.2 (fun c => e (HTR.out.1 c)), beq_eq_false_iff_ne.2 e⟩
  clear P3 hb4 hok HTR
  go_wp2_with fail
  refine (HOf.out _).mono ?_
  rintro e w5 ⟨rfl, hb⟩
  have P5 := P4.below hb
  have Q5 := Q4'.below hb
  have HB5 := Lib.hid (HB4.out.trans (hb.mono HB4.out.size))
  clear hb y0 y1 y2 y3 P4 Q4'
  go_wp2_with fail
  refine (HRs.out _).mono ?_
  intro e w6 hr
  replace hr : ReasonPost w5 e w6 := by first | exact hr | simpa using hr
  obtain ⟨hd, hb⟩ := hr
  have P6 := P5.below hb
  have Q6 := Q5.below hb
  have HB6 := Lib.hid (HB5.out.trans (hb.mono HB5.out.size))
  have y0 := P6.c0
  have y1 := P6.c1
  have y2 := P6.c2
  have y3 := P6.c3
  clear hb P5 Q5
  rcases hd with rfl | ⟨z, rfl⟩
  all_goals (
    go_wp2_with fail
    refine (HAs.out _).mono ?_
    rintro e w7 ⟨rfl, hb⟩
    have P7 := P6.below hb
    have Q7 := Q6.below hb
    have HB7 := Lib.hid (HB6.out.trans (hb.mono HB6.out.size))
    clear hb P6 Q6 y0 y1 y2 y3
    have y0 := P7.c0
    have y1 := P7.c1
    have y2 := P7.c2
    have y3 := P7.c3
    have x0 := Q7.c0
    have x1 := Q7.c1
    have x2 := Q7.c2
    have x3 := Q7.c3
    clear P7 Q7
    cases tb
    all_goals (
      go_wp2_with fail
      refine (HAw.out _ HB7.out).mono ?_
      rintro e w8 ⟨rfl, hb⟩
      have HB8 := Lib.hid (HB7.out.trans (hb.mono HB7.out.size))
      clear hb
      go_wp2_with fail
      go_ret
      exact ⟨rfl, HB8.out⟩))

theorem schemesSpectra_law (N K L M : Int) (w : World) (hT : Tab w) : Calls Tryd.prog 12 #[num4 N K L M] w fun e w' => e = .returned (.bool true) ∧ Below w.heap.size w w' := by
  cases h : askB N K L M
  · exact spectra_bad N K L M w hT h
  · exact spectra_good N K L M w hT h
end Go.Proofs.YtdnhfnegnjdeoaaDoor
