/- the reference's Reason -/
import Derived.Test.YtdnhfnegnjdeoaaDoorXd
namespace Go.Proofs.YtdnhfnegnjdeoaaDoor
open Go.RowKit

set_option maxRecDepth 100000 in
set_option maxHeartbeats 2000000 in
theorem rReason_parts (N K L M : Int) (w : World) (h : AskN N K L M) (h1 : (K * (K - L - 1) != (N - K - 1) * M) = false) (h2 : M = 0 ∨ M = K) : Calls Tryd.prog 31 #[num4 N K L M] w fun e w' => e = .returned (reaV (partR N K M)) ∧ Below w.heap.size w w' := by
  have Q1 := Q4.new w 32 N K L M
  have HB1 := Lib.hid ((Below.refl w.heap.size w).alloc (Nat.le_refl _) (.cells #[.int .i64 N, .int .i64 K, .int .i64 L, .int .i64 M] 32))
  have p0 := Q1.c0
  have p1 := Q1.c1
  have p2 := Q1.c2
  have p3 := Q1.c3
  have HV0 : Hid (reaV 0 = .tuple #[.int .i64 0, .int .i64 4]) := Lib.hid rfl
  have HV2 : Hid (reaV 2 = .tuple #[.int .i64 2, .int .i64 0]) := Lib.hid rfl
  have hb1 := mul_bd (x := K) (y := K - L - 1) (A := 100) (B := 100) (by have := h.k1; have := h.kn; have := h.n100; omega) (by have := h.lk; have := h.l0; have := h.kn; have := h.n100; omega)
  have hb2 := mul_bd (x := N - K - 1) (y := M) (A := 100) (B := 100) (by have := h.k1; have := h.kn; have := h.n100; omega) (by have := h.m0; have := h.mlk; have := h.kn; have := h.n100; omega)
  obtain ⟨n4, n100, k1, kn, l0, lk, m0, mk⟩ := h
  unfold num4
  by_cases hM : M = 0
  · have hm : (M == 0) = true := by simp [hM]
    have hm2 : (M == K) = false := by simp; omega
    have HZ : Hid (partR N K M = if N.tmod (K + 1) = 0 then 0 else 2) := Lib.hid (by unfold partR partZ; rw [if_pos hM])
    generalize partR N K M = z at *
    have hk0 : (K + 1 == 0) = false := by simp; omega
    have hk1 : ¬ K + 1 = 0 := by omega
    clear h2 hM
    by_cases hq : N.tmod (K + 1) = 0
    · have hq' : (N % (K + 1) != 0) = false := by rw [← Int.tmod_eq_emod_of_nonneg (show 0 ≤ N by omega)]; simp [hq]
      obtain rfl : z = 0 := by rw [HZ.out, if_pos hq]
      clear hq HZ
      go_enter Tryd.func31, Tryd.ntmps31
      go_wp2_with fail
      go_ret2
      exact ⟨by rw [HV0.out]; rfl, HB1.out⟩
    · have hq' : (N % (K + 1) != 0) = true := by rw [← Int.tmod_eq_emod_of_nonneg (show 0 ≤ N by omega)]; simp [hq]
      obtain rfl : z = 2 := by rw [HZ.out, if_neg hq]
      clear hq HZ
      go_enter Tryd.func31, Tryd.ntmps31
      go_wp2_with fail
      go_ret2
      exact ⟨by rw [HV2.out]; rfl, HB1.out⟩
  · have hm : (M == 0) = false := by simp [hM]
    have hm2 : (M == K) = true := by simp; omega
    have HZ : Hid (partR N K M = if N.tmod (N - K) = 0 then 0 else 2) := Lib.hid (by unfold partR partZ; rw [if_neg hM])
    generalize partR N K M = z at *
    have hk0 : (N - K == 0) = false := by simp; omega
    have hk1 : ¬ N - K = 0 := by omega
    clear h2 hM
    by_cases hq : N.tmod (N - K) = 0
    · have hq' : (N % (N - K) != 0) = false := by rw [← Int.tmod_eq_emod_of_nonneg (show 0 ≤ N by omega)]; simp [hq]
      obtain rfl : z = 0 := by rw [HZ.out, if_pos hq]
      clear hq HZ
      go_enter Tryd.func31, Tryd.ntmps31
      go_wp2_with fail
      go_ret2
      exact ⟨by rw [HV0.out]; rfl, HB1.out⟩
    · have hq' : (N % (N - K) != 0) = true := by rw [← Int.tmod_eq_emod_of_nonneg (show 0 ≤ N by omega)]; simp [hq]
      obtain rfl : z = 2 := by rw [HZ.out, if_neg hq]
      clear hq HZ
      go_enter Tryd.func31, Tryd.ntmps31
      go_wp2_with fail
      go_ret2
      exact ⟨by rw [HV2.out]; rfl, HB1.out⟩

theorem farB_mk (K R S : Int) : farB K S R = decide ((S + 1) * (K + S + 2 * R * S) > (K + S) * (R + 1) * (R + 1)) := by
  unfold farB
  rw [show 2 * S * R = 2 * R * S by grind]

set_option maxRecDepth 100000 in
set_option maxHeartbeats 2000000 in
theorem rReason_exact (N K L M : Int) (w : World) (h : AskN N K L M) : Calls Tryd.prog 31 #[num4 N K L M] w (ReaPost w N K L M) := by
  have b1 := (Below.refl w.heap.size w).alloc (Nat.le_refl _) (.cells #[.int .i64 N, .int .i64 K, .int .i64 L, .int .i64 M] 32)
  have Q1 := Q4.new w 32 N K L M
  have HB1 := Lib.hid b1
  have p0 := Q1.c0
  have p1 := Q1.c1
  have p2 := Q1.c2
  have p3 := Q1.c3
  have hb1 := mul_bd (x := K) (y := K - L - 1) (A := 100) (B := 100) (by have := h.k1; have := h.kn; have := h.n100; omega) (by have := h.lk; have := h.l0; have := h.kn; have := h.n100; omega)
  have hb2 := mul_bd (x := N - K - 1) (y := M) (A := 100) (B := 100) (by have := h.k1; have := h.kn; have := h.n100; omega) (by have := h.m0; have := h.mlk; have := h.kn; have := h.n100; omega)
  have HV1 : Hid (reaV 1 = .tuple #[.int .i64 1, .int .i64 0]) := Lib.hid rfl
  have HV0 : Hid (reaV 0 = .tuple #[.int .i64 0, .int .i64 4]) := Lib.hid rfl
  have HV3 : Hid (reaV 3 = .tuple #[.int .i64 3, .int .i64 0]) := Lib.hid rfl
  have HV4 : Hid (reaV 4 = .tuple #[.int .i64 4, .int .i64 0]) := Lib.hid rfl
  have HV5 : Hid (reaV 5 = .tuple #[.int .i64 5, .int .i64 0]) := Lib.hid rfl
  have HV6 : Hid (reaV 6 = .tuple #[.int .i64 6, .int .i64 0]) := Lib.hid rfl
  by_cases h1 : K * (K - L - 1) = (N - K - 1) * M
  case neg =>
    have h1' : (K * (K - L - 1) != (N - K - 1) * M) = true := by simp [h1]
    have HP1 : Hid (ReaP N K L M 1) := Lib.hid (.inl ⟨h1, rfl⟩)
    obtain ⟨n4, n100, k1, kn, l0, lk, m0, mk⟩ := h
    unfold num4
    clear b1 h1
    go_enter Tryd.func31, Tryd.ntmps31
    go_wp2_with fail
    go_ret2
    exact ⟨⟨1, HP1.out, by rw [HV1.out]; rfl⟩, HB1.out⟩
  have h1' : (K * (K - L - 1) != (N - K - 1) * M) = false := by simp [h1]
  by_cases h2 : M = 0 ∨ M = K
  · exact (rReason_parts N K L M w h h1' h2).mono fun _ _ ⟨he, hb⟩ => ⟨⟨_, .inr (.inl ⟨h1, h2, rfl⟩), he⟩, hb⟩
  have hm : (M == 0) = false := by simp; omega
  have hm2 : (M == K) = false := by simp; omega
  have HR := Lib.hid (fun w => roots_exact N K L M w h)
  have HS := Lib.hid (fun w => rSolve_exact N K L M w h)
  have HAsk := Lib.hid h
  have HM : Hid (∀ z, (((¬ ∃ R S, RootP K L M R S) ∧ z = noR N K L M) ∨ (∃ R S, RootP K L M R S ∧ (¬ ∃ F, TimesP N K R S F) ∧ z = 4) ∨ (∃ R S F, RootP K L M R S ∧ TimesP N K R S F ∧ z = farR N K R S F)) → ReaP N K L M z) := Lib.hid fun z hz => .inr (.inr ⟨h1, h2, hz⟩)
  obtain ⟨n4, n100, k1, kn, l0, lk, m0, mk⟩ := h
  unfold SolPost at HS
  unfold num4 at HR HS ⊢
  clear b1 h1 h2
  go_enter Tryd.func31, Tryd.ntmps31
  go_wp2_with fail
  refine (HR.out _).mono ?_
  rintro e w2 ⟨hr, hb⟩
  have P2 := Q1.below hb
  have HB2 := Lib.hid (HB1.out.trans (hb.mono HB1.out.size))
  clear hb p0 p1 p2 p3 Q1 HB1
  have y0 := P2.c0
  have y1 := P2.c1
  have y2 := P2.c2
  have y3 := P2.c3
  rcases hr with ⟨hno, rfl⟩ | ⟨R, S, hRS, rfl⟩
  · have HZ := Lib.hid (HM.out _ (.inl ⟨hno, rfl⟩))
    have HN : Hid (noR N K L M = if halfB N K L M = true then 0 else 3) := Lib.hid rfl
    have HH : Hid (halfB N K L M = (decide (2 * K + (N - 1) * (L - M) = 0) && twoB N)) := Lib.hid rfl
    have hb := mul_bd (x := N - 1) (y := L - M) (A := 100) (B := 100) (by omega) (by omega)
    obtain ⟨nn, rfl⟩ : ∃ nn : Nat, N = nn := ⟨N.toNat, by omega⟩
    have HQ := Lib.hid (fun w => squares_exact nn w (by omega) (by omega))
    generalize noR nn K L M = z at *
    generalize halfB nn K L M = hf at *
    generalize twoB nn = tb at *
    clear hno HM HAsk HS
    by_cases ht : 2 * K + ((nn:Int) - 1) * (L - M) = 0
    · have ht' : (2 * K + ((nn:Int) - 1) * (L - M) == 0) = true := by simp [ht]
      rw [decide_eq_true ht, Bool.true_and] at HH
      rw [HH.out] at HN
      clear ht HH
      go_wp2_with fail
      refine (HQ.out _).mono ?_
      rintro e w' ⟨rfl, rfl⟩
      cases tb
      · obtain rfl : z = 3 := by rw [HN.out]; rfl
        go_wp2_with fail
        go_ret2
        exact ⟨⟨3, HZ.out, by rw [HV3.out]; rfl⟩, HB2.out⟩
      · obtain rfl : z = 0 := by rw [HN.out]; rfl
        go_wp2_with fail
        go_ret2
        exact ⟨⟨0, HZ.out, by rw [HV0.out]; rfl⟩, HB2.out⟩
    · have ht' : (2 * K + ((nn:Int) - 1) * (L - M) == 0) = false := by simp [ht]
      rw [decide_eq_false ht, Bool.false_and] at HH
      rw [HH.out] at HN
      obtain rfl : z = 3 := by rw [HN.out]; rfl
      clear ht HH HN
      go_wp2_with fail
      go_ret2
      exact ⟨⟨3, HZ.out, by rw [HV3.out]; rfl⟩, HB2.out⟩
  · obtain ⟨_, _, a3, a4, a5, a6⟩ := hRS.ask HAsk.out
    have HRS := Lib.hid hRS
    clear hRS
    go_wp2_with fail
    refine (HS.out _).mono ?_
    rintro e w3 ⟨⟨v, er, hs, rfl⟩, hb3⟩
    have P3 := P2.below hb3
    have HB3 := Lib.hid (HB2.out.trans (hb3.mono HB2.out.size))
    clear hb3 y0 y1 y2 y3 P2 HB2 HR HS
    rcases hs with ⟨hno, rfl, rfl⟩ | ⟨R0, S0, hr0, hn0, rfl, rfl⟩ | ⟨R0, S0, F, hr0, hf0, rfl, rfl⟩
    · exact absurd ⟨_, _, HRS.out⟩ hno
    · have HZ := Lib.hid (HM.out 4 (.inr (.inl ⟨R0, S0, hr0, hn0, rfl⟩)))
      have HB4 := Lib.hid (HB3.out.alloc HB3.out.size (.cells #[.int .i64 0, .int .i64 0, .int .i64 0, .int .i64 0] 46))
      unfold num4
      clear hr0 hn0 HM
      go_wp2_with fail
      go_ret2
      exact ⟨⟨4, HZ.out, by rw [HV4.out]; rfl⟩, HB4.out⟩
    · obtain ⟨rfl, rfl⟩ := HRS.out.one hr0
      have HZ := Lib.hid (HM.out _ (.inr (.inr ⟨R, S, F, hr0, hf0, rfl⟩)))
      have HN : Hid (farR N K R S F = if farB K R S || farB K S R then 5 else if fewB N F || fewB N (N - 1 - F) then 6 else 0) := Lib.hid rfl
      obtain ⟨_, a7, a8⟩ := hf0.ok hr0 HAsk.out
      obtain ⟨a9, a10⟩ := hf0.pos hr0 HAsk.out
      have d1 := far_bd (k := K) (a := R) (b := S) (by omega) (by omega) (by omega)
      have d2 := far_bd (k := K) (a := S) (b := R) (by omega) (by omega) (by omega)
      rw [show 2 * S * R = 2 * R * S by grind] at d2
      rw [farB_mk K R S] at HN
      obtain ⟨G, hG⟩ : ∃ G, G = N - 1 - F := ⟨_, rfl⟩
      rw [← hG] at HN a10 ⊢
      have g2 : G ≤ 200 := by omega
      have d3 := mul_bd (x := F) (y := F + 3) (A := 200) (B := 203) (by omega) (by omega)
      have d4 := mul_bd (x := G) (y := G + 3) (A := 200) (B := 203) (by omega) (by omega)
      unfold farB fewB at HN
      clear hr0 hf0 HM hG HRS HAsk
      generalize farR N K R S F = z at *
      have hb3 := (Below.refl w3.heap.size w3).alloc (Nat.le_refl _) (.cells #[.int .i64 R, .int .i64 S, .int .i64 F, .int .i64 G] 46)
      have P4 := P3.below hb3
      have Q3 := Q4.new w3 46 R S F G
      have HB4 := Lib.hid (HB3.out.trans (hb3.mono HB3.out.size))
      have y0 := P4.c0
      have y1 := P4.c1
      have y2 := P4.c2
      have y3 := P4.c3
      have x0 := Q3.c0
      have x1 := Q3.c1
      have x2 := Q3.c2
      have x3 := Q3.c3
      unfold num4
      clear hb3 P3 P4 Q3 HB3
      by_cases c1 : (R + 1) * (K + R + 2 * R * S) > (K + R) * (S + 1) * (S + 1)
      · obtain rfl : z = 5 := by rw [HN.out, decide_eq_true c1, Bool.true_or, if_pos rfl]
        clear HN
        go_wp2_with fail
        go_ret2
        exact ⟨⟨5, HZ.out, by rw [HV5.out]; rfl⟩, HB4.out⟩
      · by_cases c2 : (S + 1) * (K + S + 2 * R * S) > (K + S) * (R + 1) * (R + 1)
        · obtain rfl : z = 5 := by rw [HN.out, decide_eq_false c1, decide_eq_true c2, Bool.false_or, if_pos rfl]
          clear HN
          go_wp2_with fail
          go_ret2
          exact ⟨⟨5, HZ.out, by rw [HV5.out]; rfl⟩, HB4.out⟩
        · by_cases c3 : 2 * N > F * (F + 3)
          · obtain rfl : z = 6 := by rw [HN.out, decide_eq_false c1, decide_eq_false c2, decide_eq_true c3, Bool.false_or, if_neg (by decide), Bool.true_or, if_pos rfl]
            clear HN
            go_wp2_with fail
            go_ret2
            exact ⟨⟨6, HZ.out, by rw [HV6.out]; rfl⟩, HB4.out⟩
          · by_cases c4 : 2 * N > G * (G + 3)
            · obtain rfl : z = 6 := by rw [HN.out, decide_eq_false c1, decide_eq_false c2, decide_eq_false c3, decide_eq_true c4, Bool.false_or, if_neg (by decide), Bool.false_or, if_pos rfl]
              clear HN
              go_wp2_with fail
              go_ret2
              exact ⟨⟨6, HZ.out, by rw [HV6.out]; rfl⟩, HB4.out⟩
            · obtain rfl : z = 0 := by rw [HN.out, decide_eq_false c1, decide_eq_false c2, decide_eq_false c3, decide_eq_false c4]; rfl
              clear HN
              go_wp2_with fail
              go_ret2
              exact ⟨⟨0, HZ.out, by rw [HV0.out]; rfl⟩, HB4.out⟩
end Go.Proofs.YtdnhfnegnjdeoaaDoor
