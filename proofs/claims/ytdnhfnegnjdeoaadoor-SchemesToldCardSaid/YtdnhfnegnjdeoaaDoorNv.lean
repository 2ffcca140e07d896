/- reason, Reason: that they end -/
import Derived.Test.YtdnhfnegnjdeoaaDoorNu
namespace Go.Proofs.YtdnhfnegnjdeoaaDoor
open Go.RowKit

/-- A call ends with an int. -/
def EI (e : Ending) : Prop := ∃ z : Int, e = .returned (.int .i64 z)
theorem EI.mk (z : Int) : EI (.returned (.int .i64 z)) := ⟨z, rfl⟩

set_option maxRecDepth 100000 in
set_option maxHeartbeats 2000000 in
theorem reason_parts (N K L M : Int) (w : World) (h : AskN N K L M) (h1 : (K * (K - L - 1) != (N - K - 1) * M) = false) (h2 : M = 0 ∨ M = K) : Calls Tryd.prog 69 #[num4 N K L M] w fun e w' => EI e ∧ Below w.heap.size w w' := by
  have b1 := (Below.refl w.heap.size w).alloc (Nat.le_refl _) (.cells #[.int .i64 N, .int .i64 K, .int .i64 L, .int .i64 M] 24)
  have Q1 := Q4.new w 24 N K L M
  have HB1 := Lib.hid b1
  have p0 := Q1.c0
  have p1 := Q1.c1
  have p2 := Q1.c2
  have p3 := Q1.c3
  have p0' : (w.alloc (.cells #[.int .i64 N, .int .i64 K, .int .i64 L, .int .i64 M] 24)).drew.cell? ⟨w.heap.size, 0, none⟩ = some (.int .i64 N) := p0
  have HP := Lib.hid (part_any N K L M (w.alloc (.cells #[.int .i64 N, .int .i64 K, .int .i64 L, .int .i64 M] 24)).drew h.k1 h.kn h.n100)
  have hb1 := mul_bd (x := K) (y := K - L - 1) (A := 100) (B := 100) (by have := h.k1; have := h.kn; have := h.n100; omega) (by have := h.lk; have := h.l0; have := h.kn; have := h.n100; omega)
  have hb2 := mul_bd (x := N - K - 1) (y := M) (A := 100) (B := 100) (by have := h.k1; have := h.kn; have := h.n100; omega) (by have := h.m0; have := h.mlk; have := h.kn; have := h.n100; omega)
  obtain ⟨n4, n100, k1, kn, l0, lk, m0, mk⟩ := h
  unfold num4 at HP ⊢
  clear b1
  by_cases hM : M = 0
  case' pos => have hm : (M == 0) = true := by simp [hM]
  case' neg =>
    have hm : (M == 0) = false := by simp [hM]
    have hm2 : (M == K) = true := by simp; omega
  all_goals (
    clear h2 hM
    go_enter Tryd.func69, Tryd.ntmps69
    go_wp2_with fail
    go_region_with (go_at_call 94; refine HP.out.mono ?_; rintro e w2 ⟨⟨p, rfl, hp⟩, hb⟩; have hpz : (p == 0) = false := (by simp; omega); have y0 := ck p0' hb)
    all_goals (
      have HB2 := Lib.hid (HB1.out.drew.trans (hb.mono HB1.out.drew.size))
      clear hb
      go_wp2_with fail
      all_goals (
        go_ret
        first | exact ⟨EI.mk _, HB2.out⟩ | exact ⟨EI.mk _, HB2.out.drew⟩)))

set_option maxRecDepth 100000 in
set_option maxHeartbeats 2000000 in
theorem reason_any (N K L M : Int) (w : World) (h : AskN N K L M) : Calls Tryd.prog 69 #[num4 N K L M] w fun e w' => EI e ∧ Below w.heap.size w w' := by
  have b1 := (Below.refl w.heap.size w).alloc (Nat.le_refl _) (.cells #[.int .i64 N, .int .i64 K, .int .i64 L, .int .i64 M] 24)
  have Q1 := Q4.new w 24 N K L M
  have HB1 := Lib.hid b1
  have p0 := Q1.c0
  have p1 := Q1.c1
  have p2 := Q1.c2
  have p3 := Q1.c3
  have hb1 := mul_bd (x := K) (y := K - L - 1) (A := 100) (B := 100) (by have := h.k1; have := h.kn; have := h.n100; omega) (by have := h.lk; have := h.l0; have := h.kn; have := h.n100; omega)
  have hb2 := mul_bd (x := N - K - 1) (y := M) (A := 100) (B := 100) (by have := h.k1; have := h.kn; have := h.n100; omega) (by have := h.m0; have := h.mlk; have := h.kn; have := h.n100; omega)
  by_cases h1 : K * (K - L - 1) = (N - K - 1) * M
  case neg =>
    have h1' : (K * (K - L - 1) != (N - K - 1) * M) = true := by simp [h1]
    obtain ⟨n4, n100, k1, kn, l0, lk, m0, mk⟩ := h
    unfold num4
    clear b1 h1
    go_enter Tryd.func69, Tryd.ntmps69
    go_wp2_with fail
    go_ret
    exact ⟨EI.mk _, HB1.out⟩
  have h1' : (K * (K - L - 1) != (N - K - 1) * M) = false := by simp [h1]
  by_cases h2 : M = 0 ∨ M = K
  · exact reason_parts N K L M w h h1' h2
  have hm : (M == 0) = false := by simp; omega
  have hm2 : (M == K) = false := by simp; omega
  have HS := Lib.hid (fun w => spectrum_any N K L M w h)
  have HH := Lib.hid (fun w => half_any N K L M w h.n4 h.k1 h.kn h.n100 h.l0 h.lk h.m0 h.mlk)
  have HF := Lib.hid far_any
  have HE := Lib.hid few_any
  obtain ⟨n4, n100, k1, kn, l0, lk, m0, mk⟩ := h
  unfold num4 at HH ⊢
  unfold SpecPost num4 at HS
  clear b1 h1 h2
  go_enter Tryd.func69, Tryd.ntmps69
  go_wp2_with fail
  refine (HS.out _).mono ?_
  rintro e w2 ⟨hc, hb⟩
  have P2 := Q1.below hb
  have HB2 := Lib.hid (HB1.out.trans (hb.mono HB1.out.size))
  clear hb p0 p1 p2 p3 Q1 HB1
  rcases hc with (rfl | rfl) | ⟨R, S, F, G, hok, rfl⟩
  · have hb3 := (Below.refl w2.heap.size w2).alloc (Nat.le_refl _) (.cells #[.int .i64 0, .int .i64 0, .int .i64 0, .int .i64 0] 39)
    have P3 := P2.below hb3
    have HB3 := Lib.hid (HB2.out.trans (hb3.mono HB2.out.size))
    have y0 := P3.c0
    have y1 := P3.c1
    have y2 := P3.c2
    have y3 := P3.c3
    clear hb3 P2 P3
    go_wp2_with fail
    refine (HH.out _).mono ?_
    rintro e w3 ⟨⟨b, rfl⟩, hb4⟩
    have HB4 := Lib.hid (HB3.out.trans (hb4.mono HB3.out.size))
    clear hb4 y0 y1 y2 y3
    cases b
    all_goals (
      go_wp2_with fail
      go_ret
      exact ⟨EI.mk _, HB4.out⟩)
  · have HB3 := Lib.hid (HB2.out.alloc HB2.out.size (.cells #[.int .i64 0, .int .i64 0, .int .i64 0, .int .i64 0] 39))
    clear P2
    go_wp2_with fail
    go_ret
    exact ⟨EI.mk _, HB3.out⟩
  · clear hok
    have hb3 := (Below.refl w2.heap.size w2).alloc (Nat.le_refl _) (.cells #[.int .i64 R, .int .i64 S, .int .i64 F, .int .i64 G] 39)
    have P3 := P2.below hb3
    have Q3 := Q4.new w2 39 R S F G
    have HB3 := Lib.hid (HB2.out.trans (hb3.mono HB2.out.size))
    have y0 := P3.c0
    have y1 := P3.c1
    have y2 := P3.c2
    have y3 := P3.c3
    have x0 := Q3.c0
    have x1 := Q3.c1
    have x2 := Q3.c2
    have x3 := Q3.c3
    clear hb3 P2 P3 Q3
    go_wp2_with fail
    refine (HF.out _ _ _ _).mono ?_
    rintro e w3 ⟨⟨b, rfl⟩, rfl⟩
    cases b
    case true =>
      go_wp2_with fail
      go_ret
      exact ⟨EI.mk _, HB3.out⟩
    case false =>
      go_wp2_with fail
      refine (HF.out _ _ _ _).mono ?_
      rintro e w3 ⟨⟨b, rfl⟩, rfl⟩
      cases b
      case true =>
        go_wp2_with fail
        go_ret
        exact ⟨EI.mk _, HB3.out⟩
      case false =>
        go_wp2_with fail
        refine (HE.out _ _ _).mono ?_
        rintro e w3 ⟨⟨b, rfl⟩, rfl⟩
        cases b
        case true =>
          go_wp2_with fail
          go_ret
          exact ⟨EI.mk _, HB3.out⟩
        case false =>
          go_wp2_with fail
          refine (HE.out _ _ _).mono ?_
          rintro e w3 ⟨⟨b, rfl⟩, rfl⟩
          cases b
          all_goals (
            go_wp2_with fail
            go_ret
            exact ⟨EI.mk _, HB3.out⟩)

def ReasonPost (w : World) (e : Ending) (w' : World) : Prop :=
  (e = .returned (.tuple #[.int .i64 0, .int .i64 4]) ∨ ∃ z : Int, e = .returned (.tuple #[.int .i64 z, .int .i64 0])) ∧ Below w.heap.size w w'
set_option maxRecDepth 100000 in
set_option maxHeartbeats 2000000 in
theorem Reason_any (N K L M : Int) (w : World) : Calls Tryd.prog 28 #[num4 N K L M] w fun e w' => if askB N K L M = true then ReasonPost w e w' else (e = .returned (.tuple #[.int .i64 0, .int .i64 2]) ∧ Below w.heap.size w w') := by
  have b1 := (Below.refl w.heap.size w).alloc (Nat.le_refl _) (.cells #[.int .i64 N, .int .i64 K, .int .i64 L, .int .i64 M] 24)
  have Q1 := Q4.new w 24 N K L M
  have HB1 := Lib.hid b1
  have p0 := Q1.c0
  have p1 := Q1.c1
  have p2 := Q1.c2
  have p3 := Q1.c3
  have HA := Lib.hid (fun w => isAsked_any N K L M w)
  cases h : askB N K L M with
  | false =>
    rw [h] at HA
    unfold num4 at HA
    show Calls Tryd.prog 28 #[.agg #[.int .i64 N, .int .i64 K, .int .i64 L, .int .i64 M]] w (fun e w' => e = .returned (.tuple #[.int .i64 0, .int .i64 2]) ∧ Below w.heap.size w w')
    clear h b1 Q1
    go_enter Tryd.func28, Tryd.ntmps28
    go_wp2_with fail
    refine (HA.out _).mono ?_
    rintro e w1 ⟨rfl, hb⟩
    have HB2 := Lib.hid (HB1.out.trans (hb.mono HB1.out.size))
    clear hb
    go_wp2_with fail
    go_ret2
    exact ⟨rfl, HB2.out⟩
  | true =>
    have HR := Lib.hid (fun w => reason_any N K L M w (ask_of h))
    rw [h] at HA
    unfold num4 at HA HR
    show Calls Tryd.prog 28 #[.agg #[.int .i64 N, .int .i64 K, .int .i64 L, .int .i64 M]] w (ReasonPost w)
    clear h b1
    go_enter Tryd.func28, Tryd.ntmps28
    go_wp2_with fail
    refine (HA.out _).mono ?_
    rintro e w1 ⟨rfl, hb⟩
    have P2 := Q1.below hb
    have HB2 := Lib.hid (HB1.out.trans (hb.mono HB1.out.size))
    clear hb p0 p1 p2 p3
    have y0 := P2.c0
    have y1 := P2.c1
    have y2 := P2.c2
    have y3 := P2.c3
    go_wp2_with fail
    refine (HR.out _).mono ?_
    rintro e w2 ⟨⟨z, rfl⟩, hb⟩
    have HB3 := Lib.hid (HB2.out.trans (hb.mono HB2.out.size))
    clear hb y0 y1 y2 y3
    cases hz : (z == 0)
    case true =>
      go_wp2_with fail
      go_ret2
      exact ⟨.inl rfl, HB3.out⟩
    case false =>
      go_wp2_with fail
      go_ret2
      exact ⟨.inr ⟨z, rfl⟩, HB3.out⟩
end Go.Proofs.YtdnhfnegnjdeoaaDoor
