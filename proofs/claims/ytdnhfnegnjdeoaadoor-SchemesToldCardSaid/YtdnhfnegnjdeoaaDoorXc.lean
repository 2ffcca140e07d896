/- the first reason against numbers: what reason and Reason answer -/
import Derived.Test.YtdnhfnegnjdeoaaDoorXb
import Derived.Test.YtdnhfnegnjdeoaaDoorNv
namespace Go.Proofs.YtdnhfnegnjdeoaaDoor
open Go.RowKit

def partR (N K M : Int) : Int := if N.tmod (partZ N K M) = 0 then 0 else 2
def noR (N K L M : Int) : Int := if halfB N K L M = true then 0 else 3
def farR (N K R S F : Int) : Int := if farB K R S || farB K S R then 5 else if fewB N F || fewB N (N - 1 - F) then 6 else 0
/-- What Reason answers; 0 for none. -/
def ReaP (N K L M z : Int) : Prop :=
  (K * (K - L - 1) ≠ (N - K - 1) * M ∧ z = 1) ∨
  (K * (K - L - 1) = (N - K - 1) * M ∧ (M = 0 ∨ M = K) ∧ z = partR N K M) ∨
  (K * (K - L - 1) = (N - K - 1) * M ∧ ¬ (M = 0 ∨ M = K) ∧
    (((¬ ∃ R S, RootP K L M R S) ∧ z = noR N K L M) ∨
    (∃ R S, RootP K L M R S ∧ (¬ ∃ F, TimesP N K R S F) ∧ z = 4) ∨
    (∃ R S F, RootP K L M R S ∧ TimesP N K R S F ∧ z = farR N K R S F)))
theorem ReaP.one {N K L M z z' : Int} (ha : AskN N K L M) (h : ReaP N K L M z) (h' : ReaP N K L M z') : z = z' := by
  rcases h with ⟨h, rfl⟩ | ⟨h, hm, rfl⟩ | ⟨h, hm, h2⟩ <;> rcases h' with ⟨h', rfl⟩ | ⟨h', hm', rfl⟩ | ⟨h', hm', h2'⟩
  · rfl
  · exact absurd h' h
  · exact absurd h' h
  · exact absurd h h'
  · rfl
  · exact absurd hm hm'
  · exact absurd h h'
  · exact absurd hm' hm
  · rcases h2 with ⟨h, rfl⟩ | ⟨R, S, hr, hn, rfl⟩ | ⟨R, S, F, hr, hf, rfl⟩ <;> rcases h2' with ⟨h', rfl⟩ | ⟨R', S', hr', hn', rfl⟩ | ⟨R', S', F', hr', hf', rfl⟩
    · rfl
    · exact absurd ⟨_, _, hr'⟩ h
    · exact absurd ⟨_, _, hr'⟩ h
    · exact absurd ⟨_, _, hr⟩ h'
    · rfl
    · obtain ⟨rfl, rfl⟩ := hr.one hr'
      exact absurd ⟨_, hf'⟩ hn
    · exact absurd ⟨_, _, hr⟩ h'
    · obtain ⟨rfl, rfl⟩ := hr.one hr'
      exact absurd ⟨_, hf⟩ hn'
    · obtain ⟨rfl, rfl⟩ := hr.one hr'
      obtain rfl := hf.one hf' (hr.ask ha).1
      rfl
theorem ReaP.bd {N K L M z : Int} (h : ReaP N K L M z) : 0 ≤ z ∧ z ≤ 6 := by
  rcases h with ⟨h, rfl⟩ | ⟨h, hm, rfl⟩ | ⟨h, hm, ⟨h, rfl⟩ | ⟨R, S, hr, hn, rfl⟩ | ⟨R, S, F, hr, hf, rfl⟩⟩
  · omega
  · unfold partR; split <;> omega
  · unfold noR; split <;> omega
  · omega
  · unfold farR; split
    · omega
    · split <;> omega
/-- An error, and the reason. -/
def reaV (z : Int) : Value := if z = 0 then .tuple #[.int .i64 0, .int .i64 4] else .tuple #[.int .i64 z, .int .i64 0]

set_option maxRecDepth 100000 in
set_option maxHeartbeats 2000000 in
theorem reason_parts2 (N K L M : Int) (w : World) (h : AskN N K L M) (h1 : (K * (K - L - 1) != (N - K - 1) * M) = false) (h2 : M = 0 ∨ M = K) : Calls Tryd.prog 69 #[num4 N K L M] w fun e w' => e = .returned (.int .i64 (partR N K M)) ∧ Below w.heap.size w w' := by
  have b1 := (Below.refl w.heap.size w).alloc (Nat.le_refl _) (.cells #[.int .i64 N, .int .i64 K, .int .i64 L, .int .i64 M] 24)
  have Q1 := Q4.new w 24 N K L M
  have HB1 := Lib.hid b1
  have p0 := Q1.c0
  have p1 := Q1.c1
  have p2 := Q1.c2
  have p3 := Q1.c3
  have p0' : (w.alloc (.cells #[.int .i64 N, .int .i64 K, .int .i64 L, .int .i64 M] 24)).drew.cell? ⟨w.heap.size, 0, none⟩ = some (.int .i64 N) := p0
  have HP := Lib.hid (part_exact N K L M (w.alloc (.cells #[.int .i64 N, .int .i64 K, .int .i64 L, .int .i64 M] 24)).drew h.k1 h.kn h.n100)
  have hp1 : 1 ≤ partZ N K M := by have := h.k1; have := h.kn; unfold partZ; split <;> omega
  have HZ : Hid (partR N K M = if N.tmod (partZ N K M) = 0 then 0 else 2) := Lib.hid rfl
  have hb1 := mul_bd (x := K) (y := K - L - 1) (A := 100) (B := 100) (by have := h.k1; have := h.kn; have := h.n100; omega) (by have := h.lk; have := h.l0; have := h.kn; have := h.n100; omega)
  have hb2 := mul_bd (x := N - K - 1) (y := M) (A := 100) (B := 100) (by have := h.k1; have := h.kn; have := h.n100; omega) (by have := h.m0; have := h.mlk; have := h.kn; have := h.n100; omega)
  obtain ⟨n4, n100, k1, kn, l0, lk, m0, mk⟩ := h
  unfold num4 at HP ⊢
  clear b1
  generalize partR N K M = z at *
  generalize partZ N K M = p at *
  have hpz : (p == 0) = false := by simp; omega
  have hpz2 : ¬ p = 0 := by omega
  by_cases hM : M = 0
  case' pos => have hm : (M == 0) = true := by simp [hM]
  case' neg =>
    have hm : (M == 0) = false := by simp [hM]
    have hm2 : (M == K) = true := by simp; omega
  all_goals (
    clear h2 hM
    by_cases hq : N.tmod p = 0
    case' pos =>
      have hq' : (N.tmod p != 0) = false := by simp [hq]
      have HZ2 : Hid (z = 0) := Lib.hid (by rw [HZ.out, if_pos hq])
    case' neg =>
      have hq' : (N.tmod p != 0) = true := by simp [hq]
      have HZ2 : Hid (z = 2) := Lib.hid (by rw [HZ.out, if_neg hq])
    all_goals (
      clear hq HZ
      go_enter Tryd.func69, Tryd.ntmps69
      go_wp2_with fail
      go_region_with (go_at_call 94; refine HP.out.mono ?_; rintro e w2 ⟨rfl, hb⟩; have y0 := ck p0' hb)
      all_goals (
        have HB2 := Lib.hid (HB1.out.drew.trans (hb.mono HB1.out.drew.size))
        clear hb
        go_wp2_with fail
        all_goals (
          go_ret
          first | exact ⟨ret_int HZ2.out.symm, HB2.out⟩ | exact ⟨ret_int HZ2.out.symm, HB2.out.drew⟩))))

set_option maxRecDepth 100000 in
set_option maxHeartbeats 2000000 in
theorem reason_exact (N K L M : Int) (w : World) (h : AskN N K L M) : Calls Tryd.prog 69 #[num4 N K L M] w fun e w' => (∃ z, ReaP N K L M z ∧ e = .returned (.int .i64 z)) ∧ Below w.heap.size w w' := by
  have b1 := (Below.refl w.heap.size w).alloc (Nat.le_refl _) (.cells #[.int .i64 N, .int .i64 K, .int .i64 L, .int .i64 M] 24)
  have Q1 := Q4.new w 24 N K L M
  have HB1 := Lib.hid b1
  have p0 := Q1.c0
  have p1 := Q1.c1
  have p2 := Q1.c2
  have p3 := Q1.c3
  have hb1 := mul_bd (x := K) (y := K - L - 1) (A := 100) (B := 100) (by have := h.k1; have := h.kn; have := h.n100; omega) (by have := h.lk; have := h.l0; have := h.kn; have := h.n100; omega)
  have hb2 := mul_bd (x := N - K - 1) (y := M) (A := 100) (B := 100) (by have := h.k1; have := h.kn; have := h.n100; omega) (by have := h.m0; have := h.mlk; have := h.kn; have := h.n100; omega)
  by_cases h1 : K * (K - L - 1) = (N - K - 1) * M
  case neg =>
    have h1' : (K * (K - L - 1) != (N - K - 1) * M) = true := by simp [h1]
    have HP1 : Hid (ReaP N K L M 1) := Lib.hid (.inl ⟨h1, rfl⟩)
    obtain ⟨n4, n100, k1, kn, l0, lk, m0, mk⟩ := h
    unfold num4
    clear b1 h1
    go_enter Tryd.func69, Tryd.ntmps69
    go_wp2_with fail
    go_ret
    exact ⟨⟨1, HP1.out, rfl⟩, HB1.out⟩
  have h1' : (K * (K - L - 1) != (N - K - 1) * M) = false := by simp [h1]
  by_cases h2 : M = 0 ∨ M = K
  · exact (reason_parts2 N K L M w h h1' h2).mono fun _ _ ⟨he, hb⟩ => ⟨⟨_, .inr (.inl ⟨h1, h2, rfl⟩), he⟩, hb⟩
  have hm : (M == 0) = false := by simp; omega
  have hm2 : (M == K) = false := by simp; omega
  have HS := Lib.hid (fun w => spectrum_exact N K L M w h)
  have HH := Lib.hid (fun w => half_exact N K L M w h.n4 h.k1 h.kn h.n100 h.l0 h.lk h.m0 h.mlk)
  have HF := Lib.hid (fun a b w => far_exact K a b w)
  have HE := Lib.hid (fun f w => few_exact N f w)
  have HAsk := Lib.hid h
  have HM : Hid (∀ z, (((¬ ∃ R S, RootP K L M R S) ∧ z = noR N K L M) ∨ (∃ R S, RootP K L M R S ∧ (¬ ∃ F, TimesP N K R S F) ∧ z = 4) ∨ (∃ R S F, RootP K L M R S ∧ TimesP N K R S F ∧ z = farR N K R S F)) → ReaP N K L M z) := Lib.hid fun z hz => .inr (.inr ⟨h1, h2, hz⟩)
  obtain ⟨n4, n100, k1, kn, l0, lk, m0, mk⟩ := h
  unfold num4 at HH ⊢
  unfold SolPost at HS
  clear b1 h1 h2
  go_enter Tryd.func69, Tryd.ntmps69
  go_wp2_with fail
  refine (HS.out _).mono ?_
  rintro e w2 ⟨hc, hb⟩
  have P2 := Q1.below hb
  have HB2 := Lib.hid (HB1.out.trans (hb.mono HB1.out.size))
  clear hb p0 p1 p2 p3 Q1 HB1
  obtain ⟨v, er, hs, rfl⟩ := hc
  rcases hs with ⟨hno, rfl, rfl⟩ | ⟨R0, S0, hr0, hn0, rfl, rfl⟩ | ⟨R, S, F, hr, hf, rfl, rfl⟩
  · have hb3 := (Below.refl w2.heap.size w2).alloc (Nat.le_refl _) (.cells #[.int .i64 0, .int .i64 0, .int .i64 0, .int .i64 0] 39)
    have P3 := P2.below hb3
    have HB3 := Lib.hid (HB2.out.trans (hb3.mono HB2.out.size))
    have HZ := Lib.hid (HM.out _ (.inl ⟨hno, rfl⟩))
    have HN : Hid (noR N K L M = if halfB N K L M = true then 0 else 3) := Lib.hid rfl
    have y0 := P3.c0
    have y1 := P3.c1
    have y2 := P3.c2
    have y3 := P3.c3
    generalize noR N K L M = z at *
    unfold num4
    clear hb3 P2 P3 hno HM
    generalize halfB N K L M = b at *
    go_wp2_with fail
    refine (HH.out _).mono ?_
    rintro e w3 ⟨rfl, hb4⟩
    have HB4 := Lib.hid (HB3.out.trans (hb4.mono HB3.out.size))
    clear hb4 y0 y1 y2 y3
    cases b
    all_goals (
      go_wp2_with fail
      go_ret
      exact ⟨⟨z, HZ.out, ret_int HN.out.symm⟩, HB4.out⟩)
  · have HB3 := Lib.hid (HB2.out.alloc HB2.out.size (.cells #[.int .i64 0, .int .i64 0, .int .i64 0, .int .i64 0] 39))
    have HZ := Lib.hid (HM.out 4 (.inr (.inl ⟨R0, S0, hr0, hn0, rfl⟩)))
    unfold num4
    clear P2 hr0 hn0 HM
    go_wp2_with fail
    go_ret
    exact ⟨⟨4, HZ.out, rfl⟩, HB3.out⟩
  · have HZ := Lib.hid (HM.out _ (.inr (.inr ⟨R, S, F, hr, hf, rfl⟩)))
    have HN : Hid (farR N K R S F = if farB K R S || farB K S R then 5 else if fewB N F || fewB N (N - 1 - F) then 6 else 0) := Lib.hid rfl
    obtain ⟨_, _, a3, a4, a5, a6⟩ := hr.ask HAsk.out
    obtain ⟨_, a7, a8⟩ := hf.ok hr HAsk.out
    obtain ⟨G, hG⟩ : ∃ G, G = N - 1 - F := ⟨_, rfl⟩
    rw [← hG] at HN ⊢
    have g1 : -200 ≤ G := by omega
    have g2 : G ≤ 200 := by omega
    clear hr hf HM hG
    generalize farR N K R S F = z at *
    have HF1 := Lib.hid (fun w => HF.out R S w (by omega) (by omega) (by omega))
    have HF2 := Lib.hid (fun w => HF.out S R w (by omega) (by omega) (by omega))
    have HE1 := Lib.hid (fun w => HE.out F w (by omega) (by omega))
    have HE2 := Lib.hid (fun w => HE.out G w (by omega) (by omega))
    generalize farB K R S = f1 at *
    generalize farB K S R = f2 at *
    generalize fewB N F = f3 at *
    generalize fewB N G = f4 at *
    have hb3 := (Below.refl w2.heap.size w2).alloc (Nat.le_refl _) (.cells #[.int .i64 R, .int .i64 S, .int .i64 F, .int .i64 G] 39)
    have P3 := P2.below hb3
    have Q3 := Q4.new w2 39 R S F G
    have HB3 := Lib.hid (HB2.out.trans (hb3.mono HB2.out.size))
    have y0 := P3.c0
    have y1 := P3.c1
    have y2 := P3.c2
    have y3 := P3.c3
    have x0 := Q3.c0
    have x1 := Q3.c1
    have x2 := Q3.c2
    have x3 := Q3.c3
    unfold num4
    clear hb3 P2 P3 Q3 a3 a4 a5 a6 a7 a8 g1 g2
    go_wp2_with fail
    refine (HF1.out _).mono ?_
    rintro e w3 ⟨rfl, rfl⟩
    cases f1
    case true =>
      go_wp2_with fail
      go_ret
      exact ⟨⟨z, HZ.out, ret_int HN.out.symm⟩, HB3.out⟩
    case false =>
      go_wp2_with fail
      refine (HF2.out _).mono ?_
      rintro e w3 ⟨rfl, rfl⟩
      cases f2
      case true =>
        go_wp2_with fail
        go_ret
        exact ⟨⟨z, HZ.out, ret_int HN.out.symm⟩, HB3.out⟩
      case false =>
        go_wp2_with fail
        refine (HE1.out _).mono ?_
        rintro e w3 ⟨rfl, rfl⟩
        cases f3
        case true =>
          go_wp2_with fail
          go_ret
          exact ⟨⟨z, HZ.out, ret_int HN.out.symm⟩, HB3.out⟩
        case false =>
          go_wp2_with fail
          refine (HE2.out _).mono ?_
          rintro e w3 ⟨rfl, rfl⟩
          cases f4
          all_goals (
            go_wp2_with fail
            go_ret
            exact ⟨⟨z, HZ.out, ret_int HN.out.symm⟩, HB3.out⟩)

def ReaPost (w : World) (N K L M : Int) (e : Ending) (w' : World) : Prop :=
  (∃ z, ReaP N K L M z ∧ e = .returned (reaV z)) ∧ Below w.heap.size w w'
set_option maxRecDepth 100000 in
set_option maxHeartbeats 2000000 in
theorem Reason_exact (N K L M : Int) (w : World) : Calls Tryd.prog 28 #[num4 N K L M] w fun e w' => if askB N K L M = true then ReaPost w N K L M e w' else (e = .returned (.tuple #[.int .i64 0, .int .i64 2]) ∧ Below w.heap.size w w') := by
  have b1 := (Below.refl w.heap.size w).alloc (Nat.le_refl _) (.cells #[.int .i64 N, .int .i64 K, .int .i64 L, .int .i64 M] 24)
  have Q1 := Q4.new w 24 N K L M
  have HB1 := Lib.hid b1
  have p0 := Q1.c0
  have p1 := Q1.c1
  have p2 := Q1.c2
  have p3 := Q1.c3
  have HA := Lib.hid (fun w => isAsked_any N K L M w)
  cases h : askB N K L M with
  | false =>
    rw [h] at HA
    unfold num4 at HA
    show Calls Tryd.prog 28 #[.agg #[.int .i64 N, .int .i64 K, .int .i64 L, .int .i64 M]] w (fun e w' => e = .returned (.tuple #[.int .i64 0, .int .i64 2]) ∧ Below w.heap.size w w')
    clear h b1 Q1
    go_enter Tryd.func28, Tryd.ntmps28
    go_wp2_with fail
    refine (HA.out _).mono ?_
    rintro e w1 ⟨rfl, hb⟩
    have HB2 := Lib.hid (HB1.out.trans (hb.mono HB1.out.size))
    clear hb
    go_wp2_with fail
    go_ret2
    exact ⟨rfl, HB2.out⟩
  | true =>
    have HR := Lib.hid (fun w => reason_exact N K L M w (ask_of h))
    rw [h] at HA
    unfold num4 at HA HR
    show Calls Tryd.prog 28 #[.agg #[.int .i64 N, .int .i64 K, .int .i64 L, .int .i64 M]] w (ReaPost w N K L M)
    clear h b1
    go_enter Tryd.func28, Tryd.ntmps28
    go_wp2_with fail
    refine (HA.out _).mono ?_
    rintro e w1 ⟨rfl, hb⟩
    have P2 := Q1.below hb
    have HB2 := Lib.hid (HB1.out.trans (hb.mono HB1.out.size))
    clear hb p0 p1 p2 p3
    have y0 := P2.c0
    have y1 := P2.c1
    have y2 := P2.c2
    have y3 := P2.c3
    go_wp2_with fail
    refine (HR.out _).mono ?_
    rintro e w2 ⟨⟨z, hz0, rfl⟩, hb⟩
    have HZ := Lib.hid hz0
    clear hz0
    have HB3 := Lib.hid (HB2.out.trans (hb.mono HB2.out.size))
    clear hb y0 y1 y2 y3
    cases hz : (z == 0)
    case true =>
      go_wp2_with fail
      go_ret2
      exact ⟨⟨z, HZ.out, by rw [reaV, if_pos (by simpa using hz)]; rfl⟩, HB3.out⟩
    case false =>
      go_wp2_with fail
      go_ret2
      exact ⟨⟨z, HZ.out, by rw [reaV, if_neg (by simpa using hz)]; rfl⟩, HB3.out⟩
end Go.Proofs.YtdnhfnegnjdeoaaDoor
