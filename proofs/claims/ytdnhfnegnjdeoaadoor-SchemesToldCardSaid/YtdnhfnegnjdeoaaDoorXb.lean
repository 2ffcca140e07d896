/- the solutions of numbers: what spectrum and Solve answer -/
import Derived.Test.YtdnhfnegnjdeoaaDoorXa
import Derived.Test.YtdnhfnegnjdeoaaDoorNu
namespace Go.Proofs.YtdnhfnegnjdeoaaDoor
open Go.RowKit

/-- R and S are the solutions, the greater one first. -/
structure RootP (K L M R S : Int) : Prop where
  le : S ≤ R
  sum : R + S = L - M
  prod : R * S = M - K
theorem RootP.one {K L M R S R' S' : Int} (h : RootP K L M R S) (h' : RootP K L M R' S') : R = R' ∧ S = S' := by
  obtain ⟨a, b, c⟩ := h
  obtain ⟨a', b', c'⟩ := h'
  have h1 : (R - R') * (R - S') = 0 := by grind
  rcases Int.mul_eq_zero.1 h1 with h | h <;> omega
theorem RootP.sq {K L M R S : Int} (h : RootP K L M R S) : (R - S) * (R - S) = (L - M) * (L - M) + 4 * (K - M) := by
  obtain ⟨a, b, c⟩ := h
  grind
theorem RootP.ask {N K L M R S : Int} (h : RootP K L M R S) (ha : AskN N K L M) : 1 ≤ R - S ∧ R - S ≤ 99 ∧ 0 ≤ R ∧ R ≤ 99 ∧ S ≤ -1 ∧ -99 ≤ S := by
  have hs := h.sq
  obtain ⟨r, hr⟩ : ∃ r : Nat, (r:Int) = R - S := ⟨(R - S).toNat, by have := h.le; omega⟩
  obtain ⟨t, a1, a2, a3, a4, a5, a6, a7, a8⟩ := spec_root (r := r) ha (by rw [hr]; exact hs)
  have := h.sum
  omega
/-- How often R occurs. -/
def TimesP (N K R S F : Int) : Prop := F * (R - S) = -K - (N - 1) * S
theorem TimesP.one {N K R S F F' : Int} (h : TimesP N K R S F) (h' : TimesP N K R S F') (hd : 1 ≤ R - S) : F = F' := by
  unfold TimesP at *
  have h1 : (F - F') * (R - S) = 0 := by grind
  rcases Int.mul_eq_zero.1 h1 with h | h <;> omega
theorem TimesP.ok {N K L M R S F : Int} (h : TimesP N K R S F) (hr : RootP K L M R S) (ha : AskN N K L M) : SpecOK N K L M R S F (N - 1 - F) ∧ F ≤ 99 ∧ 0 ≤ F := by
  obtain ⟨a1, a2, a3, a4, a5, a6⟩ := hr.ask ha
  have e : R - (R - S) = S := by omega
  have := spec_ok (t := R) (F := F) (dd := R - S) ha a1 a2 (by have := hr.sum; omega) (by rw [e]; exact hr.prod) (by omega) a3 a4 (by omega) (by rw [e]; exact h)
  rwa [e] at this
theorem TimesP.pos {N K L M R S F : Int} (h : TimesP N K R S F) (hr : RootP K L M R S) (ha : AskN N K L M) : 1 ≤ F ∧ 1 ≤ N - 1 - F := by
  obtain ⟨a1, a2, a3, a4, a5, a6⟩ := hr.ask ha
  have := ha.kn
  have := ha.k1
  unfold TimesP at h
  constructor
  · rcases Int.lt_or_le F 1 with hF | hF
    · exfalso
      have h1 : 0 ≤ (-F) * (R - S) := Int.mul_nonneg (by omega) (by omega)
      have h2 : (-F) * (R - S) = -(F * (R - S)) := by grind
      have h3 : (N - 1) * 1 ≤ (N - 1) * (-S) := Int.mul_le_mul_of_nonneg_left (by omega) (by omega)
      have h4 : (N - 1) * (-S) = -((N - 1) * S) := by grind
      omega
    · exact hF
  · rcases Int.lt_or_le (N - 1 - F) 1 with hF | hF
    · exfalso
      have h1 : 0 ≤ (-(N - 1 - F)) * (R - S) := Int.mul_nonneg (by omega) (by omega)
      have h2 : (-(N - 1 - F)) * (R - S) = F * (R - S) - (N - 1) * (R - S) := by grind
      have h3 : 0 ≤ (N - 1) * R := Int.mul_nonneg (by omega) a3
      have h4 : (N - 1) * (R - S) = (N - 1) * R - (N - 1) * S := by grind
      omega
    · exact hF
/-- What Solve answers: a spectrum and an error. -/
def SolP (N K L M : Int) (v : Value) (er : Int) : Prop :=
  ((¬ ∃ R S, RootP K L M R S) ∧ v = num4 0 0 0 0 ∧ er = 5) ∨
  (∃ R S, RootP K L M R S ∧ (¬ ∃ F, TimesP N K R S F) ∧ v = num4 0 0 0 0 ∧ er = 4) ∨
  (∃ R S F, RootP K L M R S ∧ TimesP N K R S F ∧ v = num4 R S F (N - 1 - F) ∧ er = 0)
theorem SolP.one {N K L M : Int} {v v' : Value} {er er' : Int} (ha : AskN N K L M) (h : SolP N K L M v er) (h' : SolP N K L M v' er') : v = v' ∧ er = er' := by
  rcases h with ⟨h, rfl, rfl⟩ | ⟨R, S, hr, hn, rfl, rfl⟩ | ⟨R, S, F, hr, hf, rfl, rfl⟩ <;> rcases h' with ⟨h', rfl, rfl⟩ | ⟨R', S', hr', hn', rfl, rfl⟩ | ⟨R', S', F', hr', hf', rfl, rfl⟩
  · exact ⟨rfl, rfl⟩
  · exact absurd ⟨_, _, hr'⟩ h
  · exact absurd ⟨_, _, hr'⟩ h
  · exact absurd ⟨_, _, hr⟩ h'
  · exact ⟨rfl, rfl⟩
  · obtain ⟨rfl, rfl⟩ := hr.one hr'
    exact absurd ⟨_, hf'⟩ hn
  · exact absurd ⟨_, _, hr⟩ h'
  · obtain ⟨rfl, rfl⟩ := hr.one hr'
    exact absurd ⟨_, hf⟩ hn'
  · obtain ⟨rfl, rfl⟩ := hr.one hr'
    obtain rfl := hf.one hf' (hr.ask ha).1
    exact ⟨rfl, rfl⟩
def SolPost (w : World) (N K L M : Int) (e : Ending) (w' : World) : Prop :=
  (∃ v er, SolP N K L M v er ∧ e = .returned (.tuple #[v, .int .i64 er])) ∧ Below w.heap.size w w'

set_option maxRecDepth 100000 in
set_option maxHeartbeats 2000000 in
theorem spectrum_exact (N K L M : Int) (w : World) (h : AskN N K L M) : Calls Tryd.prog 68 #[num4 N K L M] w (SolPost w N K L M) := by
  have s1 : (w.alloc (.cells #[.int .i64 N, .int .i64 K, .int .i64 L, .int .i64 M] 24)).heap.size = w.heap.size + 1 := World.size_alloc _ _
  have b1 : Below w.heap.size w (w.alloc (.cells #[.int .i64 N, .int .i64 K, .int .i64 L, .int .i64 M] 24)) := (Below.refl _ w).alloc (Nat.le_refl _) _
  have Q1 : Q4 (w.alloc (.cells #[.int .i64 N, .int .i64 K, .int .i64 L, .int .i64 M] 24)) w.heap.size 24 N K L M := Q4.new w 24 N K L M
  have s2 : ((w.alloc (.cells #[.int .i64 N, .int .i64 K, .int .i64 L, .int .i64 M] 24)).alloc (.cells #[.int .i64 0, .int .i64 0, .int .i64 0, .int .i64 0] 39)).heap.size = w.heap.size + 1 + 1 := by rw [← s1]; exact World.size_alloc _ _
  have b2 : Below (w.alloc (.cells #[.int .i64 N, .int .i64 K, .int .i64 L, .int .i64 M] 24)).heap.size (w.alloc (.cells #[.int .i64 N, .int .i64 K, .int .i64 L, .int .i64 M] 24)) ((w.alloc (.cells #[.int .i64 N, .int .i64 K, .int .i64 L, .int .i64 M] 24)).alloc (.cells #[.int .i64 0, .int .i64 0, .int .i64 0, .int .i64 0] 39)) := (Below.refl _ _).alloc (Nat.le_refl _) _
  have Q2 : Q4 ((w.alloc (.cells #[.int .i64 N, .int .i64 K, .int .i64 L, .int .i64 M] 24)).alloc (.cells #[.int .i64 0, .int .i64 0, .int .i64 0, .int .i64 0] 39)) (w.heap.size + 1) 39 0 0 0 0 := by rw [← s1]; exact Q4.new _ 39 0 0 0 0
  have Q1' : Q4 ((w.alloc (.cells #[.int .i64 N, .int .i64 K, .int .i64 L, .int .i64 M] 24)).alloc (.cells #[.int .i64 0, .int .i64 0, .int .i64 0, .int .i64 0] 39)) w.heap.size 24 N K L M := Q1.below b2
  have HB2 := Lib.hid (b1.trans (b2.mono b1.size))
  have hb := mul_bd (x := L - M) (y := L - M) (A := 100) (B := 100) (by have := h.m0; have := h.mlk; have := h.lk; have := h.l0; have := h.kn; have := h.n100; omega) (by have := h.m0; have := h.mlk; have := h.lk; have := h.l0; have := h.kn; have := h.n100; omega)
  have HR := Lib.hid (fun w => root_exact ((L - M) * (L - M) + 4 * (K - M)) w (by have := h.m0; have := h.k1; have := h.kn; have := h.n100; omega))
  have HSR := Lib.hid (fun r => spec_root (r := r) h)
  have HSO := Lib.hid (fun t F (r : Nat) => spec_ok (t := t) (F := F) (dd := (r : Int)) h)
  have HAsk := Lib.hid h
  obtain ⟨n4, n100, k1, kn, l0, lk, m0, mk⟩ := h
  have p0 := Q1'.c0
  have p1 := Q1'.c1
  have p2 := Q1'.c2
  have p3 := Q1'.c3
  have q0 := Q2.c0
  have q1 := Q2.c1
  have q2 := Q2.c2
  have q3 := Q2.c3
  have f0 := Q2.fr 0
  have f1 := Q2.fr 1
  have f2 := Q2.fr 2
  have f3 := Q2.fr 3
  clear b1 b2 Q1 s1
  unfold num4
  go_enter Tryd.func68, Tryd.ntmps68
  go_wp2_with fail
  refine (HR.out _).mono ?_
  rintro e w' ⟨⟨r, rfl, hr, hu⟩, rfl⟩
  have HU := Lib.hid hu
  clear hu
  generalize ((w.alloc (.cells #[.int .i64 N, .int .i64 K, .int .i64 L, .int .i64 M] 24)).alloc (.cells #[.int .i64 0, .int .i64 0, .int .i64 0, .int .i64 0] 39)) = W2 at *
  by_cases he : (r:Int) * (r:Int) = (L - M) * (L - M) + 4 * (K - M)
  case neg =>
    have heq : ((r:Int) * (r:Int) == (L - M) * (L - M) + 4 * (K - M)) = false := by simp [he]
    have HNo : Hid (¬ ∃ R S, RootP K L M R S) := Lib.hid fun ⟨R, S, hRS⟩ => by
      have h1 := hRS.sq
      have h2 := hRS.ask HAsk.out
      have h3 := HU.out (R - S).toNat (by rw [show (((R - S).toNat : Nat) : Int) = R - S by omega]; exact h1)
      exact he (by rw [← h3, show (((R - S).toNat : Nat) : Int) = R - S by omega]; exact h1)
    clear he
    go_wp2_with fail
    have hS := Q2.store 0 0 0 0
    have hBS := set4_below HB2.out (A := w.heap.size + 1) (by omega) 0 0 0 0
    simp only [set4] at hS hBS
    generalize ((((W2.setCell ⟨w.heap.size + 1, 0, none⟩ (.int .i64 0)).setCell ⟨w.heap.size + 1, 1, none⟩ (.int .i64 0)).setCell ⟨w.heap.size + 1, 2, none⟩ (.int .i64 0)).setCell ⟨w.heap.size + 1, 3, none⟩ (.int .i64 0)) = W at *
    refine bodyPost_ret (v := .tuple #[num4 0 0 0 0, .int .i64 5]) ?_ rfl ⟨⟨_, _, .inl ⟨HNo.out, rfl, rfl⟩, rfl⟩, hBS⟩
    simp [results, Tryd.f68, go_sem, hS.c0, hS.c1, hS.c2, hS.c3, num4]
  case pos =>
    have heq : ((r:Int) * (r:Int) == (L - M) * (L - M) + 4 * (K - M)) = true := by simp [he]
    obtain ⟨t, r1, r99, ht, hp, hS1, hR0, ht9, hs9⟩ := HSR.out r he
    have HSO' := Lib.hid (fun F => HSO.out t F r (by omega) (by omega) ht hp hS1 hR0 ht9 hs9)
    have d1 : (L - M + (r:Int)).tdiv 2 = t := by rw [ht]; exact Int.mul_tdiv_cancel_left _ (by decide)
    have d2 : (L - M - (r:Int)).tdiv 2 = t - r := by rw [show L - M - (r:Int) = 2 * (t - r) by omega]; exact Int.mul_tdiv_cancel_left _ (by decide)
    have hnz : ((r:Int) == 0) = false := by simp; omega
    have hm := mul_bd (x := N - 1) (y := t - r) (A := 100) (B := 100) (by omega) (by omega)
    have HTD := Lib.hid (Int.mul_tdiv_add_tmod (-K - (N - 1) * (t - r)) r)
    have HB3 := Lib.hid (HB2.out.alloc HB2.out.size (.cells #[.int .i64 t, .int .i64 (t - r), .int .i64 0, .int .i64 0] 39))
    have hb3 : Below W2.heap.size W2 (W2.alloc (.cells #[.int .i64 t, .int .i64 (t - r), .int .i64 0, .int .i64 0] 39)) := (Below.refl _ W2).alloc (Nat.le_refl _) _
    have Q3 : Q4 (W2.alloc (.cells #[.int .i64 t, .int .i64 (t - r), .int .i64 0, .int .i64 0] 39)) (w.heap.size + 1 + 1) 39 t (t - r) 0 0 := by rw [← s2]; exact Q4.new W2 39 t (t - r) 0 0
    have x0 := Q3.c0
    have x1 := Q3.c1
    have x2 := Q3.c2
    have x3 := Q3.c3
    have g2 := Q3.fr 2
    have P3 := Q1'.below hb3
    have y0 := P3.c0
    have y1 := P3.c1
    have y2 := P3.c2
    have y3 := P3.c3
    have R3 := Q2.below hb3
    have HRt : Hid (RootP K L M t (t - r)) := Lib.hid ⟨by omega, by omega, hp⟩
    clear he ht hp HSO HSR HU
    by_cases hz : (-K - (N - 1) * (t - r)).tmod r = 0
    case neg =>
      have hz' : ((-K - (N - 1) * (t - r)).tmod r != 0) = true := by simp [hz]
      have HNo : Hid (¬ ∃ F, TimesP N K t (t - r) F) := Lib.hid fun ⟨F, hF⟩ => by
        unfold TimesP at hF
        rw [show t - (t - (r:Int)) = r by omega] at hF
        exact hz (by rw [← hF]; exact Int.mul_tmod_left _ _)
      have z0 := R3.c0
      have z1 := R3.c1
      have z2 := R3.c2
      have z3 := R3.c3
      have e0 := R3.fr 0
      have e1 := R3.fr 1
      have e2 := R3.fr 2
      have e3 := R3.fr 3
      clear hz HTD HSO'
      go_wp2_with fail
      have hS0 := Q2.store 0 0 0 0
      have hBS0 := set4_below HB2.out (A := w.heap.size + 1) (by omega) 0 0 0 0
      have hS := hS0.below ((Below.refl _ _).alloc (Nat.le_refl _) (.cells #[.int .i64 t, .int .i64 (t - r), .int .i64 0, .int .i64 0] 39))
      have hBS := hBS0.alloc hBS0.size (.cells #[.int .i64 t, .int .i64 (t - r), .int .i64 0, .int .i64 0] 39)
      simp only [set4] at hS hBS
      clear hS0 hBS0
      refine bodyPost_ret (v := .tuple #[num4 0 0 0 0, .int .i64 4]) ?_ rfl ⟨⟨_, _, .inr (.inl ⟨_, _, HRt.out, HNo.out, rfl, rfl⟩), rfl⟩, hBS⟩
      simp [results, Tryd.f68, go_sem, hS.c0, hS.c1, hS.c2, hS.c3, num4]
    case pos =>
      have hz' : ((-K - (N - 1) * (t - r)).tmod r != 0) = false := by simp [hz]
      obtain ⟨F, hF⟩ : ∃ F, F = (-K - (N - 1) * (t - r)).tdiv r := ⟨_, rfl⟩
      have hFr : F * r = -K - (N - 1) * (t - r) := by
        have := HTD.out
        rw [hz, ← hF, Int.add_zero, Int.mul_comm] at this
        exact this
      obtain ⟨HOK, hF9, hF0⟩ := HSO'.out F hFr
      have HOK := Lib.hid HOK
      have HTm : Hid (TimesP N K t (t - r) F) := Lib.hid (by unfold TimesP; rw [show t - (t - (r:Int)) = r by omega]; exact hFr)
      have d3 : (-K - (N - 1) * (t - r)).tdiv r = F := hF.symm
      clear hz hF hFr HTD HSO'
      go_wp2_with fail
      have hS0 := Q2.store t (t - r) F (N - 1 - F)
      have hBS0 := set4_below HB2.out (A := w.heap.size + 1) (by omega) t (t - r) F (N - 1 - F)
      have hS := hS0.below ((Below.refl _ _).alloc (Nat.le_refl _) (.cells #[.int .i64 t, .int .i64 (t - r), .int .i64 F, .int .i64 (N - 1 - F)] 39))
      have hBS := hBS0.alloc hBS0.size (.cells #[.int .i64 t, .int .i64 (t - r), .int .i64 F, .int .i64 (N - 1 - F)] 39)
      simp only [set4] at hS hBS
      clear hS0 hBS0
      refine bodyPost_ret (v := .tuple #[num4 t (t - r) F (N - 1 - F), .int .i64 0]) ?_ rfl ⟨⟨_, _, .inr (.inr ⟨_, _, _, HRt.out, HTm.out, rfl, rfl⟩), rfl⟩, hBS⟩
      simp [results, Tryd.f68, go_sem, hS.c0, hS.c1, hS.c2, hS.c3, num4]


set_option maxRecDepth 100000 in
set_option maxHeartbeats 2000000 in
theorem Solve_exact (N K L M : Int) (w : World) (h : askB N K L M = true) : Calls Tryd.prog 26 #[num4 N K L M] w (SolPost w N K L M) := by
  have b1 := (Below.refl w.heap.size w).alloc (Nat.le_refl _) (.cells #[.int .i64 N, .int .i64 K, .int .i64 L, .int .i64 M] 24)
  have s1 : (w.alloc (.cells #[.int .i64 N, .int .i64 K, .int .i64 L, .int .i64 M] 24)).heap.size = w.heap.size + 1 := World.size_alloc _ _
  have Q1 := Q4.new w 24 N K L M
  have b2 := (Below.refl (w.alloc (.cells #[.int .i64 N, .int .i64 K, .int .i64 L, .int .i64 M] 24)).heap.size (w.alloc (.cells #[.int .i64 N, .int .i64 K, .int .i64 L, .int .i64 M] 24))).alloc (Nat.le_refl _) (.cells #[.int .i64 0, .int .i64 0, .int .i64 0, .int .i64 0] 39)
  have Q2 := Q4.new (w.alloc (.cells #[.int .i64 N, .int .i64 K, .int .i64 L, .int .i64 M] 24)) 39 0 0 0 0
  rw [s1] at Q2
  have Q1' := Q1.below b2
  have HB2 := Lib.hid (b1.trans (b2.mono b1.size))
  have p0 := Q1'.c0
  have p1 := Q1'.c1
  have p2 := Q1'.c2
  have p3 := Q1'.c3
  have HA := Lib.hid (fun w => isAsked_any N K L M w)
  have HS := Lib.hid (fun w => spectrum_exact N K L M w (ask_of h))
  rw [h] at HA
  unfold num4 at HA ⊢
  unfold SolPost num4 at HS
  clear h b1 b2 Q1 s1
  go_enter Tryd.func26, Tryd.ntmps26
  go_wp2_with fail
  refine (HA.out _).mono ?_
  rintro e w1 ⟨rfl, hb1⟩
  have Q3 := Q2.below hb1
  have P3 := Q1'.below hb1
  have HB3 := Lib.hid (HB2.out.trans (hb1.mono HB2.out.size))
  have y0 := P3.c0
  have y1 := P3.c1
  have y2 := P3.c2
  have y3 := P3.c3
  clear hb1 P3
  go_wp2_with fail
  refine (HS.out _).mono ?_
  rintro e w2 ⟨hc, hb2⟩
  have Q5 := Q3.below hb2
  have HB5 := Lib.hid (HB3.out.trans (hb2.mono HB3.out.size))
  have q0 := Q5.c0
  have q1 := Q5.c1
  have q2 := Q5.c2
  have q3 := Q5.c3
  have f0 := Q5.fr 0
  have f1 := Q5.fr 1
  have f2 := Q5.fr 2
  have f3 := Q5.fr 3
  clear hb2 y0 y1 y2 y3
  obtain ⟨v, er, hs, rfl⟩ := hc
  have HSP := Lib.hid hs
  have HCs : Hid (∃ R S F G, v = num4 R S F G) := Lib.hid (by
    rcases hs with ⟨_, rfl, _⟩ | ⟨_, _, _, _, rfl, _⟩ | ⟨R, S, F, _, _, rfl, _⟩
    · exact ⟨_, _, _, _, rfl⟩
    · exact ⟨_, _, _, _, rfl⟩
    · exact ⟨_, _, _, _, rfl⟩)
  obtain ⟨R, S, F, G, rfl⟩ := HCs.out
  clear hs HCs
  unfold num4 at HSP ⊢
  go_wp2_with fail
  have hS := Q5.store R S F G
  have hBS := set4_below HB5.out (A := w.heap.size + 1) (by omega) R S F G
  simp only [set4] at hS hBS
  refine bodyPost_ret (v := .tuple #[num4 R S F G, .int .i64 er]) ?_ rfl ⟨⟨_, _, HSP.out, rfl⟩, hBS⟩
  simp [results, Tryd.f26, go_sem, hS.c0, hS.c1, hS.c2, hS.c3, num4]
end Go.Proofs.YtdnhfnegnjdeoaaDoor
