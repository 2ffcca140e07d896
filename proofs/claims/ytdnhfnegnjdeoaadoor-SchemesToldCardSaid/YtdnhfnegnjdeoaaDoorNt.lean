/- spectrum -/
import Derived.Test.YtdnhfnegnjdeoaaDoorNs
namespace Go.Proofs.YtdnhfnegnjdeoaaDoor
open Go.RowKit

def SpecPost (w : World) (N K L M : Int) (e : Ending) (w' : World) : Prop :=
  ((e = .returned (.tuple #[num4 0 0 0 0, .int .i64 5]) ∨ e = .returned (.tuple #[num4 0 0 0 0, .int .i64 4])) ∨ ∃ R S F G, SpecOK N K L M R S F G ∧ e = .returned (.tuple #[num4 R S F G, .int .i64 0])) ∧ Below w.heap.size w w'

set_option maxRecDepth 100000 in
set_option maxHeartbeats 2000000 in
theorem spectrum_any (N K L M : Int) (w : World) (h : AskN N K L M) : Calls Tryd.prog 68 #[num4 N K L M] w (SpecPost w N K L M) := by
  have s1 : (w.alloc (.cells #[.int .i64 N, .int .i64 K, .int .i64 L, .int .i64 M] 24)).heap.size = w.heap.size + 1 := World.size_alloc _ _
  have b1 : Below w.heap.size w (w.alloc (.cells #[.int .i64 N, .int .i64 K, .int .i64 L, .int .i64 M] 24)) := (Below.refl _ w).alloc (Nat.le_refl _) _
  have Q1 : Q4 (w.alloc (.cells #[.int .i64 N, .int .i64 K, .int .i64 L, .int .i64 M] 24)) w.heap.size 24 N K L M := Q4.new w 24 N K L M
  have s2 : ((w.alloc (.cells #[.int .i64 N, .int .i64 K, .int .i64 L, .int .i64 M] 24)).alloc (.cells #[.int .i64 0, .int .i64 0, .int .i64 0, .int .i64 0] 39)).heap.size = w.heap.size + 1 + 1 := by rw [← s1]; exact World.size_alloc _ _
  have b2 : Below (w.alloc (.cells #[.int .i64 N, .int .i64 K, .int .i64 L, .int .i64 M] 24)).heap.size (w.alloc (.cells #[.int .i64 N, .int .i64 K, .int .i64 L, .int .i64 M] 24)) ((w.alloc (.cells #[.int .i64 N, .int .i64 K, .int .i64 L, .int .i64 M] 24)).alloc (.cells #[.int .i64 0, .int .i64 0, .int .i64 0, .int .i64 0] 39)) := (Below.refl _ _).alloc (Nat.le_refl _) _
  have Q2 : Q4 ((w.alloc (.cells #[.int .i64 N, .int .i64 K, .int .i64 L, .int .i64 M] 24)).alloc (.cells #[.int .i64 0, .int .i64 0, .int .i64 0, .int .i64 0] 39)) (w.heap.size + 1) 39 0 0 0 0 := by rw [← s1]; exact Q4.new _ 39 0 0 0 0
  have Q1' : Q4 ((w.alloc (.cells #[.int .i64 N, .int .i64 K, .int .i64 L, .int .i64 M] 24)).alloc (.cells #[.int .i64 0, .int .i64 0, .int .i64 0, .int .i64 0] 39)) w.heap.size 24 N K L M := Q1.below b2
  have HB2 := Lib.hid (b1.trans (b2.mono b1.size))
  have hb := mul_bd (x := L - M) (y := L - M) (A := 100) (B := 100) (by have := h.m0; have := h.mlk; have := h.lk; have := h.l0; have := h.kn; have := h.n100; omega) (by have := h.m0; have := h.mlk; have := h.lk; have := h.l0; have := h.kn; have := h.n100; omega)
  have HR := Lib.hid (fun w => root_any ((L - M) * (L - M) + 4 * (K - M)) w (by have := h.m0; have := h.k1; have := h.kn; have := h.n100; omega))
  have HSR := Lib.hid (fun r => spec_root (r := r) h)
  have HSO := Lib.hid (fun t F (r : Nat) => spec_ok (t := t) (F := F) (dd := (r : Int)) h)
  obtain ⟨n4, n100, k1, kn, l0, lk, m0, mk⟩ := h
  have p0 := Q1'.c0
  have p1 := Q1'.c1
  have p2 := Q1'.c2
  have p3 := Q1'.c3
  have q0 := Q2.c0
  have q1 := Q2.c1
  have q2 := Q2.c2
  have q3 := Q2.c3
  have f0 := Q2.fr 0
  have f1 := Q2.fr 1
  have f2 := Q2.fr 2
  have f3 := Q2.fr 3
  clear b1 b2 Q1 s1
  unfold num4
  go_enter Tryd.func68, Tryd.ntmps68
  go_wp2_with fail
  refine (HR.out _).mono ?_
  rintro e w' ⟨⟨r, rfl, hr⟩, rfl⟩
  generalize ((w.alloc (.cells #[.int .i64 N, .int .i64 K, .int .i64 L, .int .i64 M] 24)).alloc (.cells #[.int .i64 0, .int .i64 0, .int .i64 0, .int .i64 0] 39)) = W2 at *
  by_cases he : (r:Int) * (r:Int) = (L - M) * (L - M) + 4 * (K - M)
  case neg =>
    have heq : ((r:Int) * (r:Int) == (L - M) * (L - M) + 4 * (K - M)) = false := by simp [he]
    clear he
    go_wp2_with fail
    have hS := Q2.store 0 0 0 0
    have hBS := set4_below HB2.out (A := w.heap.size + 1) (by omega) 0 0 0 0
    simp only [set4] at hS hBS
    generalize ((((W2.setCell ⟨w.heap.size + 1, 0, none⟩ (.int .i64 0)).setCell ⟨w.heap.size + 1, 1, none⟩ (.int .i64 0)).setCell ⟨w.heap.size + 1, 2, none⟩ (.int .i64 0)).setCell ⟨w.heap.size + 1, 3, none⟩ (.int .i64 0)) = W at *
    refine bodyPost_ret (v := .tuple #[num4 0 0 0 0, .int .i64 5]) ?_ rfl ⟨.inl (.inl rfl), hBS⟩
    simp [results, Tryd.f68, go_sem, hS.c0, hS.c1, hS.c2, hS.c3, num4]
  case pos =>
    have heq : ((r:Int) * (r:Int) == (L - M) * (L - M) + 4 * (K - M)) = true := by simp [he]
    obtain ⟨t, r1, r99, ht, hp, hS1, hR0, ht9, hs9⟩ := HSR.out r he
    have HSO' := Lib.hid (fun F => HSO.out t F r (by omega) (by omega) ht hp hS1 hR0 ht9 hs9)
    have d1 : (L - M + (r:Int)).tdiv 2 = t := by rw [ht]; exact Int.mul_tdiv_cancel_left _ (by decide)
    have d2 : (L - M - (r:Int)).tdiv 2 = t - r := by rw [show L - M - (r:Int) = 2 * (t - r) by omega]; exact Int.mul_tdiv_cancel_left _ (by decide)
    have hnz : ((r:Int) == 0) = false := by simp; omega
    have hm := mul_bd (x := N - 1) (y := t - r) (A := 100) (B := 100) (by omega) (by omega)
    have HTD := Lib.hid (Int.mul_tdiv_add_tmod (-K - (N - 1) * (t - r)) r)
    have HB3 := Lib.hid (HB2.out.alloc HB2.out.size (.cells #[.int .i64 t, .int .i64 (t - r), .int .i64 0, .int .i64 0] 39))
    have hb3 : Below W2.heap.size W2 (W2.alloc (.cells #[.int .i64 t, .int .i64 (t - r), .int .i64 0, .int .i64 0] 39)) := (Below.refl _ W2).alloc (Nat.le_refl _) _
    have Q3 : Q4 (W2.alloc (.cells #[.int .i64 t, .int .i64 (t - r), .int .i64 0, .int .i64 0] 39)) (w.heap.size + 1 + 1) 39 t (t - r) 0 0 := by rw [← s2]; exact Q4.new W2 39 t (t - r) 0 0
    have x0 := Q3.c0
    have x1 := Q3.c1
    have x2 := Q3.c2
    have x3 := Q3.c3
    have g2 := Q3.fr 2
    have P3 := Q1'.below hb3
    have y0 := P3.c0
    have y1 := P3.c1
    have y2 := P3.c2
    have y3 := P3.c3
    have R3 := Q2.below hb3
    clear he ht hp HSO HSR
    by_cases hz : (-K - (N - 1) * (t - r)).tmod r = 0
    case neg =>
      have hz' : ((-K - (N - 1) * (t - r)).tmod r != 0) = true := by simp [hz]
      have z0 := R3.c0
      have z1 := R3.c1
      have z2 := R3.c2
      have z3 := R3.c3
      have e0 := R3.fr 0
      have e1 := R3.fr 1
      have e2 := R3.fr 2
      have e3 := R3.fr 3
      clear hz HTD HSO'
      go_wp2_with fail
      have hS0 := Q2.store 0 0 0 0
      have hBS0 := set4_below HB2.out (A := w.heap.size + 1) (by omega) 0 0 0 0
      have hS := hS0.below ((Below.refl _ _).alloc (Nat.le_refl _) (.cells #[.int .i64 t, .int .i64 (t - r), .int .i64 0, .int .i64 0] 39))
      have hBS := hBS0.alloc hBS0.size (.cells #[.int .i64 t, .int .i64 (t - r), .int .i64 0, .int .i64 0] 39)
      simp only [set4] at hS hBS
      clear hS0 hBS0
      refine bodyPost_ret (v := .tuple #[num4 0 0 0 0, .int .i64 4]) ?_ rfl ⟨.inl (.inr rfl), hBS⟩
      simp [results, Tryd.f68, go_sem, hS.c0, hS.c1, hS.c2, hS.c3, num4]
    case pos =>
      have hz' : ((-K - (N - 1) * (t - r)).tmod r != 0) = false := by simp [hz]
      obtain ⟨F, hF⟩ : ∃ F, F = (-K - (N - 1) * (t - r)).tdiv r := ⟨_, rfl⟩
      have hFr : F * r = -K - (N - 1) * (t - r) := by
        have := HTD.out
        rw [hz, ← hF, Int.add_zero, Int.mul_comm] at this
        exact this
      obtain ⟨HOK, hF9, hF0⟩ := HSO'.out F hFr
      have HOK := Lib.hid HOK
      have d3 : (-K - (N - 1) * (t - r)).tdiv r = F := hF.symm
      clear hz hF hFr HTD HSO'
      go_wp2_with fail
      have hS0 := Q2.store t (t - r) F (N - 1 - F)
      have hBS0 := set4_below HB2.out (A := w.heap.size + 1) (by omega) t (t - r) F (N - 1 - F)
      have hS := hS0.below ((Below.refl _ _).alloc (Nat.le_refl _) (.cells #[.int .i64 t, .int .i64 (t - r), .int .i64 F, .int .i64 (N - 1 - F)] 39))
      have hBS := hBS0.alloc hBS0.size (.cells #[.int .i64 t, .int .i64 (t - r), .int .i64 F, .int .i64 (N - 1 - F)] 39)
      simp only [set4] at hS hBS
      clear hS0 hBS0
      refine bodyPost_ret (v := .tuple #[num4 t (t - r) F (N - 1 - F), .int .i64 0]) ?_ rfl ⟨.inr ⟨_, _, _, _, HOK.out, rfl⟩, hBS⟩
      simp [results, Tryd.f68, go_sem, hS.c0, hS.c1, hS.c2, hS.c3, num4]
end Go.Proofs.YtdnhfnegnjdeoaaDoor
