/- Times: the program's, whole -/
import Derived.Test.YtopmdmafameknaaTi
import Derived.Test.YtopmdmafameknaaDw
namespace Go.Proofs.Ytopmdmafameknaa
open Go.RowKit

theorem times1_tells (pa pn pb : Nat) (va vb : Value) (n m : Nat) (a b : List Nat) (w : World) (h : CapT w pa pn pb va vb n a b m) : Tells 72 #[.pointer (some ⟨pa, 0, none⟩), .pointer (some ⟨pn, 0, none⟩), .pointer (some ⟨pb, 0, none⟩)] (m * n) (timesF a b n) w where
  enter := fun args w => by kernel_rfl
  call := fun i j w' hi hj hb => (times1_any i j pa pn pb va vb n m a b w' (h.below hb) hi hj).mono fun e w'' ⟨he, q, hw⟩ => by subst hw; exact ⟨he, below_drewN (Below.refl _ _) q⟩

theorem three_cells (w : World) (x y z : Value) (s t u : TypeId) : (((w.alloc (.cells #[x] s)).alloc (.cells #[y] t)).alloc (.cells #[z] u)).cell? ⟨w.heap.size, 0, none⟩ = some x ∧ (((w.alloc (.cells #[x] s)).alloc (.cells #[y] t)).alloc (.cells #[z] u)).cell? ⟨w.heap.size + 1, 0, none⟩ = some y ∧ (((w.alloc (.cells #[x] s)).alloc (.cells #[y] t)).alloc (.cells #[z] u)).cell? ⟨w.heap.size + 1 + 1, 0, none⟩ = some z := by
  have h1 : (w.alloc (.cells #[x] s)).cell? ⟨w.heap.size, 0, none⟩ = some x := by simp
  have e1 : (w.alloc (.cells #[x] s)).heap.size = w.heap.size + 1 := by simp
  have e2 : ((w.alloc (.cells #[x] s)).alloc (.cells #[y] t)).heap.size = w.heap.size + 1 + 1 := by simp
  have h2 : ((w.alloc (.cells #[x] s)).alloc (.cells #[y] t)).cell? ⟨(w.alloc (.cells #[x] s)).heap.size, 0, none⟩ = some y := World.cell?_alloc_new ..
  have h3 : (((w.alloc (.cells #[x] s)).alloc (.cells #[y] t)).alloc (.cells #[z] u)).cell? ⟨((w.alloc (.cells #[x] s)).alloc (.cells #[y] t)).heap.size, 0, none⟩ = some z := World.cell?_alloc_new ..
  rw [e1] at h2
  rw [e2] at h3
  exact ⟨ck h1 (((Below.refl _ _).alloc (Nat.le_refl _) _).alloc (by simp) _), ck h2 ((Below.refl _ _).alloc (Nat.le_refl _) _), h3⟩

def timesS (m n : Nat) (a b : List Nat) : List Nat := plantL (m * n) (timesF a b n)
def TimesPost (w : World) (xs ys : List Int) (e : Ending) (w' : World) : Prop :=
  (if (matB 16 xs && matB 16 ys) = true then (if xs.length * ys.length ≤ 16 then ∃ v, e = .returned (.tuple #[v, .int .i64 0]) ∧ Nats w' v (timesS xs.length ys.length (xs.map Int.toNat) (ys.map Int.toNat)) else e = .returned (.tuple #[.slice none 0 0, .int .i64 6])) else e = .returned (.tuple #[.slice none 0 0, .int .i64 2])) ∧ Below w.heap.size w w'

set_option maxHeartbeats 2000000 in
set_option maxRecDepth 100000 in
theorem times_any (va vb : Value) (xs ys : List Int) (w : World) (ha : Ints w va xs) (hb : Ints w vb ys) :
    Calls Try.prog 26 #[va, vb] w (TimesPost w xs ys) := by
  have B2 : Below w.heap.size w ((w.alloc (.cells #[va] 22)).alloc (.cells #[vb] 22)) := ((Below.refl w.heap.size w).alloc (Nat.le_refl _) _).alloc (by simp) _
  have HB2 := Lib.hid B2
  have HV1 := Lib.hid (valid_any va xs _ (ha.below B2 (Nat.le_refl _)))
  have HV2 := Lib.hid (valid_any vb ys _ (hb.below B2 (Nat.le_refl _)))
  cases h1 : matB 16 xs with
  | false =>
    have HS : Hid ((matB 16 xs && matB 16 ys) = false) := by rw [h1]; rfl
    rw [h1] at HV1
    obtain ⟨ao, cap, rfl, _⟩ := ha.open
    obtain ⟨bo, capb, rfl, _⟩ := hb.open
    clear h1 ha hb B2
    go_enter Try.func26, Try.ntmps26
    go_wp2_with fail
    refine HV1.out.mono ?_
    rintro e w' ⟨rfl, rfl⟩
    go_wp2
    go_ret2
    unfold TimesPost
    rw [HS.out]
    exact ⟨rfl, HB2.out⟩
  | true =>
    rw [h1] at HV1
    cases h2 : matB 16 ys with
    | false =>
      have HS : Hid ((matB 16 xs && matB 16 ys) = false) := by rw [h2]; exact Bool.and_false _
      rw [h2] at HV2
      obtain ⟨ao, cap, rfl, _⟩ := ha.open
      obtain ⟨bo, capb, rfl, _⟩ := hb.open
      clear h1 h2 ha hb B2
      go_enter Try.func26, Try.ntmps26
      go_wp2_with fail
      refine HV1.out.mono ?_
      rintro e w' ⟨rfl, rfl⟩
      go_wp2_with fail
      refine HV2.out.mono ?_
      rintro e w' ⟨rfl, rfl⟩
      go_wp2
      go_ret2
      unfold TimesPost
      rw [HS.out]
      exact ⟨rfl, HB2.out⟩
    | true =>
      have HS : Hid ((matB 16 xs && matB 16 ys) = true) := by rw [h1, h2]; rfl
      rw [h2] at HV2
      obtain ⟨a, m, rfl, hma, hm, hlm⟩ := matB_of' (Nat.le_refl _) h1
      obtain ⟨b, n, rfl, hmb, hn, hln⟩ := matB_of' (Nat.le_refl _) h2
      have HL := Lib.hid (show (nats a).length * (nats b).length = m * n by rw [hlm, hln])
      have HL1 := Lib.hid hlm
      have HL2 := Lib.hid hln
      have hmul : (m:Int) * (n:Int) = ((m * n : Nat) : Int) := (Int.natCast_mul ..).symm
      have hmn := Nat.mul_le_mul hm hn
      have hmp := hma.pos
      obtain ⟨ao, cap, rfl, _, _⟩ := hma.open ha
      obtain ⟨bo, capb, rfl, _, _⟩ := hmb.open hb
      by_cases hsz : m * n ≤ 16
      · have B3 : Below w.heap.size w ((((w.alloc (.cells #[.slice ao m cap] 22)).alloc (.cells #[.slice bo n capb] 22)).alloc (.cells #[.int .i64 n] 3))) := B2.alloc (by simp; omega) _
        have hcap : CapT ((((w.alloc (.cells #[.slice ao m cap] 22)).alloc (.cells #[.slice bo n capb] 22)).alloc (.cells #[.int .i64 n] 3))) w.heap.size (w.heap.size + 1 + 1) (w.heap.size + 1) (.slice ao m cap) (.slice bo n capb) n a b m := by
          exact ⟨(three_cells w _ _ _ _ _ _).1, (three_cells w _ _ _ _ _ _).2.2, (three_cells w _ _ _ _ _ _).2.1, ha.below B3 (Nat.le_refl _), hb.below B3 (Nat.le_refl _), hma, hmb⟩
        have HC := Lib.hid (plant_any (m * n) 72 _ _ _ hsz (times1_tells _ _ _ _ _ _ _ _ _ _ hcap))
        have HB3 := Lib.hid B3
        have hs3 : ((((w.alloc (.cells #[.slice ao m cap] 22)).alloc (.cells #[.slice bo n capb] 22)).alloc (.cells #[.int .i64 n] 3))).heap.size = w.heap.size + 1 + 1 + 1 := by simp
        rw [hs3] at HC
        have hsz' := Lib.hid hsz
        have HN : Hid (∀ w' g, NatBlk w' g (plantL (m * n) (timesF a b n)) → Nats w' (.slice (some ⟨g, 0, none⟩) (m * n) (m * n)) (timesS m n a b)) := fun w' g h => plant_nats hsz h
        clear h1 h2 ha hb hma hmb B2 B3 hcap hlm hln hs3
        generalize m * n = mn at *
        go_enter Try.func26, Try.ntmps26
        go_wp2_with fail
        refine HV1.out.mono ?_
        rintro e w' ⟨rfl, rfl⟩
        go_wp2_with fail
        refine HV2.out.mono ?_
        rintro e w' ⟨rfl, rfl⟩
        go_wp2_with fail
        refine HC.out.mono ?_
        rintro e w1 ⟨rfl, hB, hb1⟩
        have HB := Lib.hid (HB3.out.trans (hb1.mono (by omega)))
        have HV := Lib.hid (HN.out _ _ hB)
        clear hB hb1
        go_wp2
        go_ret2
        unfold TimesPost
        rw [if_pos HS.out, if_pos (by rw [HL.out]; exact hsz'.out), HL1.out, HL2.out, nats_toNat, nats_toNat]
        exact ⟨⟨_, rfl, HV.out⟩, HB.out⟩
      · have hsz' := Lib.hid hsz
        have HB3 : Hid (Below w.heap.size w ((((w.alloc (.cells #[.slice ao m cap] 22)).alloc (.cells #[.slice bo n capb] 22)).alloc (.cells #[.int .i64 n] 3)))) := B2.alloc (by simp; omega) _
        clear h1 h2 ha hb hma hmb B2 hlm hln
        generalize m * n = mn at *
        go_enter Try.func26, Try.ntmps26
        go_wp2_with fail
        refine HV1.out.mono ?_
        rintro e w' ⟨rfl, rfl⟩
        go_wp2_with fail
        refine HV2.out.mono ?_
        rintro e w' ⟨rfl, rfl⟩
        go_wp2
        go_ret2
        unfold TimesPost
        rw [if_pos HS.out, if_neg (by rw [HL.out]; exact hsz'.out)]
        exact ⟨rfl, HB3.out⟩
end Go.Proofs.Ytopmdmafameknaa
