/- signs: Times of two matrices of four rows -/
import Derived.Test.YtdnhfnegnjdeoaaDoorTp
namespace Go.Proofs.YtdnhfnegnjdeoaaDoor
open Go.RowKit

theorem times1_tells (pa pn pb : Nat) (va vb : Value) (n m : Nat) (a b : List Nat) (w : World) (h : CapT w pa pn pb va vb n a b m) : TellsP 87 #[.pointer (some ⟨pa, 0, none⟩), .pointer (some ⟨pn, 0, none⟩), .pointer (some ⟨pb, 0, none⟩)] (m * n) (timesF a b n) w where
  enter := enters_of Tryd.func87 (by kernel_rfl) rfl
  call := fun i j w' hi hj hb => (times1_any i j pa pn pb va vb n m a b w' (h.below hb) hi hj).mono fun e w'' ⟨he, q, hw⟩ => by subst hw; exact ⟨he, below_drewN (Below.refl _ _) q⟩

theorem three_cells (w : World) (x y z : Value) (s t u : TypeId) : (((w.alloc (.cells #[x] s)).alloc (.cells #[y] t)).alloc (.cells #[z] u)).cell? ⟨w.heap.size, 0, none⟩ = some x ∧ (((w.alloc (.cells #[x] s)).alloc (.cells #[y] t)).alloc (.cells #[z] u)).cell? ⟨w.heap.size + 1, 0, none⟩ = some y ∧ (((w.alloc (.cells #[x] s)).alloc (.cells #[y] t)).alloc (.cells #[z] u)).cell? ⟨w.heap.size + 1 + 1, 0, none⟩ = some z := by
  have h1 : (w.alloc (.cells #[x] s)).cell? ⟨w.heap.size, 0, none⟩ = some x := by simp
  have e1 : (w.alloc (.cells #[x] s)).heap.size = w.heap.size + 1 := by simp
  have e2 : ((w.alloc (.cells #[x] s)).alloc (.cells #[y] t)).heap.size = w.heap.size + 1 + 1 := by simp
  have h2 : ((w.alloc (.cells #[x] s)).alloc (.cells #[y] t)).cell? ⟨(w.alloc (.cells #[x] s)).heap.size, 0, none⟩ = some y := World.cell?_alloc_new ..
  have h3 : (((w.alloc (.cells #[x] s)).alloc (.cells #[y] t)).alloc (.cells #[z] u)).cell? ⟨((w.alloc (.cells #[x] s)).alloc (.cells #[y] t)).heap.size, 0, none⟩ = some z := World.cell?_alloc_new ..
  rw [e1] at h2
  rw [e2] at h3
  exact ⟨ck h1 (((Below.refl _ _).alloc (Nat.le_refl _) _).alloc (by simp) _), ck h2 ((Below.refl _ _).alloc (Nat.le_refl _) _), h3⟩

theorem plant_nats {n : Nat} {f : Nat → Nat → Bool} (hn : n ≤ 16) {w : World} {g : Nat} (h : NatBlk w g (plantL n f)) : Nats w (.slice (some ⟨g, 0, none⟩) n n) (plantL n f) := by
  have hb : ∀ x ∈ plantL n f, x < 65536 := fun x hx => by
    obtain ⟨i, _, rfl⟩ := List.mem_map.1 hx
    exact Nat.lt_of_lt_of_le (mk_lt _ _) (pw_nat n hn).2
  have := h.nats (by rw [plant_length]; omega) hb
  rwa [plant_length] at this

set_option maxHeartbeats 2000000 in
set_option maxRecDepth 100000 in
theorem times_good (va vb : Value) (a b : List Nat) (m n : Nat) (w : World) (hma : Mat m a) (hmb : Mat n b) (hsz : m * n ≤ 16) (ha : Nats w va a) (hb : Nats w vb b) :
    Calls Tryd.prog 59 #[va, vb] w fun e w' => ∃ v, e = .returned (.tuple #[v, .int .i64 0]) ∧ Nats w' v (plantL (m * n) (timesF a b n)) ∧ Below w.heap.size w w' := by
  have B2 : Below w.heap.size w ((w.alloc (.cells #[va] 22)).alloc (.cells #[vb] 22)) := ((Below.refl w.heap.size w).alloc (Nat.le_refl _) _).alloc (by simp) _
  have HV1 := Lib.hid (valid_any va (nats a) _ (ha.below B2 (Nat.le_refl _)))
  have HV2 := Lib.hid (valid_any vb (nats b) _ (hb.below B2 (Nat.le_refl _)))
  rw [matB_mk hma hma.le] at HV1
  rw [matB_mk hmb hmb.le] at HV2
  have hmul : (m:Int) * (n:Int) = ((m * n : Nat) : Int) := (Int.natCast_mul ..).symm
  obtain ⟨ao, cap, rfl, _, _⟩ := hma.open ha
  obtain ⟨bo, capb, rfl, _, _⟩ := hmb.open hb
  have B3 : Below w.heap.size w ((((w.alloc (.cells #[.slice ao m cap] 22)).alloc (.cells #[.slice bo n capb] 22)).alloc (.cells #[.int .i64 n] 3))) := B2.alloc (by simp; omega) _
  have hcap : CapT ((((w.alloc (.cells #[.slice ao m cap] 22)).alloc (.cells #[.slice bo n capb] 22)).alloc (.cells #[.int .i64 n] 3))) w.heap.size (w.heap.size + 1 + 1) (w.heap.size + 1) (.slice ao m cap) (.slice bo n capb) n a b m := by
    exact ⟨(three_cells w _ _ _ _ _ _).1, (three_cells w _ _ _ _ _ _).2.2, (three_cells w _ _ _ _ _ _).2.1, ha.below B3 (Nat.le_refl _), hb.below B3 (Nat.le_refl _), hma, hmb⟩
  have HC := Lib.hid (plant_any (m * n) 87 _ _ _ hsz (times1_tells _ _ _ _ _ _ _ _ _ _ hcap))
  have HB3 := Lib.hid B3
  have hs3 : ((((w.alloc (.cells #[.slice ao m cap] 22)).alloc (.cells #[.slice bo n capb] 22)).alloc (.cells #[.int .i64 n] 3))).heap.size = w.heap.size + 1 + 1 + 1 := by simp
  rw [hs3] at HC
  have HN : Hid (∀ w' g, NatBlk w' g (plantL (m * n) (timesF a b n)) → Nats w' (.slice (some ⟨g, 0, none⟩) (m * n) (m * n)) (plantL (m * n) (timesF a b n))) := fun w' g h => plant_nats hsz h
  have hm16 := hma.le
  have hn16 := hmb.le
  clear ha hb hma hmb B2 B3 hcap hs3
  generalize plantL (m * n) (timesF a b n) = pl at *
  generalize m * n = mn at *
  go_enter Tryd.func59, Tryd.ntmps59
  go_wp2_with fail
  refine HV1.out.mono ?_
  rintro e w' ⟨rfl, rfl⟩
  go_wp2_with fail
  refine HV2.out.mono ?_
  rintro e w' ⟨rfl, rfl⟩
  go_wp2_with fail
  refine HC.out.mono ?_
  rintro e w1 ⟨rfl, hB, hb1⟩
  have HB := Lib.hid (HB3.out.trans (hb1.mono (by omega)))
  have HV := Lib.hid (HN.out _ _ hB)
  clear hB hb1
  go_wp2
  go_ret2
  exact ⟨_, rfl, HV.out, HB.out⟩
end Go.Proofs.YtdnhfnegnjdeoaaDoor
