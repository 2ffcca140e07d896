/- planes: the reference's unit -/
import Derived.Test.YtllokfkagneneaaL
import Derived.Test.YtllokfkagneneaaG
import Derived.BigRegion
namespace Go.Proofs.Ytllokfkagneneaa
open Go.RowKit

def firstS (x y z : Int) : Int := if x = 0 then (if y = 0 then z else y) else x
def unitS (p : Nat) (a b c : Int) : T3 :=
  ((List.range (p - 1)).find? fun (k : Nat) => firstS (((k:Int)+1) * a % p) (((k:Int)+1) * b % p) (((k:Int)+1) * c % p) == 1).elim (a, b, c) fun (k : Nat) => (((k:Int)+1) * a % p, ((k:Int)+1) * b % p, ((k:Int)+1) * c % p)

theorem unitS_some {p k : Nat} {a b c : Int} (hk : k + 1 < p) (h : ∀ j : Nat, j < k → firstS (((j:Int)+1) * a % p) (((j:Int)+1) * b % p) (((j:Int)+1) * c % p) ≠ 1)
    (h1 : firstS (((k:Int)+1) * a % p) (((k:Int)+1) * b % p) (((k:Int)+1) * c % p) = 1) : unitS p a b c = (((k:Int)+1) * a % p, ((k:Int)+1) * b % p, ((k:Int)+1) * c % p) := by
  have : (List.range (p - 1)).find? (fun (k : Nat) => firstS (((k:Int)+1) * a % p) (((k:Int)+1) * b % p) (((k:Int)+1) * c % p) == 1) = some k := by
    rw [List.find?_range_eq_some]
    exact ⟨by simpa using h1, by simp; omega, fun j hj => by simpa using h j hj⟩
  unfold unitS; rw [this]; rfl
theorem unitS_none {p : Nat} {a b c : Int} (h : ∀ j : Nat, j + 1 < p → firstS (((j:Int)+1) * a % p) (((j:Int)+1) * b % p) (((j:Int)+1) * c % p) ≠ 1) : unitS p a b c = (a, b, c) := by
  have : (List.range (p - 1)).find? (fun (k : Nat) => firstS (((k:Int)+1) * a % p) (((k:Int)+1) * b % p) (((k:Int)+1) * c % p) == 1) = none := by
    rw [List.find?_eq_none]
    intro j hj
    simp at hj
    simpa using h j (by omega)
  unfold unitS; rw [this]; rfl

theorem emod_bd (n : Int) {p : Nat} (hp : 2 ≤ p) : 0 ≤ n % p ∧ n % p < p :=
  ⟨Int.emod_nonneg n (by omega), Int.emod_lt_of_pos n (by omega)⟩

theorem kmul_bd {k p : Nat} {x : Int} (hk : k + 1 < p) (hp : p ≤ 7) (hx : 0 ≤ x) (hx' : x < p) : 0 ≤ ((k:Int) + 1) * x ∧ ((k:Int) + 1) * x ≤ 49 := by
  have h1 : 0 ≤ ((k:Int) + 1) * x := Int.mul_nonneg (by omega) hx
  have h2 : ((k:Int) + 1) * x ≤ 7 * 7 := Int.mul_le_mul (by omega) (by omega) hx (by omega)
  omega

theorem res3 {wr : World} {g : Nat} {m0 m1 m2 : Int} (o : Obj) (h : IntBlk wr g 31 [0, 0, 0]) :
    IntBlk ((((wr.setCell ⟨g, 0, none⟩ (.int .i64 m0)).setCell ⟨g, 1, none⟩ (.int .i64 m1)).setCell ⟨g, 2, none⟩ (.int .i64 m2)).alloc o).drew g 31 [m0, m1, m2] := by
  have h1 := ((h.set 0 m0).set 1 m1).set 2 m2
  exact (Below.heap_alloc _ o g h1.lt).trans h1

set_option maxHeartbeats 4000000 in
set_option maxRecDepth 100000 in
theorem unit_aux (p : Nat) (a b c : Int) (w : World) (hp : 2 ≤ p) (hp' : p ≤ 7) (U : T3) (hU : unitS p (a % p) (b % p) (c % p) = U) :
    Calls Try.prog 69 #[.int .i64 p, tri a b c] w fun e w' => e = .returned (triV U) ∧ Below w.heap.size w w' := by
  obtain ⟨m1, m2, m3⟩ := mod_go p a (by omega) (by omega)
  obtain ⟨m4, m5, m6⟩ := mod_go p b (by omega) (by omega)
  obtain ⟨m7, m8, m9⟩ := mod_go p c (by omega) (by omega)
  have hz0 : ((p:Int) == 0) = false := by simp; omega
  have hp0 : ¬ p = 0 := by omega
  have i0 : ∀ w, (Instr.index 31 (tri a b c) (.int .i64 0)).run Try.prog w = .ok (.int .i64 a) w := fun _ => by kernel_rfl
  have i1 : ∀ w, (Instr.index 31 (tri a b c) (.int .i64 1)).run Try.prog w = .ok (.int .i64 b) w := fun _ => by kernel_rfl
  have i2 : ∀ w, (Instr.index 31 (tri a b c) (.int .i64 2)).run Try.prog w = .ok (.int .i64 c) w := fun _ => by kernel_rfl
  have M1 := Lib.hid m1
  have M4 := Lib.hid m4
  have M7 := Lib.hid m7
  clear m1 m4 m7
  go_enter Try.func69, Try.ntmps69
  go_wp2
  refine wp_loop_rounds 4 ?_
  iterate 4 (rw [rounds_succ]; go_wp2)
  rw [M1.out, M4.out, M7.out]
  obtain ⟨x1, x2⟩ := emod_bd a hp
  obtain ⟨y1, y2⟩ := emod_bd b hp
  obtain ⟨z1, z2⟩ := emod_bd c hp
  have HW1 := Lib.hid (IntBlk.new w 31 [a % (p:Int), b % (p:Int), c % (p:Int)])
  clear i0 i1 i2 M1 M4 M7 m2 m3 m5 m6 m8 m9
  have HUU := Lib.hid hU
  clear hU
  generalize a % (p:Int) = x at *
  generalize b % (p:Int) = y at *
  generalize c % (p:Int) = z at *
  go_loopw [7] (fun s7 wr => ∃ k : Nat, k + 1 ≤ p ∧ s7 = .int .i64 ((k:Int) + 1) ∧ (∀ j : Nat, j < k → firstS (((j:Int)+1) * x % p) (((j:Int)+1) * y % p) (((j:Int)+1) * z % p) ≠ 1) ∧ IntBlk wr w.heap.size 31 [x, y, z] ∧ IntBlk wr (w.heap.size + 1) 31 [0, 0, 0] ∧ Below w.heap.size w wr) (fun s7 _ => p - (intOf s7).toNat)
  case atStart =>
    refine ⟨0, by omega, rfl, fun j hj => absurd hj (by omega), (Below.heap_alloc _ _ _ (by simp)).trans HW1.out, ?_, ((Below.refl _ _).alloc (Nat.le_refl _) _).alloc (by simp) _⟩
    have := heap_alloc_new (w.alloc (.cells (ints [x, y, z]).toArray 31)) (.cells (ints [0, 0, 0]).toArray 31)
    simpa [IntBlk, ints] using this
  case round =>
    obtain ⟨k, hk, rfl, hall, hb1, hb2, hbel⟩ := hrel
    have HA := Lib.hid hall
    have HB1 := Lib.hid hb1
    have HB2 := Lib.hid hb2
    have HB := Lib.hid hbel
    have d0 := hb1.cell (i := 0) (by simp)
    have d1 := hb1.cell (i := 1) (by simp)
    have d2 := hb1.cell (i := 2) (by simp)
    simp only [List.getD_cons_zero, List.getD_cons_succ] at d0 d1 d2
    have hsz := hb1.lt
    have e0 : (wr.alloc (.cells #[.int .i64 0, .int .i64 0, .int .i64 0] 31)).cell? ⟨w.heap.size, 0, none⟩ = some (.int .i64 x) := (World.cell?_alloc_lt wr _ _ hsz).trans d0
    have e1 : (wr.alloc (.cells #[.int .i64 0, .int .i64 0, .int .i64 0] 31)).cell? ⟨w.heap.size, 1, none⟩ = some (.int .i64 y) := (World.cell?_alloc_lt wr _ _ hsz).trans d1
    have e2 : (wr.alloc (.cells #[.int .i64 0, .int .i64 0, .int .i64 0] 31)).cell? ⟨w.heap.size, 2, none⟩ = some (.int .i64 z) := (World.cell?_alloc_lt wr _ _ hsz).trans d2
    clear hall hb1 hb2 hbel
    by_cases hlt : k + 1 < p
    · obtain ⟨q1, q2⟩ := kmul_bd hlt hp' x1 x2
      obtain ⟨q3, q4⟩ := kmul_bd hlt hp' y1 y2
      obtain ⟨q5, q6⟩ := kmul_bd hlt hp' z1 z2
      have w1 : IntKind.i64.wrap (((k:Int)+1) * x) = ((k:Int)+1) * x := IntWalk.i64_in _ (by omega)
      have w2 : IntKind.i64.wrap (((k:Int)+1) * y) = ((k:Int)+1) * y := IntWalk.i64_in _ (by omega)
      have w3 : IntKind.i64.wrap (((k:Int)+1) * z) = ((k:Int)+1) * z := IntWalk.i64_in _ (by omega)
      have hsz2 := HB2.out.lt
      have g0 := HB2.out.cell (i := 0) (by simp)
      have g1 := HB2.out.cell (i := 1) (by simp)
      have g2 := HB2.out.cell (i := 2) (by simp)
      have fz : ∀ i, wr.frozen? ⟨w.heap.size + 1, i, none⟩ = false := fun i => HB2.out.frozen i
      simp only [List.getD_cons_zero, List.getD_cons_succ] at g0 g1 g2
      have f0 := fz 0
      have f1 := fz 1
      have f2 := fz 2
      clear fz
      have HSome := Lib.hid (fun h1 => unitS_some hlt HA.out h1)
      have HNext : Hid (firstS (((k:Int)+1) * x % p) (((k:Int)+1) * y % p) (((k:Int)+1) * z % p) ≠ 1 → ∀ j : Nat, j < k + 1 → firstS (((j:Int)+1) * x % p) (((j:Int)+1) * y % p) (((j:Int)+1) * z % p) ≠ 1) := by
        intro h j hj
        by_cases e : j = k
        · subst e; exact h
        · exact HA.out j (by omega)
      go_wp2_with fail
      go_region
      generalize ((k:Int)+1) * x % p = m0 at *
      generalize ((k:Int)+1) * y % p = m1 at *
      generalize ((k:Int)+1) * z % p = m2 at *
      have HR3 := Lib.hid (fun o => res3 (m0 := m0) (m1 := m1) (m2 := m2) o HB2.out)
      have HG : Hid (∀ o, IntBlk (wr.alloc o).drew w.heap.size 31 [x, y, z] ∧ IntBlk (wr.alloc o).drew (w.heap.size + 1) 31 [0, 0, 0] ∧ Below w.heap.size w (wr.alloc o).drew) :=
        fun o => ⟨(Below.heap_alloc wr o _ HB1.out.lt).trans HB1.out, (Below.heap_alloc wr o _ HB2.out.lt).trans HB2.out, (HB.out.alloc HB.out.size o).drew⟩
      have HH : Hid (∀ o, Below w.heap.size w ((((wr.setCell ⟨w.heap.size + 1, 0, none⟩ (.int .i64 m0)).setCell ⟨w.heap.size + 1, 1, none⟩ (.int .i64 m1)).setCell ⟨w.heap.size + 1, 2, none⟩ (.int .i64 m2)).alloc o).drew) :=
        fun o => ((((HB.out.setCell (by simp) _).setCell (by simp) _).setCell (by simp) _).alloc (by simpa [World.setCell] using HB.out.size) o).drew
      have fin : firstS m0 m1 m2 = 1 ∨ firstS m0 m1 m2 ≠ 1 := by omega
      rcases (by
        by_cases t0 : m0 = 0
        · by_cases t1 : m1 = 0
          · exact .inr (.inr ⟨t0, t1⟩)
          · exact .inr (.inl ⟨t0, t1⟩)
        · exact .inl t0 : m0 ≠ 0 ∨ (m0 = 0 ∧ m1 ≠ 0) ∨ (m0 = 0 ∧ m1 = 0)) with t0 | ⟨t0, t1⟩ | ⟨t0, t1⟩
      · have hf : firstS m0 m1 m2 = m0 := by unfold firstS; rw [if_neg t0]
        have t0' : (m0 == 0) = false := by simpa using t0
        rw [hf] at fin HSome HNext
        clear hf
        rcases fin with fin | fin
        · have t1' : (m0 == 1) = true := by simpa using fin
          have HR := Lib.hid (HSome.out fin)
          clear t0 fin
          go_wp2_with fail
          have hI := HR3.out (.cells #[.int .i64 m0, .int .i64 m1, .int .i64 m2] 31)
          have r0 := hI.cell (i := 0) (by simp)
          have r1 := hI.cell (i := 1) (by simp)
          have r2 := hI.cell (i := 2) (by simp)
          simp only [List.getD_cons_zero, List.getD_cons_succ] at r0 r1 r2
          refine bodyPost_ret (v := tri m0 m1 m2) (by simp [results, Try.results69, go_sem, r0, r1, r2]) rfl ⟨by rw [← HUU.out, HR.out]; rfl, HH.out _⟩
        · have t1' : (m0 == 1) = false := by simpa using fin
          have HR := Lib.hid (HNext.out fin)
          clear t0 fin
          go_wp2_with fail
          go_roundw
          case rel => exact ⟨k + 1, by omega, by go_num, HR.out, HG.out _⟩
          case measure => simp [intOf]; omega
      · have hf : firstS m0 m1 m2 = m1 := by unfold firstS; rw [if_pos t0, if_neg t1]
        have t0' : (m0 == 0) = true := by simpa using t0
        have t2' : (m1 == 0) = false := by simpa using t1
        rw [hf] at fin HSome HNext
        clear hf
        rcases fin with fin | fin
        · have t1' : (m1 == 1) = true := by simpa using fin
          have HR := Lib.hid (HSome.out fin)
          clear t0 t1 fin
          go_wp2_with fail
          have hI := HR3.out (.cells #[.int .i64 m0, .int .i64 m1, .int .i64 m2] 31)
          have r0 := hI.cell (i := 0) (by simp)
          have r1 := hI.cell (i := 1) (by simp)
          have r2 := hI.cell (i := 2) (by simp)
          simp only [List.getD_cons_zero, List.getD_cons_succ] at r0 r1 r2
          refine bodyPost_ret (v := tri m0 m1 m2) (by simp [results, Try.results69, go_sem, r0, r1, r2]) rfl ⟨by rw [← HUU.out, HR.out]; rfl, HH.out _⟩
        · have t1' : (m1 == 1) = false := by simpa using fin
          have HR := Lib.hid (HNext.out fin)
          clear t0 t1 fin
          go_wp2_with fail
          go_roundw
          case rel => exact ⟨k + 1, by omega, by go_num, HR.out, HG.out _⟩
          case measure => simp [intOf]; omega
      · have hf : firstS m0 m1 m2 = m2 := by unfold firstS; rw [if_pos t0, if_pos t1]
        have t0' : (m0 == 0) = true := by simpa using t0
        have t2' : (m1 == 0) = true := by simpa using t1
        rw [hf] at fin HSome HNext
        clear hf
        rcases fin with fin | fin
        · have t1' : (m2 == 1) = true := by simpa using fin
          have HR := Lib.hid (HSome.out fin)
          clear t0 t1 fin
          go_wp2_with fail
          have hI := HR3.out (.cells #[.int .i64 m0, .int .i64 m1, .int .i64 m2] 31)
          have r0 := hI.cell (i := 0) (by simp)
          have r1 := hI.cell (i := 1) (by simp)
          have r2 := hI.cell (i := 2) (by simp)
          simp only [List.getD_cons_zero, List.getD_cons_succ] at r0 r1 r2
          refine bodyPost_ret (v := tri m0 m1 m2) (by simp [results, Try.results69, go_sem, r0, r1, r2]) rfl ⟨by rw [← HUU.out, HR.out]; rfl, HH.out _⟩
        · have t1' : (m2 == 1) = false := by simpa using fin
          have HR := Lib.hid (HNext.out fin)
          clear t0 t1 fin
          go_wp2_with fail
          go_roundw
          case rel => exact ⟨k + 1, by omega, by go_num, HR.out, HG.out _⟩
          case measure => simp [intOf]; omega
    · have hkp : k + 1 = p := by omega
      have HR := Lib.hid (unitS_none (p := p) (a := x) (b := y) (c := z) fun j hj => HA.out j (by omega))
      have hsz2 := HB2.out.lt
      have g0 := HB2.out.cell (i := 0) (by simp)
      have g1 := HB2.out.cell (i := 1) (by simp)
      have g2 := HB2.out.cell (i := 2) (by simp)
      have fz : ∀ i, wr.frozen? ⟨w.heap.size + 1, i, none⟩ = false := fun i => HB2.out.frozen i
      simp only [List.getD_cons_zero, List.getD_cons_succ] at g0 g1 g2
      have f0 := fz 0
      have f1 := fz 1
      have f2 := fz 2
      have HR3 := Lib.hid (((HB2.out.set 0 x).set 1 y).set 2 z)
      have HH : Hid (Below w.heap.size w (((wr.setCell ⟨w.heap.size + 1, 0, none⟩ (.int .i64 x)).setCell ⟨w.heap.size + 1, 1, none⟩ (.int .i64 y)).setCell ⟨w.heap.size + 1, 2, none⟩ (.int .i64 z))) :=
        (((HB.out.setCell (by simp) _).setCell (by simp) _).setCell (by simp) _)
      clear fz hkp
      go_wp2_with fail
      have hI : IntBlk _ _ _ [x, y, z] := HR3.out
      have r0 := hI.cell (i := 0) (by simp)
      have r1 := hI.cell (i := 1) (by simp)
      have r2 := hI.cell (i := 2) (by simp)
      simp only [List.getD_cons_zero, List.getD_cons_succ] at r0 r1 r2
      refine bodyPost_ret (v := tri x y z) (by simp [results, Try.results69, go_sem, r0, r1, r2]) rfl ⟨by rw [← HUU.out, HR.out]; rfl, HH.out⟩

theorem unit_any (p : Nat) (a b c : Int) (w : World) (hp : 2 ≤ p) (hp' : p ≤ 7) :
    Calls Try.prog 69 #[.int .i64 p, tri a b c] w fun e w' => e = .returned (triV (unitS p (a % p) (b % p) (c % p))) ∧ Below w.heap.size w w' :=
  unit_aux p a b c w hp hp' _ rfl
end Go.Proofs.Ytllokfkagneneaa
