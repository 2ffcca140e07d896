/- planes in this seat: inRow -/
import Derived.Test.YtlalfjkenkmojaaRb
import Derived.Lib.SliceRun
namespace Go.Proofs.Ytlalfjkenkmojaa.Ar
open Go.RowKit
/-- Whether the triple that is 0 with two points is 0 with a third one. -/
def crossS (q a b : Nat) : T3 := ((pt q a).2.1 * (pt q b).2.2 - (pt q a).2.2 * (pt q b).2.1, (pt q a).2.2 * (pt q b).1 - (pt q a).1 * (pt q b).2.2, (pt q a).1 * (pt q b).2.1 - (pt q a).2.1 * (pt q b).1)
def rowB (q a b x : Nat) : Bool := dotS (crossS q a b) (pt q x) % q == 0
def IntBlk (w : World) (g : Nat) (t : TypeId) (ys : List Int) : Prop := w.heap[g]? = some (.cells (ints ys).toArray t (0, 0))
theorem IntBlk.cell {w : World} {g : Nat} {t : TypeId} {ys : List Int} (h : IntBlk w g t ys) {i : Nat} (hi : i < ys.length) : w.cell? ⟨g, i, none⟩ = some (.int .i64 (ys.getD i 0)) := by
  unfold IntBlk at h; simp [World.cell?, h, ints, hi]
theorem IntBlk.frozen {w : World} {g : Nat} {t : TypeId} {ys : List Int} (h : IntBlk w g t ys) (i : Nat) : w.frozen? ⟨g, i, none⟩ = false := by
  unfold IntBlk at h; simp [World.frozen?, h]
theorem IntBlk.set {w : World} {g : Nat} {t : TypeId} {ys : List Int} (h : IntBlk w g t ys) (i : Nat) (x : Int) : IntBlk (w.setCell ⟨g, i, none⟩ (.int .i64 x)) g t (ys.set i x) := by
  unfold IntBlk at *
  simp only [World.setCell, Array.getElem?_modify, h]
  simp [ints, List.map_set]
theorem IntBlk.lt {w : World} {g : Nat} {t : TypeId} {ys : List Int} (h : IntBlk w g t ys) : g < w.heap.size := lt_of_block h
theorem IntBlk.drewN {w : World} {g : Nat} {t : TypeId} {ys : List Int} (h : IntBlk w g t ys) (n : Nat) : IntBlk (w.drewN n) g t ys := h

theorem IntBlk.new (w : World) (t : TypeId) (ys : List Int) : IntBlk (w.alloc (.cells (ints ys).toArray t)) w.heap.size t ys := heap_alloc_new w _



theorem cross_bd {x1 x2 y1 y2 : Int} (h1 : 0 ≤ x1 ∧ x1 ≤ 7) (h2 : 0 ≤ x2 ∧ x2 ≤ 7) (h3 : 0 ≤ y1 ∧ y1 ≤ 7) (h4 : 0 ≤ y2 ∧ y2 ≤ 7) : -200 ≤ x1 * y2 - x2 * y1 ∧ x1 * y2 - x2 * y1 ≤ 200 := by
  have a1 : 0 ≤ x1 * y2 := Int.mul_nonneg h1.1 h4.1
  have a2 : x1 * y2 ≤ 7 * 7 := Int.mul_le_mul h1.2 h4.2 h4.1 (by omega)
  have a3 : 0 ≤ x2 * y1 := Int.mul_nonneg h2.1 h3.1
  have a4 : x2 * y1 ≤ 7 * 7 := Int.mul_le_mul h2.2 h3.2 h3.1 (by omega)
  omega

theorem rowEndA {w w' : World} {m0 m1 m2 : Int} (h : Below w.drew.heap.size w.drew w') : ∃ g, (.pointer (some ⟨w'.heap.size, 0, none⟩) : Value) = .pointer (some ⟨g, 0, none⟩) ∧ IntBlk (w'.alloc (.cells #[.int .i64 m0, .int .i64 m1, .int .i64 m2] 112)) g 112 [m0, m1, m2] ∧ w.heap.size ≤ g ∧ Below w.heap.size w (w'.alloc (.cells #[.int .i64 m0, .int .i64 m1, .int .i64 m2] 112)) := by
  have hb : Below w.heap.size w w' := ((Below.refl w.heap.size w).drew).trans h
  exact ⟨_, rfl, IntBlk.new w' 112 [m0, m1, m2], hb.size, hb.alloc hb.size _⟩
theorem rowEndB {w w' : World} {m0 m1 m2 : Int} (h : Below (w.alloc (.cells #[.int .i64 0, .int .i64 0, .int .i64 0] 112)).drew.heap.size (w.alloc (.cells #[.int .i64 0, .int .i64 0, .int .i64 0] 112)).drew w') :
    ∃ g, (.pointer (some ⟨w.heap.size, 0, none⟩) : Value) = .pointer (some ⟨g, 0, none⟩) ∧ IntBlk (((w'.setCell ⟨w.heap.size, 0, none⟩ (.int .i64 m0)).setCell ⟨w.heap.size, 1, none⟩ (.int .i64 m1)).setCell ⟨w.heap.size, 2, none⟩ (.int .i64 m2)) g 112 [m0, m1, m2] ∧ w.heap.size ≤ g ∧
      Below w.heap.size w (((w'.setCell ⟨w.heap.size, 0, none⟩ (.int .i64 m0)).setCell ⟨w.heap.size, 1, none⟩ (.int .i64 m1)).setCell ⟨w.heap.size, 2, none⟩ (.int .i64 m2)) := by
  have hz : w.heap.size < (w.alloc (.cells #[.int .i64 0, .int .i64 0, .int .i64 0] 112)).heap.size := by simp
  have h0 : IntBlk (w.alloc (.cells #[.int .i64 0, .int .i64 0, .int .i64 0] 112)) w.heap.size 112 [0, 0, 0] := IntBlk.new w 112 [0, 0, 0]
  have h1 : IntBlk w' w.heap.size 112 [0, 0, 0] := (h.block _ hz).trans h0
  have hb : Below w.heap.size w w' := (((Below.refl w.heap.size w).alloc (Nat.le_refl _) _).drew).trans (h.mono (Nat.le_of_lt hz))
  exact ⟨_, rfl, ((h1.set 0 m0).set 1 m1).set 2 m2, Nat.le_refl _, ((hb.setCell (Nat.le_refl _) _).setCell (Nat.le_refl _) _).setCell (Nat.le_refl _) _⟩

theorem bcell {W w1 : World} (hb : Below W.heap.size W w1) : (∀ b o, b < W.heap.size → w1.cell? ⟨b, o, none⟩ = W.cell? ⟨b, o, none⟩) ∧ (∀ b o, b < W.heap.size → w1.frozen? ⟨b, o, none⟩ = W.frozen? ⟨b, o, none⟩) :=
  ⟨fun b o h => hb.cell (p := ⟨b, o, none⟩) h, fun b o h => hb.frozen (p := ⟨b, o, none⟩) h⟩

set_option maxHeartbeats 12000000 in
set_option maxRecDepth 100000 in
theorem inRow_any (b q i j k gx capx : Nat) (w : World) (h : PlaneAt w b q) (hp : isPn q) (hi : i < np q) (hj : j < np q) (hk : k < np q) (hgx : w.cell? ⟨gx, 0, none⟩ = some (.int .i64 k)) (_ : 1 ≤ capx) :
    Calls Try.prog 114 #[.pointer (some ⟨b, 0, none⟩), .int .i64 i, .int .i64 j, .slice (some ⟨gx, 0, none⟩) 1 capx] w fun e w' => e = .returned (.bool (rowB q i j k)) ∧ Below w.heap.size w w' := by
  obtain ⟨hp2, hp7⟩ := hp.le
  obtain ⟨c, cap, c0, c1, hcap, hb, hc, hx⟩ := h.open
  obtain ⟨i0, i1, i2⟩ := hx i hi
  obtain ⟨j0, j1, j2⟩ := hx j hj
  obtain ⟨z0, z1, z2⟩ := hx k hk
  obtain ⟨⟨a1, a2⟩, ⟨a3, a4⟩, ⟨a5, a6⟩⟩ := pt_bd q i hp hi
  obtain ⟨⟨b1, b2⟩, ⟨b3, b4⟩, ⟨b5, b6⟩⟩ := pt_bd q j hp hj
  obtain ⟨⟨d1, d2⟩, ⟨d3, d4⟩, ⟨d5, d6⟩⟩ := pt_bd q k hp hk
  have HO : Hid (rowB q i j k = ((((pt q i).2.1 * (pt q j).2.2 - (pt q i).2.2 * (pt q j).2.1) * (pt q k).1 + ((pt q i).2.2 * (pt q j).1 - (pt q i).1 * (pt q j).2.2) * (pt q k).2.1 + ((pt q i).1 * (pt q j).2.1 - (pt q i).2.1 * (pt q j).1) * (pt q k).2.2) % (q:Int) == 0)) := rfl
  have hn := np_le q hp7
  clear hx h hp
  generalize np q = n at *
  generalize (pt q i).1 = x0 at *
  generalize (pt q i).2.1 = x1 at *
  generalize (pt q i).2.2 = x2 at *
  generalize (pt q j).1 = y0 at *
  generalize (pt q j).2.1 = y1 at *
  generalize (pt q j).2.2 = y2 at *
  generalize (pt q k).1 = u0 at *
  generalize (pt q k).2.1 = u1 at *
  generalize (pt q k).2.2 = u2 at *
  have hgl := World.block_lt_of_cell? w _ hgx
  obtain ⟨m0, hm0⟩ : ∃ m, m = x1 * y2 - x2 * y1 := ⟨_, rfl⟩
  obtain ⟨m1, hm1⟩ : ∃ m, m = x2 * y0 - x0 * y2 := ⟨_, rfl⟩
  obtain ⟨m2, hm2⟩ : ∃ m, m = x0 * y1 - x1 * y0 := ⟨_, rfl⟩
  have q0 := cross_bd (x1 := x1) (x2 := x2) (y1 := y1) (y2 := y2) (by omega) (by omega) (by omega) (by omega)
  have q1 := cross_bd (x1 := x2) (x2 := x0) (y1 := y2) (y2 := y0) (by omega) (by omega) (by omega) (by omega)
  have q2 := cross_bd (x1 := x0) (x2 := x1) (y1 := y0) (y2 := y1) (by omega) (by omega) (by omega) (by omega)
  rw [← hm0] at q0
  rw [← hm1] at q1
  rw [← hm2] at q2
  rw [← hm0, ← hm1, ← hm2] at HO
  have HCr : Hid (∀ W, Calls Try.prog 122 #[tri x0 x1 x2, tri y0 y1 y2] W fun e w' => e = .returned (tri m0 m1 m2) ∧ Below W.heap.size W w') := fun W => by
    rw [hm0, hm1, hm2]; exact cross_any x0 x1 x2 y0 y1 y2 W (by omega) (by omega) (by omega) (by omega) (by omega) (by omega)
  clear hm0 hm1 hm2
  go_enter Try.func114, Try.ntmps114
  go_wp2
  go_cut [9] (fun s9 wx => ∃ g, s9 = .pointer (some ⟨g, 0, none⟩) ∧ IntBlk wx g 112 [m0, m1, m2] ∧ w.heap.size ≤ g ∧ Below w.heap.size w wx)
  case first =>
    clear HO z0 z1 z2 hgx
    go_region_with ((go_at_call 122; refine (HCr.out _).mono ?_; rintro e w' ⟨rfl, hbx⟩; obtain ⟨hcc, hff⟩ := bcell hbx))
    all_goals (go_wp2_with fail; go_meet; first | (have hend := rowEndB (m0 := m0) (m1 := m1) (m2 := m2) hbx; with_reducible exact hend) | (have hend := rowEndA (m0 := m0) (m1 := m1) (m2 := m2) hbx; with_reducible exact hend))
  case rest =>
    obtain ⟨g, hg, hI, hge, hBx⟩ := hcut
    subst hg
    have t0 := hI.cell (i := 0) (by simp)
    have t1 := hI.cell (i := 1) (by simp)
    have t2 := hI.cell (i := 2) (by simp)
    simp only [List.getD_cons_zero, List.getD_cons_succ] at t0 t1 t2
    have c0' := ck c0 hBx
    have c1' := ck c1 hBx
    have z0' := ck z0 hBx
    have z1' := ck z1 hBx
    have z2' := ck z2 hBx
    have hgx' := ck hgx hBx
    have HBx := Lib.hid hBx
    clear hI hBx i0 i1 i2 j0 j1 j2 HCr
    go_wp2_with fail
    refine wp_loop_rounds 2 ?_
    rw [rounds_succ]
    go_wp2_with fail
    go_region_held3 (fun w' => w'.cell? ⟨b, 0, none⟩ = some (.int .i64 q) ∧ w'.cell? ⟨b, 1, none⟩ = some (.slice (some ⟨c, 0, none⟩) n cap) ∧ w'.cell? ⟨c, k*3, none⟩ = some (.int .i64 u0) ∧ w'.cell? ⟨c, k*3+1, none⟩ = some (.int .i64 u1) ∧ w'.cell? ⟨c, k*3+2, none⟩ = some (.int .i64 u2) ∧ w'.cell? ⟨g, 0, none⟩ = some (.int .i64 m0) ∧ w'.cell? ⟨g, 1, none⟩ = some (.int .i64 m1) ∧ w'.cell? ⟨g, 2, none⟩ = some (.int .i64 m2) ∧ Below wc.heap.size wc w')
      (first | exact ⟨c0', c1', z0', z1', z2', t0, t1, t2, (Below.refl _ _).drew⟩ | (obtain ⟨k0, k1, k2, k3, k4, k5, k6, k7, kb⟩ := ‹_ ∧ _›; first | exact ⟨ck k0 hbx, ck k1 hbx, ck k2 hbx, ck k3 hbx, ck k4 hbx, ck k5 hbx, ck k6 hbx, ck k7 hbx, kb.trans (hbx.mono kb.size)⟩ | exact ⟨k0, k1, k2, k3, k4, k5, k6, k7, below_drewN kb _⟩))
      (first | (go_at_call 124; refine (dot_any _ _ _ _ _ _ _ (by omega) (by omega) (by omega) (by omega) (by omega) (by omega)).mono ?_; rintro e w' ⟨rfl, hbx⟩) | (go_at_call 123; refine (mod_any b q _ _ (by exact (‹_ ∧ _›).1) (by omega) (by omega)).mono ?_; rintro e w' ⟨rfl, nq, rfl⟩))
    obtain ⟨_, _, _, _, _, _, _, _, kb⟩ := ‹_ ∧ _›
    have hE := HBx.out.trans (kb.mono HBx.out.size)
    have HE := Lib.hid hE
    clear hE kb HBx
    clear t0 t1 t2 c0' c1' z0' z1' z2' hgx' hbx hgx c0 c1 z0 z1 z2
    generalize (m0 * u0 + m1 * u1 + m2 * u2) % (q:Int) = v at *
    generalize World.drewN _ nq = wd at *
    rcases hv : (v == 0)
    · have hne : (v != 0) = true := by simpa using hv
      rw [hv] at HO
      clear hv
      go_wp2
      go_ret
      exact ⟨ret_bool HO.out.symm, HE.out⟩
    · have hne : (v != 0) = false := by simpa using hv
      rw [hv] at HO
      clear hv
      go_wp2_with fail
      rw [rounds_succ]
      go_wp2
      go_ret
      exact ⟨ret_bool HO.out.symm, HE.out⟩
end Go.Proofs.Ytlalfjkenkmojaa.Ar
