/- planes: on, number, open -/
import Derived.Test.YtllokfkagneneaaE
import Derived.Test.YtllokfkagneneaaN
import Derived.Deep.RegionHeld3
namespace Go.Proofs.Ytllokfkagneneaa
open Go.RowKit

def dotS (a b : T3) : Int := a.1*b.1 + a.2.1*b.2.1 + a.2.2*b.2.2
def onB (p i j : Nat) : Bool := dotS (pt p i) (pt p j) % p == 0

theorem ck {W w1 : World} {a : Addr} {v : Value} (h : W.cell? a = some v) (hb : Below W.heap.size W w1) : w1.cell? a = some v := (hb.cell (World.block_lt_of_cell? W _ h)).trans h

set_option maxHeartbeats 1000000 in
set_option maxRecDepth 100000 in
theorem on_any (b p i j : Nat) (w : World) (h : PlaneAt w b p) (hp : isPn p) (hi : i < np p) (hj : j < np p) :
    Calls Try.prog 68 #[.pointer (some ⟨b, 0, none⟩), .int .i64 i, .int .i64 j] w fun e w' => e = .returned (.bool (onB p i j)) ∧ Below w.heap.size w w' := by
  obtain ⟨hp2, hp7⟩ := hp.le
  obtain ⟨c, cap, c0, c1, hcap, hb, hc, hx⟩ := h.open
  obtain ⟨i0, i1, i2⟩ := hx i hi
  obtain ⟨j0, j1, j2⟩ := hx j hj
  obtain ⟨⟨a1, a2⟩, ⟨a3, a4⟩, ⟨a5, a6⟩⟩ := pt_bd p i hp hi
  obtain ⟨⟨b1, b2⟩, ⟨b3, b4⟩, ⟨b5, b6⟩⟩ := pt_bd p j hp hj
  have HO : Hid (onB p i j = (((pt p i).1*(pt p j).1 + (pt p i).2.1*(pt p j).2.1 + (pt p i).2.2*(pt p j).2.2) % (p:Int) == 0)) := rfl
  have hn := np_le p hp7
  clear hx h hp
  generalize np p = n at *
  generalize (pt p i).1 = x0 at *
  generalize (pt p i).2.1 = x1 at *
  generalize (pt p i).2.2 = x2 at *
  generalize (pt p j).1 = y0 at *
  generalize (pt p j).2.1 = y1 at *
  generalize (pt p j).2.2 = y2 at *
  go_enter Try.func68, Try.ntmps68
  go_wp2
  go_region_held3 (fun w' => w'.cell? ⟨b, 0, none⟩ = some (.int .i64 p) ∧ w'.cell? ⟨b, 1, none⟩ = some (.slice (some ⟨c, 0, none⟩) n cap) ∧ w'.cell? ⟨c, i*3, none⟩ = some (.int .i64 x0) ∧ w'.cell? ⟨c, i*3+1, none⟩ = some (.int .i64 x1) ∧ w'.cell? ⟨c, i*3+2, none⟩ = some (.int .i64 x2) ∧ w'.cell? ⟨c, j*3, none⟩ = some (.int .i64 y0) ∧ w'.cell? ⟨c, j*3+1, none⟩ = some (.int .i64 y1) ∧ w'.cell? ⟨c, j*3+2, none⟩ = some (.int .i64 y2) ∧ Below w.heap.size w w')
    (first | exact ⟨c0, c1, i0, i1, i2, j0, j1, j2, (Below.refl _ _).drew⟩ | (obtain ⟨k0, k1, k2, k3, k4, k5, k6, k7, kb⟩ := ‹_ ∧ _›; first | exact ⟨ck k0 hbx, ck k1 hbx, ck k2 hbx, ck k3 hbx, ck k4 hbx, ck k5 hbx, ck k6 hbx, ck k7 hbx, kb.trans (hbx.mono kb.size)⟩ | exact ⟨k0, k1, k2, k3, k4, k5, k6, k7, below_drewN kb _⟩))
    (first | (go_at_call 94; refine (dot_any _ _ _ _ _ _ _ (by omega) (by omega) (by omega) (by omega) (by omega) (by omega)).mono ?_; rintro e w' ⟨rfl, hbx⟩) | (go_at_call 88; refine (mod_any b p _ _ (by exact (‹_ ∧ _›).1) (by omega) (by omega)).mono ?_; rintro e w' ⟨rfl, nq, rfl⟩))
  go_wp2
  go_ret
  obtain ⟨_, _, _, _, _, _, _, _, kb⟩ := ‹_ ∧ _›
  exact ⟨ret_bool HO.out.symm, kb⟩
end Go.Proofs.Ytllokfkagneneaa
