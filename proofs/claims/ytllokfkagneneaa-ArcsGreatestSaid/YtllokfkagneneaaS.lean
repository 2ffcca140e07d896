/- planes: the reference's On and Join; Equal of the same triples -/
import Derived.Test.YtllokfkagneneaaO
namespace Go.Proofs.Ytllokfkagneneaa
open Go.RowKit

theorem ptsL_ne (p : Nat) : ptsL p ≠ [] := by simp [ptsL, L2, L1]

theorem Tris.open_pts {w : World} {v : Value} {p : Nat} (h : Tris w v (ptsL p)) : ∃ c cap, v = .slice (some ⟨c, 0, none⟩) (np p) cap ∧ np p ≤ cap ∧ c < w.heap.size ∧
    ∀ k, k < np p → w.cell? ⟨c, k*3, none⟩ = some (.int .i64 (pt p k).1) ∧ w.cell? ⟨c, k*3+1, none⟩ = some (.int .i64 (pt p k).2.1) ∧ w.cell? ⟨c, k*3+2, none⟩ = some (.int .i64 (pt p k).2.2) := by
  obtain ⟨c, cap, rfl, a1, a2, a3, a4, a5⟩ := h
  rw [pts_length] at *
  exact ⟨c, cap, rfl, a1, a4, fun k hk => a5 k _ (pt_get p k hk)⟩

set_option maxHeartbeats 2000000 in
set_option maxRecDepth 100000 in
theorem rOn_any (p i j : Nat) (w : World) (hp : isPn p) (hi : i < np p) (hj : j < np p) :
    Calls Try.prog 26 #[.int .i64 p, .int .i64 i, .int .i64 j] w fun e w' => e = .returned (.bool (onB p i j)) ∧ Below w.heap.size w w' := by
  obtain ⟨hp2, hp7⟩ := hp.le
  have HR := Lib.hid (rpoints_any p w hp)
  have HN := Lib.hid (ptsL_ne p)
  have hn := np_le p hp7
  have hlen := Lib.hid (pts_length p)
  obtain ⟨⟨a1, a2⟩, ⟨a3, a4⟩, ⟨a5, a6⟩⟩ := pt_bd p i hp hi
  obtain ⟨⟨b1, b2⟩, ⟨b3, b4⟩, ⟨b5, b6⟩⟩ := pt_bd p j hp hj
  have HO : Hid (onB p i j = (((pt p i).1*(pt p j).1 + (pt p i).2.1*(pt p j).2.1 + (pt p i).2.2*(pt p j).2.2) % (p:Int) == 0)) := rfl
  clear hp
  go_enter Try.func26, Try.ntmps26
  go_wp2_with fail
  refine HR.out.mono ?_
  rintro e w1 ⟨v, rfl, hown, hbel⟩
  obtain ⟨c, cap, rfl, hcap, hc, hx⟩ := (Tris.of_owns hown rfl HN.out (by have := hlen.out; omega)).open_pts
  obtain ⟨i0, i1, i2⟩ := hx i hi
  obtain ⟨j0, j1, j2⟩ := hx j hj
  have HB := Lib.hid hbel
  clear hx hown hbel HR
  generalize np p = n at *
  generalize (pt p i).1 = x0 at *
  generalize (pt p i).2.1 = x1 at *
  generalize (pt p i).2.2 = x2 at *
  generalize (pt p j).1 = y0 at *
  generalize (pt p j).2.1 = y1 at *
  generalize (pt p j).2.2 = y2 at *
  go_wp2_with fail
  go_region_held3 (fun w' => w'.cell? ⟨c, i*3, none⟩ = some (.int .i64 x0) ∧ w'.cell? ⟨c, i*3+1, none⟩ = some (.int .i64 x1) ∧ w'.cell? ⟨c, i*3+2, none⟩ = some (.int .i64 x2) ∧ w'.cell? ⟨c, j*3, none⟩ = some (.int .i64 y0) ∧ w'.cell? ⟨c, j*3+1, none⟩ = some (.int .i64 y1) ∧ w'.cell? ⟨c, j*3+2, none⟩ = some (.int .i64 y2) ∧ Below w1.heap.size w1 w')
    (first | exact ⟨i0, i1, i2, j0, j1, j2, (Below.refl _ _).drew⟩ | (obtain ⟨k2, k3, k4, k5, k6, k7, kb⟩ := ‹_ ∧ _›; exact ⟨ck k2 hbx, ck k3 hbx, ck k4 hbx, ck k5 hbx, ck k6 hbx, ck k7 hbx, kb.trans (hbx.mono kb.size)⟩))
    (first | (go_at_call 70; refine (ron_any p _ _ _ _ _ _ _ (by omega) (by omega) (by omega) (by omega) (by omega) (by omega) (by omega) (by omega)).mono ?_; rintro e w' ⟨rfl, hbx⟩))
  go_wp2
  go_ret
  obtain ⟨_, _, _, _, _, _, kb⟩ := ‹_ ∧ _›
  exact ⟨ret_bool HO.out.symm, HB.out.trans (kb.mono HB.out.size)⟩

def joinR (p a b : Nat) : Int := ((List.range (np p)).find? fun (l : Nat) => onB p a l && onB p b l).elim (-1) fun (l : Nat) => (l : Int)
theorem joinR_some {p a b l : Nat} (hl : l < np p) (h : ∀ j, j < l → (onB p a j && onB p b j) = false) (h1 : (onB p a l && onB p b l) = true) : joinR p a b = l := by
  have : (List.range (np p)).find? (fun (l : Nat) => onB p a l && onB p b l) = some l := by
    rw [List.find?_range_eq_some]
    exact ⟨h1, by simpa using hl, fun j hj => by rw [h j hj]; rfl⟩
  unfold joinR; rw [this]; rfl
theorem joinR_none {p a b : Nat} (h : ∀ j, j < np p → (onB p a j && onB p b j) = false) : joinR p a b = -1 := by
  have : (List.range (np p)).find? (fun (l : Nat) => onB p a l && onB p b l) = none := by
    rw [List.find?_eq_none]
    intro j hj
    rw [h j (by simpa using hj)]; simp
  unfold joinR; rw [this]; rfl

set_option maxHeartbeats 2000000 in
theorem rJoin_any (p a b : Nat) (w : World) (hp : isPn p) (ha : a < np p) (hb : b < np p) :
    Calls Try.prog 29 #[.int .i64 p, .int .i64 a, .int .i64 b] w fun e w' => e = .returned (.int .i64 (joinR p a b)) ∧ Below w.heap.size w w' := by
  have HS := Lib.hid (size_any p w hp)
  have HA := Lib.hid (fun l (hl : l < np p) w => rOn_any p a l w hp ha hl)
  have HB := Lib.hid (fun l (hl : l < np p) w => rOn_any p b l w hp hb hl)
  have HJ := Lib.hid (fun l => joinR_some (p := p) (a := a) (b := b) (l := l))
  have HJ0 := Lib.hid (joinR_none (p := p) (a := a) (b := b))
  have hn := np_le p hp.le.2
  clear hp ha hb
  generalize np p = n at *
  go_enter Try.func29, Try.ntmps29
  go_wp2_with fail
  refine HS.out.mono ?_
  rintro e w' ⟨rfl, rfl⟩
  go_wp2_with fail
  go_loopw [10] (fun i wr => ∃ k : Nat, k ≤ n ∧ i = .int .i64 k ∧ (∀ j, j < k → (onB p a j && onB p b j) = false) ∧ Below w.heap.size w wr) (fun i _ => n - (intOf i).toNat)
  case atStart => exact ⟨0, Nat.zero_le _, rfl, fun j hj => absurd hj (by omega), Below.refl _ _⟩
  case round =>
    obtain ⟨k, hk, rfl, hall, hbel⟩ := hrel
    have HAl := Lib.hid hall
    have HBl := Lib.hid hbel
    clear hall hbel
    by_cases hlt : k < n
    · have HC := Lib.hid (HA.out k hlt wr)
      have HD := Lib.hid (fun w => HB.out k hlt w)
      cases h1 : onB p a k with
      | false =>
        rw [h1] at HC
        have HN := Lib.hid (fun j (hj : j < k + 1) => if e : j = k then (by subst e; rw [h1]; rfl : (onB p a j && onB p b j) = false) else HAl.out j (by omega))
        clear h1
        go_wp2_with fail
        refine HC.out.mono ?_
        rintro e w1 ⟨rfl, hb1⟩
        have HB1 := Lib.hid (HBl.out.trans (hb1.mono HBl.out.size))
        clear hb1
        go_wp2_with fail
        go_roundw
        case rel => exact ⟨k + 1, by omega, by go_num, HN.out, HB1.out⟩
        case measure => simp [intOf]; omega
      | true =>
        rw [h1] at HC
        cases h2 : onB p b k with
        | false =>
          have HN := Lib.hid (fun j (hj : j < k + 1) => if e : j = k then (by subst e; rw [h2, Bool.and_false] : (onB p a j && onB p b j) = false) else HAl.out j (by omega))
          rw [h2] at HD
          clear h1 h2
          go_wp2_with fail
          refine HC.out.mono ?_
          rintro e w1 ⟨rfl, hb1⟩
          have HB1 := Lib.hid (HBl.out.trans (hb1.mono HBl.out.size))
          clear hb1
          go_wp2_with fail
          refine (HD.out w1).mono ?_
          rintro e w2 ⟨rfl, hb2⟩
          have HB2 := Lib.hid (HB1.out.trans (hb2.mono HB1.out.size))
          clear hb2
          go_wp2_with fail
          go_roundw
          case rel => exact ⟨k + 1, by omega, by go_num, HN.out, HB2.out⟩
          case measure => simp [intOf]; omega
        | true =>
          have HN := Lib.hid (HJ.out k hlt HAl.out (by rw [h1, h2]; rfl))
          rw [h2] at HD
          clear h1 h2
          go_wp2_with fail
          refine HC.out.mono ?_
          rintro e w1 ⟨rfl, hb1⟩
          have HB1 := Lib.hid (HBl.out.trans (hb1.mono HBl.out.size))
          clear hb1
          go_wp2_with fail
          refine (HD.out w1).mono ?_
          rintro e w2 ⟨rfl, hb2⟩
          have HB2 := Lib.hid (HB1.out.trans (hb2.mono HB1.out.size))
          clear hb2
          go_wp2
          go_ret
          exact ⟨ret_int HN.out.symm, HB2.out⟩
    · obtain rfl : k = n := by omega
      have HN := Lib.hid (HJ0.out HAl.out)
      go_wp2
      go_ret
      exact ⟨ret_int HN.out.symm, HBl.out⟩

set_option maxHeartbeats 2000000 in
theorem equal3_same (v v' : Value) (xs : List T3) (w : World) (h : Tris w v xs) (h' : Tris w v' xs) :
    Calls Try.prog 23 #[v, v'] w fun e w' => e = .returned (.bool true) ∧ Below w.heap.size w w' := by
  obtain ⟨g, cap, rfl, h1, h2, h3, h4, h5⟩ := h
  obtain ⟨g', cap', rfl, h1', h2', h3', h4', h5'⟩ := h'
  have HX := Lib.hid h5
  have HX' := Lib.hid h5'
  clear h5 h5'
  go_enter Try.func23, Try.ntmps23
  go_wp2
  go_loopw [13] (fun i wr => ∃ k m : Nat, k ≤ xs.length ∧ i = .int .i64 k ∧ wr = w.drewN m) (fun i _ => xs.length - (intOf i).toNat)
  case atStart => exact ⟨0, 0, Nat.zero_le _, rfl, rfl⟩
  case round =>
    obtain ⟨k, m, hk, rfl, hw⟩ := hrel
    by_cases hlt : k < xs.length
    · obtain ⟨⟨x, y, z⟩, ht⟩ : ∃ t, xs[k]? = some t := ⟨xs[k], by simp [hlt]⟩
      obtain ⟨c1, c2, c3⟩ := HX.out k _ ht
      obtain ⟨d1, d2, d3⟩ := HX'.out k _ ht
      have hn : ∀ w, (binOp .neq 31 (tri x y z) (tri x y z)).run Try.prog w = .ok (.bool false) w := fun w => by rw [run_neq_tri, decide_eq_true rfl]; rfl
      clear ht
      subst hw
      go_wp2
      go_quiet (fail)
      go_wp2
      go_roundw
      case rel => exact ⟨k + 1, m + nq, by omega, by go_num, by first | rfl | rw [World.drewN_drewN]⟩
      case measure => simp [intOf]; omega
    · obtain rfl : k = xs.length := by omega
      subst hw
      go_wp2
      go_ret
      exact ⟨rfl, below_drewN (Below.refl _ _) _⟩
end Go.Proofs.Ytllokfkagneneaa
