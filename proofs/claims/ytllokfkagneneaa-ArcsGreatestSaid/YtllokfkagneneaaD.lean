/- planes: multiply -/
import Derived.Test.YtllokfkagneneaaC
import Derived.Deep.RegionHeld3
import Derived.OwnWalk
namespace Go.Proofs.Ytllokfkagneneaa
open Go.RowKit

theorem only_drewN {a w : World} {row : Option Nat} (h : a.grownBy w row) (n : Nat) : a.grownBy (w.drewN n) row := ⟨h.os, h.tape, h.output, h.size, h.block⟩
theorem below_drewN {B : Nat} {a w : World} (h : Below B a w) (n : Nat) : Below B a (w.drewN n) := ⟨h.os, h.tape, h.output, h.size, h.block⟩
theorem only_drew {a w : World} {row : Option Nat} (h : a.grownBy w row) : a.grownBy w.drew row := ⟨h.os, h.tape, h.output, h.size, h.block⟩
theorem only_setCell {a w : World} {g : Nat} (h : a.grownBy w (some g)) {p : Addr} (hp : p.block = g ∨ a.heap.size ≤ p.block) (u : Value) : a.grownBy (w.setCell p u) (some g) :=
  ⟨h.os, h.tape, h.output, by simpa [World.setCell] using h.size, fun i hi hne => (Below.heap_setCell w p u i (by
    rintro rfl
    rcases hp with hp | hp
    · exact hne (by rw [hp])
    · omega)).trans (h.block i hi hne)⟩

/-- f times what lies at o and behind it, modulo p, k numbers of it. -/
def mulS (p : Nat) (f : Int) (ys : List Int) (o k : Nat) : List Int := ys.mapIdx fun i y => if o ≤ i ∧ i < o + k then f * (y % p) % p else y
theorem mulS_length (p : Nat) (f : Int) (ys : List Int) (o k : Nat) : (mulS p f ys o k).length = ys.length := by simp [mulS]
theorem mulS_zero (p : Nat) (f : Int) (ys : List Int) (o : Nat) : mulS p f ys o 0 = ys := by
  refine List.ext_getElem (by simp [mulS]) fun i h1 h2 => ?_
  simp [mulS, show ¬ (o ≤ i ∧ i < o) by omega]
theorem mulS_at (p : Nat) (f : Int) (ys : List Int) (o k : Nat) (h : o + k < ys.length) : (mulS p f ys o k).getD (o + k) 0 = ys.getD (o + k) 0 := by
  simp [mulS, h]
theorem mulS_succ (p : Nat) (f : Int) (ys : List Int) (o k : Nat) (h : o + k < ys.length) : mulS p f ys o (k+1) = (mulS p f ys o k).set (o + k) (f * (ys.getD (o + k) 0 % p) % p) := by
  refine List.ext_getElem (by simp [mulS]) fun i h1 h2 => ?_
  rw [List.getElem_set]
  by_cases e : o + k = i
  · subst e; simp [mulS, h]
  · rw [if_neg e]
    simp only [mulS, List.getElem_mapIdx]
    by_cases c : o ≤ i ∧ i < o + k
    · rw [if_pos c, if_pos (by omega)]
    · rw [if_neg c, if_neg (by omega)]

def IntBlk (w : World) (g : Nat) (t : TypeId) (ys : List Int) : Prop := w.heap[g]? = some (.cells (ints ys).toArray t (0, 0))
theorem IntBlk.cell {w : World} {g : Nat} {t : TypeId} {ys : List Int} (h : IntBlk w g t ys) {i : Nat} (hi : i < ys.length) : w.cell? ⟨g, i, none⟩ = some (.int .i64 (ys.getD i 0)) := by
  unfold IntBlk at h; simp [World.cell?, h, ints, hi]
theorem IntBlk.frozen {w : World} {g : Nat} {t : TypeId} {ys : List Int} (h : IntBlk w g t ys) (i : Nat) : w.frozen? ⟨g, i, none⟩ = false := by
  unfold IntBlk at h; simp [World.frozen?, h]
theorem IntBlk.set {w : World} {g : Nat} {t : TypeId} {ys : List Int} (h : IntBlk w g t ys) (i : Nat) (x : Int) : IntBlk (w.setCell ⟨g, i, none⟩ (.int .i64 x)) g t (ys.set i x) := by
  unfold IntBlk at *
  simp only [World.setCell, Array.getElem?_modify, h]
  simp [ints, List.map_set]
theorem IntBlk.lt {w : World} {g : Nat} {t : TypeId} {ys : List Int} (h : IntBlk w g t ys) : g < w.heap.size := lt_of_block h
theorem IntBlk.drewN {w : World} {g : Nat} {t : TypeId} {ys : List Int} (h : IntBlk w g t ys) (n : Nat) : IntBlk (w.drewN n) g t ys := h

theorem mulf_bd {p : Nat} {f y : Int} (hp : 2 ≤ p) (hp' : p ≤ 7) (hf : 0 ≤ f) (hf' : f ≤ 7) : 0 ≤ f * (y % p) ∧ f * (y % p) ≤ 49 := by
  have hr := Int.emod_nonneg y (show (p : Int) ≠ 0 by omega)
  have hr' := Int.emod_lt_of_pos y (show 0 < (p : Int) by omega)
  have h1 : 0 ≤ f * (y % p) := Int.mul_nonneg hf hr
  have h2 : f * (y % p) ≤ 7 * 7 := Int.mul_le_mul hf' (by omega) hr (by omega)
  omega

set_option maxHeartbeats 1000000 in
theorem multiply_any (b p g o n cap : Nat) (t : TypeId) (f : Int) (ys : List Int) (w : World) (hc : w.cell? ⟨b, 0, none⟩ = some (.int .i64 p)) (hp : 2 ≤ p) (hp' : p ≤ 7) (hf : 0 ≤ f) (hf' : f ≤ 7)
    (hg : IntBlk w g t ys) (ho : o + n ≤ ys.length) (hb : b ≠ g) (hcap : n ≤ cap) (hlen : ys.length ≤ 1000) :
    Calls Try.prog 111 #[.pointer (some ⟨b, 0, none⟩), .int .i64 f, .slice (some ⟨g, o, none⟩) n cap] w fun e w' => e = .returned (.tuple #[]) ∧ IntBlk w' g t (mulS p f ys o n) ∧ w.grownBy w' (some g) := by
  have HG := Lib.hid hg
  have HC := Lib.hid hc
  have hbl := World.block_lt_of_cell? w _ hc
  clear hc hg
  go_enter Try.func111, Try.ntmps111
  go_wp2
  go_loopw [10] (fun i wr => ∃ k : Nat, k ≤ n ∧ i = .int .i64 k ∧ IntBlk wr g t (mulS p f ys o k) ∧ w.grownBy wr (some g)) (fun i _ => n - (intOf i).toNat)
  case atStart => exact ⟨0, Nat.zero_le _, rfl, by rw [mulS_zero]; exact HG.out, World.grownBy.refl _ _⟩
  case round =>
    obtain ⟨k, hk, rfl, hblk, hon⟩ := hrel
    have hcw : wr.cell? ⟨b, 0, none⟩ = some (.int .i64 p) := hon.cell HC.out (by simpa using hb)
    have HBl := Lib.hid hblk
    have HOn := Lib.hid hon
    clear hon
    by_cases hlt : k < n
    · have hck := hblk.cell (i := o + k) (by rw [mulS_length]; omega)
      have hfr := hblk.frozen (o + k)
      rw [mulS_at p f ys o k (by omega)] at hck
      have HS := Lib.hid (mulS_succ p f ys o k (by omega))
      obtain ⟨y, hy⟩ : ∃ y, y = ys.getD (o + k) 0 := ⟨_, rfl⟩
      rw [← hy] at hck HS
      clear hblk hy
      obtain ⟨m1, m2⟩ := mulf_bd (y := y) hp hp' hf hf'
      have hq : IntKind.i64.wrap (f * (y % p)) = f * (y % p) := IntWalk.i64_in _ (by omega)
      have hz : ((p:Int) == 0) = false := by simp; omega
      have ht : (f * (y % p)).tmod p = (f * (y % p)) % p := Int.tmod_eq_emod_of_nonneg (by omega)
      go_wp2_with fail
      have hp0 : ¬ p = 0 := by omega
      go_region_with ((go_at_call 88; refine (mod_any b p y _ (by first | exact hcw | (simp; exact hcw)) (by omega) (by omega)).mono ?_; rintro e w' ⟨rfl, nq, rfl⟩))
      all_goals
        go_wp2
        go_roundw
        case rel => exact ⟨k + 1, by omega, by go_num, by rw [HS.out]; exact (HBl.out.drewN _).set _ _, only_setCell (only_drewN HOn.out _) (.inl rfl) _⟩
        case measure => simp [intOf]; omega
    · obtain rfl : k = n := by omega
      go_wp2
      go_end0
      exact ⟨rfl, HBl.out, HOn.out⟩
end Go.Proofs.Ytllokfkagneneaa
