/- mirrorOf -/
import Derived.Test.YtlnbodpdgebflaaMi
namespace Go.Proofs.Ytlnbodpdgebflaa
open Go.RowKit

theorem Blk.at0 {t : TypeId} {w : World} {B : Nat} {u v : Value} (h : Blk t w B #[u, v]) : w.cell? ⟨B, 0, none⟩ = some u ∧ w.cell? ⟨B, 1, none⟩ = some v := ⟨h.cell 0, h.cell 1⟩
/-- What stands while mirrorOf runs: the group's block, the result's, and the one in which the turn is made. -/
structure MS (w w1 W : World) (k n : Int) (B : Nat) (f : Nat → Nat) : Prop where
  g : Blk 28 W w.heap.size #[.int .u8 k, .int .i64 n]
  r : Blk 117 W (w.heap.size + 1) (byt fun _ => 0)
  x : Blk 117 W B (byt f)
  lt : w.heap.size + 2 ≤ B
  b : Below w.heap.size w W
theorem MS.next {w w1 W W' : World} {k n : Int} {B : Nat} {f f' : Nat → Nat} (h : MS w w1 W k n B f) (hx : Blk 117 W' B (byt f')) (hb : Below B W W') : MS w w1 W' k n B f' :=
  ⟨(hb.block _ (by have := h.lt; omega)).trans h.g, (hb.block _ (by have := h.lt; omega)).trans h.r, hx, h.lt, h.b.trans (hb.mono (by have := h.lt; omega))⟩
theorem MS.start {w w1 W : World} {k n : Int} {Z : Array Value} (h1 : Below (w.heap.size + 2) ((w.alloc (.cells #[.int .u8 k, .int .i64 n] 28)).alloc (.cells (byt fun _ => 0) 117)) w1) (hW : W = (w1.alloc (.cells Z 117)).setRow w1.heap.size (byt fun p => p)) :
    MS w w1 W k n w1.heap.size (fun p => p) := by
  have hs := h1.size
  rw [s2] at hs
  have g1 : Blk 28 w1 w.heap.size #[.int .u8 k, .int .i64 n] := (h1.block _ (by omega)).trans ((Blk.new _ _ _).alloc _)
  have r1 : Blk 117 w1 (w.heap.size + 1) (byt fun _ => 0) := (h1.block _ (by omega)).trans (blk_at (by simp))
  subst hW
  exact ⟨(g1.alloc _).orow (by omega) _, (r1.alloc _).orow (by omega) _, (Blk.new _ _ _).row _, hs,
    below_row ((((Below.refl _ _).alloc (Nat.le_refl _) _).alloc (by simp) _ |>.trans (h1.mono (by omega))).alloc (by omega) _) (by omega) _⟩

set_option maxHeartbeats 2000000 in
theorem mirA_any (n s : Nat) (hs : s < n) (hn : n ≤ 4) (w : World) :
    Calls Try.prog 110 #[gV 65 n, .int .i64 s] w fun e w' => e = .returned (.agg (byt (swp (fun i => i) s (s + 1)))) ∧ Below w.heap.size w w' := by
  have HS := Lib.hid (fun W => still_any W)
  have HW : Hid (∀ (W : World) (B : Nat), Blk 117 W B (byt fun p => p) → Calls Try.prog 116 #[.pointer (some ⟨B, 0, none⟩), .int .i64 s, .int .i64 ((s:Int) + 1)] W fun e w' => (∃ v, e = .returned v) ∧ Blk 117 w' B (byt (swp (fun p => p) s (s + 1))) ∧ Below B W w') :=
    Lib.hid (fun W B h => swap_any (fun p => p) B s (s + 1) W h (by omega) (by omega) (by omega) ⟨by omega, by omega⟩)
  go_enter Try.func110, Try.ntmps110
  go_wp2_with fail
  refine (HS.out _).mono ?_
  rintro e w1 ⟨rfl, hb1⟩
  have HB1 : Hid (Below (w.heap.size + 2) ((w.alloc (.cells #[.int .u8 65, .int .i64 n] 28)).alloc (.cells (byt fun _ => 0) 117)) w1) := Lib.hid (by rw [s2] at hb1; exact hb1)
  clear hb1
  go_wp2_with (first | (refine wpl_store24 rfl _ _ rfl w1.heap.size _ rfl rfl _ (Blk.new _ _ _) rfl ?_; intro W2 hW2; have HM := Lib.hid (MS.start HB1.out hW2.out); clear hW2; have g0 := HM.out.g.at0.1; have g1 := HM.out.g.at0.2) | fail)
  refine (HW.out _ _ HM.out.x).mono ?_
  rintro e W3 ⟨⟨v3, rfl⟩, hX, hB⟩
  have HM3 := Lib.hid (HM.out.next hX hB)
  clear hX hB HM g0 g1
  have HM := HM3
  clear HM3
  have g0 := HM.out.g.at0.1
  have g1 := HM.out.g.at0.2
  go_wp2_with (first | (refine wpl_load24 rfl _ rfl _ rfl _ HM.out.x ?_) | (refine wpl_store24 rfl _ _ rfl (w.heap.size + 1) _ rfl rfl _ HM.out.r (byt_size _) ?_; intro W9 hW9))
  have h9 := hW9.out
  subst h9
  exact bodyPost_ret (res24 rfl _ _ (w.heap.size + 1) _ rfl (HM.out.r.row _)) rfl ⟨rfl, below_row HM.out.b (by omega) _⟩


set_option maxHeartbeats 2000000 in
theorem mirB_last (n s : Nat) (hs : s + 1 = n) (hn : n ≤ 3) (w : World) :
    Calls Try.prog 110 #[gV 66 n, .int .i64 s] w fun e w' => e = .returned (.agg (byt (swp (fun i => i) s (s + 1)))) ∧ Below w.heap.size w w' := by
  have HS := Lib.hid (fun W => still_any W)
  have HW : Hid (∀ (W : World) (B : Nat), Blk 117 W B (byt fun p => p) → Calls Try.prog 116 #[.pointer (some ⟨B, 0, none⟩), .int .i64 s, .int .i64 ((s:Int) + 1)] W fun e w' => (∃ v, e = .returned v) ∧ Blk 117 w' B (byt (swp (fun p => p) s (s + 1))) ∧ Below B W w') :=
    Lib.hid (fun W B h => swap_any (fun p => p) B s (s + 1) W h (by omega) (by omega) (by omega) ⟨by omega, by omega⟩)
  have hlt : ¬ ((s:Int) < (n:Int) - 1) := by omega
  go_enter Try.func110, Try.ntmps110
  go_wp2_with fail
  refine (HS.out _).mono ?_
  rintro e w1 ⟨rfl, hb1⟩
  have HB1 : Hid (Below (w.heap.size + 2) ((w.alloc (.cells #[.int .u8 66, .int .i64 n] 28)).alloc (.cells (byt fun _ => 0) 117)) w1) := Lib.hid (by rw [s2] at hb1; exact hb1)
  clear hb1
  go_wp2_with (first | (refine wpl_store24 rfl _ _ rfl w1.heap.size _ rfl rfl _ (Blk.new _ _ _) rfl ?_; intro W2 hW2; have HM := Lib.hid (MS.start HB1.out hW2.out); clear hW2; have g0 := HM.out.g.at0.1; have g1 := HM.out.g.at0.2) | fail)
  refine (HW.out _ _ HM.out.x).mono ?_
  rintro e W3 ⟨⟨v3, rfl⟩, hX, hB⟩
  have HM3 := Lib.hid (HM.out.next hX hB)
  clear hX hB HM g0 g1
  have HM := HM3
  clear HM3
  have g0 := HM.out.g.at0.1
  have g1 := HM.out.g.at0.2
  go_wp2_with (first | (refine wpl_load24 rfl _ rfl _ rfl _ HM.out.x ?_) | (refine wpl_store24 rfl _ _ rfl (w.heap.size + 1) _ rfl rfl _ HM.out.r (byt_size _) ?_; intro W9 hW9))
  have h9 := hW9.out
  subst h9
  exact bodyPost_ret (res24 rfl _ _ (w.heap.size + 1) _ rfl (HM.out.r.row _)) rfl ⟨rfl, below_row HM.out.b (by omega) _⟩

set_option maxHeartbeats 2000000 in
theorem mirB_any (n s : Nat) (hs : s + 1 < n) (hn : n ≤ 3) (w : World) :
    Calls Try.prog 110 #[gV 66 n, .int .i64 s] w fun e w' => e = .returned (.agg (byt (swp (swp (fun i => i) s (s + 1)) (2 * n - 1 - s) (2 * n - 1 - s - 1)))) ∧ Below w.heap.size w w' := by
  have HS := Lib.hid (fun W => still_any W)
  have HW : Hid (∀ (W : World) (B : Nat), Blk 117 W B (byt fun p => p) → Calls Try.prog 116 #[.pointer (some ⟨B, 0, none⟩), .int .i64 s, .int .i64 ((s:Int) + 1)] W fun e w' => (∃ v, e = .returned v) ∧ Blk 117 w' B (byt (swp (fun p => p) s (s + 1))) ∧ Below B W w') :=
    Lib.hid (fun W B h => swap_any (fun p => p) B s (s + 1) W h (by omega) (by omega) (by omega) ⟨by omega, by omega⟩)
  have hsw : ∀ i, i < 24 → swp (fun p => p) s (s + 1) i < 24 := by intro i hi; unfold swp; dsimp only; split <;> (try split) <;> omega
  have HV : Hid (∀ (W : World) (B : Nat), Blk 117 W B (byt (swp (fun p => p) s (s + 1))) → Calls Try.prog 116 #[.pointer (some ⟨B, 0, none⟩), .int .i64 (2 * (n:Int) - 1 - s), .int .i64 (2 * (n:Int) - 1 - s - 1)] W fun e w' => (∃ v, e = .returned v) ∧ Blk 117 w' B (byt (swp (swp (fun i => i) s (s + 1)) (2 * n - 1 - s) (2 * n - 1 - s - 1))) ∧ Below B W w') :=
    Lib.hid (fun W B h => by
      have := swap_any (swp (fun p => p) s (s + 1)) B (2 * n - 1 - s) (2 * n - 1 - s - 1) W h (by omega) (by omega) (by omega) ⟨hsw _ (by omega), hsw _ (by omega)⟩
      rw [show ((2 * n - 1 - s : Nat) : Int) = 2 * (n:Int) - 1 - s by omega, show ((2 * n - 1 - s - 1 : Nat) : Int) = 2 * (n:Int) - 1 - s - 1 by omega] at this
      exact this)
  have hlt : (s:Int) < (n:Int) - 1 := by omega
  clear hsw
  go_enter Try.func110, Try.ntmps110
  go_wp2_with fail
  refine (HS.out _).mono ?_
  rintro e w1 ⟨rfl, hb1⟩
  have HB1 : Hid (Below (w.heap.size + 2) ((w.alloc (.cells #[.int .u8 66, .int .i64 n] 28)).alloc (.cells (byt fun _ => 0) 117)) w1) := Lib.hid (by rw [s2] at hb1; exact hb1)
  clear hb1
  go_wp2_with (first | (refine wpl_store24 rfl _ _ rfl w1.heap.size _ rfl rfl _ (Blk.new _ _ _) rfl ?_; intro W2 hW2; have HM := Lib.hid (MS.start HB1.out hW2.out); clear hW2; have g0 := HM.out.g.at0.1; have g1 := HM.out.g.at0.2) | fail)
  refine (HW.out _ _ HM.out.x).mono ?_
  rintro e W3 ⟨⟨v3, rfl⟩, hX, hB⟩
  have HM3 := Lib.hid (HM.out.next hX hB)
  clear hX hB HM g0 g1
  have HM := HM3
  clear HM3
  have g0 := HM.out.g.at0.1
  have g1 := HM.out.g.at0.2
  go_wp2_with fail
  refine (HV.out _ _ HM.out.x).mono ?_
  rintro e W4 ⟨⟨v4, rfl⟩, hX, hB⟩
  have HM4 := Lib.hid (HM.out.next hX hB)
  clear hX hB HM g0 g1
  have HM := HM4
  clear HM4
  have g0 := HM.out.g.at0.1
  have g1 := HM.out.g.at0.2
  go_wp2_with (first | (refine wpl_load24 rfl _ rfl _ rfl _ HM.out.x ?_) | (refine wpl_store24 rfl _ _ rfl (w.heap.size + 1) _ rfl rfl _ HM.out.r (byt_size _) ?_; intro W9 hW9))
  have h9 := hW9.out
  subst h9
  exact bodyPost_ret (res24 rfl _ _ (w.heap.size + 1) _ rfl (HM.out.r.row _)) rfl ⟨rfl, below_row HM.out.b (by omega) _⟩


set_option maxHeartbeats 2000000 in
theorem mirI_any (n s : Nat) (hs : s < 2) (h2 : 2 ≤ n) (hn : n ≤ 12) (w : World) :
    Calls Try.prog 110 #[gV 73 n, .int .i64 s] w fun e w' => e = .returned (.agg (byt (fun p => if p < 2 * n then (2 * n - 1 + 2 * s - p) % (2 * n) else p))) ∧ Below w.heap.size w w' := by
  have HS := Lib.hid (fun W => still_any W)
  have hnz : ((2 * (n:Int)) == 0) = false := by simp; omega
  go_enter Try.func110, Try.ntmps110
  go_wp2_with fail
  refine (HS.out _).mono ?_
  rintro e w1 ⟨rfl, hb1⟩
  have HB1 : Hid (Below (w.heap.size + 2) ((w.alloc (.cells #[.int .u8 73, .int .i64 n] 28)).alloc (.cells (byt fun _ => 0) 117)) w1) := Lib.hid (by rw [s2] at hb1; exact hb1)
  clear hb1
  go_wp2_with (first | (refine wpl_store24 rfl _ _ rfl w1.heap.size _ rfl rfl _ (Blk.new _ _ _) rfl ?_; intro W2 hW2; have HM := Lib.hid (MS.start HB1.out hW2.out); clear hW2; have g0 := HM.out.g.at0.1; have g1 := HM.out.g.at0.2) | fail)
  go_loopw [45] (fun i wr => ∃ k : Nat, k ≤ 2 * n ∧ i = .int .i64 k ∧ MS w w1 wr 73 n w1.heap.size (fun p => if p < k then (2 * n - 1 + 2 * s - p) % (2 * n) else p)) (fun i _ => 2 * n - (intOf i).toNat)
  case atStart => exact ⟨0, by omega, rfl, by simpa using HM.out⟩
  case round =>
    obtain ⟨k, hk, rfl, hm⟩ := hrel
    clear HM g0 g1
    have HM := Lib.hid hm
    clear hm
    have g0 := HM.out.g.at0.1
    have g1 := HM.out.g.at0.2
    by_cases hlt : k < 2 * n
    · have hr : (2 * n - 1 + 2 * s - k) % (2 * n) < 24 := Nat.lt_of_lt_of_le (Nat.mod_lt _ (by omega)) (by omega)
      have hkj : 2 * (n:Int) - 1 + 2 * s - k = ((2 * n - 1 + 2 * s - k : Nat) : Int) := by omega
      have d3 : (2 * (n:Int) - 1 + 2 * s - k).tmod (2 * n) = (((2 * n - 1 + 2 * s - k) % (2 * n) : Nat) : Int) := by rw [hkj]; rfl
      have d4 : (2 * (n:Int) - 1 + 2 * s - k) % (2 * n) = (((2 * n - 1 + 2 * s - k) % (2 * n) : Nat) : Int) := by rw [hkj]; rfl
      have hfr := (HM.out.x.byt (show k < 24 by omega)).2
      have hfc := (HM.out.x.byt (show k < 24 by omega)).1
      have HE : Hid (∀ p, (if p < k + 1 then (2 * n - 1 + 2 * s - p) % (2 * n) else p) = (if p = k then (2 * n - 1 + 2 * s - k) % (2 * n) else if p < k then (2 * n - 1 + 2 * s - p) % (2 * n) else p)) := Lib.hid fun p => by
        by_cases e : p = k
        · subst e; simp
        · rw [if_neg e]; by_cases e2 : p < k
          · rw [if_pos e2, if_pos (by omega)]
          · rw [if_neg e2, if_neg (by omega)]
      clear hkj
      generalize (2 * n - 1 + 2 * s - k) % (2 * n) = r at *
      go_wp2_with fail
      go_roundw
      case rel =>
        refine ⟨k + 1, by omega, by go_num, HM.out.next ?_ (below_cell (Below.refl w1.heap.size wr) (a := ⟨w1.heap.size, k, none⟩) (Nat.le_refl _) _)⟩
        have h1 := HM.out.x.set k (.int .u8 (r : Nat))
        rw [byt_set] at h1
        rw [byt_congr (fun p _ => HE.out p)]
        exact h1
      case measure => simp [intOf]; omega
    · obtain rfl : k = 2 * n := by omega
      clear g0 g1
      go_wp2_with (first | (refine wpl_load24 rfl _ rfl _ rfl _ HM.out.x ?_) | (refine wpl_store24 rfl _ _ rfl (w.heap.size + 1) _ rfl rfl _ HM.out.r (byt_size _) ?_; intro W9 hW9))
      have h9 := hW9.out
      subst h9
      exact bodyPost_ret (res24 rfl _ _ (w.heap.size + 1) _ rfl (HM.out.r.row _)) rfl ⟨rfl, below_row HM.out.b (by omega) _⟩

theorem mirrorOf_any (g s : Nat) (hg : g < 17) (hs : s < kM g) (w : World) :
    Calls Try.prog 110 #[gV (kd g) (nm g), .int .i64 s] w fun e w' => e = .returned (.agg (byt (tn g (rt g 0 s)))) ∧ Below w.heap.size w w' := by
  have HE : ∀ p, p < 24 → _ := fun p hp => mir_eq (p := p) hg hs hp
  rw [byt_congr HE]
  rcases kinds hg with ⟨a, b, c, d⟩ | ⟨a, b, c, d⟩ | ⟨a, b, c, d⟩
  · rw [a, byt_congr (fun p _ => if_pos rfl)]
    exact mirA_any (nm g) s (by omega) b w
  · rw [a, byt_congr (fun p _ => by rw [if_neg (by decide), if_pos rfl])]
    by_cases h : s + 1 < nm g
    · rw [byt_congr (fun p _ => if_pos h)]
      exact mirB_any (nm g) s h b w
    · rw [byt_congr (fun p _ => if_neg h)]
      exact mirB_last (nm g) s (by omega) b w
  · rw [a, byt_congr (fun p _ => by rw [if_neg (by decide), if_neg (by decide)])]
    exact mirI_any (nm g) s (by omega) d b w
end Go.Proofs.Ytlnbodpdgebflaa
