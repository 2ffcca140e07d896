/- cards of dimension 2 are the points of the plane over 3 off one line -/
import Derived.Test.YtlalfjkenkmojaaRd
import Derived.Test.YtlalfjkenkmojaaMm
namespace Go.Proofs.Ytlalfjkenkmojaa.Ar
open Go.RowKit

def shiftL (l : List Nat) : List Nat := l.map fun x => 4 + x
/-- All slices of some numbers. -/
def allS : List Nat → List (List Nat)
  | [] => [[]]
  | x :: xs => allS xs ++ (allS xs).map fun s => x :: s
theorem mem_allS {s xs : List Nat} (h : List.Sublist s xs) : s ∈ allS xs := by
  induction h with
  | slnil => simp [allS]
  | cons x _ ih => rw [allS, List.mem_append]; exact .inl ih
  | cons_cons x _ ih => rw [allS, List.mem_append]; exact .inr (List.mem_map.2 ⟨_, ih, rfl⟩)
/-- The points and lines, as a table. -/
def tabL : List (List Bool) := (List.range 9).map fun x => (List.range 13).map fun j => onB 3 (4 + x) j
def tabT : List (List Bool) := [[true, true, true, true, false, false, false, false, false, false, false, false, false], [false, true, false, false, false, false, true, false, false, true, false, false, true], [false, true, false, false, false, true, false, false, true, false, false, true, false], [true, false, false, false, false, false, false, false, false, false, true, true, true], [false, false, false, true, false, false, true, false, true, false, true, false, false], [false, false, true, false, false, true, false, false, false, true, true, false, false], [true, false, false, false, false, false, false, true, true, true, false, false, false], [false, false, true, false, false, false, true, true, false, false, false, true, false], [false, false, false, true, false, true, false, true, false, false, false, false, true]]
theorem tab_same : tabL = tabT := by decide +kernel
def onT (x j : Nat) : Bool := (tabT.getD x []).getD j false
theorem onT_eq {x j : Nat} (hx : x < 9) (hj : j < 13) : onB 3 (4 + x) j = onT x j := by
  unfold onT
  rw [← tab_same]
  unfold tabL
  simp [hx, hj]
def arcT (l : List Nat) : Bool := (List.range 13).all fun j => Nat.ble (l.filter fun x => onT x j).length 2
theorem arcT_caps : ((allS (List.range' 0 9)).all fun l => arcT l == keepsL (mayB 2) l) = true := by decide +kernel
theorem cnt_shift (l : List Nat) (j : Nat) (hl : ∀ x ∈ l, x < 9) (hj : j < 13) : cntL 3 (nats (shiftL l)) j = (l.filter fun x => onT x j).length := by
  unfold cntL nats shiftL
  rw [List.filter_map, List.length_map, List.filter_map, List.length_map]
  congr 1
  refine List.filter_congr fun x hx => ?_
  simp only [Function.comp]
  rw [Int.toNat_natCast]
  exact onT_eq (hl x hx) hj
theorem arc_cap {l : List Nat} (h : Deck 2 l) : arcB 3 (nats (shiftL l)) = keepsL (mayB 2) l := by
  have h1 : arcT l = keepsL (mayB 2) l := beq_iff_eq.1 (List.all_eq_true.1 arcT_caps l (mem_allS (up_sub 9 l 0 h.1 fun x hx => by have := h.2 x hx; omega)))
  rw [← h1]
  have e : arcB 3 (nats (shiftL l)) = true ↔ Arcs 3 (nats (shiftL l)) := decide_eq_true_iff
  unfold arcT
  rw [Bool.eq_iff_iff, e, List.all_eq_true]
  constructor
  · intro ha j hj
    have hj := List.mem_range.1 hj
    rw [Nat.ble_eq, ← cnt_shift l j h.2 hj]
    exact ha j hj
  · intro ha j hj
    have := ha j (List.mem_range.2 hj)
    rw [Nat.ble_eq, ← cnt_shift l j h.2 hj] at this
    exact this
theorem set_ok {l : List Nat} (h : Deck 2 l) : setB 3 (nats (shiftL l)) = true := by
  unfold setB okB
  rw [Bool.and_eq_true, Bool.and_eq_true]
  refine ⟨⟨rfl, ?_⟩, ?_⟩
  · unfold inB
    rw [List.all_eq_true]
    intro x hx
    obtain ⟨y, hy, rfl⟩ := List.mem_map.1 hx
    obtain ⟨z, hz, rfl⟩ := List.mem_map.1 hy
    have h1 := h.2 z hz
    have h2 : z < 9 := h1
    rw [Bool.and_eq_true, decide_eq_true_eq, decide_eq_true_eq]
    exact ⟨by omega, show ((4 + z : Nat) : Int) < 13 by omega⟩
  · unfold risB
    refine decide_eq_true fun k hk h0 => ?_
    rw [nats_length] at hk
    have hk2 : k < l.length := by simpa [shiftL] using hk
    rw [nats_getD, nats_getD]
    have h1 := up_lt h.1 (show k - 1 < k by omega) hk2
    have e1 : (shiftL l).getD k 0 = 4 + l.getD k 0 := by simp [shiftL, hk2]
    have e2 : (shiftL l).getD (k - 1) 0 = 4 + l.getD (k - 1) 0 := by simp [shiftL, show k - 1 < l.length by omega]
    rw [e1, e2]
    omega
theorem shift_bd {l : List Nat} (h : Deck 2 l) : ∀ y ∈ shiftL l, y < 13 := fun y hy => by
  obtain ⟨z, hz, rfl⟩ := List.mem_map.1 hy
  have h1 := h.2 z hz
  have h2 : z < 9 := h1
  omega
theorem row_third : ((List.range 9).all fun a => (List.range 9).all fun b => a == b || (List.range 9).all fun c => rowB 3 (4 + a) (4 + b) (4 + c) == (thirdN 2 a b == c || (a == c || b == c))) = true := by decide +kernel
theorem row_of {a b c : Nat} (ha : a < 9) (hb : b < 9) (hc : c < 9) (h : a ≠ b) : rowB 3 (4 + a) (4 + b) (4 + c) = (thirdN 2 a b == c || (a == c || b == c)) := by
  have := List.all_eq_true.1 (List.all_eq_true.1 row_third a (List.mem_range.2 ha)) b (List.mem_range.2 hb)
  rw [Bool.or_eq_true, beq_iff_eq] at this
  exact beq_iff_eq.1 (List.all_eq_true.1 (this.resolve_left h) c (List.mem_range.2 hc))
theorem free_card {l : List Nat} (h : Deck 2 l) {c : Nat} (hc : c < 9) : frB 3 (shiftL l) (4 + c) = mayB 2 l c := by
  rw [← fits_may 2 l c h.2 hc, Bool.eq_iff_iff, frB_iff, fitsB_iff]
  have hlen : (shiftL l).length = l.length := by simp [shiftL]
  have hget : ∀ i, i < l.length → (shiftL l).getD i 0 = 4 + l.getD i 0 := fun i hi => by simp [shiftL, hi]
  have hb : ∀ i, i < l.length → l.getD i 0 < 9 := fun i hi => h.2 _ (at_mem hi)
  rw [hlen]
  constructor
  · intro hf i hi
    obtain ⟨f1, f2⟩ := hf i hi
    rw [hget i hi] at f1
    refine ⟨by omega, fun j hj e => ?_⟩
    have f3 := f2 j hj
    rw [hget i hi, hget j (by omega), row_of (hb i hi) (hb j (by omega)) hc (fun e => by have := up_lt h.1 hj hi; omega), e] at f3
    simp at f3
  · intro hf i hi
    obtain ⟨f1, f2⟩ := hf i hi
    rw [hget i hi]
    refine ⟨by omega, fun j hj => ?_⟩
    rw [hget j (by omega), row_of (hb i hi) (hb j (by omega)) hc (fun e => by have := up_lt h.1 hj hi; omega)]
    have f3 := f2 j hj
    have f4 := (hf j (by omega)).1
    rw [beq_eq_false_iff_ne.2 f3, beq_eq_false_iff_ne.2 f1, beq_eq_false_iff_ne.2 f4]
    rfl
/-- The points off the line, as cards. -/
def nearL (b : List Nat) : List Nat := (b.filter fun x => decide (4 ≤ x)).map fun x => x - 4
theorem near_snoc (b : List Nat) (k : Nat) (h : k < b.length) : nearL (b.take (k + 1)) = if 4 ≤ b.getD k 0 then nearL (b.take k) ++ [b.getD k 0 - 4] else nearL (b.take k) := by
  unfold nearL
  rw [natT_snoc b k h, List.filter_append, List.map_append]
  by_cases g : 4 ≤ b.getD k 0
  · rw [if_pos g]
    congr 1
    rw [List.filter_cons, if_pos (decide_eq_true g)]
    rfl
  · rw [if_neg g, List.filter_cons, if_neg (by rw [decide_eq_true_eq]; exact g)]
    simp
theorem near_free {l : List Nat} (h : Deck 2 l) : nearL (freeP 3 (shiftL l) 13) = freeL 2 l := by
  unfold nearL freeP freeL
  rw [List.filter_filter, show List.range' 0 13 = List.range' 0 4 ++ (List.range' 0 9).map (fun x => 4 + x) from rfl, List.filter_append, List.map_append]
  have e1 : (List.range' 0 4).filter (fun a => decide (4 ≤ a) && frB 3 (shiftL l) a) = [] := by
    rw [List.filter_eq_nil_iff]
    intro x hx
    rw [List.mem_range'_1] at hx
    rw [decide_eq_false (by omega)]
    simp
  rw [e1, List.map_nil, List.nil_append, List.filter_map, List.map_map]
  have e2 : (List.range' 0 9).filter ((fun a => decide (4 ≤ a) && frB 3 (shiftL l) a) ∘ fun x => 4 + x) = (List.range' 0 (3 ^ 2)).filter (mayB 2 l) := by
    refine List.filter_congr fun x hx => ?_
    rw [List.mem_range'_1] at hx
    simp only [Function.comp]
    rw [decide_eq_true (by omega), Bool.true_and]
    exact free_card h (by omega)
  rw [e2]
  exact (List.map_congr_left fun x _ => by simp [Function.comp]).trans (List.map_id' _)
end Go.Proofs.Ytlalfjkenkmojaa.Ar
