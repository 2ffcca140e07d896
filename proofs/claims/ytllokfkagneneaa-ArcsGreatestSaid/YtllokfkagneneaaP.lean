/- planes: the points as a list, slices of triples, the plane in memory -/
import Derived.Test.YtllokfkagneneaaLib
import Derived.Lib.Hide
import Derived.Deep.AppendLies
import Derived.Laws.OwnMore
namespace Go.Proofs.Ytllokfkagneneaa
open Go.RowKit

abbrev T3 := Int × Int × Int
abbrev tri (x y z : Int) : Value := .agg #[.int .i64 x, .int .i64 y, .int .i64 z]
def triV (t : T3) : Value := tri t.1 t.2.1 t.2.2
def cells3 (t : T3) : List Value := [.int .i64 t.1, .int .i64 t.2.1, .int .i64 t.2.2]
def flat (xs : List T3) : List Value := xs.flatMap cells3
theorem flat_length (xs : List T3) : (flat xs).length = xs.length * 3 := by
  induction xs with
  | nil => rfl
  | cons a t ih => simp [flat, cells3] at *; omega
theorem flat_snoc (xs : List T3) (t : T3) : flat (xs ++ [t]) = flat xs ++ cells3 t := by simp [flat]

theorem flat_get (xs : List T3) (k : Nat) (t : T3) (h : xs[k]? = some t) : (flat xs)[k*3]? = some (.int .i64 t.1) ∧ (flat xs)[k*3+1]? = some (.int .i64 t.2.1) ∧ (flat xs)[k*3+2]? = some (.int .i64 t.2.2) := by
  induction xs generalizing k with
  | nil => simp at h
  | cons a xs ih =>
    cases k with
    | zero => simp at h; subst h; simp [flat, cells3]
    | succ k =>
      have := ih k (by simpa using h)
      have e : flat (a :: xs) = cells3 a ++ flat xs := by simp [flat]
      rw [e]
      have l3 : (cells3 a).length = 3 := rfl
      rw [List.getElem?_append_right (by omega), List.getElem?_append_right (by omega), List.getElem?_append_right (by omega), l3]
      rw [show (k+1)*3 - 3 = k*3 by omega, show (k+1)*3+1 - 3 = k*3+1 by omega, show (k+1)*3+2 - 3 = k*3+2 by omega]
      exact this

def L1 (k : Nat) : List T3 := (0,0,1) :: (List.range k).map fun (z : Nat) => ((0:Int),(1:Int),(z:Int))
def L2 (p y z : Nat) : List T3 := L1 p ++ (List.range y).flatMap (fun (y : Nat) => (List.range p).map fun (z : Nat) => ((1:Int),(y:Int),(z:Int))) ++ (List.range z).map fun (z : Nat) => ((1:Int),(y:Int),(z:Int))
def ptsL (p : Nat) : List T3 := L2 p p 0
theorem L1_succ (k : Nat) : L1 (k+1) = L1 k ++ [((0:Int),(1:Int),(k:Int))] := by simp [L1, List.range_succ]
theorem L2_zero (p : Nat) : L2 p 0 0 = L1 p := by simp [L2]
theorem L2_succ (p y z : Nat) : L2 p y (z+1) = L2 p y z ++ [((1:Int),(y:Int),(z:Int))] := by simp [L2, List.range_succ]
theorem L2_row (p y : Nat) : L2 p (y+1) 0 = L2 p y p := by simp [L2, List.range_succ]
theorem L1_length (k : Nat) : (L1 k).length = 1 + k := by simp [L1]; omega
theorem sum_const (p y : Nat) : ((List.range y).map (fun _ => p)).sum = y * p := by
  induction y with
  | zero => simp
  | succ y ih => simp only [List.range_succ, List.map_append, List.sum_append, ih, Nat.add_mul]; simp
theorem L2_length (p y z : Nat) : (L2 p y z).length = 1 + p + y * p + z := by
  have := sum_const p y
  simp [L2, L1_length] at *; omega
theorem L2_le (p y z : Nat) (hp : p ≤ 7) (hy : y ≤ p) (hz : z ≤ p) : (L2 p y z).length ≤ 100 := by
  rw [L2_length]
  have : y * p ≤ 7 * 7 := Nat.mul_le_mul (by omega) hp
  omega
def np (p : Nat) : Nat := p * p + p + 1
theorem pts_length (p : Nat) : (ptsL p).length = np p := by rw [ptsL, L2_length]; unfold np; omega
theorem np_le (p : Nat) (hp : p ≤ 7) : np p ≤ 57 := by
  have : p * p ≤ 7 * 7 := Nat.mul_le_mul hp hp
  unfold np; omega

/-- The k-th point. -/
def pt (p k : Nat) : T3 := (ptsL p).getD k (0,0,0)
theorem pt_get (p k : Nat) (h : k < np p) : (ptsL p)[k]? = some (pt p k) := by
  rw [← pts_length] at h
  simp [pt, h]

def isP (p : Int) : Bool := p == 2 || p == 3 || p == 5 || p == 7
theorem isP_cases {p : Int} (h : isP p = true) : p = (2:Nat) ∨ p = (3:Nat) ∨ p = (5:Nat) ∨ p = (7:Nat) := by
  simp [isP] at h; omega
def isPn (p : Nat) : Prop := p = 2 ∨ p = 3 ∨ p = 5 ∨ p = 7
theorem isPn.le {p : Nat} (h : isPn p) : 2 ≤ p ∧ p ≤ 7 := by unfold isPn at h; omega

/-- A slice of triples that reads as xs. -/
def Tris (w : World) (v : Value) (xs : List T3) : Prop :=
  ∃ c cap, v = .slice (some ⟨c, 0, none⟩) xs.length cap ∧ xs.length ≤ cap ∧ cap ≤ maxLen ∧ xs.length ≤ 1000 ∧ c < w.heap.size ∧
    ∀ k t, xs[k]? = some t → w.cell? ⟨c, k*3, none⟩ = some (.int .i64 t.1) ∧ w.cell? ⟨c, k*3+1, none⟩ = some (.int .i64 t.2.1) ∧ w.cell? ⟨c, k*3+2, none⟩ = some (.int .i64 t.2.2)

theorem Tris.below {w w' : World} {B : Nat} {v : Value} {xs : List T3} (h : Tris w v xs) (hb : Below B w w') (hB : w.heap.size ≤ B) : Tris w' v xs := by
  obtain ⟨c, cap, hv, h1, h2, h3, h4, h5⟩ := h
  refine ⟨c, cap, hv, h1, h2, h3, Nat.lt_of_lt_of_le h4 hb.size, fun k t ht => ?_⟩
  have := h5 k t ht
  rw [hb.cell (by show c < B; omega), hb.cell (by show c < B; omega), hb.cell (by show c < B; omega)]
  exact this

theorem Tris.of_owns {w : World} {B : Nat} {e : TypeId} {v : Value} {n : Nat} {xs : List T3} (h : w.ownsRow B e 3 v n (flat xs)) (hn : n = xs.length) (hx : xs ≠ []) (hl : xs.length ≤ 1000) : Tris w v xs := by
  subst hn
  obtain ⟨h1, h2⟩ := h
  rcases h2 with ⟨rfl, h0⟩ | ⟨g, cap, cur, rfl, _, hh, hc, hm, hs, hcur⟩
  · exact absurd (List.eq_nil_of_length_eq_zero h0) hx
  · refine ⟨g, cap, rfl, hc, hm, hl, lt_of_block hh, fun k t ht => ?_⟩
    have hk := (List.getElem?_eq_some_iff.1 ht).1
    have := flat_get xs k t ht
    rw [← hcur] at this
    rw [List.getElem?_take_of_lt (by omega), List.getElem?_take_of_lt (by omega), List.getElem?_take_of_lt (by omega)] at this
    simp only [World.cell?, hh]
    simpa using this

/-- The plane over p in block b. -/
def PlaneAt (w : World) (b p : Nat) : Prop :=
  ∃ v, w.cell? ⟨b, 0, none⟩ = some (.int .i64 p) ∧ w.cell? ⟨b, 1, none⟩ = some v ∧ Tris w v (ptsL p) ∧ b < w.heap.size

theorem PlaneAt.below {w w' : World} {B b p : Nat} (h : PlaneAt w b p) (hb : Below B w w') (hB : w.heap.size ≤ B) : PlaneAt w' b p := by
  obtain ⟨v, h1, h2, h3, h4⟩ := h
  exact ⟨v, by rw [hb.cell (by show b < B; omega)]; exact h1, by rw [hb.cell (by show b < B; omega)]; exact h2, h3.below hb hB, Nat.lt_of_lt_of_le h4 hb.size⟩

/-- The plane, opened. -/
theorem PlaneAt.open {w : World} {b p : Nat} (h : PlaneAt w b p) :
    ∃ c cap, w.cell? ⟨b, 0, none⟩ = some (.int .i64 p) ∧ w.cell? ⟨b, 1, none⟩ = some (.slice (some ⟨c, 0, none⟩) (np p) cap) ∧ np p ≤ cap ∧ b < w.heap.size ∧ c < w.heap.size ∧
      ∀ k, k < np p → w.cell? ⟨c, k*3, none⟩ = some (.int .i64 (pt p k).1) ∧ w.cell? ⟨c, k*3+1, none⟩ = some (.int .i64 (pt p k).2.1) ∧ w.cell? ⟨c, k*3+2, none⟩ = some (.int .i64 (pt p k).2.2) := by
  obtain ⟨v, h1, h2, ⟨c, cap, rfl, a1, a2, a3, a4, a5⟩, h4⟩ := h
  rw [pts_length] at *
  exact ⟨c, cap, h1, h2, a1, h4, a4, fun k hk => a5 k _ (pt_get p k hk)⟩

theorem pt_bd (p k : Nat) (hp : isPn p) (hk : k < np p) : (0 ≤ (pt p k).1 ∧ (pt p k).1 ≤ 1) ∧ (0 ≤ (pt p k).2.1 ∧ (pt p k).2.1 < p) ∧ (0 ≤ (pt p k).2.2 ∧ (pt p k).2.2 < p) := by
  have : ∀ q ∈ [2,3,5,7], ∀ k < np q, (0 ≤ (pt q k).1 ∧ (pt q k).1 ≤ 1) ∧ (0 ≤ (pt q k).2.1 ∧ (pt q k).2.1 < (q:Int)) ∧ (0 ≤ (pt q k).2.2 ∧ (pt q k).2.2 < (q:Int)) := by decide +kernel
  exact this p (by unfold isPn at hp; simp; omega) k hk

theorem newThree (w : World) (x y z : Value) (t : TypeId) : ∀ (j : Nat) (u : Value), [x,y,z][j]? = some u → (w.alloc (.cells #[x,y,z] t)).cell? ((⟨w.heap.size, 0, none⟩ : Addr).add j) = some u := by
  intro j u hj
  match j, hj with
  | 0, hj => simp at hj; subst hj; simp [Addr.add]
  | 1, hj => simp at hj; subst hj; simp [Addr.add]
  | 2, hj => simp at hj; subst hj; simp [Addr.add]

theorem one3 (t : T3) : ∀ u ∈ cells3 t, u.oneCell' = true := by
  intro u hu; simp [cells3] at hu; rcases hu with rfl | rfl | rfl <;> rfl

theorem owns_three (w : World) (B : Nat) (t : T3) (e : TypeId) (hB : B ≤ w.heap.size) : (w.alloc (.cells (cells3 t).toArray e)).ownsRow B e 3 (.slice (some ⟨w.heap.size, 0, none⟩) 1 1) [t].length (flat [t]) := by
  refine ⟨by rfl, .inr ⟨w.heap.size, 1, (cells3 t).toArray, rfl, hB, heap_alloc_new w _, Nat.le_refl _, by unfold maxLen; omega, rfl, ?_⟩⟩
  simp [flat, cells3]

/-- a emod-remainder as Go takes it. -/
theorem mod_go (p n : Int) (hp : 2 ≤ p) (hp' : p ≤ 7) : (n.tmod p + p).tmod p = n % p ∧ -7 ≤ n.tmod p ∧ n.tmod p ≤ 7 := by
  have h1 := Int.emod_nonneg n (show p ≠ 0 by omega)
  have h2 := Int.emod_lt_of_pos n (show 0 < p by omega)
  have hb : (p.natAbs : Int) = p := by omega
  rw [Int.tmod_eq_emod (a := n)]
  split
  · refine ⟨?_, by omega, by omega⟩
    rw [Int.tmod_eq_emod_of_nonneg (by omega)]
    simp
  · refine ⟨?_, by omega, by omega⟩
    rw [hb, show n % p - p + p = n % p by omega, Int.tmod_eq_emod_of_nonneg h1]
    simp
end Go.Proofs.Ytllokfkagneneaa
