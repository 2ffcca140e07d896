/- planes in this seat: dot, mod, cross, newPlane, open -/
import Derived.Test.YtlalfjkenkmojaaL3
import Derived.Lib.Hide
import Derived.Deep.AppendLies
import Derived.Laws.OwnMore
import Derived.Deep.DeepCutAuto
import Derived.Deep.RegionHeld3
namespace Go.Proofs.Ytlalfjkenkmojaa.Ar
open Go.RowKit


abbrev T3 := Int × Int × Int
abbrev tri (x y z : Int) : Value := .agg #[.int .i64 x, .int .i64 y, .int .i64 z]
def triV (t : T3) : Value := tri t.1 t.2.1 t.2.2
def cells3 (t : T3) : List Value := [.int .i64 t.1, .int .i64 t.2.1, .int .i64 t.2.2]
def flat (xs : List T3) : List Value := xs.flatMap cells3
theorem flat_length (xs : List T3) : (flat xs).length = xs.length * 3 := by
  induction xs with
  | nil => rfl
  | cons a t ih => simp [flat, cells3] at *; omega
theorem flat_snoc (xs : List T3) (t : T3) : flat (xs ++ [t]) = flat xs ++ cells3 t := by simp [flat]

theorem flat_get (xs : List T3) (k : Nat) (t : T3) (h : xs[k]? = some t) : (flat xs)[k*3]? = some (.int .i64 t.1) ∧ (flat xs)[k*3+1]? = some (.int .i64 t.2.1) ∧ (flat xs)[k*3+2]? = some (.int .i64 t.2.2) := by
  induction xs generalizing k with
  | nil => simp at h
  | cons a xs ih =>
    cases k with
    | zero => simp at h; subst h; simp [flat, cells3]
    | succ k =>
      have := ih k (by simpa using h)
      have e : flat (a :: xs) = cells3 a ++ flat xs := by simp [flat]
      rw [e]
      have l3 : (cells3 a).length = 3 := rfl
      rw [List.getElem?_append_right (by omega), List.getElem?_append_right (by omega), List.getElem?_append_right (by omega), l3]
      rw [show (k+1)*3 - 3 = k*3 by omega, show (k+1)*3+1 - 3 = k*3+1 by omega, show (k+1)*3+2 - 3 = k*3+2 by omega]
      exact this

def L1 (k : Nat) : List T3 := (0,0,1) :: (List.range k).map fun (z : Nat) => ((0:Int),(1:Int),(z:Int))
def L2 (p y z : Nat) : List T3 := L1 p ++ (List.range y).flatMap (fun (y : Nat) => (List.range p).map fun (z : Nat) => ((1:Int),(y:Int),(z:Int))) ++ (List.range z).map fun (z : Nat) => ((1:Int),(y:Int),(z:Int))
def ptsL (p : Nat) : List T3 := L2 p p 0
theorem L1_succ (k : Nat) : L1 (k+1) = L1 k ++ [((0:Int),(1:Int),(k:Int))] := by simp [L1, List.range_succ]
theorem L2_zero (p : Nat) : L2 p 0 0 = L1 p := by simp [L2]
theorem L2_succ (p y z : Nat) : L2 p y (z+1) = L2 p y z ++ [((1:Int),(y:Int),(z:Int))] := by simp [L2, List.range_succ]
theorem L2_row (p y : Nat) : L2 p (y+1) 0 = L2 p y p := by simp [L2, List.range_succ]
theorem L1_length (k : Nat) : (L1 k).length = 1 + k := by simp [L1]; omega
theorem sum_const (p y : Nat) : ((List.range y).map (fun _ => p)).sum = y * p := by
  induction y with
  | zero => simp
  | succ y ih => simp only [List.range_succ, List.map_append, List.sum_append, ih, Nat.add_mul]; simp
theorem L2_length (p y z : Nat) : (L2 p y z).length = 1 + p + y * p + z := by
  have := sum_const p y
  simp [L2, L1_length] at *; omega
theorem L2_le (p y z : Nat) (hp : p ≤ 7) (hy : y ≤ p) (hz : z ≤ p) : (L2 p y z).length ≤ 100 := by
  rw [L2_length]
  have : y * p ≤ 7 * 7 := Nat.mul_le_mul (by omega) hp
  omega
def np (p : Nat) : Nat := p * p + p + 1
theorem pts_length (p : Nat) : (ptsL p).length = np p := by rw [ptsL, L2_length]; unfold np; omega
theorem np_le (p : Nat) (hp : p ≤ 7) : np p ≤ 57 := by
  have : p * p ≤ 7 * 7 := Nat.mul_le_mul hp hp
  unfold np; omega

/-- The k-th point. -/
def pt (p k : Nat) : T3 := (ptsL p).getD k (0,0,0)
theorem pt_get (p k : Nat) (h : k < np p) : (ptsL p)[k]? = some (pt p k) := by
  rw [← pts_length] at h
  simp [pt, h]

def isP (p : Int) : Bool := p == 2 || p == 3 || p == 5 || p == 7
theorem isP_cases {p : Int} (h : isP p = true) : p = (2:Nat) ∨ p = (3:Nat) ∨ p = (5:Nat) ∨ p = (7:Nat) := by
  simp [isP] at h; omega
def isPn (p : Nat) : Prop := p = 2 ∨ p = 3 ∨ p = 5 ∨ p = 7
theorem isPn.le {p : Nat} (h : isPn p) : 2 ≤ p ∧ p ≤ 7 := by unfold isPn at h; omega

/-- A slice of triples that reads as xs. -/
def Tris (w : World) (v : Value) (xs : List T3) : Prop :=
  ∃ c cap, v = .slice (some ⟨c, 0, none⟩) xs.length cap ∧ xs.length ≤ cap ∧ cap ≤ maxLen ∧ xs.length ≤ 1000 ∧ c < w.heap.size ∧
    ∀ k t, xs[k]? = some t → w.cell? ⟨c, k*3, none⟩ = some (.int .i64 t.1) ∧ w.cell? ⟨c, k*3+1, none⟩ = some (.int .i64 t.2.1) ∧ w.cell? ⟨c, k*3+2, none⟩ = some (.int .i64 t.2.2)

theorem Tris.below {w w' : World} {B : Nat} {v : Value} {xs : List T3} (h : Tris w v xs) (hb : Below B w w') (hB : w.heap.size ≤ B) : Tris w' v xs := by
  obtain ⟨c, cap, hv, h1, h2, h3, h4, h5⟩ := h
  refine ⟨c, cap, hv, h1, h2, h3, Nat.lt_of_lt_of_le h4 hb.size, fun k t ht => ?_⟩
  have := h5 k t ht
  rw [hb.cell (by show c < B; omega), hb.cell (by show c < B; omega), hb.cell (by show c < B; omega)]
  exact this

theorem Tris.of_owns {w : World} {B : Nat} {e : TypeId} {v : Value} {n : Nat} {xs : List T3} (h : w.ownsRow B e 3 v n (flat xs)) (hn : n = xs.length) (hx : xs ≠ []) (hl : xs.length ≤ 1000) : Tris w v xs := by
  subst hn
  obtain ⟨h1, h2⟩ := h
  rcases h2 with ⟨rfl, h0⟩ | ⟨g, cap, cur, rfl, _, hh, hc, hm, hs, hcur⟩
  · exact absurd (List.eq_nil_of_length_eq_zero h0) hx
  · refine ⟨g, cap, rfl, hc, hm, hl, lt_of_block hh, fun k t ht => ?_⟩
    have hk := (List.getElem?_eq_some_iff.1 ht).1
    have := flat_get xs k t ht
    rw [← hcur] at this
    rw [List.getElem?_take_of_lt (by omega), List.getElem?_take_of_lt (by omega), List.getElem?_take_of_lt (by omega)] at this
    simp only [World.cell?, hh]
    simpa using this

/-- The plane over p in block b. -/
def PlaneAt (w : World) (b p : Nat) : Prop :=
  ∃ v, w.cell? ⟨b, 0, none⟩ = some (.int .i64 p) ∧ w.cell? ⟨b, 1, none⟩ = some v ∧ Tris w v (ptsL p) ∧ b < w.heap.size

theorem PlaneAt.below {w w' : World} {B b p : Nat} (h : PlaneAt w b p) (hb : Below B w w') (hB : w.heap.size ≤ B) : PlaneAt w' b p := by
  obtain ⟨v, h1, h2, h3, h4⟩ := h
  exact ⟨v, by rw [hb.cell (by show b < B; omega)]; exact h1, by rw [hb.cell (by show b < B; omega)]; exact h2, h3.below hb hB, Nat.lt_of_lt_of_le h4 hb.size⟩

/-- The plane, opened. -/
theorem PlaneAt.open {w : World} {b p : Nat} (h : PlaneAt w b p) :
    ∃ c cap, w.cell? ⟨b, 0, none⟩ = some (.int .i64 p) ∧ w.cell? ⟨b, 1, none⟩ = some (.slice (some ⟨c, 0, none⟩) (np p) cap) ∧ np p ≤ cap ∧ b < w.heap.size ∧ c < w.heap.size ∧
      ∀ k, k < np p → w.cell? ⟨c, k*3, none⟩ = some (.int .i64 (pt p k).1) ∧ w.cell? ⟨c, k*3+1, none⟩ = some (.int .i64 (pt p k).2.1) ∧ w.cell? ⟨c, k*3+2, none⟩ = some (.int .i64 (pt p k).2.2) := by
  obtain ⟨v, h1, h2, ⟨c, cap, rfl, a1, a2, a3, a4, a5⟩, h4⟩ := h
  rw [pts_length] at *
  exact ⟨c, cap, h1, h2, a1, h4, a4, fun k hk => a5 k _ (pt_get p k hk)⟩

theorem pt_bd (p k : Nat) (hp : isPn p) (hk : k < np p) : (0 ≤ (pt p k).1 ∧ (pt p k).1 ≤ 1) ∧ (0 ≤ (pt p k).2.1 ∧ (pt p k).2.1 < p) ∧ (0 ≤ (pt p k).2.2 ∧ (pt p k).2.2 < p) := by
  have : ∀ q ∈ [2,3,5,7], ∀ k < np q, (0 ≤ (pt q k).1 ∧ (pt q k).1 ≤ 1) ∧ (0 ≤ (pt q k).2.1 ∧ (pt q k).2.1 < (q:Int)) ∧ (0 ≤ (pt q k).2.2 ∧ (pt q k).2.2 < (q:Int)) := by decide +kernel
  exact this p (by unfold isPn at hp; simp; omega) k hk

theorem newThree (w : World) (x y z : Value) (t : TypeId) : ∀ (j : Nat) (u : Value), [x,y,z][j]? = some u → (w.alloc (.cells #[x,y,z] t)).cell? ((⟨w.heap.size, 0, none⟩ : Addr).add j) = some u := by
  intro j u hj
  match j, hj with
  | 0, hj => simp at hj; subst hj; simp [Addr.add]
  | 1, hj => simp at hj; subst hj; simp [Addr.add]
  | 2, hj => simp at hj; subst hj; simp [Addr.add]

theorem one3 (t : T3) : ∀ u ∈ cells3 t, u.oneCell' = true := by
  intro u hu; simp [cells3] at hu; rcases hu with rfl | rfl | rfl <;> rfl

theorem owns_three (w : World) (B : Nat) (t : T3) (e : TypeId) (hB : B ≤ w.heap.size) : (w.alloc (.cells (cells3 t).toArray e)).ownsRow B e 3 (.slice (some ⟨w.heap.size, 0, none⟩) 1 1) [t].length (flat [t]) := by
  refine ⟨by rfl, .inr ⟨w.heap.size, 1, (cells3 t).toArray, rfl, hB, heap_alloc_new w _, Nat.le_refl _, by unfold maxLen; omega, rfl, ?_⟩⟩
  simp [flat, cells3]

/-- a emod-remainder as Go takes it. -/
theorem mod_go (p n : Int) (hp : 2 ≤ p) (hp' : p ≤ 7) : (n.tmod p + p).tmod p = n % p ∧ -7 ≤ n.tmod p ∧ n.tmod p ≤ 7 := by
  have h1 := Int.emod_nonneg n (show p ≠ 0 by omega)
  have h2 := Int.emod_lt_of_pos n (show 0 < p by omega)
  have hb : (p.natAbs : Int) = p := by omega
  rw [Int.tmod_eq_emod (a := n)]
  split
  · refine ⟨?_, by omega, by omega⟩
    rw [Int.tmod_eq_emod_of_nonneg (by omega)]
    simp
  · refine ⟨?_, by omega, by omega⟩
    rw [hb, show n % p - p + p = n % p by omega, Int.tmod_eq_emod_of_nonneg h1]
    simp


theorem prodb {a x : Int} (ha : -200 ≤ a ∧ a ≤ 200) (hx : 0 ≤ x ∧ x ≤ 200) : -40000 ≤ a * x ∧ a * x ≤ 40000 := by
  rcases Int.le_total 0 a with h | h
  · exact ⟨by have := Int.mul_nonneg h hx.1; omega, by have := Int.mul_le_mul ha.2 hx.2 hx.1 (by omega); omega⟩
  · have h1 : 0 ≤ (-a) * x := Int.mul_nonneg (by omega) hx.1
    have h2 : (-a) * x ≤ 200 * 200 := Int.mul_le_mul (by omega) hx.2 hx.1 (by omega)
    rw [Int.neg_mul] at h1 h2
    omega

set_option maxHeartbeats 400000 in
theorem dot_any (a b c x y z : Int) (w : World) (ha : -200 ≤ a ∧ a ≤ 200) (hb : -200 ≤ b ∧ b ≤ 200) (hc : -200 ≤ c ∧ c ≤ 200) (hx : 0 ≤ x ∧ x ≤ 200) (hy : 0 ≤ y ∧ y ≤ 200) (hz : 0 ≤ z ∧ z ≤ 200) :
    Calls Try.prog 124 #[tri a b c, tri x y z] w fun e w' => e = .returned (.int .i64 (a*x+b*y+c*z)) ∧ Below w.heap.size w w' := by
  obtain ⟨h1, h1'⟩ := prodb ha hx
  obtain ⟨h2, h2'⟩ := prodb hb hy
  obtain ⟨h3, h3'⟩ := prodb hc hz
  clear ha hb hc hx hy hz
  go_enter Try.func124, Try.ntmps124
  go_wp2
  go_ret
  exact ⟨rfl, ((Below.refl _ _).alloc (Nat.le_refl _) _).alloc (by simp) _⟩

set_option maxHeartbeats 400000 in
theorem mod_any (b : Nat) (p n : Int) (w : World) (hc : w.cell? ⟨b, 0, none⟩ = some (.int .i64 p)) (hp : 2 ≤ p) (hp' : p ≤ 7) :
    Calls Try.prog 123 #[.pointer (some ⟨b, 0, none⟩), .int .i64 n] w fun e w' => e = .returned (.int .i64 (n % p)) ∧ ∃ m, w' = w.drewN m := by
  obtain ⟨h1, h2, h3⟩ := mod_go p n hp hp'
  have H1 := Lib.hid h1
  clear h1
  have H0 : (p == 0) = false := by simp; omega
  go_enter Try.func123, Try.ntmps123
  go_wp2
  go_quiet (fail)
  go_wp2
  go_ret
  exact ⟨ret_int H1.out, _, rfl⟩

set_option maxHeartbeats 400000 in
theorem cross_any (a b c x y z : Int) (w : World) (ha : 0 ≤ a ∧ a ≤ 200) (hb : 0 ≤ b ∧ b ≤ 200) (hc : 0 ≤ c ∧ c ≤ 200) (hx : 0 ≤ x ∧ x ≤ 200) (hy : 0 ≤ y ∧ y ≤ 200) (hz : 0 ≤ z ∧ z ≤ 200) :
    Calls Try.prog 122 #[tri a b c, tri x y z] w fun e w' => e = .returned (tri (b*z-c*y) (c*x-a*z) (a*y-b*x)) ∧ Below w.heap.size w w' := by
  obtain ⟨h1, h1'⟩ := prodb (a := b) (by omega) hz
  obtain ⟨h2, h2'⟩ := prodb (a := c) (by omega) hy
  obtain ⟨h3, h3'⟩ := prodb (a := c) (by omega) hx
  obtain ⟨h4, h4'⟩ := prodb (a := a) (by omega) hz
  obtain ⟨h5, h5'⟩ := prodb (a := a) (by omega) hy
  obtain ⟨h6, h6'⟩ := prodb (a := b) (by omega) hx
  clear ha hb hc hx hy hz
  go_enter Try.func122, Try.ntmps122
  go_wp2
  refine bodyPost_ret (v := tri (b*z-c*y) (c*x-a*z) (a*y-b*x)) (by simp [results, Try.results122, go_sem]) rfl ⟨rfl, ?_⟩
  exact (((Below.refl _ _).alloc (Nat.le_refl _) _).alloc (by simp) _).alloc (by simp; omega) _


theorem Try.info112 : (Try.prog.info? 112).map (fun i => (i.zero, i.size, i.bytes)) = some (some (tri 0 0 0), 3, 24) := by kernel_rfl

theorem tri_step {w wr w1 : World} {B : Nat} {v v' : Value} {xs : List T3} {t : T3} {o : Obj} (hown : wr.ownsRow B 112 3 v xs.length (flat xs)) (hnx : Below B w wr) (hB : B ≤ wr.heap.size)
    (hown' : w1.ownsRow B 112 3 v' (xs.length + 1) (flat xs ++ cells3 t)) (hg : (wr.alloc o).grownBy w1 v.ownBlock) :
    w1.ownsRow B 112 3 v' (xs ++ [t]).length (flat (xs ++ [t])) ∧ Below B w w1 := by
  refine ⟨by rw [flat_snoc, List.length_append]; exact hown', (hnx.alloc hB _).grown hg (by simp; omega) fun k hk => (hown.lt k hk).1⟩

theorem PlaneAt.new {w : World} {v : Value} {p : Nat} (h : Tris w v (ptsL p)) (t : TypeId) : PlaneAt (w.alloc (.cells #[.int .i64 p, v] t)) w.heap.size p := by
  refine ⟨v, ?_, ?_, h.below ((Below.refl w.heap.size w).alloc (Nat.le_refl _) _) (Nat.le_refl _), by simp⟩
  · simp only [World.cell?, heap_alloc_new]; rfl
  · simp only [World.cell?, heap_alloc_new]; rfl

set_option maxHeartbeats 2000000 in
theorem newPlane_any (p : Nat) (w : World) (hp : isPn p) :
    Calls Try.prog 120 #[.int .i64 p] w fun e w' => ∃ b, e = .returned (.pointer (some ⟨b, 0, none⟩)) ∧ w.heap.size ≤ b ∧ PlaneAt w' b p ∧ Below w.heap.size w w' := by
  obtain ⟨hp2, hp7⟩ := hp.le
  obtain ⟨i0, hi, hz0, hz1, hz2⟩ := info_parts Try.info112
  have HO := Lib.hid (owns_three w w.heap.size (0,0,1) 112 (Nat.le_refl _))
  clear hp
  go_enter Try.func120, Try.ntmps120
  go_wp2
  go_loopw [3, 10] (fun v i wr => ∃ k : Nat, k ≤ p ∧ i = .int .i64 k ∧ wr.ownsRow w.heap.size 112 3 v (L1 k).length (flat (L1 k)) ∧ Below w.heap.size w wr) (fun _ i _ => p - (intOf i).toNat)
  case atStart => exact ⟨0, Nat.zero_le _, rfl, HO.out, (Below.refl _ _).alloc (Nat.le_refl _) _⟩
  case round =>
    obtain ⟨k, hk, rfl, hown, hnx⟩ := hrel
    have HB := Lib.hid hnx
    have HN := Lib.hid hown
    have hle : (L1 k).length ≤ 100 := by rw [L1_length]; omega
    clear hown hnx
    by_cases hlt : k < p
    · have HS := Lib.hid (L1_succ k)
      generalize L1 k = xs at *
      go_wp2_with (at_builtin; refine wpList_append_own _ rfl _ _ 101 rfl w.heap.size 112 i0 (tri 0 0 0) 3 24 Try.underlying101 hi hz0 hz1 hz2 rfl (by decide) _ _ _ rfl (HN.out.alloc _) ⟨wr.heap.size, 0, none⟩ 1 1 (cells3 (0, 1, k)) rfl rfl (newThree _ _ _ _ _) (one3 _) (by unfold maxLen; omega) (by omega) (by have := HB.out.size; simp; omega) ?_)
      intro v' w1 hown' hgrow _
      have HR := Lib.hid (tri_step HN.out HB.out HB.out.size hown' hgrow)
      clear hown' hgrow
      go_wp2
      go_roundw
      case rel => exact ⟨k + 1, by omega, by go_num, by rw [HS.out]; exact HR.out.1, HR.out.2⟩
      case measure => simp [intOf]; omega
    · obtain rfl : k = p := by omega
      rw [← L2_zero] at HN
      clear hle hlt hk HO
      go_wp2
      go_loopw [3, 20] (fun v i wr => ∃ y : Nat, y ≤ k ∧ i = .int .i64 y ∧ wr.ownsRow w.heap.size 112 3 v (L2 k y 0).length (flat (L2 k y 0)) ∧ Below w.heap.size w wr) (fun _ i _ => k - (intOf i).toNat)
      case atStart => exact ⟨0, Nat.zero_le _, rfl, HN.out, HB.out⟩
      case round =>
        obtain ⟨y, hy, rfl, hown2, hnx2⟩ := hrel
        have HB2 := Lib.hid hnx2
        have HN2 := Lib.hid hown2
        clear hown2 hnx2
        by_cases hlt : y < k
        · go_wp2
          go_loopw [3, 24] (fun v i wr => ∃ z : Nat, z ≤ k ∧ i = .int .i64 z ∧ wr.ownsRow w.heap.size 112 3 v (L2 k y z).length (flat (L2 k y z)) ∧ Below w.heap.size w wr) (fun _ i _ => k - (intOf i).toNat)
          case atStart => exact ⟨0, Nat.zero_le _, rfl, HN2.out, HB2.out⟩
          case round =>
            obtain ⟨z, hz, rfl, hown3, hnx3⟩ := hrel
            have HB3 := Lib.hid hnx3
            have HN3 := Lib.hid hown3
            have hle := L2_le k y z hp7 hy hz
            clear hown3 hnx3
            by_cases hlt2 : z < k
            · have HS := Lib.hid (L2_succ k y z)
              generalize L2 k y z = xs at *
              go_wp2_with (at_builtin; refine wpList_append_own _ rfl _ _ 101 rfl w.heap.size 112 i0 (tri 0 0 0) 3 24 Try.underlying101 hi hz0 hz1 hz2 rfl (by decide) _ _ _ rfl (HN3.out.alloc _) ⟨wr.heap.size, 0, none⟩ 1 1 (cells3 (1, y, z)) rfl rfl (newThree _ _ _ _ _) (one3 _) (by unfold maxLen; omega) (by omega) (by have := HB3.out.size; simp; omega) ?_)
              intro v' w1 hown' hgrow _
              have HR := Lib.hid (tri_step HN3.out HB3.out HB3.out.size hown' hgrow)
              clear hown' hgrow
              go_wp2
              go_roundw
              case rel => exact ⟨z + 1, by omega, by go_num, by rw [HS.out]; exact HR.out.1, HR.out.2⟩
              case measure => simp [intOf]; omega
            · obtain rfl : z = k := by omega
              rw [← L2_row] at HN3
              go_wp2
              go_roundw
              case rel => exact ⟨y + 1, by omega, by go_num, HN3.out, HB3.out⟩
              case measure => simp [intOf]; omega
        · obtain rfl : y = k := by omega
          have HT := Lib.hid (Tris.of_owns HN2.out rfl (by simp [L2, L1]) (by have := L2_le y y 0 hp7 (by omega) (by omega); omega))
          obtain ⟨ao, c, rfl⟩ := owns_form HN2.out
          clear HN HB HN2 hy hlt hi hz0 hz1 hz2
          generalize (L2 y y 0).length = n at *
          go_wp2
          go_ret
          exact ⟨wr.heap.size, rfl, HB2.out.size, PlaneAt.new HT.out 103, HB2.out.alloc HB2.out.size _⟩


/-- What open says of numbers: all are those of points. -/
def inB (p : Nat) (xs : List Int) : Bool := xs.all fun x => decide (0 ≤ x) && decide (x < (np p : Nat))

theorem inB_false {p : Nat} {xs : List Int} {k : Nat} (hk : k < xs.length) (h : ¬ (0 ≤ xs.getD k 0 ∧ xs.getD k 0 < (np p : Nat))) : inB p xs = false := by
  unfold inB
  rw [List.all_eq_false]
  exact ⟨_, getD_mem hk, by simpa using h⟩
theorem inB_true {p : Nat} {xs : List Int} (h : ∀ k : Nat, k < xs.length → 0 ≤ xs.getD k 0 ∧ xs.getD k 0 < (np p : Nat)) : inB p xs = true := by
  unfold inB
  rw [List.all_eq_true]
  intro x hx
  obtain ⟨k, hk, rfl⟩ := mem_getD hx
  simpa using h k hk

theorem ckk {W w1 : World} {a : Addr} {v : Value} (h : W.cell? a = some v) (hb : Below W.heap.size W w1) : w1.cell? a = some v := (hb.cell (World.block_lt_of_cell? W _ h)).trans h

def OpenPost (w : World) (p : Nat) (ok : Bool) (e : Ending) (w' : World) : Prop :=
  if ok = true then ∃ b, e = .returned (.tuple #[.pointer (some ⟨b, 0, none⟩), .int .i64 0]) ∧ w.heap.size ≤ b ∧ PlaneAt w' b p ∧ Below w.heap.size w w'
  else e = .returned (.tuple #[.pointer none, .int .i64 2]) ∧ Below w.heap.size w w'

set_option maxHeartbeats 2000000 in
theorem open_bad (p : Int) (v : Value) (w : World) (hp : isP p = false) :
    Calls Try.prog 112 #[.int .i64 p, v] w fun e w' => e = .returned (.tuple #[.pointer none, .int .i64 2]) ∧ w = w' := by
  simp [isP] at hp
  have h2 : (p == 2) = false := by simp; omega
  have h3 : (p == 3) = false := by simp; omega
  have h5 : (p == 5) = false := by simp; omega
  have h7 : (p == 7) = false := by simp; omega
  clear hp
  go_enter Try.func112, Try.ntmps112
  go_wp2
  go_ret2
  exact ⟨rfl, rfl⟩

set_option maxHeartbeats 4000000 in
set_option maxRecDepth 100000 in
theorem open_good (p : Nat) (v : Value) (xs : List Int) (w : World) (hp : isPn p) (h : Ints w v xs) :
    Calls Try.prog 112 #[.int .i64 p, v] w (OpenPost w p (inB p xs)) := by
  obtain ⟨ao, cap, rfl, h1, h2, hx⟩ := h.open
  have HX := Lib.hid hx
  have HN := Lib.hid (newPlane_any p w hp)
  have hnp : np p ≤ 57 := np_le p hp.le.2
  obtain ⟨n, hn⟩ : ∃ n, n = np p := ⟨_, rfl⟩
  have HF0 : Hid (∀ k : Nat, k < xs.length → ¬ (0 ≤ xs.getD k 0 ∧ xs.getD k 0 < (n : Nat)) → inB p xs = false) := by rw [hn]; exact fun k hk h => inB_false hk h
  have HT0 : Hid ((∀ k : Nat, k < xs.length → 0 ≤ xs.getD k 0 ∧ xs.getD k 0 < (n : Nat)) → inB p xs = true) := by rw [hn]; exact fun h => inB_true h
  have HOp : Hid (∀ w b, PlaneAt w b p → ∃ c cap, w.cell? ⟨b, 1, none⟩ = some (.slice (some ⟨c, 0, none⟩) n cap) ∧ n ≤ cap) := by
    rw [hn]; intro w b h; obtain ⟨c, cap, _, h1, h2, _⟩ := h.open; exact ⟨c, cap, h1, h2⟩
  rw [← hn] at hnp
  clear h hx hn
  rcases hp with rfl | rfl | rfl | rfl
  all_goals
    go_enter Try.func112, Try.ntmps112
    go_wp2_with fail
    refine HN.out.mono ?_
    rintro e w1 ⟨b, rfl, hb, hP, hbel⟩
    obtain ⟨c, capc, c1, hcc⟩ := HOp.out w1 b hP
    have HP := Lib.hid hP
    have HB := Lib.hid hbel
    clear hP hbel HN HOp
    go_wp2_with fail
    go_loop [19] (fun i => ∃ k : Nat, k ≤ xs.length ∧ i = .int .i64 k ∧ ∀ j : Nat, j < k → 0 ≤ xs.getD j 0 ∧ xs.getD j 0 < (n : Nat)) (fun i => xs.length - (intOf i).toNat)
    case atStart => exact ⟨0, Nat.zero_le _, rfl, fun j hj => absurd hj (by omega)⟩
    case round =>
      obtain ⟨k, hk, rfl, hall⟩ := hrel
      have HA := Lib.hid hall
      clear hall
      by_cases hlt : k < xs.length
      · obtain ⟨bx, ox, rfl, hck⟩ := HX.out k hlt
        have hck' := ckk hck HB.out
        clear hck
        have HF := Lib.hid (HF0.out k hlt)
        have H := Lib.hid (fun (h : 0 ≤ xs.getD k 0 ∧ xs.getD k 0 < (n : Nat)) (j : Nat) (hj : j < k + 1) => if e : j = k then e ▸ h else HA.out j (by omega))
        generalize xs.getD k 0 = x at *
        by_cases c1 : x < 0
        · go_wp2
          go_ret2
          unfold OpenPost
          rw [HF.out (by omega)]
          exact ⟨rfl, HB.out⟩
        · by_cases c2 : x < n
          · go_wp2
            go_round
            case rel => exact ⟨k + 1, by omega, by go_num, H.out ⟨by omega, c2⟩⟩
            case measure => simp [intOf]; omega
          · go_wp2
            go_ret2
            unfold OpenPost
            rw [HF.out (by omega)]
            exact ⟨rfl, HB.out⟩
      · obtain rfl : k = xs.length := by omega
        have HT := Lib.hid (HT0.out HA.out)
        go_wp2
        go_ret2
        unfold OpenPost
        rw [HT.out]
        exact ⟨b, rfl, hb, HP.out, HB.out⟩


theorem open_any (p : Int) (v : Value) (xs : List Int) (w : World) (h : Ints w v xs) :
    Calls Try.prog 112 #[.int .i64 p, v] w (OpenPost w p.toNat (isP p && inB p.toNat xs)) := by
  cases hp : isP p with
  | false => exact (open_bad p v w hp).mono fun e w' ⟨he, hw⟩ => by subst hw; exact ⟨he, Below.refl _ _⟩
  | true =>
    have hn : isPn p.toNat := by have := isP_cases hp; unfold isPn; omega
    obtain ⟨q, rfl⟩ : ∃ q : Nat, p = q := ⟨p.toNat, by have := isP_cases hp; omega⟩
    exact open_good q v xs w hn h

/-- Whether p is one, and numbers are those of points. -/
def okB (p : Int) (xs : List Int) : Bool := isP p && inB p.toNat xs
theorem okB_of {p : Int} {xs : List Int} (h : okB p xs = true) : ∃ q : Nat, p = q ∧ isPn q ∧ ∀ x ∈ xs, ∃ k : Nat, x = k ∧ k < np q := by
  simp only [okB, Bool.and_eq_true] at h
  obtain ⟨h1, h2⟩ := h
  refine ⟨p.toNat, by have := isP_cases h1; omega, by have := isP_cases h1; unfold isPn; omega, fun x hx => ?_⟩
  have := (List.all_eq_true.1 h2) x hx
  simp at this
  exact ⟨x.toNat, by omega, by omega⟩

end Go.Proofs.Ytlalfjkenkmojaa.Ar
