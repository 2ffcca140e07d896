/- slices.Delete of ints: the kit's contract, laid at this translation; what it leaves in a slice that a call owns; rows without a column -/
import Derived.Test.YtdnhfnegnjdeoaaDoorSw
import Derived.Ground.Names2Prog
import Derived.Shelf.Slices.Delete
import Derived.Shelf.Slices.Cells
namespace Go.Proofs.YtdnhfnegnjdeoaaDoor
open Go.Shelf
open Go.RowKit
def delRen : Go.Shelf.Ren := ⟨fun | 23 => 81 | n => n, fun | 22 => 22 | 3 => 3 | 4 => 4 | 0 => 0 | n => n, fun | n => n⟩
theorem delLays : Go.Proofs.Lays2.n23 Tryd.prog delRen := {
  mixed := by kernel_rfl
  f23 := Tryd.func81.trans (congrArg some (by kernel_rfl))
  t0 := Tryd.underlying0
  a0 := Tryd.isAgg0
  z0 := Tryd.sizeOf0
  v0 := Tryd.zeroValue0
  t3 := Tryd.underlying3
  a3 := Tryd.isAgg3
  z3 := Tryd.sizeOf3
  v3 := Tryd.zeroValue3
  t4 := Tryd.underlying4
  a4 := Tryd.isAgg4
  z4 := Tryd.sizeOf4
  v4 := Tryd.zeroValue4
  t22 := Tryd.underlying22
  a22 := Tryd.isAgg22
  z22 := Tryd.sizeOf22
  v22 := Tryd.zeroValue22
  i3 := by kernel_rfl }
open Go.RowKit Go.Lib Go.Sort in
/-- slices.Delete at []int, of an argument, for i ≤ j ≤ n: the slice cut to n - (j - i) elements; the n cells hold what stood ahead of i, what stood from j on, then zeros. (LAID: no walk: one application.) -/
theorem delete_cells (b off n c i j : Nat) (zs : List Int) (w : World) (hz : n ≤ zs.length) (hcap : n ≤ c) (hm : c ≤ 9223372036854775807) (hij : i ≤ j) (hj : j ≤ n) (hc : ∀ j, j < zs.length → w.cell? ⟨b, off + j, none⟩ = some (.int .i64 (zs.getD j 0))) (hf : ∀ j, j < n → w.frozen? ⟨b, off + j, none⟩ = false) :
    Calls Tryd.prog 81 #[.slice (some ⟨b, off, none⟩) n c, .int .i64 i, .int .i64 j] w fun e w' => e = .returned (.slice (some ⟨b, off, none⟩) (n - (j - i)) c) ∧ ∃ q, w' = (w.drewN q).setCells b off (((zs.take n).take i ++ (zs.take n).drop j ++ List.replicate (j - i) 0).map (Value.int .i64)) := Any.slices_Delete_int_cells delLays b off n c i j zs w hz hcap hm hij hj hc hf

def setFrom (xs : List Int) (o : Nat) : List Int → List Int
  | [] => xs
  | y :: ys => setFrom (xs.set o y) (o + 1) ys
theorem setFrom_end (ys : List Int) : ∀ (xs : List Int) (o : Nat), o + ys.length = xs.length → setFrom xs o ys = xs.take o ++ ys := by
  induction ys with
  | nil => intro xs o h; simp only [setFrom, List.append_nil]; exact (List.take_of_length_le (by simp at h; omega)).symm
  | cons y ys ih =>
    intro xs o h
    simp only [List.length_cons] at h
    rw [setFrom, ih _ _ (by rw [List.length_set]; omega), List.take_set, List.take_succ_eq_append_getElem (by omega), List.set_append_right _ _ (by rw [List.length_take]; omega), List.length_take,
      Nat.min_eq_left (by omega), Nat.sub_self, List.set_cons_zero, List.append_assoc]
    rfl
theorem owns_sets {B g n c : Nat} (ys : List Int) : ∀ (xs : List Int) (o : Nat) (w : World), w.ownsRow B 3 1 (.slice (some ⟨g, 0, none⟩) n c) n (ints xs) →
    (w.setCells g o (ints ys)).ownsRow B 3 1 (.slice (some ⟨g, 0, none⟩) n c) n (ints (setFrom xs o ys)) := by
  induction ys with
  | nil => intro xs o w h; exact h
  | cons y ys ih => intro xs o w h; exact ih _ _ _ (owns_set h y)
theorem below_sets {B b : Nat} {a : World} (hb : B ≤ b) : ∀ (vs : List Value) (o : Nat) (w : World), Below B a w → Below B a (w.setCells b o vs)
  | [], _, _, h => h
  | v :: vs, o, _, h => below_sets hb vs (o + 1) _ (h.setCell (p := ⟨b, o, none⟩) hb v)
theorem owns_cut {w : World} {B g n c m : Nat} {xs : List Int} (h : w.ownsRow B 3 1 (.slice (some ⟨g, 0, none⟩) n c) n (ints xs)) (hm : m ≤ n) : w.ownsRow B 3 1 (.slice (some ⟨g, 0, none⟩) m c) m (ints (xs.take m)) := by
  obtain ⟨h1, h2⟩ := h
  rcases h2 with ⟨h2, _⟩ | ⟨g', cap, cur, hv, hB, hh, hc, hmx, hs, hx⟩
  · cases h2
  · simp only [Value.slice.injEq, Option.some.injEq, Addr.mk.injEq, and_true, true_and] at hv
    obtain ⟨rfl, rfl⟩ := hv
    have hl : xs.length = n := by rw [ints_length] at h1; omega
    refine ⟨by rw [ints_length, List.length_take]; omega, .inr ⟨g, c, cur, rfl, hB, hh, by omega, hmx, hs, ?_⟩⟩
    have := congrArg (List.take m) hx
    rw [List.take_take, Nat.mul_one, Nat.min_eq_left hm] at this
    rw [Nat.mul_one, this]
    simp [ints, List.map_take]
theorem owns_cap {w : World} {B g n c : Nat} {xs : List Int} (h : w.ownsRow B 3 1 (.slice (some ⟨g, 0, none⟩) n c) n (ints xs)) : n ≤ c ∧ c ≤ 9223372036854775807 ∧ B ≤ g := by
  obtain ⟨h1, h2⟩ := h
  rcases h2 with ⟨h2, _⟩ | ⟨g', cap, cur, hv, hB, hh, hc, hmx, hs, hx⟩
  · cases h2
  · simp only [Value.slice.injEq, Option.some.injEq, Addr.mk.injEq, and_true, true_and] at hv
    obtain ⟨rfl, rfl⟩ := hv
    unfold maxLen at hmx
    exact ⟨hc, by omega, hB⟩

theorem delete_any (g c n v B : Nat) (hs : List Nat) (w : World) (hO : w.ownsRow B 3 1 (.slice (some ⟨g, 0, none⟩) n c) n (ints (nats hs))) (hl : hs.length = n) (hv : v < n) :
    Calls Tryd.prog 81 #[.slice (some ⟨g, 0, none⟩) n c, .int .i64 v, .int .i64 ((v:Int) + 1)] w fun e w' => e = .returned (.slice (some ⟨g, 0, none⟩) (n - 1) c) ∧
      w'.ownsRow B 3 1 (.slice (some ⟨g, 0, none⟩) (n - 1) c) (n - 1) (ints (nats (hs.take v ++ hs.drop (v + 1)))) ∧ Below B w w' := by
  obtain ⟨h1, h2, h3⟩ := owns_cap hO
  have hnl : (nats hs).length = n := by rw [nats_length, hl]
  have H := delete_cells g 0 n c v (v + 1) (nats hs) w (by omega) h1 h2 (by omega) (by omega)
    (fun j hj => by rw [Nat.zero_add]; exact (owns_cell hO hj).1) (fun j hj => by rw [Nat.zero_add]; exact (owns_cell hO (by omega)).2)
  have e1 : ((v + 1 : Nat) : Int) = (v:Int) + 1 := rfl
  rw [e1] at H
  refine H.mono ?_
  rintro e w' ⟨rfl, q, rfl⟩
  have hva : ((List.take n (nats hs)).take v ++ (List.take n (nats hs)).drop (v + 1) ++ List.replicate (v + 1 - v) 0) = nats (hs.take v ++ hs.drop (v + 1)) ++ [0] := by
    rw [List.take_of_length_le (l := nats hs) (by omega), show v + 1 - v = 1 by omega]
    simp [nats, List.map_take, List.map_drop]
  rw [hva]
  have hlen : (nats (hs.take v ++ hs.drop (v + 1)) ++ [0]).length = n := by
    rw [List.length_append, nats_length, List.length_append, List.length_take, List.length_drop]; simp; omega
  have hO2 := owns_sets (nats (hs.take v ++ hs.drop (v + 1)) ++ [0]) (nats hs) 0 (w.drewN q) hO
  rw [setFrom_end _ _ _ (by omega), List.take_zero, List.nil_append] at hO2
  refine ⟨by rw [show v + 1 - v = 1 by omega], ?_, below_sets h3 _ _ _ (below_drewN (Below.refl _ _) q)⟩
  have := owns_cut hO2 (m := n - 1) (by omega)
  rwa [List.take_left' (by rw [List.length_append] at hlen; simp at hlen; omega)] at this

/-- A row without column j. -/
def woN (j r : Nat) : Nat := (r &&& (2 ^ j - 1)) ||| (r / 2 ^ (j + 1) * 2 ^ j)
def withoutL (bs : List Nat) (i j : Nat) : List Nat := (bs.take i ++ bs.drop (i + 1)).map (woN j)
theorem withoutL_length {bs : List Nat} {i : Nat} (j : Nat) (h : i < bs.length) : (withoutL bs i j).length = bs.length - 1 := by
  simp [withoutL]; omega
/-- The rows, the first k of them without column j. -/
def woPart (rs : List Nat) (j k : Nat) : List Nat := (rs.take k).map (woN j) ++ rs.drop k
theorem woPart_length (rs : List Nat) (j k : Nat) : (woPart rs j k).length = rs.length := by
  simp only [woPart, List.length_append, List.length_map, List.length_take, List.length_drop]; omega
theorem woPart_zero (rs : List Nat) (j : Nat) : woPart rs j 0 = rs := by simp [woPart]
theorem woPart_end (rs : List Nat) (j : Nat) : woPart rs j rs.length = rs.map (woN j) := by simp [woPart]
theorem woPart_get (rs : List Nat) (j k : Nat) (h : k < rs.length) : (woPart rs j k).getD k 0 = rs.getD k 0 := by
  have hl : ((rs.take k).map (woN j)).length = k := by simp; omega
  simp only [woPart, List.getD_eq_getElem?_getD]
  rw [List.getElem?_append_right (by omega), hl, Nat.sub_self, List.getElem?_drop]
  simp
theorem woPart_set (rs : List Nat) (j k : Nat) (h : k < rs.length) : (woPart rs j k).set k (woN j (rs.getD k 0)) = woPart rs j (k + 1) := by
  have hl : ((rs.take k).map (woN j)).length = k := by simp; omega
  unfold woPart
  rw [List.set_append_right _ _ (by omega), hl, Nat.sub_self, List.drop_eq_getElem_cons h, List.set_cons_zero, List.take_succ_eq_append_getElem h, List.map_append, List.append_assoc]
  simp [h]
def rwF (bs : List Nat) (i j : Nat) : Nat → List Nat
  | 0 => []
  | k + 1 => if k = i then rwF bs i j k else rwF bs i j k ++ [woN j (bs.getD k 0)]
theorem rwF_lo (bs : List Nat) (i j : Nat) : ∀ k, k ≤ i → i < bs.length → rwF bs i j k = (bs.take k).map (woN j)
  | 0, _, _ => by simp [rwF]
  | k + 1, h, hi => by
    rw [rwF, if_neg (by omega), rwF_lo bs i j k (by omega) hi, List.take_succ_eq_append_getElem (by omega), List.map_append]
    simp [show k < bs.length by omega]
theorem rwF_hi (bs : List Nat) (i j : Nat) (hi : i < bs.length) : ∀ d, i + 1 + d ≤ bs.length → rwF bs i j (i + 1 + d) = (bs.take i ++ (bs.drop (i + 1)).take d).map (woN j)
  | 0, _ => by rw [Nat.add_zero, rwF, if_pos rfl, rwF_lo bs i j i (Nat.le_refl _) hi]; simp
  | d + 1, h => by
    rw [show i + 1 + (d + 1) = (i + 1 + d) + 1 by omega, rwF, if_neg (by omega), rwF_hi bs i j hi d (by omega), List.take_succ_eq_append_getElem (by simp; omega), ← List.append_assoc, List.map_append (l₂ := [_])]
    simp [show i + 1 + d < bs.length by omega]
theorem rwF_end (bs : List Nat) (i j : Nat) (hi : i < bs.length) : rwF bs i j bs.length = withoutL bs i j := by
  have := rwF_hi bs i j hi (bs.length - (i + 1)) (by omega)
  rw [show i + 1 + (bs.length - (i + 1)) = bs.length by omega] at this
  rw [this, withoutL, List.take_of_length_le (l := bs.drop (i + 1)) (by simp)]
theorem rwF_length (bs : List Nat) (i j k : Nat) : (rwF bs i j k).length ≤ k := by
  induction k with
  | zero => simp [rwF]
  | succ k ih => rw [rwF]; split <;> (try simp only [List.length_append, List.length_cons, List.length_nil]) <;> omega
theorem rwF_yes {bs : List Nat} {i j k : Nat} (h : k = i) : rwF bs i j (k + 1) = rwF bs i j k := by rw [rwF, if_pos h]
theorem rwF_no {bs : List Nat} {i j k : Nat} (h : k ≠ i) : nats (rwF bs i j (k + 1)) = nats (rwF bs i j k) ++ [((woN j (bs.getD k 0) : Nat) : Int)] := by rw [rwF, if_neg h]; simp [nats]


theorem wo_val (j r : Nat) (hj : j ≤ 16) (hr : r < 65536) : bits .or .i64 (bits .and .i64 (r:Int) ((2:Int) ^ j - 1)) (IntKind.i64.wrap ((r:Int) / 2 ^ (j + 1) * 2 ^ j)) = ((woN j r : Nat) : Int) := by
  have hp := pw_nat j hj
  have e1 : (2:Int) ^ j - 1 = ((2 ^ j - 1 : Nat) : Int) := by rw [← pw_cast]; omega
  have e2 : (r:Int) / 2 ^ (j + 1) * 2 ^ j = ((r / 2 ^ (j + 1) * 2 ^ j : Nat) : Int) := by rw [← pw_cast, ← pw_cast]; simp
  have h2 : r / 2 ^ (j + 1) * 2 ^ j ≤ 65536 * 65536 := Nat.mul_le_mul (Nat.le_trans (Nat.div_le_self _ _) (by omega)) hp.2
  have h3 : r &&& (2 ^ j - 1) ≤ r := Nat.and_le_left
  rw [e1, e2, i64_and _ _ (by omega) (by omega), i64_of (by omega) (by omega), i64_or _ _ (by omega) (by omega)]
  rfl
theorem woN_lt (n j r : Nat) (hj : j < n) (hr : r < 2 ^ n) : woN j r < 2 ^ (n - 1) := by
  obtain ⟨m, rfl⟩ : ∃ m, n = m + 1 := ⟨n - 1, by omega⟩
  have hjm : j ≤ m := by omega
  obtain ⟨d, rfl⟩ : ∃ d, m = j + d := ⟨m - j, by omega⟩
  show woN j r < 2 ^ (j + d)
  have hp : 0 < 2 ^ j := Nat.two_pow_pos j
  refine Nat.or_lt_two_pow ?_ ?_
  · have h1 : 2 ^ j ≤ 2 ^ (j + d) := Nat.pow_le_pow_right (by decide) (by omega)
    have h2 : r &&& (2 ^ j - 1) ≤ 2 ^ j - 1 := Nat.and_le_right
    omega
  · have hq : r / 2 ^ (j + 1) < 2 ^ d := by
      refine Nat.div_lt_of_lt_mul ?_
      rw [← Nat.pow_add]
      rwa [show j + 1 + d = j + d + 1 by omega]
    have := Nat.mul_lt_mul_of_pos_right hq hp
    rwa [← Nat.pow_add, Nat.add_comm d j] at this

/-- A graph without a node, after it was made alone. -/
def aloneL (n : Nat) (bs : List Nat) (v : Nat) : List Nat := withoutL (swL n bs (bs.getD v 0)) v v
theorem alone_gr_lt {n : Nat} {bs : List Nat} (h : Gr n bs) {v : Nat} (hv : v < n) : (aloneL n bs v).length = n - 1 ∧ ∀ x ∈ aloneL n bs v, x < 2 ^ (n - 1) := by
  have hg := swL_gr h (h.get v)
  refine ⟨by unfold aloneL; rw [withoutL_length v (by rw [hg.len]; exact hv), hg.len], fun x hx => ?_⟩
  obtain ⟨r, hr, rfl⟩ := List.mem_map.1 hx
  refine woN_lt n v r hv (hg.lt r ?_)
  rcases List.mem_append.1 hr with hr | hr
  · exact List.mem_of_mem_take hr
  · exact List.mem_of_mem_drop hr
theorem alone_I64 {n : Nat} {bs : List Nat} (h : Gr n bs) {v : Nat} (hv : v < n) : ∀ x ∈ nats (aloneL n bs v), I64 x :=
  nats_I64 fun x hx => Nat.lt_of_lt_of_le ((alone_gr_lt h hv).2 x hx) (pw_nat (n - 1) (by have := h.le; omega)).2
end Go.Proofs.YtdnhfnegnjdeoaaDoor
