/- lists of numbers: rows of four cells; the list without a reason -/
import Derived.Test.YtdnhfnegnjdeoaaDoorXl
import Derived.Test.YtdnhfnegnjdeoaaDoorXe
namespace Go.Proofs.YtdnhfnegnjdeoaaDoor
open Go.RowKit

abbrev N4 := Int × Int × Int × Int
def z4 : N4 := (0, 0, 0, 0)
def c4 (x : N4) : List Value := [.int .i64 x.1, .int .i64 x.2.1, .int .i64 x.2.2.1, .int .i64 x.2.2.2]
def flat4 (l : List N4) : List Value := l.flatMap c4
theorem flat4_cons (x : N4) (l : List N4) : flat4 (x :: l) = c4 x ++ flat4 l := by simp [flat4]
theorem flat4_length : ∀ l : List N4, (flat4 l).length = l.length * 4
  | [] => rfl
  | x :: l => by rw [flat4_cons, List.length_append, flat4_length l, List.length_cons]; simp [c4]; omega
theorem flat4_snoc (l : List N4) (x : N4) : flat4 (l ++ [x]) = flat4 l ++ c4 x := by simp [flat4]
theorem flat4_get : ∀ (l : List N4) (k : Nat), k < l.length → ∀ i, i < 4 → (flat4 l)[k * 4 + i]? = (c4 (l.getD k z4))[i]?
  | [], _, h, _, _ => by simp at h
  | x :: l, 0, _, i, hi => by
    rw [flat4_cons, Nat.zero_mul, Nat.zero_add, List.getElem?_append_left (by simp [c4]; omega)]
    rfl
  | x :: l, k + 1, h, i, hi => by
    rw [List.length_cons] at h
    have e : (k + 1) * 4 + i = (c4 x).length + (k * 4 + i) := by simp [c4]; omega
    rw [flat4_cons, e, List.getElem?_append_right (Nat.le_add_right _ _), Nat.add_sub_cancel_left, flat4_get l k (by omega) i hi]
    rfl
def Own4 (w : World) (B : Nat) (t : TypeId) (v : Value) (l : List N4) : Prop := w.ownsRow B t 4 v l.length (flat4 l)
/-- v is a slice of numbers that reads as l. -/
def R4 (w : World) (v : Value) (l : List N4) : Prop :=
  ∃ ao cap, v = .slice ao l.length cap ∧ l.length ≤ cap ∧ cap ≤ maxLen ∧ ∀ k, k < l.length → ∃ b, ao = some ⟨b, 0, none⟩ ∧
    w.cell? ⟨b, k * 4, none⟩ = some (.int .i64 (l.getD k z4).1) ∧ w.cell? ⟨b, k * 4 + 1, none⟩ = some (.int .i64 (l.getD k z4).2.1) ∧
    w.cell? ⟨b, k * 4 + 2, none⟩ = some (.int .i64 (l.getD k z4).2.2.1) ∧ w.cell? ⟨b, k * 4 + 3, none⟩ = some (.int .i64 (l.getD k z4).2.2.2)
theorem R4.below {w w' : World} {v : Value} {l : List N4} (h : R4 w v l) (hb : Below w.heap.size w w') : R4 w' v l := by
  obtain ⟨ao, cap, hv, h1, h2, hx⟩ := h
  exact ⟨ao, cap, hv, h1, h2, fun k hk => by
    obtain ⟨b, e, c0, c1, c2, c3⟩ := hx k hk
    exact ⟨b, e, ck c0 hb, ck c1 hb, ck c2 hb, ck c3 hb⟩⟩
theorem Own4.read {w : World} {B : Nat} {t : TypeId} {v : Value} {l : List N4} (h : Own4 w B t v l) : R4 w v l := by
  obtain ⟨_, h2⟩ := h
  rcases h2 with ⟨rfl, h0⟩ | ⟨g, cap, cur, rfl, _, hh, hc, hm, hs, hx⟩
  · have : l = [] := List.eq_nil_of_length_eq_zero h0
    subst this
    exact ⟨none, 0, rfl, Nat.le_refl _, Nat.zero_le _, fun k hk => absurd hk (by simp)⟩
  · refine ⟨_, cap, rfl, hc, hm, fun k hk => ⟨g, rfl, ?_⟩⟩
    have hcell : ∀ i, i < 4 → w.cell? ⟨g, k * 4 + i, none⟩ = (c4 (l.getD k z4))[i]? := fun i hi => by
      rw [← flat4_get l k hk i hi, ← hx, List.getElem?_take_of_lt (by omega)]
      simp only [World.cell?, hh]
      simp
    exact ⟨hcell 0 (by omega), hcell 1 (by omega), hcell 2 (by omega), hcell 3 (by omega)⟩
theorem Own4.below {w w' : World} {B C : Nat} {t : TypeId} {v : Value} {l : List N4} (h : Own4 w B t v l) (hb : Below C w w') (hC : w.heap.size ≤ C) : Own4 w' B t v l := owns_below h hb hC
theorem Own4.step {w : World} {B : Nat} {t : TypeId} {v : Value} {l : List N4} {n : Nat} {x : N4} (h : w.ownsRow B t 4 v n (flat4 l ++ c4 x)) (hn : n = l.length + 1) : Own4 w B t v (l ++ [x]) := by
  unfold Own4
  rw [flat4_snoc, List.length_append]
  subst hn
  exact h
theorem newFour (w : World) (a b c d : Value) (t : TypeId) : ∀ (j : Nat) (u : Value), [a, b, c, d][j]? = some u → (w.alloc (.cells #[a, b, c, d] t)).cell? ((⟨w.heap.size, 0, none⟩ : Addr).add j) = some u := by
  intro j u hj
  have hh : (w.alloc (.cells #[a, b, c, d] t)).heap[w.heap.size]? = some (.cells #[a, b, c, d] t (0, 0)) := heap_alloc_new w _
  rw [Addr.add_lit, Nat.zero_add]
  simp only [World.cell?, hh]
  simpa using hj
theorem oneFour (x : N4) : ∀ u ∈ c4 x, u.oneCell' = true := by
  intro u hu
  simp [c4] at hu
  rcases hu with rfl | rfl | rfl | rfl <;> rfl

/-- The numbers n, k, l and m below some m, without a reason. -/
def mL (n k l : Nat) : Nat → List N4
  | 0 => []
  | m + 1 => mL n k l m ++ (if reaF n k l m = 0 then [((n:Int), (k:Int), (l:Int), (m:Int))] else [])
def lL (n k : Nat) : Nat → List N4
  | 0 => []
  | l + 1 => lL n k l ++ mL n k l (k + 1)
def kL (n : Nat) : Nat → List N4
  | 0 => []
  | k + 1 => kL n k ++ lL n (k + 1) (k + 1)
def LN (n : Nat) : List N4 := kL n (n - 2)
theorem mL_length (n k l : Nat) : ∀ m, (mL n k l m).length ≤ m
  | 0 => Nat.le_refl _
  | m + 1 => by
    rw [mL, List.length_append]
    have := mL_length n k l m
    split <;> simp <;> omega
theorem lL_length (n k : Nat) (hk : k ≤ 30) : ∀ l, (lL n k l).length ≤ l * 31
  | 0 => Nat.le_refl _
  | l + 1 => by
    rw [lL, List.length_append]
    have := lL_length n k hk l
    have := mL_length n k l (k + 1)
    omega
theorem kL_length (n : Nat) : ∀ k, k ≤ 30 → (kL n k).length ≤ k * 930
  | 0, _ => Nat.le_refl _
  | k + 1, h => by
    rw [kL, List.length_append]
    have := kL_length n k (by omega)
    have := lL_length n (k + 1) h (k + 1)
    omega
theorem kL_up (n : Nat) {k : Nat} (h : 1 ≤ k) : kL n k = kL n (k - 1) ++ lL n k k := by
  obtain ⟨j, rfl⟩ : ∃ j, k = j + 1 := ⟨k - 1, by omega⟩
  rfl
theorem mem_mL (n k l : Nat) (x : N4) : ∀ m, x ∈ mL n k l m ↔ ∃ j : Nat, j < m ∧ reaF n k l j = 0 ∧ x = ((n:Int), (k:Int), (l:Int), (j:Int))
  | 0 => by simp [mL]
  | m + 1 => by
    rw [mL, List.mem_append, mem_mL n k l x m]
    constructor
    · rintro (⟨j, h1, h2, h3⟩ | h)
      · exact ⟨j, by omega, h2, h3⟩
      · split at h
        · rename_i hr
          exact ⟨m, by omega, hr, by simpa using h⟩
        · cases h
    · rintro ⟨j, h1, h2, h3⟩
      by_cases e : j = m
      · subst e
        rw [if_pos h2]
        exact .inr (by simp [h3])
      · exact .inl ⟨j, by omega, h2, h3⟩
theorem mem_lL (n k : Nat) (x : N4) : ∀ l, x ∈ lL n k l ↔ ∃ i j : Nat, i < l ∧ j < k + 1 ∧ reaF n k i j = 0 ∧ x = ((n:Int), (k:Int), (i:Int), (j:Int))
  | 0 => by simp [lL]
  | l + 1 => by
    rw [lL, List.mem_append, mem_lL n k x l, mem_mL]
    constructor
    · rintro (⟨i, j, h1, h2⟩ | ⟨j, h1, h2⟩)
      · exact ⟨i, j, by omega, h2⟩
      · exact ⟨l, j, by omega, h1, h2⟩
    · rintro ⟨i, j, h1, h2, h3⟩
      by_cases e : i = l
      · subst e; exact .inr ⟨j, h2, h3⟩
      · exact .inl ⟨i, j, by omega, h2, h3⟩
theorem mem_kL (n : Nat) (x : N4) : ∀ K, x ∈ kL n K ↔ ∃ k i j : Nat, 1 ≤ k ∧ k ≤ K ∧ i < k ∧ j < k + 1 ∧ reaF n k i j = 0 ∧ x = ((n:Int), (k:Int), (i:Int), (j:Int))
  | 0 => by
    simp only [kL, List.not_mem_nil, false_iff]
    rintro ⟨k, _, _, h1, h2, _⟩
    omega
  | K + 1 => by
    rw [kL, List.mem_append, mem_kL n x K, mem_lL]
    constructor
    · rintro (⟨k, i, j, h1, h2, h3⟩ | ⟨i, j, h1, h2⟩)
      · exact ⟨k, i, j, h1, by omega, h3⟩
      · exact ⟨K + 1, i, j, by omega, by omega, h1, h2⟩
    · rintro ⟨k, i, j, h1, h2, h3, h4⟩
      by_cases e : k = K + 1
      · subst e; exact .inr ⟨i, j, h3, h4⟩
      · exact .inl ⟨k, i, j, h1, by omega, h3, h4⟩
theorem askN_mk {n k l m : Nat} (h1 : 4 ≤ n) (h2 : n ≤ 30) (h3 : 1 ≤ k) (h4 : k ≤ n - 2) (h5 : l < k) (h6 : m < k + 1) : AskN n k l m :=
  ⟨by omega, by omega, by omega, by omega, by omega, by omega, by omega, by omega⟩
theorem askB_mk {N K L M : Int} (h : AskN N K L M) : askB N K L M = true := decide_eq_true ⟨h.n4, h.n100, h.k1, h.kn, h.l0, h.lk, h.m0, h.mlk⟩
/-- The numbers of the other graph. -/
def oth4 (x : N4) : N4 := (x.1, x.1 - x.2.1 - 1, x.1 - 2 - 2 * x.2.1 + x.2.2.2, x.1 - 2 * x.2.1 + x.2.2.1)
theorem oth4_mem {n : Nat} (h1 : 4 ≤ n) (h2 : n ≤ 30) {x : N4} (hx : x ∈ LN n) : oth4 x ∈ LN n := by
  unfold LN at *
  obtain ⟨k, i, j, a, b, c, d, e, rfl⟩ := (mem_kL n x _).1 hx
  have ha := askN_mk h1 h2 a b c d
  have ho := other_ok h2 (askB_mk ha) e
  unfold otherOK at ho
  rw [Bool.and_eq_true] at ho
  have hA := ask_of ho.1
  have hr := of_decide_eq_true ho.2
  obtain ⟨k', hk⟩ : ∃ k' : Nat, (k':Int) = (n:Int) - k - 1 := ⟨((n:Int) - k - 1).toNat, by have := hA.k1; omega⟩
  obtain ⟨i', hi⟩ : ∃ i' : Nat, (i':Int) = (n:Int) - 2 - 2 * k + j := ⟨((n:Int) - 2 - 2 * k + j).toNat, by have := hA.l0; omega⟩
  obtain ⟨j', hj⟩ : ∃ j' : Nat, (j':Int) = (n:Int) - 2 * k + i := ⟨((n:Int) - 2 * k + i).toNat, by have := hA.m0; omega⟩
  rw [← hk, ← hi, ← hj] at hA hr
  refine (mem_kL n _ _).2 ⟨k', i', j', by have := hA.k1; omega, by have := hA.kn; omega, by have := hA.lk; omega, by have := hA.mlk; omega, hr, ?_⟩
  unfold oth4
  dsimp only
  rw [hk, hi, hj]
end Go.Proofs.YtdnhfnegnjdeoaaDoor
