/- The plain words and lemmas that the walks of this seat share: slices that read as lists, worlds that extend a world. -/
import Derived.WalkKit
import Derived.WalkSpells
import Derived.WalkLawsBesides
import Derived.BigQuiet
import Derived.Deep.QuietTactic
namespace Go.Proofs.Ytopmdmafameknaa
open Go.RowKit

/-- v is a slice whose elements read as cs in w. -/
def Sl (w : World) (v : Value) (cs : List Value) : Prop :=
  ∃ ao cap, v = .slice ao cs.length cap ∧ cs.length ≤ cap ∧ cs.length ≤ 17592186044416 ∧ cap ≤ maxLen ∧
    (cs = [] ∨ ∃ b o, ao = some ⟨b, o, none⟩ ∧ b < w.heap.size ∧ ∀ k x, cs[k]? = some x → w.cell? ⟨b, o + k, none⟩ = some x)

/-- A number that an int can hold. -/
def I64 (x : Int) : Prop := -9223372036854775808 ≤ x ∧ x < 9223372036854775808

def ints (xs : List Int) : List Value := xs.map (Value.int .i64)

theorem ints_length (xs : List Int) : (ints xs).length = xs.length := by simp [ints]

/-- v is a slice of ints that reads as xs. -/
def Ints (w : World) (v : Value) (xs : List Int) : Prop := Sl w v (ints xs) ∧ ∀ x ∈ xs, I64 x

theorem Sl.below {w w' : World} {B : Nat} {v : Value} {cs : List Value} (h : Sl w v cs) (hb : Below B w w') (hB : w.heap.size ≤ B) : Sl w' v cs := by
  obtain ⟨ao, cap, rfl, h1, h2, hm, h3⟩ := h
  refine ⟨ao, cap, rfl, h1, h2, hm, ?_⟩
  rcases h3 with h3 | ⟨b, o, rfl, hlt, hc⟩
  · exact .inl h3
  · exact .inr ⟨b, o, rfl, Nat.lt_of_lt_of_le hlt hb.size, fun k x hx => by rw [hb.cell (by show b < B; omega)]; exact hc k x hx⟩

theorem Ints.below {w w' : World} {B : Nat} {v : Value} {xs : List Int} (h : Ints w v xs) (hb : Below B w w') (hB : w.heap.size ≤ B) : Ints w' v xs :=
  ⟨h.1.below hb hB, h.2⟩

/-- A slice of ints, opened. -/
theorem Ints.open {w : World} {v : Value} {xs : List Int} (h : Ints w v xs) :
    ∃ ao cap, v = .slice ao xs.length cap ∧ xs.length ≤ cap ∧ xs.length ≤ 17592186044416 ∧
      (∀ k, k < xs.length → ∃ b o, ao = some ⟨b, o, none⟩ ∧ w.cell? ⟨b, o + k, none⟩ = some (.int .i64 (xs.getD k 0))) := by
  obtain ⟨⟨ao, cap, hv, h1, h2, _, h3⟩, _⟩ := h
  rw [ints_length] at hv h1 h2
  refine ⟨ao, cap, hv, h1, h2, fun k hk => ?_⟩
  rcases h3 with h3 | ⟨b, o, rfl, _, hc⟩
  · have : xs.length = 0 := by rw [← ints_length, h3]; rfl
    omega
  · exact ⟨b, o, rfl, hc k _ (by simp [ints, hk])⟩

theorem take_snoc (xs : List Int) (k : Nat) (h : k < xs.length) : xs.take (k+1) = xs.take k ++ [xs.getD k 0] := by
  rw [List.take_succ_eq_append_getElem h]; simp [h]

theorem getD_mem {xs : List Int} {k : Nat} (h : k < xs.length) : xs.getD k 0 ∈ xs := by
  simp [h]

def isum (xs : List Int) : Int := xs.sum

theorem isum_snoc (xs : List Int) (x : Int) : isum (xs ++ [x]) = isum xs + x := by simp [isum]

theorem mem_getD {xs : List Int} {x : Int} (h : x ∈ xs) : ∃ k, k < xs.length ∧ xs.getD k 0 = x := by
  obtain ⟨k, hk, rfl⟩ := List.mem_iff_getElem.1 h
  exact ⟨k, hk, by simp [hk]⟩

/-- v is a slice of rows, each of which reads by R. -/
def SlOf {α : Type} (R : World → Value → α → Prop) (w : World) (v : Value) (xs : List α) : Prop :=
  ∃ vs, Sl w v vs ∧ vs.length = xs.length ∧ ∀ (i : Nat) (u : Value) (x : α), vs[i]? = some u → xs[i]? = some x → R w u x

theorem SlOf.below {α : Type} {R : World → Value → α → Prop} {w w' : World} {B : Nat} {v : Value} {xs : List α} (h : SlOf R w v xs) (hb : Below B w w') (hB : w.heap.size ≤ B)
    (hR : ∀ u x, R w u x → R w' u x) : SlOf R w' v xs := by
  obtain ⟨vs, h1, h2, h3⟩ := h
  exact ⟨vs, h1.below hb hB, h2, fun i u x a b => hR _ _ (h3 i u x a b)⟩

/-- v is a slice of slices of ints. -/
abbrev IntRows : World → Value → List (List Int) → Prop := SlOf Ints

theorem IntRows.below {w w' : World} {B : Nat} {v : Value} {xs : List (List Int)} (h : IntRows w v xs) (hb : Below B w w') (hB : w.heap.size ≤ B) : IntRows w' v xs :=
  SlOf.below h hb hB fun _ _ h => h.below hb hB

theorem Sl.open {w : World} {v : Value} {cs : List Value} (h : Sl w v cs) :
    ∃ ao cap, v = .slice ao cs.length cap ∧ cs.length ≤ cap ∧ cs.length ≤ 17592186044416 ∧
      (∀ (k : Nat) (x : Value), cs[k]? = some x → ∃ b o, ao = some ⟨b, o, none⟩ ∧ w.cell? ⟨b, o + k, none⟩ = some x) := by
  obtain ⟨ao, cap, hv, h1, h2, _, h3⟩ := h
  refine ⟨ao, cap, hv, h1, h2, fun k x hk => ?_⟩
  rcases h3 with rfl | ⟨b, o, rfl, _, hc⟩
  · simp at hk
  · exact ⟨b, o, rfl, hc k x hk⟩

theorem SlOf.open {α : Type} {R : World → Value → α → Prop} {w : World} {v : Value} {xs : List α} (h : SlOf R w v xs) :
    ∃ ao cap, v = .slice ao xs.length cap ∧ xs.length ≤ cap ∧ xs.length ≤ 17592186044416 ∧
      (∀ (k : Nat) (x : α), xs[k]? = some x → ∃ b o u, ao = some ⟨b, o, none⟩ ∧ w.cell? ⟨b, o + k, none⟩ = some u ∧ R w u x) := by
  obtain ⟨vs, h1, h2, h3⟩ := h
  obtain ⟨ao, cap, hv, a, b, c⟩ := h1.open
  refine ⟨ao, cap, by rw [hv, h2], by omega, by omega, fun k x hk => ?_⟩
  have hlt : k < vs.length := by
    have := (List.getElem?_eq_some_iff.1 hk).1
    omega
  obtain ⟨bb, o, e, hc⟩ := c k vs[k] (by simp [hlt])
  exact ⟨bb, o, vs[k], e, hc, h3 k _ _ (by simp [hlt]) hk⟩

theorem getD_over {α : Type} {l : List α} {k : Nat} {d : α} (h : l.length ≤ k) : l.getD k d = d := by simp [h]

/-- What a call owns reads as its cells. -/
theorem Sl.of_owns {w : World} {B : Nat} {e : TypeId} {v : Value} {n : Nat} {cs : List Value} (h : w.ownsRow B e 1 v n cs) (hn : n ≤ 17592186044416) : Sl w v cs := by
  obtain ⟨h1, h2⟩ := h
  have h1 : cs.length = n := by omega
  subst h1
  rcases h2 with ⟨rfl, h0⟩ | ⟨g, cap, cur, rfl, _, hh, hc, hm, hs, hx⟩
  · have : cs = [] := List.eq_nil_of_length_eq_zero h0
    subst this
    exact ⟨none, 0, rfl, Nat.le_refl _, Nat.zero_le _, Nat.zero_le _, .inl rfl⟩
  · refine ⟨_, cap, rfl, hc, hn, hm, .inr ⟨g, 0, rfl, lt_of_block hh, fun k x hk => ?_⟩⟩
    have hlt := (List.getElem?_eq_some_iff.1 hk).1
    have : (cur.toList.take (cs.length * 1))[k]? = some x := by rw [hx]; exact hk
    rw [Nat.mul_one, List.getElem?_take_of_lt hlt] at this
    simp only [World.cell?, hh, Nat.zero_add]
    simpa using this

def eqB (xs ys : List Int) : Bool := decide (xs = ys)

theorem eqB_len {xs ys : List Int} (h : xs.length ≠ ys.length) : eqB xs ys = false := decide_eq_false fun e => h (by rw [e])
theorem eqB_at {xs ys : List Int} {k : Nat} (h : xs.getD k 0 ≠ ys.getD k 0) : eqB xs ys = false := decide_eq_false fun e => h (by rw [e])
theorem eqB_all {xs ys : List Int} (hl : xs.length = ys.length) (h : ∀ j, j < xs.length → xs.getD j 0 = ys.getD j 0) : eqB xs ys = true := by
  refine decide_eq_true (List.ext_getElem hl fun j h1 h2 => ?_)
  have := h j h1
  simpa [h1, h2] using this

theorem owns_below {w w' : World} {B C : Nat} {e : TypeId} {size : Nat} {v : Value} {n : Nat} {xs : List Value} (h : w.ownsRow B e size v n xs) (hb : Below C w w') (hC : w.heap.size ≤ C) :
    w'.ownsRow B e size v n xs := by
  obtain ⟨h1, h2⟩ := h
  refine ⟨h1, ?_⟩
  rcases h2 with h2 | ⟨g, cap, cur, hv, hg, hh, r⟩
  · exact .inl h2
  · exact .inr ⟨g, cap, cur, hv, hg, (hb.block g (Nat.lt_of_lt_of_le (lt_of_block hh) hC)).trans hh, r⟩

theorem owns_mono {w : World} {B C : Nat} {e : TypeId} {size : Nat} {v : Value} {n : Nat} {xs : List Value} (h : w.ownsRow B e size v n xs) (hC : C ≤ B) : w.ownsRow C e size v n xs := by
  obtain ⟨h1, h2⟩ := h
  refine ⟨h1, ?_⟩
  rcases h2 with h2 | ⟨g, cap, cur, hv, hg, r⟩
  · exact .inl h2
  · exact .inr ⟨g, cap, cur, hv, Nat.le_trans hC hg, r⟩

/-- Rows of ints in blocks of their own from B on, no two in one. -/
def RowsOwned (w : World) (B : Nat) (vs : List Value) (xss : List (List Int)) : Prop :=
  vs.length = xss.length ∧ (∀ (i : Nat) (u : Value) (xs : List Int), vs[i]? = some u → xss[i]? = some xs → w.ownsRow B 3 1 u xs.length (ints xs)) ∧
    (∀ (i j : Nat) (u u' : Value) (b : Nat), i < j → vs[i]? = some u → vs[j]? = some u' → u.ownBlock = some b → u'.ownBlock ≠ some b)

theorem RowsOwned.nil (w : World) (B : Nat) : RowsOwned w B [] [] := ⟨rfl, fun i u xs h => by simp at h, fun i j u u' b _ h => by simp at h⟩

theorem RowsOwned.below {w w' : World} {B C : Nat} {vs : List Value} {xss : List (List Int)} (h : RowsOwned w B vs xss) (hb : Below C w w') (hC : w.heap.size ≤ C) : RowsOwned w' B vs xss :=
  ⟨h.1, fun i u xs a b => owns_below (h.2.1 i u xs a b) hb hC, h.2.2⟩

theorem RowsOwned.snoc {w : World} {B C : Nat} {vs : List Value} {xss : List (List Int)} {u : Value} {xs : List Int} (h : RowsOwned w B vs xss) (hu : w.ownsRow C 3 1 u xs.length (ints xs))
    (hB : B ≤ C) (hlt : ∀ (i : Nat) (x : Value) (b : Nat), vs[i]? = some x → x.ownBlock = some b → b < C) : RowsOwned w B (vs ++ [u]) (xss ++ [xs]) := by
  obtain ⟨h1, h2, h3⟩ := h
  refine ⟨by simp [h1], ?_, ?_⟩
  · intro i x ys hx hy
    rcases Nat.lt_or_ge i vs.length with hi | hi
    · rw [List.getElem?_append_left hi] at hx
      rw [List.getElem?_append_left (by omega)] at hy
      exact h2 i x ys hx hy
    · have hi' : i = vs.length := by
        have := (List.getElem?_eq_some_iff.1 hx).1
        simp at this; omega
      subst hi'
      rw [List.getElem?_append_right (Nat.le_refl _)] at hx
      rw [List.getElem?_append_right (by omega)] at hy
      simp [h1] at hx hy
      subst hx hy
      exact owns_mono hu hB
  · intro i j x x' b hij hx hx' hb hb'
    rcases Nat.lt_or_ge j vs.length with hj | hj
    · rw [List.getElem?_append_left (by omega)] at hx
      rw [List.getElem?_append_left hj] at hx'
      exact h3 i j x x' b hij hx hx' hb hb'
    · have hj' : j = vs.length := by
        have := (List.getElem?_eq_some_iff.1 hx').1
        simp at this; omega
      subst hj'
      rw [List.getElem?_append_left hij] at hx
      rw [List.getElem?_append_right (Nat.le_refl _)] at hx'
      simp at hx'
      subst hx'
      have := hlt i x b hx hb
      have := (hu.lt b hb').1
      omega

theorem RowsOwned.lt {w : World} {B : Nat} {vs : List Value} {xss : List (List Int)} (h : RowsOwned w B vs xss) {i : Nat} {x : Value} {b : Nat} (hx : vs[i]? = some x) (hb : x.ownBlock = some b) :
    B ≤ b ∧ b < w.heap.size := by
  have hi := (List.getElem?_eq_some_iff.1 hx).1
  have hi' : i < xss.length := by have := h.1; omega
  exact (h.2.1 i x xss[i] hx (by simp [hi'])).lt b hb

theorem RowsOwned.setBelow {w : World} {B : Nat} {vs : List Value} {xss : List (List Int)} (h : RowsOwned w B vs xss) {a : Addr} (ha : a.block < B) (u : Value) : RowsOwned (w.setCell a u) B vs xss :=
  ⟨h.1, fun i x xs p q => ownsRow_setCell_below (h.2.1 i x xs p q) ha u, h.2.2⟩

/-- A slice of rows of ints that a call owns from B on. -/
def OwnRows (w : World) (B : Nat) (v : Value) (xss : List (List Int)) : Prop := ∃ vs, w.ownsRow B 22 1 v xss.length vs ∧ RowsOwned w B vs xss

theorem OwnRows.read {w : World} {B : Nat} {v : Value} {xss : List (List Int)} (h : OwnRows w B v xss) (hn : xss.length ≤ 17592186044416) (hm : ∀ xs ∈ xss, xs.length ≤ 17592186044416 ∧ ∀ x ∈ xs, I64 x) :
    IntRows w v xss := by
  obtain ⟨vs, h1, h2, h3, _⟩ := h
  refine ⟨vs, Sl.of_owns h1 hn, h2, fun i u xs a b => ⟨Sl.of_owns (h3 i u xs a b) (hm xs (List.mem_of_getElem? b)).1, (hm xs (List.mem_of_getElem? b)).2⟩⟩

theorem owns_form {w : World} {B : Nat} {e : TypeId} {size : Nat} {v : Value} {n : Nat} {xs : List Value} (h : w.ownsRow B e size v n xs) : ∃ ao c, v = .slice ao n c := by
  obtain ⟨_, h2⟩ := h
  rcases h2 with ⟨rfl, rfl⟩ | ⟨g, cap, cur, rfl, _⟩
  · exact ⟨none, 0, rfl⟩
  · exact ⟨_, cap, rfl⟩

/-- w' is w but for new blocks and for what S names. -/
structure Mod (S : Nat → Prop) (w w' : World) : Prop where
  os : w'.os = w.os
  tape : w'.tape = w.tape
  output : w'.output = w.output
  size : w.heap.size ≤ w'.heap.size
  block : ∀ k, k < w.heap.size → ¬ S k → w'.heap[k]? = w.heap[k]?

theorem Mod.refl (S : Nat → Prop) (w : World) : Mod S w w := ⟨rfl, rfl, rfl, Nat.le_refl _, fun _ _ _ => rfl⟩
theorem Mod.trans {S T : Nat → Prop} {a b c : World} (h : Mod S a b) (k : Mod T b c) (hT : ∀ x, T x → S x ∨ a.heap.size ≤ x) : Mod S a c :=
  ⟨k.os.trans h.os, k.tape.trans h.tape, k.output.trans h.output, Nat.le_trans h.size k.size,
    fun i hi hn => (k.block i (Nat.lt_of_lt_of_le hi h.size) fun ht => (hT i ht).elim hn fun hle => by omega).trans (h.block i hi hn)⟩
theorem Mod.mono {S T : Nat → Prop} {a b : World} (h : Mod S a b) (hT : ∀ x, S x → T x) : Mod T a b :=
  ⟨h.os, h.tape, h.output, h.size, fun i hi hn => h.block i hi fun hs => hn (hT i hs)⟩
theorem Mod.alloc {S : Nat → Prop} {a w : World} (h : Mod S a w) (o : Obj) : Mod S a (w.alloc o) :=
  ⟨h.os, h.tape, h.output, Nat.le_trans h.size (by simp), fun i hi hn => by rw [Below.heap_alloc _ _ _ (Nat.lt_of_lt_of_le hi h.size)]; exact h.block i hi hn⟩
theorem Mod.drew {S : Nat → Prop} {a w : World} (h : Mod S a w) : Mod S a w.drew := ⟨h.os, h.tape, h.output, h.size, h.block⟩
theorem Mod.setCell {S : Nat → Prop} {a w : World} (h : Mod S a w) {p : Addr} (hp : S p.block ∨ a.heap.size ≤ p.block) (u : Value) : Mod S a (w.setCell p u) :=
  ⟨h.os, h.tape, h.output, by simpa [World.setCell] using h.size, fun i hi hn => by
    rw [Below.heap_setCell _ _ _ _ (fun e => by subst e; rcases hp with hp | hp; exact hn hp; omega)]; exact h.block i hi hn⟩
theorem Mod.below {S : Nat → Prop} {a w : World} (h : Mod S a w) {B : Nat} (hB : B ≤ a.heap.size) (hS : ∀ k, S k → B ≤ k) : Below B a w :=
  ⟨h.os, h.tape, h.output, h.size, fun k hk => h.block k (by omega) fun hs => by have := hS k hs; omega⟩
theorem Mod.of_below {S : Nat → Prop} {a w : World} (h : Below a.heap.size a w) : Mod S a w :=
  ⟨h.os, h.tape, h.output, h.size, fun k hk _ => h.block k hk⟩

theorem ret_bool {a b : Bool} (h : a = b) : Ending.returned (.bool a) = .returned (.bool b) := by rw [h]
theorem ret_int {a b : Int} (h : a = b) : Ending.returned (.int .i64 a) = .returned (.int .i64 b) := by rw [h]
end Go.Proofs.Ytopmdmafameknaa
