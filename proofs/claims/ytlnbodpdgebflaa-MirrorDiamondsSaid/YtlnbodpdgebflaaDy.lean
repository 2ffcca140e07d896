/- diamonds: the rows met and times in memory -/
import Derived.Test.YtlnbodpdgebflaaDx
import Derived.Test.YtlnbodpdgebflaaNx
namespace Go.Proofs.Ytlnbodpdgebflaa
open Go.RowKit

/-- The rows met and times: no word lies where the times lie. -/
def Met (W : World) (B g : Nat) (v vt : Value) (p : List Nat × List Nat) : Prop :=
  (∃ vs, W.ownsRow B 24 1 v p.1.length vs ∧ ∀ (j : Nat) (u : Value) (y : Nat), vs[j]? = some u → p.1[j]? = some y → Bg 0 W u (wd g y) ∧ (u.ownBlock = none ∨ u.ownBlock ≠ vt.ownBlock)) ∧ W.ownsRow B 3 1 vt p.2.length (ints (nats p.2))
/-- Words that lie apart from the rows met and times. -/
def Far (W : World) (g : Nat) (v vt vx : Value) (L : List Nat) : Prop :=
  ∃ vs, W.ownsRow 0 24 1 vx L.length vs ∧ (vx.ownBlock = none ∨ vx.ownBlock ≠ v.ownBlock) ∧ ∀ (j : Nat) (u : Value) (y : Nat), vs[j]? = some u → L[j]? = some y → Bg 0 W u (wd g y) ∧ (u.ownBlock = none ∨ u.ownBlock ≠ vt.ownBlock)
theorem Met.below {W W' : World} {B g : Nat} {v vt : Value} {p : List Nat × List Nat} (h : Met W B g v vt p) (hb : Below W.heap.size W W') : Met W' B g v vt p := by
  obtain ⟨⟨vs, h1, h2⟩, h3⟩ := h
  exact ⟨⟨vs, owns_below h1 hb (Nat.le_refl _), fun j u y a b => ⟨owns_below (h2 j u y a b).1 hb (Nat.le_refl _), (h2 j u y a b).2⟩⟩, owns_below h3 hb (Nat.le_refl _)⟩
theorem Far.below {W W' : World} {g : Nat} {v vt vx : Value} {L : List Nat} (h : Far W g v vt vx L) (hb : Below W.heap.size W W') : Far W' g v vt vx L := by
  obtain ⟨vs, h1, h0, h2⟩ := h
  exact ⟨vs, owns_below h1 hb (Nat.le_refl _), h0, fun j u y a b => ⟨owns_below (h2 j u y a b).1 hb (Nat.le_refl _), (h2 j u y a b).2⟩⟩
theorem Met.nil (W : World) (B g : Nat) : Met W B g (.slice none 0 0) (.slice none 0 0) ([], []) :=
  ⟨⟨[], World.ownsRow_nil _ _ _ _, fun j u y a => by simp at a⟩, World.ownsRow_nil _ _ _ _⟩
theorem words_read {W : World} {B g n : Nat} {v : Value} {vs : List Value} {L : List Nat} (hg : g < 17) (hL : ∀ y ∈ L, y < nE g) (hl : L.length ≤ 100000) (h1 : W.ownsRow B 24 1 v n vs) (hn : L.length = n)
    (h2 : ∀ (j : Nat) (u : Value) (y : Nat), vs[j]? = some u → L[j]? = some y → Bg 0 W u (wd g y)) : NatRows W v (L.map (wd g)) :=
  natRows_own h1 (by simpa using hn) (by omega) fun i u l a b => by
    rw [List.getElem?_map] at b
    cases hb : L[i]? with
    | none => rw [hb] at b; cases b
    | some y =>
      rw [hb] at b; cases b
      have hy := hL y (List.mem_of_getElem? hb)
      exact Bg.nats (h2 i u y a hb) (by have := (tx hg hy).2.1; unfold ln at this; omega) (wd_bd hg hy)
theorem Met.read {W : World} {B g : Nat} {v vt : Value} {p : List Nat × List Nat} (h : Met W B g v vt p) (hg : g < 17) (hL : ∀ y ∈ p.1, y < nE g) (hl : p.1.length ≤ 100000) : NatRows W v (p.1.map (wd g)) := by
  obtain ⟨⟨vs, h1, h2⟩, _⟩ := h
  exact words_read hg hL hl h1 rfl fun j u y a b => (h2 j u y a b).1
theorem Far.read {W : World} {g : Nat} {v vt vx : Value} {L : List Nat} (h : Far W g v vt vx L) (hg : g < 17) (hL : ∀ y ∈ L, y < nE g) (hl : L.length ≤ 100000) : NatRows W vx (L.map (wd g)) := by
  obtain ⟨vs, h1, _, h2⟩ := h
  exact words_read hg hL hl h1 rfl fun j u y a b => (h2 j u y a b).1
theorem own_far {W : World} {B B' e e' s s' n n' : Nat} {v v' : Value} {xs xs' : List Value} {w : World} (h : w.ownsRow B e s v n xs) (h' : W.ownsRow B' e' s' v' n' xs') (hB : W.heap.size ≤ B) : v.ownBlock = none ∨ v.ownBlock ≠ v'.ownBlock := by
  cases hv : v.ownBlock with
  | none => exact .inl rfl
  | some k =>
    refine .inr fun e2 => ?_
    have h1 := (h.lt k hv).1
    have h2 := (h'.lt k e2.symm).2
    omega
theorem Far.of {W W' : World} {B g : Nat} {v vt vx : Value} {p : List Nat × List Nat} {L : List Nat} (hm : Met W B g v vt p) (h : RowsO W.heap.size W' vx (L.map (wd g))) : Far W' g v vt vx L := by
  obtain ⟨⟨vs0, m1, _⟩, m3⟩ := hm
  obtain ⟨vs, h1, h2⟩ := h
  rw [List.length_map] at h1
  refine ⟨vs, owns_mono h1 (Nat.zero_le _), own_far h1 m1 (Nat.le_refl _), fun j u y a b => ?_⟩
  have h9 := h2 j u (wd g y) a (by rw [List.getElem?_map, b]; rfl)
  exact ⟨owns_mono h9 (Nat.zero_le _), own_far h9 m3 (Nat.le_refl _)⟩
theorem own_new {W : World} {B e s n k : Nat} {v : Value} {xs : List Value} {b : Option Nat} (h : W.ownsRow B e s v n xs) (hb : v.ownBlock = none ∨ v.ownBlock ≠ b) (hk : W.heap.size ≤ k) {b' : Option Nat} (hl : b' = b ∨ b' = some k) : v.ownBlock = none ∨ v.ownBlock ≠ b' := by
  rcases hl with rfl | rfl
  · exact hb
  · cases hv : v.ownBlock with
    | none => exact .inl rfl
    | some q =>
      refine .inr fun e2 => ?_
      have := (h.lt q hv).2
      simp only [Option.some.injEq] at e2
      omega
section
variable {W w9 w10 : World} {B g : Nat} {v vt v9 vt9 u vx : Value} {p : List Nat × List Nat} {y : Nat} {vs : List Value} {L : List Nat} {o : Obj}
theorem Met.push (h1 : W.ownsRow B 24 1 v p.1.length vs) (h2 : ∀ (j : Nat) (u : Value) (y : Nat), vs[j]? = some u → p.1[j]? = some y → Bg 0 W u (wd g y) ∧ (u.ownBlock = none ∨ u.ownBlock ≠ vt.ownBlock)) (h3 : W.ownsRow B 3 1 vt p.2.length (ints (nats p.2)))
    (hu : Bg 0 W u (wd g y)) (hun : u.ownBlock = none ∨ u.ownBlock ≠ vt.ownBlock) (hg9 : W.grownBy w9 v.ownBlock) (ho9 : w9.ownsRow B 24 1 v9 (p.1.length + 1) (vs ++ [u]))
    (hg10 : (w9.alloc o).grownBy w10 vt.ownBlock) (ho10 : w10.ownsRow B 3 1 vt9 (p.2.length + 1) (ints (nats p.2) ++ [.int .i64 1])) (hloc : vt9.ownBlock = vt.ownBlock ∨ vt9.ownBlock = some (w9.alloc o).heap.size) :
    Met w10 B g v9 vt9 (p.1 ++ [y], p.2 ++ [1]) := by
  have hvl : vs.length = p.1.length := by have := h1.1; omega
  have hsz : W.heap.size ≤ (w9.alloc o).heap.size := by have := hg9.size; simp; omega
  have K : ∀ {q : Value} {l : List Nat}, Bg 0 W q l → (q.ownBlock = none ∨ q.ownBlock ≠ vt.ownBlock) → Bg 0 w10 q l ∧ (q.ownBlock = none ∨ q.ownBlock ≠ vt9.ownBlock) := fun {q l} hh hd =>
    ⟨World.ownsRow.kept ((World.ownsRow.kept hh hg9 (own_own hh h1 (by decide))).alloc o) hg10 hd, own_new hh hd hsz hloc⟩
  have t9 := (World.ownsRow.kept h3 hg9 (own_own h3 h1 (by decide))).alloc o
  refine ⟨⟨vs ++ [u], ?_, fun j q z a b => ?_⟩, ?_⟩
  · rw [List.length_append]
    exact World.ownsRow.kept (ho9.alloc o) hg10 (own_own (ho9.alloc o) t9 (by decide))
  · rcases Nat.lt_or_ge j vs.length with hj | hj
    · rw [List.getElem?_append_left hj] at a
      rw [List.getElem?_append_left (by omega)] at b
      exact K (h2 j q z a b).1 (h2 j q z a b).2
    · rw [List.getElem?_append_right hj] at a
      rw [List.getElem?_append_right (by omega), ← hvl] at b
      generalize j - vs.length = i at a b
      cases i with
      | zero =>
        simp only [List.getElem?_cons_zero, Option.some.injEq] at a b
        subst a b
        exact K hu hun
      | succ i => simp at a
  · rw [List.length_append]
    have e : ints (nats p.2) ++ [.int .i64 1] = ints (nats (p.2 ++ [1])) := by simp [ints, nats]
    rw [e] at ho10
    exact ho10
theorem Far.push (h : Far W g v vt vx L) (h1 : W.ownsRow B 24 1 v p.1.length vs) (h3 : W.ownsRow B 3 1 vt p.2.length (ints (nats p.2))) (hg9 : W.grownBy w9 v.ownBlock) (hloc9 : v9.ownBlock = v.ownBlock ∨ v9.ownBlock = some W.heap.size)
    (hg10 : (w9.alloc o).grownBy w10 vt.ownBlock) (hloc : vt9.ownBlock = vt.ownBlock ∨ vt9.ownBlock = some (w9.alloc o).heap.size) : Far w10 g v9 vt9 vx L := by
  obtain ⟨us, f1, f0, f2⟩ := h
  have hsz : W.heap.size ≤ (w9.alloc o).heap.size := by have := hg9.size; simp; omega
  have t9 := (World.ownsRow.kept h3 hg9 (own_own h3 h1 (by decide))).alloc o
  have f9 := (World.ownsRow.kept f1 hg9 f0).alloc o
  refine ⟨us, World.ownsRow.kept f9 hg10 (own_own f9 t9 (by decide)), own_new f1 f0 (Nat.le_refl _) hloc9, fun j q z a b => ?_⟩
  have hh := (f2 j q z a b).1
  exact ⟨World.ownsRow.kept ((World.ownsRow.kept hh hg9 (own_own hh h1 (by decide))).alloc o) hg10 (f2 j q z a b).2, own_new hh (f2 j q z a b).2 hsz hloc⟩
theorem Met.set {bt n c i k : Nat} (h : Met W B g v (.slice (some ⟨bt, 0, none⟩) n c) p) : Met (W.setCell ⟨bt, i, none⟩ (.int .i64 (k : Nat))) B g v (.slice (some ⟨bt, 0, none⟩) n c) (p.1, p.2.set i k) := by
  obtain ⟨⟨vs, h1, h2⟩, h3⟩ := h
  have gc := grown_cell W ⟨bt, i, none⟩ (.int .i64 (k : Nat))
  have hn : n = p.2.length := by
    obtain ⟨_, r⟩ := h3
    rcases r with ⟨e, _⟩ | ⟨_, _, _, e, _⟩ <;> simp at e
    exact e.2.1
  subst hn
  refine ⟨⟨vs, World.ownsRow.kept h1 gc (own_own h1 h3 (by decide)), fun j u y a b => ⟨World.ownsRow.kept (h2 j u y a b).1 gc (h2 j u y a b).2, (h2 j u y a b).2⟩⟩, ?_⟩
  have h9 := (World.ownsRow.stored h3 i (.int .i64 (k : Nat))).1
  rw [show (ints (nats p.2)).set i (.int .i64 (k : Nat)) = ints (nats (p.2.set i k)) by simp [ints, nats, List.map_set]] at h9
  rw [List.length_set]
  exact h9
theorem Far.set {bt n c i : Nat} {q : Value} (h : Far W g v (.slice (some ⟨bt, 0, none⟩) n c) vx L) (h3 : W.ownsRow B 3 1 (.slice (some ⟨bt, 0, none⟩) n c) p.2.length (ints (nats p.2))) : Far (W.setCell ⟨bt, i, none⟩ q) g v (.slice (some ⟨bt, 0, none⟩) n c) vx L := by
  obtain ⟨us, f1, f0, f2⟩ := h
  have gc := grown_cell W ⟨bt, i, none⟩ q
  exact ⟨us, World.ownsRow.kept f1 gc (own_own f1 h3 (by decide)), f0, fun j u y a b => ⟨World.ownsRow.kept (f2 j u y a b).1 gc (f2 j u y a b).2, (f2 j u y a b).2⟩⟩
end
end Go.Proofs.Ytlnbodpdgebflaa
