/- permutations' inner closure: what it reads, and the leaf -/
import Derived.Test.YtellnklbkjajbaaDoorRl
import Derived.Test.YtellnklbkjajbaaDoorRp
namespace Go.Proofs.YtellnklbkjajbaaDoor
open Go.RowKit Go.Shelf
attribute [local go_sem] Oper.semAt_some

/-- The permutations that begin with q: element i of them is in row i, and not in tk. -/
def permsF : List Nat → Nat → List Nat → List (List Nat)
  | [], _, q => [q]
  | r :: rs, tk, q => (elem8 (sub r tk)).flatMap fun j => permsF rs (tk ||| 2 ^ j) (q ++ [j])

/-- What the search reads; it stays whatever is done beside the blocks A and Pb. -/
structure PmAt (rs : List Nat) (l Bp By Br Bc Pb : Nat) (w : World) : Prop where
  tab : Tab w
  p : w.cell? ⟨Bp, 0, none⟩ = some (.slice (some ⟨Pb, 0, none⟩) rs.length rs.length)
  yield : w.cell? ⟨By, 0, none⟩ = some (.func (.yield l) #[] #[])
  rows : ∃ ao cap, w.cell? ⟨Br, 0, none⟩ = some (.slice ao rs.length cap) ∧ rs.length ≤ cap ∧ ∀ k, k < rs.length → ∃ b o, ao = some ⟨b, o, none⟩ ∧ w.cell? ⟨b, o + k, none⟩ = some (.int .i64 (rs.getD k 0 : Nat))
  place : w.cell? ⟨Bc, 0, none⟩ = some (.func (.func 79) #[] #[.pointer (some ⟨Bp, 0, none⟩), .pointer (some ⟨By, 0, none⟩), .pointer (some ⟨Br, 0, none⟩), .pointer (some ⟨Bc, 0, none⟩)])
abbrev Two (A Pb : Nat) : Nat → Prop := fun k => k = A ∨ k = Pb
def PmEnv (rs : List Nat) (A l Bp By Br Bc Pb : Nat) (w : World) : Prop := ∀ w', Mod (Two A Pb) w w' → PmAt rs l Bp By Br Bc Pb w'
theorem PmEnv.mod {rs : List Nat} {A l Bp By Br Bc Pb : Nat} {w w' : World} (h : PmEnv rs A l Bp By Br Bc Pb w) (hm : Mod (Two A Pb) w w') : PmEnv rs A l Bp By Br Bc Pb w' := fun w'' h'' => h w'' (hm.trans h'' fun _ hx => .inl hx)

/-- The block p holds q, and then something. -/
def Holds (w : World) (Pb n : Nat) (q : List Nat) : Prop := ∃ rest, IBlk w Pb (nats (q ++ rest)) ∧ (q ++ rest).length = n
theorem Holds.mod {w w' : World} {Pb n : Nat} {q : List Nat} (h : Holds w Pb n q) (hb : w'.heap[Pb]? = w.heap[Pb]?) : Holds w' Pb n q := by
  obtain ⟨rest, h1, h2⟩ := h
  exact ⟨rest, h1.mod hb, h2⟩
theorem Holds.lt {w : World} {Pb n : Nat} {q : List Nat} (h : Holds w Pb n q) : Pb < w.heap.size := by obtain ⟨_, h1, _⟩ := h; exact h1.lt

/-- What the iterator says of a permutation p in block b when it yields it. -/
def PreP (n A B0 : Nat) (x : Nat × List Nat) (W : World) : Prop := IBlk W x.1 (nats x.2) ∧ x.2.length = n ∧ (∀ j ∈ x.2, j < 8) ∧ x.1 ≠ A ∧ B0 ≤ x.1

theorem boxB_cell {W : World} {B : Nat} {v : Value} {t : TypeId} (h : W.heap[B]? = some (.cells #[v] t (0, 0))) : W.cell? ⟨B, 0, none⟩ = some v ∧ W.frozen? ⟨B, 0, none⟩ = false := by
  constructor <;> simp [World.cell?, World.frozen?, h]

abbrev box2 (w : World) (i tk : Nat) : World := ((w.alloc (.cells #[.int .i64 i] 3)).alloc (.cells #[.int .i64 tk] 3)).alloc (.cells #[.bool false] 4)
theorem box2_mod (S : Nat → Prop) (w : World) (i tk : Nat) : Mod S w (box2 w i tk) := (((Mod.refl S w).alloc _).alloc _).alloc _
theorem box2_below (w : World) (i tk : Nat) : Below w.heap.size w (box2 w i tk) := (((Below.refl _ w).alloc (Nat.le_refl _) _).alloc (by simp) _).alloc (by simp; omega) _
theorem box2_c (w : World) (i tk : Nat) : (box2 w i tk).cell? ⟨w.heap.size, 0, none⟩ = some (.int .i64 i) ∧ (box2 w i tk).cell? ⟨w.heap.size + 1, 0, none⟩ = some (.int .i64 tk) ∧ (box2 w i tk).heap[w.heap.size + 1 + 1]? = some (.cells #[.bool false] 4 (0, 0)) ∧ (box2 w i tk).heap.size = w.heap.size + 1 + 1 + 1 := by
  have h0 := cell_new w (.int .i64 i) 3
  have h1 := cell_new (w.alloc (.cells #[.int .i64 i] 3)) (.int .i64 tk) 3
  have h2 := heap_alloc_new ((w.alloc (.cells #[.int .i64 i] 3)).alloc (.cells #[.int .i64 tk] 3)) (.cells #[.bool false] 4)
  rw [World.size_alloc] at h1
  rw [World.size_alloc, World.size_alloc] at h2
  refine ⟨?_, ?_, h2, ?_⟩
  · exact (World.cell?_of_block (Below.heap_alloc _ _ _ (by simp; omega))).trans ((World.cell?_of_block (Below.heap_alloc _ _ _ (by simp))).trans h0)
  · exact (World.cell?_of_block (Below.heap_alloc _ _ _ (by simp))).trans h1
  · rw [World.size_alloc, World.size_alloc, World.size_alloc]

/-- What a call of the search answers. -/
def PmPost (rs : List Nat) (A Pb B0 : Nat) (J Jx : List (Nat × List Nat) → World → Prop) (pre : List (Nat × List Nat)) (tk : Nat) (q : List Nat) (i : Nat) (W : World) (e : Ending) (W' : World) : Prop :=
  (e = .returned (.bool true) ∧ J (pre ++ (permsF (rs.drop i) tk q).map fun p => (Pb, p)) W' ∧ Mod (Two A Pb) W W' ∧ Holds W' Pb rs.length q) ∨
  (e = .returned (.bool false) ∧ (∃ ys, Jx (pre ++ ys) W') ∧ W.heap.size ≤ W'.heap.size ∧ ∀ k, B0 ≤ k → k < W.heap.size → k ≠ Pb → W'.heap[k]? = W.heap[k]?)

abbrev pmArgs (Bp By Br Bc : Nat) : Array Value := #[.pointer (some ⟨Bp, 0, none⟩), .pointer (some ⟨By, 0, none⟩), .pointer (some ⟨Br, 0, none⟩), .pointer (some ⟨Bc, 0, none⟩)]

set_option maxRecDepth 100000 in
set_option maxHeartbeats 1000000 in
theorem perm_leaf (rs : List Nat) (A l Bp By Br Bc Pb B0 tk : Nat) (J Jx : List (Nat × List Nat) → World → Prop) (pre : List (Nat × List Nat)) (q : List Nat) (W : World)
    (hJ : ∀ s X Y, J s X → Below B0 X Y → J s Y) (hJx : ∀ s X Y, Jx s X → Below B0 X Y → Jx s Y)
    (hY : ∀ pre x W1, J pre W1 → PreP rs.length A B0 x W1 → YieldAt Fence.wide (9 - 1) Tryd.prog l #[.slice (some ⟨x.1, 0, none⟩) rs.length rs.length] W1 fun e W' =>
      (e = .returned (.bool true) ∧ J (pre ++ [x]) W' ∧ Mod (· = A) W1 W') ∨ (e = .returned (.bool false) ∧ Jx (pre ++ [x]) W' ∧ Hi B0 W1 W'))
    (hE : PmEnv rs A l Bp By Br Bc Pb W) (hP : Holds W Pb rs.length q) (h0 : J pre W) (hq : q.length = rs.length) (hq8 : ∀ j ∈ q, j < 8) (hA : A < B0) (hPb : B0 ≤ Pb) (hB0 : B0 ≤ W.heap.size) :
    Calls Tryd.prog 79 #[.int .i64 rs.length, .int .i64 tk, .pointer (some ⟨Bp, 0, none⟩), .pointer (some ⟨By, 0, none⟩), .pointer (some ⟨Br, 0, none⟩), .pointer (some ⟨Bc, 0, none⟩)] W
      (PmPost rs A Pb B0 J Jx pre tk q rs.length W) := by
  obtain ⟨d6, d7, d8, dz⟩ := box2_c W rs.length tk
  have hb2 := box2_below W rs.length tk
  obtain ⟨rest, hI, hr⟩ := hP
  obtain rfl : rest = [] := by
    rw [List.length_append] at hr
    exact List.eq_nil_of_length_eq_zero (by omega)
  rw [List.append_nil] at hI hr
  have hlt := hI.lt
  have hI2 : IBlk (box2 W rs.length tk) Pb (nats q) := hI.mod (hb2.block Pb hlt)
  obtain ⟨fn, tmps, assign, body, hy, hR⟩ := hY pre (Pb, q) (box2 W rs.length tk) (hJ _ _ _ h0 (hb2.mono hB0)) ⟨hI2, hq, hq8, by show Pb ≠ A; omega, hPb⟩
  dsimp only at hy
  obtain ⟨_, hp, hyl, ⟨ao, cap, hrows, _, _⟩, _⟩ := hE _ (box2_mod _ W rs.length tk)
  have HE := Lib.hid hE
  have HI2 := Lib.hid hI2
  have HD8 := Lib.hid d8
  have HDz := Lib.hid dz
  clear hE hY hI hI2 h0
  refine (callsIn_wide (n := 9)).1 ?_
  refine callsIn_of_wp_marks Tryd.func79 rfl trivial ?_ rfl
  simp only [Tryd.ntmps79, List.size_toArray, List.length_cons, List.length_nil, Nat.reduceAdd, Nat.reduceSub, Array.replicate_succ, Array.replicate_zero, List.push_toArray, List.append_toArray, List.nil_append, List.cons_append]
  gi_wp2_with fail
  refine hR.mono ?_
  rintro e W4 (⟨rfl, hJ4, hm4⟩ | ⟨rfl, hJx4, hh4⟩)
  · have h8 : W4.heap[W.heap.size + 1 + 1]? = some (.cells #[.bool false] 4 (0, 0)) := (hm4.block _ (by rw [HDz.out]; omega) (by omega)).trans HD8.out
    obtain ⟨c8, f8⟩ := boxB_cell h8
    gi_wp2_with fail
    have c9 : (W4.setCell ⟨W.heap.size + 1 + 1, 0, none⟩ (.bool true)).cell? ⟨W.heap.size + 1 + 1, 0, none⟩ = some (.bool true) := World.cell?_setCell_same' _ _ _ (by rw [c8]; rfl)
    refine ⟨.bool true, by simp [results, Tryd.f79, go_sem, c9], .inl ⟨rfl, ?_, ?_, ?_⟩⟩
    · rw [List.drop_length]
      exact hJ _ _ _ hJ4 ((Below.refl B0 W4).setCell (p := ⟨W.heap.size + 1 + 1, 0, none⟩) (by show B0 ≤ W.heap.size + 1 + 1; omega) _)
    · exact ((box2_mod (Two A Pb) W _ _).trans hm4 fun x hx => .inl (.inl hx)).setCell (.inr (by show W.heap.size ≤ W.heap.size + 1 + 1; omega)) _
    · refine ⟨[], ?_, by rw [List.append_nil]; exact hq⟩
      rw [List.append_nil]
      exact HI2.out.mod ((Below.heap_setCell _ _ _ _ (by show ¬ _; simp; omega)).trans (hm4.block Pb (by rw [HDz.out]; omega) (by omega)))
  · have h8 : W4.heap[W.heap.size + 1 + 1]? = some (.cells #[.bool false] 4 (0, 0)) := (hh4.block _ (by omega) (by rw [HDz.out]; omega)).trans HD8.out
    obtain ⟨c8, f8⟩ := boxB_cell h8
    gi_wp2_with fail
    have c9 : (W4.setCell ⟨W.heap.size + 1 + 1, 0, none⟩ (.bool false)).cell? ⟨W.heap.size + 1 + 1, 0, none⟩ = some (.bool false) := World.cell?_setCell_same' _ _ _ (by rw [c8]; rfl)
    refine ⟨.bool false, by simp [results, Tryd.f79, go_sem, c9], .inr ⟨rfl, ⟨[(Pb, q)], ?_⟩, ?_, ?_⟩⟩
    · exact hJx _ _ _ hJx4 ((Below.refl B0 W4).setCell (p := ⟨W.heap.size + 1 + 1, 0, none⟩) (by show B0 ≤ W.heap.size + 1 + 1; omega) _)
    · have := hh4.size
      rw [HDz.out] at this
      simp only [World.setCell, Array.size_modify]
      omega
    · intro k hk1 hk2 _
      exact (Below.heap_setCell _ _ _ _ (by show ¬ _; simp; omega)).trans ((hh4.block k hk1 (by rw [HDz.out]; omega)).trans ((box2_mod (Two A Pb) W rs.length tk).block k hk2 (by rintro (h | h) <;> omega)))
end Go.Proofs.YtellnklbkjajbaaDoor
