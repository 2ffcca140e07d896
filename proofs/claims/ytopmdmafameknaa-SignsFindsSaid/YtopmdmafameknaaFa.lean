/- four odd numbers with a sum of squares: the search as a list, and what the kernel checks of it and of good sequences -/
import Derived.Test.YtopmdmafameknaaGe
import Derived.Test.YtopmdmafameknaaBa
namespace Go.Proofs.Ytopmdmafameknaa
open Go.RowKit
/-- Four odd numbers, rising, with a sum of squares: k are still to come, from x on, r is left, p is there. -/
def f4 : Nat → Nat → Nat → Nat → List Nat → List (List Nat)
  | 0, _, _, _, _ => []
  | F + 1, k, x, r, p => match k with
    | 0 => if r = 0 then [p] else []
    | k' + 1 => if x * x ≤ r then f4 F k' x (r - x * x) (p ++ [x]) ++ f4 F (k' + 1) (x + 2) r p else []
def fourL (n : Nat) : List (List Nat) := f4 15 4 1 (4 * n) []
/-- How many steps are enough. -/
def fu (k x : Nat) : Nat := k + (23 - x) / 2
theorem f4_leaf {x r : Nat} (hx : x ≤ 21) (p : List Nat) : f4 (fu 0 x) 0 x r p = if r = 0 then [p] else [] := by
  obtain ⟨F, hF⟩ : ∃ F, fu 0 x = F + 1 := ⟨(23 - x) / 2 - 1, by unfold fu; omega⟩
  rw [hF]; rfl
theorem f4_more {k x r : Nat} (hx : x ≤ 21) (h : x * x ≤ r) (p : List Nat) : f4 (fu (k + 1) x) (k + 1) x r p = f4 (fu k x) k x (r - x * x) (p ++ [x]) ++ f4 (fu (k + 1) (x + 2)) (k + 1) (x + 2) r p := by
  have h1 : fu (k + 1) x = fu k x + 1 := by unfold fu; omega
  have h2 : fu (k + 1) (x + 2) = fu k x := by unfold fu; omega
  rw [h1, h2]
  show (if x * x ≤ r then _ else _) = _
  rw [if_pos h]
theorem f4_end {k x r : Nat} (h : ¬ x * x ≤ r) (p : List Nat) : f4 (fu (k + 1) x) (k + 1) x r p = [] := by
  have h1 : fu (k + 1) x = fu k x + 1 := by unfold fu; omega
  rw [h1]
  show (if x * x ≤ r then _ else _) = _
  rw [if_neg h]
/-- The sequences of m signs. -/
def seqL (m : Nat) : List Nat := (List.range (2 ^ m)).filter fun x => symA m x m
def nrm (m x : Nat) : Nat := ((m : Int) - 2 * (pop m x : Nat)).natAbs
def insN (x : Nat) : List Nat → List Nat
  | [] => [x]
  | y :: l => if x ≤ y then x :: y :: l else y :: insN x l
def srtN (l : List Nat) : List Nat := l.foldr insN []
def fChk (m : Nat) (a b c d : Nat) : Bool := !goodB m a b c d || (nrm m a * nrm m a + nrm m b * nrm m b + nrm m c * nrm m c + nrm m d * nrm m d == 4 * m && (fourL m).contains (srtN [nrm m a, nrm m b, nrm m c, nrm m d]))
theorem four_chk : ([1, 3, 5].all fun m => (seqL m).all fun a => (seqL m).all fun b => (seqL m).all fun c => (seqL m).all fun d => fChk m a b c d) = true := by decide +kernel
theorem bal_chk : ([1, 3].all fun m => (seqL m).all fun a => (seqL m).all fun b => (seqL m).all fun c => (seqL m).all fun d => balB (4 * m) (arrL m a b c d) == goodB m a b c d) = true := by decide +kernel
def rise : List Nat → Bool
  | x :: y :: l => decide (x ≤ y) && rise (y :: l)
  | _ => true
def lexB : List Nat → List Nat → Bool
  | x :: l, y :: r => decide (x < y) || (x == y && lexB l r)
  | _, _ => false
def lexs : List (List Nat) → Bool
  | x :: y :: l => lexB x y && lexs (y :: l)
  | _ => true
theorem found_chk : ((List.range 101).all fun n => n == 0 || ((fourL n).all fun x => x.length == 4 && (x.all fun a => decide (1 ≤ a) && decide (a ≤ 20) && a % 2 == 1) && rise x && (x.foldl (fun s a => s + a * a) 0 == 4 * n)) && lexs (fourL n) && decide ((fourL n).length ≤ 20) && (((fourL n).length != 0) == (n % 2 == 1))) = true := by decide +kernel
theorem mem_seqL {m x : Nat} (h1 : x < 2 ^ m) (h2 : symA m x m = true) : x ∈ seqL m := List.mem_filter.2 ⟨List.mem_range.2 h1, h2⟩
theorem good_sums {m a b c d : Nat} (hm : m = 1 ∨ m = 3 ∨ m = 5) (ha : a ∈ seqL m) (hb : b ∈ seqL m) (hc : c ∈ seqL m) (hd : d ∈ seqL m) (hg : goodB m a b c d = true) :
    nrm m a * nrm m a + nrm m b * nrm m b + nrm m c * nrm m c + nrm m d * nrm m d = 4 * m ∧ srtN [nrm m a, nrm m b, nrm m c, nrm m d] ∈ fourL m := by
  have h := List.all_eq_true.1 (List.all_eq_true.1 (List.all_eq_true.1 (List.all_eq_true.1 (List.all_eq_true.1 four_chk m (by simpa using hm)) a ha) b hb) c hc) d hd
  unfold fChk at h
  rw [hg] at h
  simpa using h
theorem bal_good {m a b c d : Nat} (hm : m = 1 ∨ m = 3) (ha : a ∈ seqL m) (hb : b ∈ seqL m) (hc : c ∈ seqL m) (hd : d ∈ seqL m) : balB (4 * m) (arrL m a b c d) = goodB m a b c d := by
  have h := List.all_eq_true.1 (List.all_eq_true.1 (List.all_eq_true.1 (List.all_eq_true.1 (List.all_eq_true.1 bal_chk m (by simpa using hm)) a ha) b hb) c hc) d hd
  exact beq_iff_eq.1 h
/-- A block known whole. -/
def Blk (t : TypeId) (w : World) (B : Nat) (cs : Array Value) : Prop := w.heap[B]? = some (.cells cs t (0, 0))
theorem Blk.lt {t : TypeId} {w : World} {B : Nat} {cs : Array Value} (h : Blk t w B cs) : B < w.heap.size := lt_of_block h
theorem Blk.cell {t : TypeId} {w : World} {B : Nat} {cs : Array Value} (h : Blk t w B cs) (i : Nat) : w.cell? ⟨B, i, none⟩ = cs[i]? := by
  unfold Blk at h; simp [World.cell?, h]
theorem Blk.fr {t : TypeId} {w : World} {B : Nat} {cs : Array Value} (h : Blk t w B cs) (i : Nat) : w.frozen? ⟨B, i, none⟩ = false := by
  unfold Blk at h; simp [World.frozen?, h]
theorem Blk.below {t : TypeId} {w w' : World} {B : Nat} {cs : Array Value} (h : Blk t w B cs) (hb : Below w.heap.size w w') : Blk t w' B cs := (hb.block B h.lt).trans h
theorem Blk.new (t : TypeId) (w : World) (cs : Array Value) : Blk t (w.alloc (.cells cs t)) w.heap.size cs := heap_alloc_new w _
theorem Blk.alloc {t : TypeId} {w : World} {B : Nat} {cs : Array Value} (h : Blk t w B cs) (o : Obj) : Blk t (w.alloc o) B cs := (Below.heap_alloc w o B h.lt).trans h
theorem Blk.set {t : TypeId} {w : World} {B : Nat} {cs : Array Value} (h : Blk t w B cs) (i : Nat) (u : Value) : Blk t (w.setCell ⟨B, i, none⟩ u) B (cs.setIfInBounds i u) := by
  unfold Blk at *
  simp only [World.setCell, Array.getElem?_modify, h]
  simp
theorem Blk.other {t : TypeId} {w : World} {B C : Nat} {cs : Array Value} (h : Blk t w B cs) (hB : B ≠ C) (i : Nat) (u : Value) : Blk t (w.setCell ⟨C, i, none⟩ u) B cs := (Below.heap_setCell _ _ _ _ hB).trans h
theorem Blk.grown {t : TypeId} {w w' : World} {B : Nat} {cs : Array Value} {row : Option Nat} (h : Blk t w B cs) (hg : w.grownBy w' row) (hne : some B ≠ row) : Blk t w' B cs := (hg.block B h.lt hne).trans h
end Go.Proofs.Ytopmdmafameknaa
