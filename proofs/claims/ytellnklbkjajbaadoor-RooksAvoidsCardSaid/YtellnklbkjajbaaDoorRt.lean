/- A range over an iterator that writes cells of its own between two rounds; what a round that leaves has laid stays. -/
import Derived.Test.YtellnklbkjajbaaDoorRl
namespace Go.Proofs.YtellnklbkjajbaaDoor
open Go.RowKit Go.Shelf

variable {n : Nat} {P : Program}

/-- Y is X but for blocks from B on; of blocks from T on that hold cells, none has changed. -/
structure LowT (B T : Nat) (X Y : World) : Prop where
  os : Y.os = X.os
  tape : Y.tape = X.tape
  output : Y.output = X.output
  size : X.heap.size ≤ Y.heap.size
  lo : ∀ k, k < B → k < X.heap.size → Y.heap[k]? = X.heap[k]?
  hi : ∀ k o, T ≤ k → X.heap[k]? = some o → o.isCells = true → Y.heap[k]? = some o
theorem grown_low {B T : Nat} {X Y : World} {row : Option Nat} (hg : X.grownBy Y row) (hr : ∀ k, row = some k → B ≤ k ∧ ∃ o, X.heap[k]? = some o ∧ o.isCells = false) : LowT B T X Y :=
  ⟨hg.os, hg.tape, hg.output, hg.size, fun k h1 h2 => hg.block k h2 fun e => by have := (hr k e.symm).1; omega,
    fun k o _ h2 h3 => (hg.block k (Array.getElem?_eq_some_iff.1 h2).1 fun e => by
      obtain ⟨o', h4, h5⟩ := (hr k e.symm).2
      rw [h2] at h4
      cases h4
      rw [h3] at h5
      cases h5).trans h2⟩
theorem putObj_low {B T l : Nat} (W : World) {o : Obj} (o' : Obj) (hB : B ≤ l) (h : W.heap[l]? = some o) (ho : o.isCells = false) : LowT B T W (W.putObj l o') :=
  grown_low (grownBy_putObj' W l o') fun k e => by cases e; exact ⟨hB, o, h, ho⟩
theorem setCell_low {B T : Nat} (W : World) (p : Addr) (v : Value) (h1 : B ≤ p.block) (h2 : p.block < T) : LowT B T W (W.setCell p v) :=
  ⟨rfl, rfl, rfl, by simp [World.setCell], fun k hk _ => Below.heap_setCell _ _ _ _ (by omega), fun k o hk h3 _ => (Below.heap_setCell _ _ _ _ (by omega)).trans h3⟩
theorem LowT.mono {B B' T : Nat} {X Y : World} (h : LowT B T X Y) (hB : B' ≤ B) : LowT B' T X Y := ⟨h.os, h.tape, h.output, h.size, fun k h1 h2 => h.lo k (by omega) h2, h.hi⟩

/-- The iterator gf, with what it has caught, yields elements of α; Pre says what holds in the world when x is yielded; a round that goes on turns block A alone. -/
def IterT {α : Type} (n : Nat) (P : Program) (gf : Nat) (lb : Array Value) (encs : α → Array Value) (Pre : α → World → Prop) (A : Nat) (S Sp : List α → Prop) (w : World) : Prop :=
  ∀ (l : Nat) (J : List α → World → Prop) (Jx : Nat → List α → World → Prop) (W : World), Below w.heap.size w W → (∀ s X Y, J s X → Below W.heap.size X Y → J s Y) → (∀ T s X Y, Jx T s X → LowT W.heap.size T X Y → Jx T s Y) →
    (∀ pre x W1, J pre W1 → Pre x W1 → YieldAt Fence.wide (n - 1) P l (encs x) W1 fun e W' =>
      (e = .returned (.bool true) ∧ J (pre ++ [x]) W' ∧ Mod (· = A) W1 W') ∨ (e = .returned (.bool false) ∧ Jx W1.heap.size (pre ++ [x]) W' ∧ Hi W.heap.size W1 W')) →
    J [] W →
    CallsIn Fence.wide n P gf (#[.func (.yield l) #[] #[]] ++ lb) W fun e W' => (∃ v, e = .returned v) ∧ ((∃ xs, S xs ∧ J xs W') ∨ (∃ T pre, Sp pre ∧ Jx T pre W'))

/-- How a round's body may be left. -/
def roundPT {α : Type} (A B : Nat) (I : List α → World → Prop) (Ix : Nat → List α → World → Prop) (xs : List α) (W : World) : Exit → Act → World → Prop
  | .normal, _, W' => Mod (· = A) W W' ∧ I xs W'
  | .ret, _, W' => Hi B W W' ∧ Ix W.heap.size xs W'
  | _, _, _ => False

set_option maxHeartbeats 1000000 in
theorem range_mineT {α : Type} {g : Operand} {ps : Array Tmp} {assign body : Code} {Q : Exit → Act → World → Prop} {a : Act} {w : World} {gf : Nat} {lb : Array Value}
    (hg : a.eval g = .func (.func gf) #[] lb) (eg : ∀ args w, (callFunc gf args).run P w = .ok (.enter gf args) w)
    {encs : α → Array Value} {Pre : α → World → Prop} {A : Nat} {S Sp : List α → Prop} (hseq : IterT (n - 1) P gf lb encs Pre A S Sp w) (hps : ∀ x, (encs x).size = ps.size) (hA : A < w.heap.size)
    (hPre : ∀ (x : α) (X : World) (l : Nat) (o o' : Obj), X.heap[l]? = some o → o.isCells = false → Pre x X → Pre x (X.putObj l o'))
    (I : List α → World → Prop) (Ix : Nat → List α → World → Prop) (hI : ∀ s X Y, I s X → Below w.heap.size X Y → I s Y) (hIx : ∀ T s X Y, Ix T s X → LowT w.heap.size T X Y → Ix T s Y) (h0 : I [] w) (a₁ : α → Act)
    (hassign : ∀ (l : Nat) (x : α) (W : World) (K : Act → World → Prop), K (a₁ x) W →
      assign.wpIn (Fence.wide.inRound l) (n - 1 - 1) P (Exit.then K (fun _ _ _ => False)) { tmps := (ps.zip (encs x)).foldl (fun t (p, v) => t.setIfInBounds p v) a.tmps, defers := [] } W)
    (hbody : ∀ (l : Nat) (pre : List α) (x : α) (W : World), I pre W → Pre x W → body.wpIn (Fence.wide.inRound l) (n - 1 - 1) P (roundPT A w.heap.size I Ix (pre ++ [x]) W) (a₁ x) W)
    (hdone : ∀ (D : Nat) (xs : List α) (W : World), w.heap.size ≤ D → S xs → I xs W → W.heap[D]? = some (.deferred (some [])) → Q .normal { a with defers := { target := .collected D, args := #[] } :: a.defers } W)
    (hstop : ∀ (D T : Nat) (pre : List α) (W : World), w.heap.size ≤ D → Sp pre → Ix T pre W → W.heap[D]? = some (.deferred (some [])) → Code.ret.wpIn Fence.wide n P Q { a with defers := { target := .collected D, args := #[] } :: a.defers } W) :
    (Code.rangeFunc g ps assign body).wpIn Fence.wide n P Q a w := by
  refine wpIn_rangeFunc fun fn hfn => ?_
  let rc (st : LoopState) (pe : Option Code) : Loop := { state := st, pending := pe, fn, tmps := a.tmps, params := ps, assign, body, defers := w.heap.size }
  have hs1 : ((w.alloc (.deferred (some []))).alloc (.loop (rc .ready none))).heap.size = w.heap.size + 1 + 1 := by rw [World.size_alloc, World.size_alloc]
  have hl1 : ((w.alloc (.deferred (some []))).alloc (.loop (rc .ready none))).heap[w.heap.size + 1]? = some (.loop (rc .ready none)) := by
    have := heap_alloc_new (w.alloc (.deferred (some []))) (.loop (rc .ready none)); rwa [World.size_alloc] at this
  have hd1 : ((w.alloc (.deferred (some []))).alloc (.loop (rc .ready none))).heap[w.heap.size]? = some (.deferred (some [])) := by
    rw [Below.heap_alloc _ _ _ (by rw [World.size_alloc]; omega)]; exact heap_alloc_new w _
  have hb1 : Below w.heap.size w ((w.alloc (.deferred (some []))).alloc (.loop (rc .ready none))) := ((Below.refl _ w).alloc (Nat.le_refl _) _).alloc (by rw [World.size_alloc]; omega) _
  refine ⟨w.heap.size + 1, [{ target := .collected w.heap.size, args := #[] }], (w.alloc (.deferred (some []))).alloc (.loop (rc .ready none)), { target := .fn (.func gf) lb, args := #[.func (.yield (w.heap.size + 1)) #[] #[]] }, (w.alloc (.deferred (some []))).alloc (.loop (rc .ready none)), gf,
    #[.func (.yield (w.heap.size + 1)) #[] #[]] ++ lb, (w.alloc (.deferred (some []))).alloc (.loop (rc .ready none)), run_enterLoop_outer fn a.tmps ps assign body, ?_, fun _ _ => trivial, ?_, fun h => (by cases h), ?_⟩
  · simp only [resolve, hg]
    simp [go_sem]
  · simp [invoke, go_sem, eg]
  · generalize hW1 : (w.alloc (.deferred (some []))).alloc (.loop (rc .ready none)) = W1 at *
    have low : ∀ X Y, Below W1.heap.size X Y → Below w.heap.size X Y := fun X Y h => h.mono (by omega)
    refine (hseq (w.heap.size + 1)
      (fun pre W => I pre W ∧ W.heap[w.heap.size + 1]? = some (.loop (rc .ready none)) ∧ W.heap[w.heap.size]? = some (.deferred (some [])))
      (fun T pre W => Ix T pre W ∧ W.heap[w.heap.size + 1]? = some (.loop (rc .done (some .ret))) ∧ W.heap[w.heap.size]? = some (.deferred (some [])))
      W1 hb1
      (fun s X Y hs hb => ⟨hI s X Y hs.1 (low X Y hb), (hb.block _ (by omega)).trans hs.2.1, (hb.block _ (by omega)).trans hs.2.2⟩)
      (fun T s X Y hs hb => ⟨hIx T s X Y hs.1 (hb.mono (by omega)), (hb.lo _ (by omega) (Array.getElem?_eq_some_iff.1 hs.2.1).1).trans hs.2.1, (hb.lo _ (by omega) (Array.getElem?_eq_some_iff.1 hs.2.2).1).trans hs.2.2⟩)
      ?_ ⟨hI _ _ _ h0 hb1, hl1, hd1⟩).mono ?_
    · rintro pre x W ⟨hi, hl, hk⟩ hp
      have hlt : w.heap.size + 1 < W.heap.size := (Array.getElem?_eq_some_iff.1 hl).1
      refine ⟨fn, _, assign, body, run_yield (P := P) (args := encs x) hl (hps x), roundIn_of_wpIn hfn (hassign _ x W _ ⟨_, run_beginRound hl rfl, ?_⟩)⟩
      have hl2 : (W.putObj (w.heap.size + 1) (.loop { rc .ready none with state := .busy })).heap[w.heap.size + 1]? = some (.loop { rc .ready none with state := .busy }) := World.putObj_heap_same hlt
      have hk2 : (W.putObj (w.heap.size + 1) (.loop { rc .ready none with state := .busy })).heap[w.heap.size]? = some (.deferred (some [])) := (World.putObj_heap_other (by omega)).trans hk
      have hbW := putObj_below W _ (.loop { rc .ready none with state := .busy }) (show w.heap.size ≤ w.heap.size + 1 by omega) hl
      refine wpIn_mono (hbody _ pre x _ (hI _ _ _ hi hbW) (hPre x W _ _ _ hl rfl hp)) ?_
      rintro e a3 W3 hq
      cases e with
      | normal =>
        obtain ⟨hm, hi3⟩ := hq
        have hl3 := (hm.block (w.heap.size + 1) (by simpa using hlt) (by omega)).trans hl2
        have hk3 := (hm.block w.heap.size (by simp; omega) (by omega)).trans hk2
        refine ⟨_, _, run_endRound (P := P) none hl3, .inl ⟨rfl, ⟨hI _ _ _ hi3 (putObj_below W3 _ _ (by omega) hl3), World.putObj_heap_same (Array.getElem?_eq_some_iff.1 hl3).1, (World.putObj_heap_other (by omega)).trans hk3⟩, ?_⟩⟩
        refine ⟨hm.os, hm.tape, hm.output, by have := hm.size; simpa using this, fun k hk' hne => ?_⟩
        by_cases e : k = w.heap.size + 1
        · subst e
          rw [World.putObj_heap_same (Array.getElem?_eq_some_iff.1 hl3).1, hl]
          rfl
        · rw [World.putObj_heap_other e, hm.block k (by simpa using hk') hne, World.putObj_heap_other e]
      | ret =>
        obtain ⟨hm, hi3⟩ := hq
        have hl3 := (hm.block (w.heap.size + 1) (by omega) (by simpa using hlt)).trans hl2
        have hk3 := (hm.block w.heap.size (Nat.le_refl _) (by simp; omega)).trans hk2
        refine ⟨_, _, run_endRound (P := P) (some .ret) hl3, .inr ⟨rfl, ⟨hIx _ _ _ _ (by simpa using hi3) (putObj_low W3 _ (by omega) hl3 rfl), World.putObj_heap_same (Array.getElem?_eq_some_iff.1 hl3).1, (World.putObj_heap_other (by omega)).trans hk3⟩, ?_⟩⟩
        exact ⟨by have := hm.size; simpa using this, fun k hk1 hk2 => by
          rw [World.putObj_heap_other (by omega), hm.block k (by omega) (by simpa using hk2), World.putObj_heap_other (by omega)]⟩
      | exit id => exact hq.elim
      | goto t => exact hq.elim
      | panic ch => exact hq.elim
      | outgrown => exact hq.elim
    · rintro e W2 ⟨⟨v, rfl⟩, (⟨xs, hS, hi, hl, hk⟩ | ⟨T, pre, hSp, hi, hl, hk⟩)⟩
      · exact ⟨none, _, run_endLoop (P := P) hl (by simp [rc]), hdone _ xs _ (Nat.le_refl _) hS (hI _ _ _ hi (putObj_below W2 _ _ (by omega) hl)) ((World.putObj_heap_other (by omega)).trans hk)⟩
      · exact ⟨some .ret, _, run_endLoop (P := P) hl (by simp [rc]), hstop _ T pre _ (Nat.le_refl _) hSp (hIx _ _ _ _ hi (putObj_low W2 _ (by omega) hl rfl)) ((World.putObj_heap_other (by omega)).trans hk)⟩
end Go.Proofs.YtellnklbkjajbaaDoor
