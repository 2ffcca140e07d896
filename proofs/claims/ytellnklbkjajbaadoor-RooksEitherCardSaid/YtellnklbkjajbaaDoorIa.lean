/- elements of sets below 8: what has come when the iterator is stopped is the beginning of all; A range over an iterator that writes cells of its own between two rounds; what a round that leaves has laid stays.; permutations: what has come when it is stopped is the beginning of all; the leaf; permutations: what has come when it is stopped is the beginning of all; the step; permutations: what has come when it is stopped is the beginning of all -/
import Derived.Test.YtellnklbkjajbaaDoorE8
import Derived.Test.YtellnklbkjajbaaDoorRl
import Derived.Test.YtellnklbkjajbaaDoorPb
import Derived.Test.YtellnklbkjajbaaDoorPc
namespace Go.Proofs.YtellnklbkjajbaaDoor
open Go.RowKit Go.Shelf
attribute [local go_sem] Oper.semAt_some

set_option maxRecDepth 100000 in
set_option maxHeartbeats 1000000 in
theorem elem81_pre (n x : Nat) (hx : x < 256) (l B : Nat) (J Jx : List (E8 x) → World → Prop)
    (hY : ∀ (pre : List (E8 x)) (j : E8 x) (W : World), J pre W → pre.length < 8 → YieldAt Fence.wide (n - 1) Tryd.prog l #[.int .i64 j.1] W fun e W' =>
      (e = .returned (.bool true) ∧ J (pre ++ [j]) W' ∧ TabK W W') ∨ (e = .returned (.bool false) ∧ Jx (pre ++ [j]) W'))
    (W : World) (hB : W.cell? ⟨B, 0, none⟩ = some (.int .i64 x)) (hT : Tab W) (h0 : J [] W) :
    CallsIn Fence.wide n Tryd.prog 81 #[.func (.yield l) #[] #[], .pointer (some ⟨B, 0, none⟩)] W fun e W' => (∃ v, e = .returned v) ∧
      ((∃ ys : List (E8 x), ys.map (·.1) = elem8 x ∧ J ys W') ∨ (∃ pre : List (E8 x), pre.map (·.1) <+: elem8 x ∧ Jx pre W')) := by
  refine callsIn_of_wp Tryd.func81 rfl trivial ?_ rfl
  simp only [Tryd.ntmps81, List.size_toArray, List.length_cons, List.length_nil, Nat.reduceAdd, Nat.reduceSub, Array.replicate_succ, Array.replicate_zero, List.push_toArray, List.append_toArray, List.nil_append, List.cons_append]
  gi_wp2
  gi_loopw [3] (fun p wr => ∃ (pre : List (E8 x)) (r : Nat), p = .int .i64 r ∧ r < 256 ∧ pre.map (·.1) ++ elem8 r = elem8 x ∧ J pre wr ∧ Tab wr)
    (fun p _ => (intOf p).toNat)
  case atStart =>
    exact ⟨[], x, rfl, hx, by simp, h0, hT⟩
  case round =>
    obtain ⟨pre, r, rfl, hr, hpre, hJ, hTr⟩ := hrel
    by_cases hr0 : r = 0
    · subst hr0
      rw [elem8_zero, List.append_nil] at hpre
      gi_wp2
      go_end0
      exact ⟨⟨_, rfl⟩, .inl ⟨pre, hpre, hJ⟩⟩
    · have hst := elem8_step r hr hr0
      have hmem : Lib.ctz 64 r ∈ elem8 x := by rw [← hpre, hst]; simp
      obtain ⟨hj8, hjb⟩ := elem8_mem hmem
      have hlen : pre.length < 8 := by
        have h1 := elem8_length x
        rw [← hpre, hst] at h1
        simp at h1; omega
      obtain ⟨fn, tmps, assign, body, hy, hR⟩ := hY pre ⟨Lib.ctz 64 r, hjb, hj8⟩ wr hJ hlen
      dsimp only at hy
      have hz := tz8_any r wr hr hr0 hTr
      have hne : ((r:Int) != 0) = true := by simp; omega
      have hu : IntKind.u64.wrap (r:Int) = r := ucast (by omega) (by omega)
      have HP : Hid ((pre ++ [(⟨Lib.ctz 64 r, hjb, hj8⟩ : E8 x)]).map (·.1) ++ elem8 (r &&& (r - 1)) = elem8 x) := by
        rw [List.map_append, List.append_assoc]
        rw [hst] at hpre
        exact hpre
      have hand : bits .and .i64 (r:Int) ((r : Int) - 1) = ((r &&& (r - 1) : Nat) : Int) := by
        rw [show (r : Int) - 1 = ((r - 1 : Nat) : Int) by omega]
        exact i64_and _ _ (by omega) (by omega)
      have hle : r &&& (r - 1) ≤ r - 1 := Nat.and_le_right
      clear hst hmem hpre
      generalize Lib.ctz 64 r = c at *
      gi_wp2_with fail
      refine ⟨trivial, fun h => (by cases h), (callsIn_wide.2 hz).mono ?_⟩
      rintro e w' ⟨rfl, rfl⟩
      gi_wp2_with fail
      refine ⟨fun h => (by cases h), hR.mono ?_⟩
      rintro e W3 (⟨rfl, hJ3, hk3⟩ | ⟨rfl, hJx3⟩)
      · gi_wp2
        go_roundw
        case rel => exact ⟨_, r &&& (r - 1), rfl, by omega, HP.out, hJ3, hk3 hTr⟩
        case measure => simp [intOf]; omega
      · gi_wp2
        refine bodyPost_ret (results_none rfl _ _ _) rfl ?_
        exact ⟨⟨_, rfl⟩, .inr ⟨_, ⟨_, HP.out⟩, hJx3⟩⟩

theorem elem8_stops_pre (n x : Nat) (hx : x < 256) (B : Nat) (w : World) (hB : w.cell? ⟨B, 0, none⟩ = some (.int .i64 x)) (hT : Tab w) :
    SeqStopsK Fence.wide n Tryd.prog 81 #[.pointer (some ⟨B, 0, none⟩)] (fun j : E8 x => #[Value.int .i64 j.1]) TabK (fun ys => ys.map (·.1) = elem8 x) (fun ys => ys.map (·.1) <+: elem8 x) 8 w := fun l J Jx W hW _ _ hY h0 =>
  elem81_pre n x hx l B J Jx hY W (ck hB hW) (tab_block hT (hW.block 1 (tab_lt hT))) h0

end Go.Proofs.YtellnklbkjajbaaDoor

namespace Go.Proofs.YtellnklbkjajbaaDoor
open Go.RowKit Go.Shelf

variable {n : Nat} {P : Program}

/-- Y is X but for blocks from B on; of blocks from T on that hold cells, none has changed. -/
structure LowT (B T : Nat) (X Y : World) : Prop where
  os : Y.os = X.os
  tape : Y.tape = X.tape
  output : Y.output = X.output
  size : X.heap.size ≤ Y.heap.size
  lo : ∀ k, k < B → k < X.heap.size → Y.heap[k]? = X.heap[k]?
  hi : ∀ k o, T ≤ k → X.heap[k]? = some o → o.isCells = true → Y.heap[k]? = some o
theorem grown_low {B T : Nat} {X Y : World} {row : Option Nat} (hg : X.grownBy Y row) (hr : ∀ k, row = some k → B ≤ k ∧ ∃ o, X.heap[k]? = some o ∧ o.isCells = false) : LowT B T X Y :=
  ⟨hg.os, hg.tape, hg.output, hg.size, fun k h1 h2 => hg.block k h2 fun e => by have := (hr k e.symm).1; omega,
    fun k o _ h2 h3 => (hg.block k (Array.getElem?_eq_some_iff.1 h2).1 fun e => by
      obtain ⟨o', h4, h5⟩ := (hr k e.symm).2
      rw [h2] at h4
      cases h4
      rw [h3] at h5
      cases h5).trans h2⟩
theorem putObj_low {B T l : Nat} (W : World) {o : Obj} (o' : Obj) (hB : B ≤ l) (h : W.heap[l]? = some o) (ho : o.isCells = false) : LowT B T W (W.putObj l o') :=
  grown_low (grownBy_putObj' W l o') fun k e => by cases e; exact ⟨hB, o, h, ho⟩
theorem setCell_low {B T : Nat} (W : World) (p : Addr) (v : Value) (h1 : B ≤ p.block) (h2 : p.block < T) : LowT B T W (W.setCell p v) :=
  ⟨rfl, rfl, rfl, by simp [World.setCell], fun k hk _ => Below.heap_setCell _ _ _ _ (by omega), fun k o hk h3 _ => (Below.heap_setCell _ _ _ _ (by omega)).trans h3⟩
theorem LowT.mono {B B' T : Nat} {X Y : World} (h : LowT B T X Y) (hB : B' ≤ B) : LowT B' T X Y := ⟨h.os, h.tape, h.output, h.size, fun k h1 h2 => h.lo k (by omega) h2, h.hi⟩

/-- The iterator gf, with what it has caught, yields elements of α; Pre says what holds in the world when x is yielded; a round that goes on turns block A alone. -/
def IterT {α : Type} (n : Nat) (P : Program) (gf : Nat) (lb : Array Value) (encs : α → Array Value) (Pre : α → World → Prop) (A : Nat) (S Sp : List α → Prop) (w : World) : Prop :=
  ∀ (l : Nat) (J : List α → World → Prop) (Jx : Nat → List α → World → Prop) (W : World), Below w.heap.size w W → (∀ s X Y, J s X → Below W.heap.size X Y → J s Y) → (∀ T s X Y, Jx T s X → LowT W.heap.size T X Y → Jx T s Y) →
    (∀ pre x W1, J pre W1 → Pre x W1 → YieldAt Fence.wide (n - 1) P l (encs x) W1 fun e W' =>
      (e = .returned (.bool true) ∧ J (pre ++ [x]) W' ∧ Mod (· = A) W1 W') ∨ (e = .returned (.bool false) ∧ Jx W1.heap.size (pre ++ [x]) W' ∧ Hi W.heap.size W1 W')) →
    J [] W →
    CallsIn Fence.wide n P gf (#[.func (.yield l) #[] #[]] ++ lb) W fun e W' => (∃ v, e = .returned v) ∧ ((∃ xs, S xs ∧ J xs W') ∨ (∃ T pre, Sp pre ∧ Jx T pre W'))

/-- How a round's body may be left. -/
def roundPT {α : Type} (A B : Nat) (I : List α → World → Prop) (Ix : Nat → List α → World → Prop) (xs : List α) (W : World) : Exit → Act → World → Prop
  | .normal, _, W' => Mod (· = A) W W' ∧ I xs W'
  | .ret, _, W' => Hi B W W' ∧ Ix W.heap.size xs W'
  | _, _, _ => False

set_option maxHeartbeats 1000000 in
theorem range_mineT {α : Type} {g : Operand} {ps : Array Tmp} {assign body : Code} {Q : Exit → Act → World → Prop} {a : Act} {w : World} {gf : Nat} {lb : Array Value}
    (hg : a.eval g = .func (.func gf) #[] lb) (eg : ∀ args w, (callFunc gf args).run P w = .ok (.enter gf args) w)
    {encs : α → Array Value} {Pre : α → World → Prop} {A : Nat} {S Sp : List α → Prop} (hseq : IterT (n - 1) P gf lb encs Pre A S Sp w) (hps : ∀ x, (encs x).size = ps.size) (hA : A < w.heap.size)
    (hPre : ∀ (x : α) (X : World) (l : Nat) (o o' : Obj), X.heap[l]? = some o → o.isCells = false → Pre x X → Pre x (X.putObj l o'))
    (I : List α → World → Prop) (Ix : Nat → List α → World → Prop) (hI : ∀ s X Y, I s X → Below w.heap.size X Y → I s Y) (hIx : ∀ T s X Y, Ix T s X → LowT w.heap.size T X Y → Ix T s Y) (h0 : I [] w) (a₁ : α → Act)
    (hassign : ∀ (l : Nat) (x : α) (W : World) (K : Act → World → Prop), K (a₁ x) W →
      assign.wpIn (Fence.wide.inRound l) (n - 1 - 1) P (Exit.then K (fun _ _ _ => False)) { tmps := (ps.zip (encs x)).foldl (fun t (p, v) => t.setIfInBounds p v) a.tmps, defers := [] } W)
    (hbody : ∀ (l : Nat) (pre : List α) (x : α) (W : World), I pre W → Pre x W → body.wpIn (Fence.wide.inRound l) (n - 1 - 1) P (roundPT A w.heap.size I Ix (pre ++ [x]) W) (a₁ x) W)
    (hdone : ∀ (D : Nat) (xs : List α) (W : World), w.heap.size ≤ D → S xs → I xs W → W.heap[D]? = some (.deferred (some [])) → Q .normal { a with defers := { target := .collected D, args := #[] } :: a.defers } W)
    (hstop : ∀ (D T : Nat) (pre : List α) (W : World), w.heap.size ≤ D → Sp pre → Ix T pre W → W.heap[D]? = some (.deferred (some [])) → Code.ret.wpIn Fence.wide n P Q { a with defers := { target := .collected D, args := #[] } :: a.defers } W) :
    (Code.rangeFunc g ps assign body).wpIn Fence.wide n P Q a w := by
  refine wpIn_rangeFunc fun fn hfn => ?_
  let rc (st : LoopState) (pe : Option Code) : Loop := { state := st, pending := pe, fn, tmps := a.tmps, params := ps, assign, body, defers := w.heap.size }
  have hs1 : ((w.alloc (.deferred (some []))).alloc (.loop (rc .ready none))).heap.size = w.heap.size + 1 + 1 := by rw [World.size_alloc, World.size_alloc]
  have hl1 : ((w.alloc (.deferred (some []))).alloc (.loop (rc .ready none))).heap[w.heap.size + 1]? = some (.loop (rc .ready none)) := by
    have := heap_alloc_new (w.alloc (.deferred (some []))) (.loop (rc .ready none)); rwa [World.size_alloc] at this
  have hd1 : ((w.alloc (.deferred (some []))).alloc (.loop (rc .ready none))).heap[w.heap.size]? = some (.deferred (some [])) := by
    rw [Below.heap_alloc _ _ _ (by rw [World.size_alloc]; omega)]; exact heap_alloc_new w _
  have hb1 : Below w.heap.size w ((w.alloc (.deferred (some []))).alloc (.loop (rc .ready none))) := ((Below.refl _ w).alloc (Nat.le_refl _) _).alloc (by rw [World.size_alloc]; omega) _
  refine ⟨w.heap.size + 1, [{ target := .collected w.heap.size, args := #[] }], (w.alloc (.deferred (some []))).alloc (.loop (rc .ready none)), { target := .fn (.func gf) lb, args := #[.func (.yield (w.heap.size + 1)) #[] #[]] }, (w.alloc (.deferred (some []))).alloc (.loop (rc .ready none)), gf,
    #[.func (.yield (w.heap.size + 1)) #[] #[]] ++ lb, (w.alloc (.deferred (some []))).alloc (.loop (rc .ready none)), run_enterLoop_outer fn a.tmps ps assign body, ?_, fun _ _ => trivial, ?_, fun h => (by cases h), ?_⟩
  · simp only [resolve, hg]
    simp [go_sem]
  · simp [invoke, go_sem, eg]
  · generalize hW1 : (w.alloc (.deferred (some []))).alloc (.loop (rc .ready none)) = W1 at *
    have low : ∀ X Y, Below W1.heap.size X Y → Below w.heap.size X Y := fun X Y h => h.mono (by omega)
    refine (hseq (w.heap.size + 1)
      (fun pre W => I pre W ∧ W.heap[w.heap.size + 1]? = some (.loop (rc .ready none)) ∧ W.heap[w.heap.size]? = some (.deferred (some [])))
      (fun T pre W => Ix T pre W ∧ W.heap[w.heap.size + 1]? = some (.loop (rc .done (some .ret))) ∧ W.heap[w.heap.size]? = some (.deferred (some [])))
      W1 hb1
      (fun s X Y hs hb => ⟨hI s X Y hs.1 (low X Y hb), (hb.block _ (by omega)).trans hs.2.1, (hb.block _ (by omega)).trans hs.2.2⟩)
      (fun T s X Y hs hb => ⟨hIx T s X Y hs.1 (hb.mono (by omega)), (hb.lo _ (by omega) (Array.getElem?_eq_some_iff.1 hs.2.1).1).trans hs.2.1, (hb.lo _ (by omega) (Array.getElem?_eq_some_iff.1 hs.2.2).1).trans hs.2.2⟩)
      ?_ ⟨hI _ _ _ h0 hb1, hl1, hd1⟩).mono ?_
    · rintro pre x W ⟨hi, hl, hk⟩ hp
      have hlt : w.heap.size + 1 < W.heap.size := (Array.getElem?_eq_some_iff.1 hl).1
      refine ⟨fn, _, assign, body, run_yield (P := P) (args := encs x) hl (hps x), roundIn_of_wpIn hfn (hassign _ x W _ ⟨_, run_beginRound hl rfl, ?_⟩)⟩
      have hl2 : (W.putObj (w.heap.size + 1) (.loop { rc .ready none with state := .busy })).heap[w.heap.size + 1]? = some (.loop { rc .ready none with state := .busy }) := World.putObj_heap_same hlt
      have hk2 : (W.putObj (w.heap.size + 1) (.loop { rc .ready none with state := .busy })).heap[w.heap.size]? = some (.deferred (some [])) := (World.putObj_heap_other (by omega)).trans hk
      have hbW := putObj_below W _ (.loop { rc .ready none with state := .busy }) (show w.heap.size ≤ w.heap.size + 1 by omega) hl
      refine wpIn_mono (hbody _ pre x _ (hI _ _ _ hi hbW) (hPre x W _ _ _ hl rfl hp)) ?_
      rintro e a3 W3 hq
      cases e with
      | normal =>
        obtain ⟨hm, hi3⟩ := hq
        have hl3 := (hm.block (w.heap.size + 1) (by simpa using hlt) (by omega)).trans hl2
        have hk3 := (hm.block w.heap.size (by simp; omega) (by omega)).trans hk2
        refine ⟨_, _, run_endRound (P := P) none hl3, .inl ⟨rfl, ⟨hI _ _ _ hi3 (putObj_below W3 _ _ (by omega) hl3), World.putObj_heap_same (Array.getElem?_eq_some_iff.1 hl3).1, (World.putObj_heap_other (by omega)).trans hk3⟩, ?_⟩⟩
        refine ⟨hm.os, hm.tape, hm.output, by have := hm.size; simpa using this, fun k hk' hne => ?_⟩
        by_cases e : k = w.heap.size + 1
        · subst e
          rw [World.putObj_heap_same (Array.getElem?_eq_some_iff.1 hl3).1, hl]
          rfl
        · rw [World.putObj_heap_other e, hm.block k (by simpa using hk') hne, World.putObj_heap_other e]
      | ret =>
        obtain ⟨hm, hi3⟩ := hq
        have hl3 := (hm.block (w.heap.size + 1) (by omega) (by simpa using hlt)).trans hl2
        have hk3 := (hm.block w.heap.size (Nat.le_refl _) (by simp; omega)).trans hk2
        refine ⟨_, _, run_endRound (P := P) (some .ret) hl3, .inr ⟨rfl, ⟨hIx _ _ _ _ (by simpa using hi3) (putObj_low W3 _ (by omega) hl3 rfl), World.putObj_heap_same (Array.getElem?_eq_some_iff.1 hl3).1, (World.putObj_heap_other (by omega)).trans hk3⟩, ?_⟩⟩
        exact ⟨by have := hm.size; simpa using this, fun k hk1 hk2 => by
          rw [World.putObj_heap_other (by omega), hm.block k (by omega) (by simpa using hk2), World.putObj_heap_other (by omega)]⟩
      | exit id => exact hq.elim
      | goto t => exact hq.elim
      | panic ch => exact hq.elim
      | outgrown => exact hq.elim
    · rintro e W2 ⟨⟨v, rfl⟩, (⟨xs, hS, hi, hl, hk⟩ | ⟨T, pre, hSp, hi, hl, hk⟩)⟩
      · exact ⟨none, _, run_endLoop (P := P) hl (by simp [rc]), hdone _ xs _ (Nat.le_refl _) hS (hI _ _ _ hi (putObj_below W2 _ _ (by omega) hl)) ((World.putObj_heap_other (by omega)).trans hk)⟩
      · exact ⟨some .ret, _, run_endLoop (P := P) hl (by simp [rc]), hstop _ T pre _ (Nat.le_refl _) hSp (hIx _ _ _ _ hi (putObj_low W2 _ (by omega) hl rfl)) ((World.putObj_heap_other (by omega)).trans hk)⟩
end Go.Proofs.YtellnklbkjajbaaDoor

namespace Go.Proofs.YtellnklbkjajbaaDoor
open Go.RowKit Go.Shelf
attribute [local go_sem] Oper.semAt_some

/-- What a call of the search answers. -/
def PmPre (rs : List Nat) (A Pb B0 : Nat) (J : List (Nat × List Nat) → World → Prop) (Jx : Nat → List (Nat × List Nat) → World → Prop) (pre : List (Nat × List Nat)) (tk : Nat) (q : List Nat) (i : Nat) (W : World) (e : Ending) (W' : World) : Prop :=
  (e = .returned (.bool true) ∧ J (pre ++ (permsF (rs.drop i) tk q).map fun p => (Pb, p)) W' ∧ Mod (Two A Pb) W W' ∧ Holds W' Pb rs.length q) ∨
  (e = .returned (.bool false) ∧ (∃ T ys, W.heap.size + 3 ≤ T ∧ ys <+: ((permsF (rs.drop i) tk q).map fun p => (Pb, p)) ∧ Jx T (pre ++ ys) W') ∧ W.heap.size ≤ W'.heap.size ∧ ∀ k, B0 ≤ k → k < W.heap.size → k ≠ Pb → W'.heap[k]? = W.heap[k]?)

abbrev pmArgs' (Bp By Br Bc : Nat) : Array Value := #[.pointer (some ⟨Bp, 0, none⟩), .pointer (some ⟨By, 0, none⟩), .pointer (some ⟨Br, 0, none⟩), .pointer (some ⟨Bc, 0, none⟩)]

set_option maxRecDepth 100000 in
set_option maxHeartbeats 1000000 in
theorem perm_leaf_pre (rs : List Nat) (A l Bp By Br Bc Pb B0 tk : Nat) (J : List (Nat × List Nat) → World → Prop) (Jx : Nat → List (Nat × List Nat) → World → Prop) (pre : List (Nat × List Nat)) (q : List Nat) (W : World)
    (hJ : ∀ s X Y, J s X → Below B0 X Y → J s Y) (hJx : ∀ T s X Y, Jx T s X → LowT B0 T X Y → Jx T s Y)
    (hY : ∀ pre x W1, J pre W1 → PreP rs.length A B0 x W1 → YieldAt Fence.wide (9 - 1) Tryd.prog l #[.slice (some ⟨x.1, 0, none⟩) rs.length rs.length] W1 fun e W' =>
      (e = .returned (.bool true) ∧ J (pre ++ [x]) W' ∧ Mod (· = A) W1 W') ∨ (e = .returned (.bool false) ∧ Jx W1.heap.size (pre ++ [x]) W' ∧ Hi B0 W1 W'))
    (hE : PmEnv rs A l Bp By Br Bc Pb W) (hP : Holds W Pb rs.length q) (h0 : J pre W) (hq : q.length = rs.length) (hq8 : ∀ j ∈ q, j < 8) (hA : A < B0) (hPb : B0 ≤ Pb) (hB0 : B0 ≤ W.heap.size) :
    Calls Tryd.prog 79 #[.int .i64 rs.length, .int .i64 tk, .pointer (some ⟨Bp, 0, none⟩), .pointer (some ⟨By, 0, none⟩), .pointer (some ⟨Br, 0, none⟩), .pointer (some ⟨Bc, 0, none⟩)] W
      (PmPre rs A Pb B0 J Jx pre tk q rs.length W) := by
  obtain ⟨d6, d7, d8, dz⟩ := box2_c W rs.length tk
  have hb2 := box2_below W rs.length tk
  obtain ⟨rest, hI, hr⟩ := hP
  obtain rfl : rest = [] := by
    rw [List.length_append] at hr
    exact List.eq_nil_of_length_eq_zero (by omega)
  rw [List.append_nil] at hI hr
  have hlt := hI.lt
  have hI2 : IBlk (box2 W rs.length tk) Pb (nats q) := hI.mod (hb2.block Pb hlt)
  obtain ⟨fn, tmps, assign, body, hy, hR⟩ := hY pre (Pb, q) (box2 W rs.length tk) (hJ _ _ _ h0 (hb2.mono hB0)) ⟨hI2, hq, hq8, by show Pb ≠ A; omega, hPb⟩
  dsimp only at hy
  obtain ⟨_, hp, hyl, ⟨ao, cap, hrows, _, _⟩, _⟩ := hE _ (box2_mod _ W rs.length tk)
  have HE := Lib.hid hE
  have HI2 := Lib.hid hI2
  have HD8 := Lib.hid d8
  have HDz := Lib.hid dz
  clear hE hY hI hI2 h0
  refine (callsIn_wide (n := 9)).1 ?_
  refine callsIn_of_wp_marks Tryd.func79 rfl trivial ?_ rfl
  simp only [Tryd.ntmps79, List.size_toArray, List.length_cons, List.length_nil, Nat.reduceAdd, Nat.reduceSub, Array.replicate_succ, Array.replicate_zero, List.push_toArray, List.append_toArray, List.nil_append, List.cons_append]
  gi_wp2_with fail
  refine hR.mono ?_
  rintro e W4 (⟨rfl, hJ4, hm4⟩ | ⟨rfl, hJx4, hh4⟩)
  · have h8 : W4.heap[W.heap.size + 1 + 1]? = some (.cells #[.bool false] 4 (0, 0)) := (hm4.block _ (by rw [HDz.out]; omega) (by omega)).trans HD8.out
    obtain ⟨c8, f8⟩ := boxB_cell h8
    gi_wp2_with fail
    have c9 : (W4.setCell ⟨W.heap.size + 1 + 1, 0, none⟩ (.bool true)).cell? ⟨W.heap.size + 1 + 1, 0, none⟩ = some (.bool true) := World.cell?_setCell_same' _ _ _ (by rw [c8]; rfl)
    refine ⟨.bool true, by simp [results, Tryd.f79, go_sem, c9], .inl ⟨rfl, ?_, ?_, ?_⟩⟩
    · rw [List.drop_length]
      exact hJ _ _ _ hJ4 ((Below.refl B0 W4).setCell (p := ⟨W.heap.size + 1 + 1, 0, none⟩) (by show B0 ≤ W.heap.size + 1 + 1; omega) _)
    · exact ((box2_mod (Two A Pb) W _ _).trans hm4 fun x hx => .inl (.inl hx)).setCell (.inr (by show W.heap.size ≤ W.heap.size + 1 + 1; omega)) _
    · refine ⟨[], ?_, by rw [List.append_nil]; exact hq⟩
      rw [List.append_nil]
      exact HI2.out.mod ((Below.heap_setCell _ _ _ _ (by show ¬ _; simp; omega)).trans (hm4.block Pb (by rw [HDz.out]; omega) (by omega)))
  · have h8 : W4.heap[W.heap.size + 1 + 1]? = some (.cells #[.bool false] 4 (0, 0)) := (hh4.block _ (by omega) (by rw [HDz.out]; omega)).trans HD8.out
    obtain ⟨c8, f8⟩ := boxB_cell h8
    gi_wp2_with fail
    have c9 : (W4.setCell ⟨W.heap.size + 1 + 1, 0, none⟩ (.bool false)).cell? ⟨W.heap.size + 1 + 1, 0, none⟩ = some (.bool false) := World.cell?_setCell_same' _ _ _ (by rw [c8]; rfl)
    refine ⟨.bool false, by simp [results, Tryd.f79, go_sem, c9], .inr ⟨rfl, ⟨(box2 W rs.length tk).heap.size, [(Pb, q)], (by rw [HDz.out]; exact Nat.le_refl _), (by rw [List.drop_length]; exact ⟨[], rfl⟩), ?_⟩, ?_, ?_⟩⟩
    · exact hJx _ _ _ _ hJx4 (setCell_low W4 ⟨W.heap.size + 1 + 1, 0, none⟩ _ (by show B0 ≤ W.heap.size + 1 + 1; omega) (by show W.heap.size + 1 + 1 < _; rw [HDz.out]; omega))
    · have := hh4.size
      rw [HDz.out] at this
      simp only [World.setCell, Array.size_modify]
      omega
    · intro k hk1 hk2 _
      exact (Below.heap_setCell _ _ _ _ (by show ¬ _; simp; omega)).trans ((hh4.block k hk1 (by rw [HDz.out]; omega)).trans ((box2_mod (Two A Pb) W rs.length tk).block k hk2 (by rintro (h | h) <;> omega)))
end Go.Proofs.YtellnklbkjajbaaDoor

namespace Go.Proofs.YtellnklbkjajbaaDoor
open Go.RowKit Go.Shelf
attribute [local go_sem] Oper.semAt_some

set_option maxRecDepth 100000 in
set_option maxHeartbeats 2000000 in
theorem perm_step_pre (rs : List Nat) (A l Bp By Br Bc Pb B0 tk i m : Nat) (J : List (Nat × List Nat) → World → Prop) (Jx : Nat → List (Nat × List Nat) → World → Prop) (pre : List (Nat × List Nat)) (q : List Nat) (w : World)
    (hJ : ∀ s X Y, J s X → Below B0 X Y → J s Y) (hJx : ∀ T s X Y, Jx T s X → LowT B0 T X Y → Jx T s Y)
    (hE : PmEnv rs A l Bp By Br Bc Pb w) (hP : Holds w Pb rs.length q) (h0 : J pre w) (hq : q.length = i) (hq8 : ∀ j ∈ q, j < 8) (hA : A < B0) (hA1 : A ≠ 1) (hPb : B0 ≤ Pb) (hB0 : B0 ≤ w.heap.size) (hi : i + (m + 1) = rs.length)
    (hBc : B0 ≤ Bc) (hBcP : Bc ≠ Pb)
    (hrs : ∀ x ∈ rs, x < 256) (hn : rs.length ≤ 8) (htk : tk < 256) (h1 : 1 < B0)
    (IH : ∀ (tk : Nat) (pre : List (Nat × List Nat)) (q : List Nat) (w : World), PmEnv rs A l Bp By Br Bc Pb w → Holds w Pb rs.length q → J pre w → q.length = i + 1 → (∀ j ∈ q, j < 8) → B0 ≤ w.heap.size → tk < 256 →
      Calls Tryd.prog 79 #[.int .i64 ((i : Int) + 1), .int .i64 tk, .pointer (some ⟨Bp, 0, none⟩), .pointer (some ⟨By, 0, none⟩), .pointer (some ⟨Br, 0, none⟩), .pointer (some ⟨Bc, 0, none⟩)] w (PmPre rs A Pb B0 J Jx pre tk q (i + 1) w)) :
    Calls Tryd.prog 79 #[.int .i64 i, .int .i64 tk, .pointer (some ⟨Bp, 0, none⟩), .pointer (some ⟨By, 0, none⟩), .pointer (some ⟨Br, 0, none⟩), .pointer (some ⟨Bc, 0, none⟩)] w (PmPre rs A Pb B0 J Jx pre tk q i w) := by
  have hM0 := box2_mod (Two A Pb) w i tk
  have hb2 := box2_below w i tk
  obtain ⟨d6, d7, d8, dz⟩ := box2_c w i tk
  obtain ⟨hT1, hp, _, ⟨ao, cap, hrow, hcap, hel⟩, hpl⟩ := hE (box2 w i tk) hM0
  obtain ⟨b0, o0, rfl, hel0⟩ := hel i (by omega)
  have hr : rs.getD i 0 < 256 := hrs _ (natD_mem (by omega))
  have HR : Hid (permsF (rs.drop i) tk q = (elem8 (sub (rs.getD i 0) tk)).flatMap fun j => permsF (rs.drop (i + 1)) (tk ||| 2 ^ j) (q ++ [j])) := by
    have e : rs[i]'(by omega) = rs.getD i 0 := by simp [show i < rs.length by omega]
    refine Lib.hid ?_
    rw [List.drop_eq_getElem_cons (by omega : i < rs.length), permsF, e]
  have hlt : Pb < w.heap.size := hP.lt
  have HH1 := Lib.hid (hP.mod (hb2.block Pb hlt))
  have HJ1 := Lib.hid (hJ _ _ _ h0 (hb2.mono hB0))
  have HE := Lib.hid hE
  have HIH := Lib.hid IH
  have HM0 := Lib.hid hM0
  have HT1 := Lib.hid hT1
  have HC : Hid ((box2 w i tk).cell? ⟨w.heap.size, 0, none⟩ = some (.int .i64 i) ∧ (box2 w i tk).cell? ⟨w.heap.size + 1, 0, none⟩ = some (.int .i64 tk) ∧ (box2 w i tk).heap[w.heap.size + 1 + 1]? = some (.cells #[.bool false] 4 (0, 0))) := ⟨d6, d7, d8⟩
  have hne : ((i:Int) == (rs.length:Int)) = false := by simp; omega
  generalize rs.getD i 0 = r at *
  clear hE IH hM0 hP h0 hel hT1 hb2
  refine (callsIn_wide (n := 9)).1 ?_
  refine callsIn_of_wp_marks Tryd.func79 rfl trivial ?_ rfl
  simp only [Tryd.ntmps79, List.size_toArray, List.length_cons, List.length_nil, Nat.reduceAdd, Nat.reduceSub, Array.replicate_succ, Array.replicate_zero, List.push_toArray, List.append_toArray, List.nil_append, List.cons_append]
  gi_wp2_with fail
  refine wpIn_wide.2 ?_
  dsimp only [box2] at *
  generalize (((w.alloc (.cells #[.int .i64 i] 3)).alloc (.cells #[.int .i64 tk] 3)).alloc (.cells #[.bool false] 4)) = w1 at *
  have b0' := Below.refl w1.heap.size w1
  have hix0 : (0:Int) ≤ (i:Int) := by omega
  have hix1 : (i:Int) < (rs.length:Int) := by omega
  go_region_held3 ((fun w' => w'.cell? ⟨Br, 0, none⟩ = some (.slice (some ⟨b0, o0, none⟩) rs.length cap) ∧ w'.cell? ⟨b0, o0 + i, none⟩ = some (.int .i64 r) ∧ w'.cell? ⟨w.heap.size, 0, none⟩ = some (.int .i64 i) ∧ w'.cell? ⟨w.heap.size + 1, 0, none⟩ = some (.int .i64 tk) ∧ Below w1.heap.size w1 w'))
    ((first | exact ⟨hrow, hel0, d6, d7, b0'.drew⟩ | (obtain ⟨k1, k2, k3, k4, k5⟩ := (show _ ∧ _ ∧ _ ∧ _ ∧ _ by assumption); have k6 := k5.alloc (Nat.le_refl _) (.cells #[.int .i64 (bits .andNot .i64 (r:Int) (tk:Int))] 3); exact ⟨ck hrow k6, ck hel0 k6, ck d6 k6, ck d7 k6, k6⟩)))
    ((go_at_call 59; refine (elements_any _ _).mono ?_; rintro e w' ⟨rfl, rfl⟩))
  rename_i hH
  have hB2 := hH.2.2.2.2
  clear hH hrow hel0 b0' hix0 hix1 hp hpl
  rw [andNot_sub8 r tk hr htk]
  have hx8 : sub r tk < 256 := sub_le8 r tk hr
  have cS : ((w1.alloc (.cells #[.int .i64 (sub r tk : Nat)] 3)).drew).cell? ⟨w1.heap.size, 0, none⟩ = some (.int .i64 (sub r tk : Nat)) := cell_new w1 _ 3
  have hs2 : ((w1.alloc (.cells #[.int .i64 (sub r tk : Nat)] 3)).drew).heap.size = w1.heap.size + 1 := World.size_alloc _ _
  rw [andNot_sub8 r tk hr htk] at hB2
  generalize ((w1.alloc (.cells #[.int .i64 (sub r tk : Nat)] 3)).drew) = w2 at *
  gi_wp2_with fail
  have hM12 : Mod (Two A Pb) w1 w2 := Mod.of_below hB2
  have hMw2 : Mod (Two A Pb) w w2 := HM0.out.trans hM12 fun _ h => .inl h
  have hT2 : Tab w2 := tab_block HT1.out (hB2.block 1 (tab_lt HT1.out))
  have hws : w.heap.size ≤ w1.heap.size := by omega
  have hP1 : Pb < w1.heap.size := by omega
  have hH2 : Holds w2 Pb rs.length q := HH1.out.mod (hB2.block Pb hP1)
  have hJ2 := hJ _ _ _ HJ1.out (hB2.mono (by omega : B0 ≤ w1.heap.size))
  have hR2 : w2.heap[w.heap.size + 1 + 1]? = some (.cells #[.bool false] 4 (0, 0)) := (hB2.block _ (by omega)).trans d8
  rw [dz] at cS
  refine wpIn_rangeFunc_ownG rfl (by decide) (gf := 81) (lb := #[.pointer (some ⟨w.heap.size + 1 + 1 + 1, 0, none⟩)]) rfl trivial (enters_of Tryd.func81 (by kernel_rfl) rfl)
    (elem8_stops_pre 8 (sub r tk) hx8 (w.heap.size + 1 + 1 + 1) w2 cS hT2) TabK.t (fun W l o o' _ h ho _ => TabK.b W l o o' h ho) (Below.refl _ _) (fun _ => rfl)
    (fun pre2 W => J (pre ++ (((pre2.map (·.1)).flatMap fun j => permsF (rs.drop (i + 1)) (tk ||| 2 ^ j) (q ++ [j])).map fun p => (Pb, p))) W ∧ Mod (Two A Pb) w2 W ∧ Holds W Pb rs.length q)
    (fun c pre2 W => c = .ret ∧ (∃ T ys, w.heap.size + 3 ≤ T ∧ ys <+: (((pre2.map (·.1)).flatMap fun j => permsF (rs.drop (i + 1)) (tk ||| 2 ^ j) (q ++ [j])).map fun p => (Pb, p)) ∧ Jx T (pre ++ ys) W) ∧ W.cell? ⟨w.heap.size + 1 + 1, 0, none⟩ = some (.bool false) ∧ w2.heap.size ≤ W.heap.size ∧ ∀ k, B0 ≤ k → k < w.heap.size → k ≠ Pb → W.heap[k]? = w2.heap[k]?)
    (fun s X Y row hs hg hr => ⟨hJ _ _ _ hs.1 ((Below.refl B0 X).grown hg (by have := hs.2.1.size; omega) fun k e => by have := (hr k e).1; omega), hs.2.1.grown hg fun k e => (hr k e).1,
      hs.2.2.mod (hg.block Pb hs.2.2.lt fun e => by have := (hr Pb e.symm).1; omega)⟩)
    (fun c s X Y row hs hg hr => ⟨hs.1, hs.2.1.elim fun T h => h.elim fun ys h => ⟨T, ys, h.1, h.2.1, hJx _ _ _ _ h.2.2 (grown_low hg fun k e => ⟨by have := (hr k e).1; omega, (hr k e).2⟩)⟩,
      cell_kept hs.2.2.1 hg (fun r e => (hr r e).2), Nat.le_trans hs.2.2.2.1 hg.size, fun k h1 h2 h3 => (hg.block k (by have := hs.2.2.2.1; omega) fun e => by have := (hr k e.symm).1; omega).trans (hs.2.2.2.2 k h1 h2 h3)⟩)
    ⟨by simpa using hJ2, Mod.refl _ _, hH2⟩
    (fun x => { tmps := #[.int .i64 i, .int .i64 tk, .pointer (some ⟨Bp, 0, none⟩), .pointer (some ⟨By, 0, none⟩), .pointer (some ⟨Br, 0, none⟩), .pointer (some ⟨Bc, 0, none⟩), .pointer (some ⟨w.heap.size, 0, none⟩), .pointer (some ⟨w.heap.size + 1, 0, none⟩), .pointer (some ⟨w.heap.size + 1 + 1, 0, none⟩), .int .i64 x.1, .int .i64 i,
      .slice (some ⟨Pb, 0, none⟩) rs.length rs.length, .int .i64 rs.length, .bool false, undef, undef, undef, .slice (some ⟨b0, o0, none⟩) rs.length cap, .int .i64 i, .pointer (some ⟨b0, o0 + i, none⟩), .int .i64 r, .int .i64 tk, .int .i64 (sub r tk : Nat),
      .func (.func 81) #[] #[.pointer (some ⟨w.heap.size + 1 + 1 + 1, 0, none⟩)], .int .i64 x.1, undef, undef, undef, undef, undef, undef, undef, undef, undef, undef, undef, undef, undef], defers := [] }) ?assign ?body ?done ?stop
  case assign =>
    intro l x W K hK
    gi_wp2
    exact hK
  case body =>
    rintro l' pre2 x W ⟨hJW, hMW, hHW⟩ hlen
    have hM1W : Mod (Two A Pb) w1 W := hM12.trans hMW fun _ h => .inl h
    have hMwW : Mod (Two A Pb) w W := hMw2.trans hMW fun _ h => .inl h
    have hws2 : w2.heap.size ≤ W.heap.size := hMW.size
    obtain ⟨hTW, hpW, _, _, hplW⟩ := HE.out W hMwW
    have far (a : Nat) (h1 : w.heap.size ≤ a) : ¬ Two A Pb a := by rintro (h | h) <;> omega
    have c6 := (World.cell?_of_block (a := ⟨w.heap.size, 0, none⟩) (hM1W.block w.heap.size (by omega) (far _ (Nat.le_refl _)))).trans d6
    have c7 := (World.cell?_of_block (a := ⟨w.heap.size + 1, 0, none⟩) (hM1W.block (w.heap.size + 1) (by omega) (far _ (by omega)))).trans d7
    have c8 : W.heap[w.heap.size + 1 + 1]? = some (.cells #[.bool false] 4 (0, 0)) := (hM1W.block (w.heap.size + 1 + 1) (by omega) (far _ (by omega))).trans d8
    obtain ⟨rest, hI, hl⟩ := hHW
    obtain ⟨y, rest', rfl⟩ : ∃ y rest', rest = y :: rest' := by
      cases rest with
      | nil => simp at hl; omega
      | cons y rest' => exact ⟨y, rest', rfl⟩
    have hil : i < (nats (q ++ y :: rest')).length := by rw [nats_length, hl]; omega
    obtain ⟨hcp, hfp⟩ := hI.cell hil
    have hx8' := x.2.2
    have hIs : IBlk (W.setCell ⟨Pb, i, none⟩ (.int .i64 x.1)) Pb (nats ((q ++ [x.1]) ++ rest')) := by
      have := hI.set i ((x.1 : Nat) : Int)
      have e : (nats (q ++ y :: rest')).set i ((x.1 : Nat) : Int) = nats ((q ++ [x.1]) ++ rest') := by
        rw [← nats_set]
        congr 1
        rw [List.set_append_right _ _ (by omega), hq, Nat.sub_self]
        simp
      rwa [e] at this
    have hHs : Holds (W.setCell ⟨Pb, i, none⟩ (.int .i64 x.1)) Pb rs.length (q ++ [x.1]) := ⟨rest', hIs, by simp at hl ⊢; omega⟩
    have hsW : (W.setCell ⟨Pb, i, none⟩ (.int .i64 x.1)).heap.size = W.heap.size := by simp [World.setCell]
    have hMs : Mod (Two A Pb) W (W.setCell ⟨Pb, i, none⟩ (.int .i64 x.1)) := (Mod.refl _ W).setCell (.inl (.inr rfl)) _
    have hBs : Below B0 W (W.setCell ⟨Pb, i, none⟩ (.int .i64 x.1)) := (Below.refl B0 W).setCell (p := ⟨Pb, i, none⟩) hPb _
    have k6 := (World.cell?_of_block (a := ⟨w.heap.size, 0, none⟩) (hMs.block w.heap.size (by omega) (far _ (Nat.le_refl _)))).trans c6
    have k7 := (World.cell?_of_block (a := ⟨w.heap.size + 1, 0, none⟩) (hMs.block (w.heap.size + 1) (by omega) (far _ (by omega)))).trans c7
    have k8 := (hMs.block (w.heap.size + 1 + 1) (by omega) (far _ (by omega))).trans c8
    have kp := (World.cell?_of_block (a := ⟨Bc, 0, none⟩) (hMs.block Bc (World.block_lt_of_cell? W _ hplW) (by rintro (h | h) <;> omega))).trans hplW
    have hmx : Tryd.prog.follows .mixedOrders = true := by kernel_rfl
    have hp2 : 2 ^ x.1 ≤ 2 ^ 7 := Nat.pow_le_pow_right (by decide) (by omega)
    have e1 : IntKind.i64.wrap ((i:Int) + 1) = (i:Int) + 1 := i64_of (by omega) (by omega)
    have e3 : IntKind.i64.wrap ((2:Int) ^ x.1) = ((2 ^ x.1 : Nat) : Int) := by rw [pw_cast]; exact i64_of (by have := pw_bd x.1 (by omega); omega) (by have := pw_bd x.1 (by omega); omega)
    have e4 : bits .or .i64 (tk:Int) ((2 ^ x.1 : Nat) : Int) = ((tk ||| 2 ^ x.1 : Nat) : Int) := i64_or _ _ (by omega) (by omega)
    have hor : tk ||| 2 ^ x.1 < 2 ^ 8 := Nat.or_lt_two_pow htk (by omega)
    have HCALL := Lib.hid (HIH.out (tk ||| 2 ^ x.1) _ (q ++ [x.1]) (W.setCell ⟨Pb, i, none⟩ (.int .i64 x.1)).drew (HE.out.mod ((hMwW.trans hMs fun _ h => .inl h).drew)) hHs (hJ _ _ _ (hJ _ _ _ hJW hBs) ((Below.refl B0 _).drew)) (by simp; omega)
      (by intro j hj; rcases List.mem_append.1 hj with h | h; exact hq8 j h; simp at h; omega) (by show B0 ≤ (W.setCell _ _).heap.size; omega) hor)
    have HTW := Lib.hid hTW
    have HMW := Lib.hid hMW
    have HMs := Lib.hid hMs
    clear hIs hHs hJW hBs hor hp2 hI c7 c8 HE HIH HM0 HT1 HJ1 HH1 hMwW hM1W hTW hMW hMs HR hM12 hMw2 hT2 hH2 hJ2 hR2 cS hl hil d6 d7 d8 hplW hB2
    have hi0 : (0:Int) ≤ (i:Int) := by omega
    have hi1 : (i:Int) < (rs.length:Int) := by omega
    gi_wp2_with fail
    clear c6 hcp hfp hpW
    generalize W.setCell ⟨Pb, i, none⟩ (.int .i64 x.1) = W2 at *
    refine round_region_held (fun w' => w'.cell? ⟨w.heap.size, 0, none⟩ = some (.int .i64 i) ∧ w'.cell? ⟨w.heap.size + 1, 0, none⟩ = some (.int .i64 tk) ∧ w'.cell? ⟨Bc, 0, none⟩ = some (.func (.func 79) #[] #[.pointer (some ⟨Bp, 0, none⟩), .pointer (some ⟨By, 0, none⟩), .pointer (some ⟨Br, 0, none⟩), .pointer (some ⟨Bc, 0, none⟩)]))
      hmx (by rintro ⟨_, _, h⟩; exact h) (by kernel_rfl) ⟨k6, k7, kp⟩ (fun hS0 => ?_)
    refine wpAnyH_take (i := 0) (v := .func (.func 79) #[] #[.pointer (some ⟨Bp, 0, none⟩), .pointer (some ⟨By, 0, none⟩), .pointer (some ⟨Br, 0, none⟩), .pointer (some ⟨Bc, 0, none⟩)]) rfl (by kernel_rfl) (by kernel_rfl) (by kernel_rfl) (fun _ _ _ h => h) (Or.inl ⟨by rfl, ?_⟩) hS0 ?_
    · intro w' hSw
      go_simp
    simp only [Act.put]
    refine wpAnyH_take (i := 1) (v := .int .i64 i) rfl (by kernel_rfl) (by kernel_rfl) (by kernel_rfl) (fun _ _ _ h => h) (Or.inl ⟨by rfl, ?_⟩) hS0 ?_
    · intro w' hSw
      go_simp
    simp only [Act.put]
    refine wpAnyH_take (i := 2) (v := .int .i64 ((i:Int) + 1)) rfl (by kernel_rfl) (by kernel_rfl) (by kernel_rfl) (fun _ _ _ h => h) (Or.inl ⟨by rfl, ?_⟩) hS0 ?_
    · intro w' hSw
      go_simp
    simp only [Act.put]
    refine wpAnyH_take (i := 3) (v := .int .i64 tk) rfl (by kernel_rfl) (by kernel_rfl) (by kernel_rfl) (fun _ _ _ h => h) (Or.inl ⟨by rfl, ?_⟩) hS0 ?_
    · intro w' hSw
      go_simp
    simp only [Act.put]
    refine wpAnyH_take (i := 4) (v := .int .i64 x.1) rfl (by kernel_rfl) (by kernel_rfl) (by kernel_rfl) (fun _ _ _ h => h) (Or.inl ⟨by rfl, ?_⟩) hS0 ?_
    · intro w' hSw
      go_simp
    simp only [Act.put]
    refine wpAnyH_take (i := 5) (v := .int .i64 (2 ^ x.1 : Nat)) rfl (by kernel_rfl) (by kernel_rfl) (by kernel_rfl) (fun _ _ _ h => h) (Or.inl ⟨by rfl, ?_⟩) hS0 ?_
    · intro w' hSw
      go_simp
    simp only [Act.put]
    refine wpAnyH_take (i := 6) (v := .int .i64 (tk ||| 2 ^ x.1 : Nat)) rfl (by kernel_rfl) (by kernel_rfl) (by kernel_rfl) (fun _ _ _ h => h) (Or.inl ⟨by rfl, ?_⟩) hS0 ?_
    · intro w' hSw
      go_simp
      rw [← pw_cast]
      exact e4
    simp only [Act.put]
    refine wpAnyH_ready (rs := [7]) (by kernel_rfl) (by simp) (AllReadyH.cons rfl (fun K hK => ?_) AllReadyH.nil)
    go_simp
    refine HCALL.out.mono ?_
    rintro e W3 (⟨rfl, hJ3, hM3, hH3⟩ | ⟨rfl, hys, hsz, hbl⟩)
    · have cell (a : Nat) (v : Value) (h : W2.cell? ⟨a, 0, none⟩ = some v) (ha : ¬ Two A Pb a) : W3.cell? ⟨a, 0, none⟩ = some v := (World.cell?_of_block (a := ⟨a, 0, none⟩) (hM3.block a (World.block_lt_of_cell? W2 _ h) ha)).trans h
      refine hK.out _ _ ⟨cell _ _ k6 (far _ (Nat.le_refl _)), cell _ _ k7 (far _ (by omega)), cell _ _ kp (by rintro (h | h) <;> omega)⟩ fun hS1 => ?_
      refine wpAnyH_take (i := 8) (v := .bool false) rfl (by kernel_rfl) (by kernel_rfl) (by kernel_rfl) (fun _ _ _ h => h) (Or.inl ⟨by rfl, ?_⟩) hS1 ?_
      · intro w' hSw
        go_simp
      simp only [Act.put]
      refine wpAnyH_done (by kernel_rfl) ?_ _
      gi_wp2_with fail
      have hM23 : Mod (Two A Pb) W2 W3 := (Mod.refl (Two A Pb) W2).drew.trans hM3 fun _ h => .inl h
      have hMW3 : Mod (Two A Pb) W W3 := HMs.out.trans hM23 fun _ h => .inl h
      refine ⟨⟨hMW3.size, fun k o hk hh _ => (hMW3.block k (Array.getElem?_eq_some_iff.1 hh).1 (far k (by omega))).trans hh⟩, fun hT => tab_block hT (hMW3.block 1 (tab_lt hT) (by rintro (h | h) <;> omega)), ?_, HMW.out.trans hMW3 fun _ h => .inl h, ?_⟩
      · rw [List.map_append, List.flatMap_append, List.map_append, ← List.append_assoc]
        simpa using hJ3
      · obtain ⟨rest3, h3, h4⟩ := hH3
        rw [List.append_assoc] at h3 h4
        exact ⟨_, h3, h4⟩
    · have blk (k : Nat) (h1 : B0 ≤ k) (h2 : k < W2.heap.size) (h3 : k ≠ Pb) : W3.heap[k]? = W2.heap[k]? := hbl k h1 h2 h3
      have cell (a : Nat) (v : Value) (h : W2.cell? ⟨a, 0, none⟩ = some v) (h1 : B0 ≤ a) (h3 : a ≠ Pb) : W3.cell? ⟨a, 0, none⟩ = some v := (World.cell?_of_block (a := ⟨a, 0, none⟩) (blk a h1 (World.block_lt_of_cell? W2 _ h) h3)).trans h
      have k9 := (blk (w.heap.size + 1 + 1) (by omega) (by omega) (by omega)).trans k8
      obtain ⟨c9, f9⟩ := boxB_cell k9
      refine hK.out _ _ ⟨cell _ _ k6 (by omega) (by omega), cell _ _ k7 (by omega) (by omega), cell _ _ kp hBc hBcP⟩ fun hS1 => ?_
      refine wpAnyH_take (i := 8) (v := .bool true) rfl (by kernel_rfl) (by kernel_rfl) (by kernel_rfl) (fun _ _ _ h => h) (Or.inl ⟨by rfl, ?_⟩) hS1 ?_
      · intro w' hSw
        go_simp
      simp only [Act.put]
      refine wpAnyH_done (by kernel_rfl) ?_ _
      gi_wp2_with fail
      have hs3 : W2.heap.size ≤ W3.heap.size := hsz
      have hbs (k : Nat) (h1 : k ≠ w.heap.size + 1 + 1) : (W3.setCell ⟨w.heap.size + 1 + 1, 0, none⟩ (.bool false)).heap[k]? = W3.heap[k]? := Below.heap_setCell _ _ _ _ h1
      have hss : (W3.setCell ⟨w.heap.size + 1 + 1, 0, none⟩ (.bool false)).heap.size = W3.heap.size := by simp [World.setCell]
      have hWk (k : Nat) (h1 : B0 ≤ k) (h2 : k < W.heap.size) (h3 : k ≠ Pb) (h4 : k ≠ w.heap.size + 1 + 1) : (W3.setCell ⟨w.heap.size + 1 + 1, 0, none⟩ (.bool false)).heap[k]? = W.heap[k]? :=
        (hbs k h4).trans ((blk k h1 (by omega) h3).trans (HMs.out.block k h2 (by rintro (h | h) <;> omega)))
      obtain ⟨T, ys, hT3, hpx, hys⟩ := hys
      have hT4 : W2.heap.size + 3 ≤ T := hT3
      refine ⟨⟨by omega, fun k o hk hh _ => (hWk k (by omega) (Array.getElem?_eq_some_iff.1 hh).1 (by omega) (by omega)).trans hh⟩, rfl, ⟨T, (((pre2.map (·.1)).flatMap fun j => permsF (rs.drop (i + 1)) (tk ||| 2 ^ j) (q ++ [j])).map fun p => (Pb, p)) ++ ys, (by omega), (by rw [List.map_append, List.flatMap_append, List.map_append]; exact (List.prefix_append_right_inj _).2 (by simpa using hpx)), ?_⟩, World.cell?_setCell_same' _ _ _ (by rw [c9]; rfl), by omega, fun k h1 h2 h3 => ?_⟩
      · rw [← List.append_assoc]
        exact hJx _ _ _ _ hys (setCell_low W3 ⟨w.heap.size + 1 + 1, 0, none⟩ _ (by show B0 ≤ w.heap.size + 1 + 1; omega) (by show w.heap.size + 1 + 1 < T; omega))
      · exact (hWk k h1 (by omega) h3 (by omega)).trans (HMW.out.block k (by omega) (by rintro (h | h) <;> omega))
  case done =>
    rintro D xs W hD hS ⟨hJW, hMW, hHW⟩ hK
    rw [hS, ← HR.out] at hJW
    have k8 := (hMW.block (w.heap.size + 1 + 1) (by omega) (by rintro (h | h) <;> omega)).trans hR2
    obtain ⟨c9, f9⟩ := boxB_cell k8
    gi_wp2_with fail
    have hK' := (KeepsOthers.setCell W ⟨w.heap.size + 1 + 1, 0, none⟩ (.bool true)).same D _ hK rfl
    refine ⟨by simp, .inl ⟨_, _, rfl, run_takeDeferred hK', ?_⟩⟩
    have hc5 := cell_kept (World.cell?_setCell_same' W ⟨w.heap.size + 1 + 1, 0, none⟩ (.bool true) (by rw [c9]; rfl)) (grownBy_putObj' _ D (.deferred none)) (fun r e => by cases e; exact ⟨_, hK', rfl⟩)
    have hMF : Mod (Two A Pb) w ((W.setCell ⟨w.heap.size + 1 + 1, 0, none⟩ (.bool true)).putObj D (.deferred none)) :=
      ((hMw2.trans hMW fun _ h => .inl h).setCell (.inr (by show w.heap.size ≤ w.heap.size + 1 + 1; omega)) _).grown (grownBy_putObj' _ D _) fun k e => by cases e; omega
    refine ⟨.bool true, by simp [results, Tryd.f79, go_sem, hc5], .inl ⟨rfl, ?_, hMF, ?_⟩⟩
    · exact hJ _ _ _ (hJ _ _ _ hJW ((Below.refl B0 W).setCell (p := ⟨w.heap.size + 1 + 1, 0, none⟩) (by show B0 ≤ w.heap.size + 1 + 1; omega) _)) (putObj_below _ _ _ (by omega) hK')
    · exact (hHW.mod (Below.heap_setCell _ _ _ _ (by show ¬ _; simp; omega))).mod (World.putObj_heap_other (by omega))
  case stop =>
    rintro D c pre2 W hD hSp ⟨rfl, ⟨T, ys, hT3, hpx, hys⟩, hcr, hsz, hbl⟩ hK
    have hpp : ys <+: ((permsF (rs.drop i) tk q).map fun p => (Pb, p)) := by
      obtain ⟨t, ht⟩ := hSp
      rw [HR.out, ← ht, List.flatMap_append, List.map_append]
      exact hpx.trans (List.prefix_append _ _)
    gi_wp2_with fail
    refine ⟨by simp, .inl ⟨_, _, rfl, run_takeDeferred hK, ?_⟩⟩
    have hc5 := cell_kept hcr (grownBy_putObj' _ D (.deferred none)) (fun r e => by cases e; exact ⟨_, hK, rfl⟩)
    refine ⟨.bool false, by simp [results, Tryd.f79, go_sem, hc5], .inr ⟨rfl, ⟨T, ys, hT3, hpp, hJx _ _ _ _ hys (putObj_low _ _ (by omega) hK rfl)⟩, by simp; omega, fun k h1 h2 h3 => ?_⟩⟩
    rw [World.putObj_heap_other (by omega), hbl k h1 h2 h3]
    exact hMw2.block k h2 (by rintro (h | h) <;> omega)
end Go.Proofs.YtellnklbkjajbaaDoor

namespace Go.Proofs.YtellnklbkjajbaaDoor
open Go.RowKit Go.Shelf
attribute [local go_sem] Oper.semAt_some

theorem perm_any_pre (rs : List Nat) (A l Bp By Br Bc Pb B0 : Nat) (J : List (Nat × List Nat) → World → Prop) (Jx : Nat → List (Nat × List Nat) → World → Prop)
    (hJ : ∀ s X Y, J s X → Below B0 X Y → J s Y) (hJx : ∀ T s X Y, Jx T s X → LowT B0 T X Y → Jx T s Y)
    (hY : ∀ pre x W1, J pre W1 → PreP rs.length A B0 x W1 → YieldAt Fence.wide (9 - 1) Tryd.prog l #[.slice (some ⟨x.1, 0, none⟩) rs.length rs.length] W1 fun e W' =>
      (e = .returned (.bool true) ∧ J (pre ++ [x]) W' ∧ Mod (· = A) W1 W') ∨ (e = .returned (.bool false) ∧ Jx W1.heap.size (pre ++ [x]) W' ∧ Hi B0 W1 W'))
    (hA : A < B0) (hA1 : A ≠ 1) (hPb : B0 ≤ Pb) (hBc : B0 ≤ Bc) (hBcP : Bc ≠ Pb) (hrs : ∀ x ∈ rs, x < 256) (hn : rs.length ≤ 8) (h1 : 1 < B0) :
    ∀ (m i tk : Nat) (pre : List (Nat × List Nat)) (q : List Nat) (w : World), i + m = rs.length → PmEnv rs A l Bp By Br Bc Pb w → Holds w Pb rs.length q → J pre w → q.length = i → (∀ j ∈ q, j < 8) → B0 ≤ w.heap.size → tk < 256 →
      Calls Tryd.prog 79 #[.int .i64 i, .int .i64 tk, .pointer (some ⟨Bp, 0, none⟩), .pointer (some ⟨By, 0, none⟩), .pointer (some ⟨Br, 0, none⟩), .pointer (some ⟨Bc, 0, none⟩)] w (PmPre rs A Pb B0 J Jx pre tk q i w)
  | 0, i, tk, pre, q, w, hi, hE, hP, h0, hq, hq8, hB, _ => by
    obtain rfl : i = rs.length := by omega
    exact perm_leaf_pre rs A l Bp By Br Bc Pb B0 tk J Jx pre q w hJ hJx hY hE hP h0 hq hq8 hA hPb hB
  | m + 1, i, tk, pre, q, w, hi, hE, hP, h0, hq, hq8, hB, htk =>
    perm_step_pre rs A l Bp By Br Bc Pb B0 tk i m J Jx pre q w hJ hJx hE hP h0 hq hq8 hA hA1 hPb hB hi hBc hBcP hrs hn htk h1 fun tk pre q w hE hP h0 hq hq8 hB htk =>
      perm_any_pre rs A l Bp By Br Bc Pb B0 J Jx hJ hJx hY hA hA1 hPb hBc hBcP hrs hn h1 m (i + 1) tk pre q w (by omega) hE hP h0 hq hq8 hB htk

set_option maxRecDepth 100000 in
set_option maxHeartbeats 1000000 in
theorem perms_iter_pre (rs : List Nat) (A Br : Nat) (w : World) (hA : A < w.heap.size) (hA1 : A ≠ 1) (hT : Tab w) {ao : Option Addr} {cap : Nat} (hr : w.cell? ⟨Br, 0, none⟩ = some (.slice ao rs.length cap)) (hcap : rs.length ≤ cap)
    (hel : ∀ k, k < rs.length → ∃ b o, ao = some ⟨b, o, none⟩ ∧ b ≠ A ∧ w.cell? ⟨b, o + k, none⟩ = some (.int .i64 (rs.getD k 0 : Nat))) (hBr : Br ≠ A) (hrs : ∀ x ∈ rs, x < 256) (hn : rs.length ≤ 8) :
    IterT 9 Tryd.prog 78 #[.pointer (some ⟨Br, 0, none⟩)] (fun x : Nat × List Nat => #[.slice (some ⟨x.1, 0, none⟩) rs.length rs.length]) (PreP rs.length A w.heap.size) A (fun xs => xs.map (·.2) = permsF rs 0 []) (fun xs => xs.map (·.2) <+: permsF rs 0 []) w := by
  intro l J Jx W hW hJ hJx hY h0
  have hTW : Tab W := tab_block hT (hW.block 1 (tab_lt hT))
  have hrW := ck hr hW
  have hsz := hW.size
  have hlt1 := tab_lt hT
  have hmk : ∀ X : World, (Instr.makeSlice 22 (.int .i64 (rs.length:Int)) (.int .i64 (rs.length:Int))).run Tryd.prog X = .ok (.slice (some ⟨X.heap.size, 0, none⟩) rs.length rs.length) (X.alloc (.cells (ints (List.replicate rs.length 0)).toArray 3)) :=
    run_make22 rs.length rs.length (Nat.le_refl _) (by omega)
  obtain ⟨p0, p1, p2, p3, pB⟩ := pm4_c W l rs.length Br
  have hE : PmEnv rs A l (W.heap.size + 1 + 1) W.heap.size Br (W.heap.size + 1 + 1 + 1) (W.heap.size + 1) (pm4 W l rs.length Br) := by
    have hbr := World.block_lt_of_cell? w _ hr
    refine pmEnv_mk (tab_block hTW (pB.block 1 (tab_lt hTW))) hA1 (by omega) p2 p0 (ao := ao) (cap := cap) (ck hrW pB) hcap (fun k hk => ?_) p3 (by omega) (by omega) ⟨hBr, by simp at hbr; omega⟩ (by omega)
    obtain ⟨b, o, e, hne, hc⟩ := hel k hk
    have := World.block_lt_of_cell? w _ hc
    exact ⟨b, o, e, hne, by simp at this; omega, ck (ck hc hW) pB⟩
  have hH : Holds (pm4 W l rs.length Br) (W.heap.size + 1) rs.length [] := ⟨List.replicate rs.length 0, by simpa using p1, by simp⟩
  have HC := Lib.hid (perm_any_pre rs A l (W.heap.size + 1 + 1) W.heap.size Br (W.heap.size + 1 + 1 + 1) (W.heap.size + 1) W.heap.size J Jx hJ hJx
    (fun pre x W1 hj hp => hY pre x W1 hj ⟨hp.1, hp.2.1, hp.2.2.1, hp.2.2.2.1, by have := hp.2.2.2.2; omega⟩) (by omega) hA1 (by omega) (by omega) (by omega) hrs hn (by omega)
    rs.length 0 0 [] [] (pm4 W l rs.length Br) (by omega) hE hH (hJ _ _ _ h0 pB) rfl (by simp) pB.size (by omega))
  have hr1 := alloc_cell (.cells #[.func (.yield l) #[] #[]] 27) hrW
  have HB := Lib.hid pB
  clear hE hH p0 p1 p2 p3 pB hY h0 hel hTW hT hrW hr
  refine callsIn_wide.2 ?_
  go_enter Tryd.func78, Tryd.ntmps78
  go_wp2_with fail
  refine HC.out.mono ?_
  rintro e W2 (⟨rfl, hJ2, _, _⟩ | ⟨rfl, ⟨T, ys, _, hpx, hys⟩, _, _⟩)
  · have HJ2 := Lib.hid hJ2
    clear HC hJ2
    go_wp2_with fail
    go_end0
    exact ⟨⟨_, rfl⟩, .inl ⟨_, by simp [Function.comp_def], HJ2.out⟩⟩
  · have HJ2 := Lib.hid hys
    clear HC hys
    go_wp2_with fail
    go_end0
    exact ⟨⟨_, rfl⟩, .inr ⟨T, _, (by obtain ⟨t, ht⟩ := hpx; refine ⟨t.map (·.2), ?_⟩; rw [List.nil_append, ← List.map_append, ht]; simp [Function.comp_def]), HJ2.out⟩⟩

end Go.Proofs.YtellnklbkjajbaaDoor
