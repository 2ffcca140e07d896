/- what stands in memory while the table is made -/
import Derived.Test.YtlnbodpdgebflaaNb
import Derived.Maps.AppendAt
namespace Go.Proofs.Ytlnbodpdgebflaa
open Go.RowKit

theorem grown_of_below {W W' : World} (h : Below W.heap.size W W') : W.grownBy W' none := ⟨h.os, h.tape, h.output, h.size, fun k hk _ => h.block k hk⟩
theorem grown_cell (W : World) (a : Addr) (u : Value) : W.grownBy (W.setCell a u) (some a.block) :=
  ⟨rfl, rfl, rfl, by simp [World.setCell], fun k _ hn => Below.heap_setCell _ _ _ _ (fun e => hn (by rw [e]))⟩
theorem own_type {W : World} {B e s n b : Nat} {v : Value} {xs : List Value} {o : Obj} (h : W.ownsRow B e s v n xs) (hb : W.heap[b]? = some o) (ho : ∀ cs, o ≠ .cells cs e (0, 0)) : v.ownBlock = none ∨ v.ownBlock ≠ some b := by
  obtain ⟨_, h2⟩ := h
  rcases h2 with ⟨rfl, _⟩ | ⟨g, cap, cur, rfl, _, hg, _⟩
  · exact .inl rfl
  · refine .inr fun e => ?_
    have e : g = b := by simpa [Value.ownBlock] using e
    subst e
    rw [hg] at hb
    exact ho _ (Option.some.inj hb).symm
theorem own_own {W : World} {B B' e e' s s' n n' : Nat} {v v' : Value} {xs xs' : List Value} (h : W.ownsRow B e s v n xs) (h' : W.ownsRow B' e' s' v' n' xs') (hne : e ≠ e') : v.ownBlock = none ∨ v.ownBlock ≠ v'.ownBlock := by
  obtain ⟨_, h2⟩ := h'
  rcases h2 with ⟨rfl, _⟩ | ⟨g, cap, cur, rfl, _, hg, _⟩
  · rcases hv : v.ownBlock with _ | b
    · exact .inl rfl
    · exact .inr (by simp [Value.ownBlock])
  · exact own_type h hg (fun cs e => hne (by cases e; rfl))
theorem own_lt {W : World} {B e s n b : Nat} {v : Value} {xs : List Value} (h : W.ownsRow B e s v n xs) (hb : b < B) : v.ownBlock = none ∨ v.ownBlock ≠ some b := by
  rcases hv : v.ownBlock with _ | c
  · exact .inl rfl
  · have := (h.lt c hv).1
    exact .inr (by intro e; cases e; omega)
theorem own_none (v : Value) : v.ownBlock = none ∨ v.ownBlock ≠ none := by
  cases v.ownBlock <;> simp

/-- Slices of ints in blocks of their own. -/
def Bg (B : Nat) (W : World) (v : Value) (p : List Nat) : Prop := W.ownsRow B 3 1 v p.length (ints (nats p))
theorem Bg.nats {B : Nat} {W : World} {v : Value} {p : List Nat} (h : Bg B W v p) (hl : p.length ≤ 1000) (hp : ∀ x ∈ p, x < 65536) : Nats W v p :=
  Ints.of_owns (n := p.length) h (by omega) (nats_I64 hp)

/-- The steps: block S has the turns of the first m mirrors. -/
structure Sts (W : World) (g S m : Nat) : Prop where
  r : ∀ s, s < m → W.rangeAt S (s * 24) (byt (tn g (rt g 0 s))).toList
  th : W.there S 0 (kM g * 24)
theorem Sts.kept {W W' : World} {g S m : Nat} (h : Sts W g S m) (hb : W'.heap[S]? = W.heap[S]?) : Sts W' g S m :=
  ⟨fun s hs j v hj => by rw [World.cell?_of_block (w := W) (by exact hb)]; exact h.r s hs j v hj,
   fun j hj => by rw [World.cell?_of_block (w := W) (by exact hb), World.frozen?_of_block (w := W) (by exact hb)]; exact h.th j hj⟩

def flatT (g n : Nat) : List Value := (List.range n).flatMap fun i => (byt (tn g i)).toList
theorem flatT_succ (g n : Nat) : flatT g (n + 1) = flatT g n ++ (byt (tn g n)).toList := by simp [flatT, List.range_succ]
theorem flatT_length (g n : Nat) : (flatT g n).length = n * 24 := by
  induction n with
  | zero => rfl
  | succ n ih => rw [flatT_succ, List.length_append, ih, Array.length_toList, byt_size]; omega
theorem flatT_get (g n i p : Nat) (hi : i < n) (hp : p < 24) : (flatT g n)[i * 24 + p]? = (byt (tn g i))[p]? := by
  induction n with
  | zero => omega
  | succ n ih =>
    rw [flatT_succ]
    by_cases e : i = n
    · subst e
      rw [List.getElem?_append_right (by rw [flatT_length]; omega), flatT_length, show i * 24 + p - i * 24 = p by omega]
      simp
    · rw [List.getElem?_append_left (by rw [flatT_length]; omega)]
      exact ih (by omega)
/-- A turn out of the slice of all. -/
theorem turn_at {W : World} {B g n cap i : Nat} {ad : Option Addr} (h : W.ownsRow B 117 24 (.slice ad n cap) n (flatT g n)) (hi : i < n) : ∃ b, ad = some ⟨b, 0, none⟩ ∧ W.rangeAt b (i * 24) (byt (tn g i)).toList := by
  obtain ⟨_, h2⟩ := h
  rcases h2 with ⟨e, _⟩ | ⟨b, cap', cur, e, _, hb, hc, _, _, hx⟩
  · cases e; omega
  · cases e
    refine ⟨b, rfl, fun j v hj => ?_⟩
    have hlt : j < 24 := by have := (List.getElem?_eq_some_iff.1 hj).1; rwa [Array.length_toList, byt_size] at this
    have h1 := flatT_get g n i j hi hlt
    rw [← hx, List.getElem?_take_of_lt (by omega)] at h1
    simp only [World.cell?, hb]
    rw [← hj]
    simpa using h1

def rw_ (g x : Nat) : List Nat := (List.range (kM g)).map (rt g x)

structure NT (w W : World) (g S M T0 nm nt nw x : Nat) (vt vw vr : Value) (ws rs : List Value) : Prop where
  st : Sts W g S (kM g)
  map : ∃ D : DataW Unit, MapOk g nm D ∧ W.ownsMap Try.prog 117 (plainElem Try.prog 3) M nm D
  t : W.ownsRow (S + 1) 117 24 vt nt (flatT g nt)
  box : Blk 82 W T0 #[vw, vr]
  ow : W.ownsRow (S + 1) 24 1 vw nw ws
  or : W.ownsRow (S + 1) 24 1 vr x rs
  wr : ∀ i, i < nw → Bg (S + 1) W (ws.getD i undef) (wd g i)
  rr : ∀ i, i < x → Bg (S + 1) W (rs.getD i undef) (rw_ g i)
  dis : ∀ b, vw.ownBlock = some b → vr.ownBlock ≠ some b
  b : Below w.heap.size w W
  lt : w.heap.size ≤ S ∧ S < M ∧ S < T0 ∧ M ≠ T0 ∧ S < W.heap.size

variable {w W W' : World} {g S M T0 nm nt nw x : Nat} {vt vw vr : Value} {ws rs : List Value}

theorem NT.mapBlk (h : NT w W g S M T0 nm nt nw x vt vw vr ws rs) : ∃ es c, W.heap[M]? = some (.map es c) := by
  obtain ⟨D, _, es, c, hb, _⟩ := h.map
  exact ⟨es, c, hb⟩
theorem NT.wl (h : NT w W g S M T0 nm nt nw x vt vw vr ws rs) : ws.length = nw := by have := h.ow.1; omega
theorem NT.rl (h : NT w W g S M T0 nm nt nw x vt vw vr ws rs) : rs.length = x := by have := h.or.1; omega

/-- Other blocks are made, or written that are none of these. -/
theorem NT.keep {row : Option Nat} (h : NT w W g S M T0 nm nt nw x vt vw vr ws rs) (hg : W.grownBy W' row) (hr : ∀ k, row = some k → w.heap.size ≤ k) (hS : some S ≠ row) (hM : some M ≠ row) (hT : some T0 ≠ row) (ht : vt.ownBlock = none ∨ vt.ownBlock ≠ row)
    (hw : vw.ownBlock = none ∨ vw.ownBlock ≠ row) (hv : vr.ownBlock = none ∨ vr.ownBlock ≠ row) (hws : ∀ i, i < nw → (ws.getD i undef).ownBlock = none ∨ (ws.getD i undef).ownBlock ≠ row)
    (hrs : ∀ i, i < x → (rs.getD i undef).ownBlock = none ∨ (rs.getD i undef).ownBlock ≠ row) : NT w W' g S M T0 nm nt nw x vt vw vr ws rs := by
  obtain ⟨D, hD, hm⟩ := h.map
  exact ⟨h.st.kept (hg.block S h.lt.2.2.2.2 hS), ⟨D, hD, hm.kept hg hM⟩, h.t.kept hg ht, (hg.block T0 h.box.lt hT).trans h.box, h.ow.kept hg hw, h.or.kept hg hv, fun i hi => (h.wr i hi).kept hg (hws i hi), fun i hi => (h.rr i hi).kept hg (hrs i hi), h.dis,
    h.b.grown hg (by have := h.lt; omega) hr, ⟨h.lt.1, h.lt.2.1, h.lt.2.2.1, h.lt.2.2.2.1, Nat.lt_of_lt_of_le h.lt.2.2.2.2 hg.size⟩⟩
theorem NT.below (h : NT w W g S M T0 nm nt nw x vt vw vr ws rs) (hb : Below W.heap.size W W') : NT w W' g S M T0 nm nt nw x vt vw vr ws rs :=
  h.keep (grown_of_below hb) (fun k e => by cases e) (by simp) (by simp) (by simp) (own_none _) (own_none _) (own_none _) (fun _ _ => own_none _) (fun _ _ => own_none _)
theorem NT.alloc (h : NT w W g S M T0 nm nt nw x vt vw vr ws rs) (o : Obj) : NT w (W.alloc o) g S M T0 nm nt nw x vt vw vr ws rs := h.below ((Below.refl _ _).alloc (Nat.le_refl _) o)
/-- The map learns an element. -/
theorem NT.put (h : NT w W g S M T0 nm nt nw x vt vw vr ws rs) (hg : W.grownBy W' (some M)) (hm : ∃ D : DataW Unit, MapOk g (nm + 1) D ∧ W'.ownsMap Try.prog 117 (plainElem Try.prog 3) M (nm + 1) D) :
    NT w W' g S M T0 (nm + 1) nt nw x vt vw vr ws rs := by
  obtain ⟨es, c, hb⟩ := h.mapBlk
  exact ⟨h.st.kept (hg.block S h.lt.2.2.2.2 (by have := h.lt; simp; omega)), hm, h.t.kept hg (own_type h.t hb (by simp)), (hg.block T0 h.box.lt (by have := h.lt; simp; omega)).trans h.box, h.ow.kept hg (own_type h.ow hb (by simp)), h.or.kept hg (own_type h.or hb (by simp)),
    fun i hi => (h.wr i hi).kept hg (own_type (h.wr i hi) hb (by simp)), fun i hi => (h.rr i hi).kept hg (own_type (h.rr i hi) hb (by simp)), h.dis,
    h.b.grown hg (by have := h.lt; omega) (fun k e => by cases e; have := h.lt; omega), ⟨h.lt.1, h.lt.2.1, h.lt.2.2.1, h.lt.2.2.2.1, Nat.lt_of_lt_of_le h.lt.2.2.2.2 hg.size⟩⟩
theorem own_some {B e s n : Nat} {v : Value} {xs : List Value} (h : W.ownsRow B e s v n xs) {b : Nat} (hb : b < B) : some b ≠ v.ownBlock := fun e => by
  have := (h.lt b e.symm).1
  omega
theorem own_blk {B e s n b : Nat} {v : Value} {xs : List Value} {o : Obj} (h : W.ownsRow B e s v n xs) (hb : W.heap[b]? = some o) (ho : ∀ cs, o ≠ .cells cs e (0, 0)) : some b ≠ v.ownBlock := fun e => by
  rcases own_type h hb ho with h1 | h1
  · rw [h1] at e; cases e
  · exact h1 e.symm
/-- A turn more. -/
theorem NT.turn {vt' : Value} (h : NT w W g S M T0 nm nt nw x vt vw vr ws rs) (hg : W.grownBy W' vt.ownBlock) (ht : W'.ownsRow (S + 1) 117 24 vt' (nt + 1) (flatT g (nt + 1))) :
    NT w W' g S M T0 nm (nt + 1) nw x vt' vw vr ws rs := by
  obtain ⟨es, c, hb⟩ := h.mapBlk
  obtain ⟨D, hD, hm⟩ := h.map
  exact ⟨h.st.kept (hg.block S h.lt.2.2.2.2 (own_some h.t (by omega))), ⟨D, hD, hm.kept hg (own_blk h.t hb (by simp))⟩, ht, (hg.block T0 h.box.lt (own_blk h.t h.box (by simp))).trans h.box, h.ow.kept hg (own_own h.ow h.t (by decide)), h.or.kept hg (own_own h.or h.t (by decide)),
    fun i hi => (h.wr i hi).kept hg (own_own (h.wr i hi) h.t (by decide)), fun i hi => (h.rr i hi).kept hg (own_own (h.rr i hi) h.t (by decide)), h.dis,
    h.b.grown hg (by have := h.lt; omega) (fun k e => by have := (h.t.lt k e).1; have := h.lt; omega), ⟨h.lt.1, h.lt.2.1, h.lt.2.2.1, h.lt.2.2.2.1, Nat.lt_of_lt_of_le h.lt.2.2.2.2 hg.size⟩⟩
theorem getD_snoc (l : List Value) (u : Value) (i : Nat) : (l ++ [u]).getD i undef = if i = l.length then u else l.getD i undef := by
  by_cases e : i = l.length
  · subst e; simp
  · rw [if_neg e]
    by_cases h : i < l.length
    · simp [List.getElem?_append_left h]
    · rw [getD_over (by simp; omega), getD_over (by omega)]
/-- A word more. -/
theorem NT.word {vw' u : Value} (h : NT w W g S M T0 nm nt nw x vt vw vr ws rs) (hu : Bg (S + 1) W u (wd g nw)) (hg : W.grownBy W' vw.ownBlock) (hw : W'.ownsRow (S + 1) 24 1 vw' (nw + 1) (ws ++ [u]))
    (hloc : vw'.ownBlock = vw.ownBlock ∨ vw'.ownBlock = some W.heap.size) : NT w (W'.setCell ⟨T0, 0, none⟩ vw') g S M T0 nm nt (nw + 1) x vt vw' vr (ws ++ [u]) rs := by
  obtain ⟨es, c, hb⟩ := h.mapBlk
  obtain ⟨D, hD, hm⟩ := h.map
  have hv : vr.ownBlock = none ∨ vr.ownBlock ≠ vw.ownBlock := by
    rcases hq : vr.ownBlock with _ | b
    · exact .inl rfl
    · exact .inr fun e => h.dis b e.symm hq
  have b1 : Blk 82 W' T0 #[vw, vr] := (hg.block T0 h.box.lt (own_blk h.ow h.box (by simp))).trans h.box
  have hM : W'.heap[M]? = some (.map es c) := (hg.block M (Array.getElem?_eq_some_iff.1 hb).1 (own_blk h.ow hb (by simp))).trans hb
  have g2 := grown_cell W' ⟨T0, 0, none⟩ vw'
  have wl := h.wl
  have K : ∀ {v : Value} {p : List Nat}, Bg (S + 1) W v p → Bg (S + 1) (W'.setCell ⟨T0, 0, none⟩ vw') v p := fun {v p} hh => by
    have h1 : Bg (S + 1) W' v p := World.ownsRow.kept hh hg (own_own hh h.ow (by decide))
    exact World.ownsRow.kept h1 g2 (own_type h1 b1 (by simp))
  have t1 := h.t.kept hg (own_own h.t h.ow (by decide))
  have r1 := h.or.kept hg hv
  have s1 := h.st.kept (hg.block S h.lt.2.2.2.2 (own_some h.ow (by omega)))
  have m1 := hm.kept hg (own_blk h.ow hb (by simp))
  refine ⟨s1.kept (Below.heap_setCell _ _ _ _ (by show S ≠ T0; have := h.lt; omega)), ⟨D, hD, m1.kept g2 (by have := h.lt; simp; omega)⟩, t1.kept g2 (own_type t1 b1 (by simp)), b1.set 0 vw', hw.kept g2 (own_type hw b1 (by simp)), r1.kept g2 (own_type r1 b1 (by simp)),
    fun i hi => ?_, fun i hi => K (h.rr i hi), fun b e1 e2 => ?_,
    (h.b.grown hg (by have := h.lt; omega) (fun k e => by have := (h.ow.lt k e).1; have := h.lt; omega)).setCell (p := ⟨T0, 0, none⟩) (by show w.heap.size ≤ T0; have := h.lt; omega) vw', ⟨h.lt.1, h.lt.2.1, h.lt.2.2.1, h.lt.2.2.2.1, by rw [World.size_setCell]; exact Nat.lt_of_lt_of_le h.lt.2.2.2.2 hg.size⟩⟩
  · rw [getD_snoc, wl]
    by_cases e : i = nw
    · rw [if_pos e, e]; exact K hu
    · rw [if_neg e]; exact K (h.wr i (by omega))
  · rcases hloc with e | e
    · exact h.dis b (by rw [← e]; exact e1) e2
    · rw [e] at e1
      cases e1
      have := (h.or.lt _ e2).2
      omega
/-- A row more. -/
theorem NT.row {vr' u : Value} (h : NT w W g S M T0 nm nt nw x vt vw vr ws rs) (hu : Bg (S + 1) W u (rw_ g x)) (hg : W.grownBy W' vr.ownBlock) (hw : W'.ownsRow (S + 1) 24 1 vr' (x + 1) (rs ++ [u]))
    (hloc : vr'.ownBlock = vr.ownBlock ∨ vr'.ownBlock = some W.heap.size) : NT w (W'.setCell ⟨T0, 1, none⟩ vr') g S M T0 nm nt nw (x + 1) vt vw vr' ws (rs ++ [u]) := by
  obtain ⟨es, c, hb⟩ := h.mapBlk
  obtain ⟨D, hD, hm⟩ := h.map
  have hv : vw.ownBlock = none ∨ vw.ownBlock ≠ vr.ownBlock := by
    rcases hq : vw.ownBlock with _ | b
    · exact .inl rfl
    · exact .inr fun e => h.dis b hq e.symm
  have b1 : Blk 82 W' T0 #[vw, vr] := (hg.block T0 h.box.lt (own_blk h.or h.box (by simp))).trans h.box
  have hM : W'.heap[M]? = some (.map es c) := (hg.block M (Array.getElem?_eq_some_iff.1 hb).1 (own_blk h.or hb (by simp))).trans hb
  have g2 := grown_cell W' ⟨T0, 1, none⟩ vr'
  have wl := h.rl
  have K : ∀ {v : Value} {p : List Nat}, Bg (S + 1) W v p → Bg (S + 1) (W'.setCell ⟨T0, 1, none⟩ vr') v p := fun {v p} hh => by
    have h1 : Bg (S + 1) W' v p := World.ownsRow.kept hh hg (own_own hh h.or (by decide))
    exact World.ownsRow.kept h1 g2 (own_type h1 b1 (by simp))
  have t1 := h.t.kept hg (own_own h.t h.or (by decide))
  have r1 := h.ow.kept hg hv
  have s1 := h.st.kept (hg.block S h.lt.2.2.2.2 (own_some h.or (by omega)))
  have m1 := hm.kept hg (own_blk h.or hb (by simp))
  refine ⟨s1.kept (Below.heap_setCell _ _ _ _ (by show S ≠ T0; have := h.lt; omega)), ⟨D, hD, m1.kept g2 (by have := h.lt; simp; omega)⟩, t1.kept g2 (own_type t1 b1 (by simp)), b1.set 1 vr', r1.kept g2 (own_type r1 b1 (by simp)), hw.kept g2 (own_type hw b1 (by simp)),
    fun i hi => K (h.wr i hi), fun i hi => ?_, fun b e1 e2 => ?_,
    (h.b.grown hg (by have := h.lt; omega) (fun k e => by have := (h.or.lt k e).1; have := h.lt; omega)).setCell (p := ⟨T0, 1, none⟩) (by show w.heap.size ≤ T0; have := h.lt; omega) vr', ⟨h.lt.1, h.lt.2.1, h.lt.2.2.1, h.lt.2.2.2.1, by rw [World.size_setCell]; exact Nat.lt_of_lt_of_le h.lt.2.2.2.2 hg.size⟩⟩
  · rw [getD_snoc, wl]
    by_cases e : i = x
    · rw [if_pos e, e]; exact K hu
    · rw [if_neg e]; exact K (h.rr i (by omega))
  · rcases hloc with e | e
    · exact h.dis b e1 (by rw [← e]; exact e2)
    · rw [e] at e2
      cases e2
      have := (h.ow.lt _ e1).2
      omega
end Go.Proofs.Ytlnbodpdgebflaa
