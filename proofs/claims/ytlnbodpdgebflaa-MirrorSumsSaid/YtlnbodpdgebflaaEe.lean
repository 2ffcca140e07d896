/- the reference: what stands in memory while its table is made -/
import Derived.Test.YtlnbodpdgebflaaEd
namespace Go.Proofs.Ytlnbodpdgebflaa
open Go.RowKit

/-- The three columns: words, points, products. -/
def colD (g c i : Nat) : List Nat := if c = 0 then wd g i else if c = 1 then pt g i else rw_ g i
def upd {α : Type} (f : Nat → α) (c : Nat) (v : α) : Nat → α := fun j => if j = c then v else f j
structure ET (w W : World) (g : Nat) (vs : Nat → Value) (ns : Nat → Nat) (xs : Nat → List Value) : Prop where
  gb : Blk 23 W w.heap.size #[.int .u8 (kd g), .int .i64 (nm g)]
  res : Blk 39 W (w.heap.size + 1) #[.slice none 0 0, .slice none 0 0, .slice none 0 0]
  box : Blk 39 W (w.heap.size + 1 + 1) #[vs 0, vs 1, vs 2]
  own : ∀ c, c < 3 → W.ownsRow (w.heap.size + 3) 24 1 (vs c) (ns c) (xs c)
  el : ∀ c, c < 3 → ∀ i, i < ns c → Bg (w.heap.size + 3) W ((xs c).getD i undef) (colD g c i)
  dis : ∀ c c', c < 3 → c' < 3 → c ≠ c' → ∀ b, (vs c).ownBlock = some b → (vs c').ownBlock ≠ some b
  b : Below w.heap.size w W
variable {w W W' : World} {g : Nat} {vs : Nat → Value} {ns : Nat → Nat} {xs : Nat → List Value}
theorem ET.len (h : ET w W g vs ns xs) {c : Nat} (hc : c < 3) : (xs c).length = ns c := by have := (h.own c hc).1; omega
theorem ET.below (h : ET w W g vs ns xs) (hb : Below W.heap.size W W') : ET w W' g vs ns xs := by
  have hg := grown_of_below hb
  exact ⟨h.gb.below hb, h.res.below hb, h.box.below hb, fun c hc => (h.own c hc).kept hg (own_none _), fun c hc i hi => (h.el c hc i hi).kept hg (own_none _), h.dis, h.b.trans (hb.mono h.b.size)⟩
theorem ET.alloc (h : ET w W g vs ns xs) (o : Obj) : ET w (W.alloc o) g vs ns xs := h.below ((Below.refl _ _).alloc (Nat.le_refl _) o)
theorem ET.drew (h : ET w W g vs ns xs) : ET w W.drew g vs ns xs := h.below (below_drew (Below.refl _ _))
/-- A block of its own grows that is none of these. -/
theorem ET.grown (h : ET w W g vs ns xs) {B e n : Nat} {v : Value} {ys : List Value} (hv : W.ownsRow B e 1 v n ys) (he : e = 3) (hB : w.heap.size + 3 ≤ B) (hg : W.grownBy W' v.ownBlock)
    (ho : ∀ c, c < 3 → ∀ i, i < ns c → ((xs c).getD i undef).ownBlock = none ∨ ((xs c).getD i undef).ownBlock ≠ v.ownBlock) : ET w W' g vs ns xs := by
  subst he
  have hn : ∀ k, k < w.heap.size + 3 → some k ≠ v.ownBlock := fun k hk => own_some hv (by omega)
  exact ⟨(hg.block _ h.gb.lt (hn _ (by omega))).trans h.gb, (hg.block _ h.res.lt (hn _ (by omega))).trans h.res, (hg.block _ h.box.lt (hn _ (by omega))).trans h.box,
    fun c hc => (h.own c hc).kept hg (own_own (h.own c hc) hv (by decide)), fun c hc i hi => (h.el c hc i hi).kept hg (ho c hc i hi), h.dis, h.b.grown hg (by have := h.gb.lt; omega) fun k e => by have := (hv.lt k e).1; omega⟩
/-- A column grows. -/
theorem ET.push (h : ET w W g vs ns xs) {c : Nat} (hc : c < 3) {u v' : Value} (hu : Bg (w.heap.size + 3) W u (colD g c (ns c))) (hg : W.grownBy W' (vs c).ownBlock) (hw : W'.ownsRow (w.heap.size + 3) 24 1 v' (ns c + 1) (xs c ++ [u]))
    (hloc : v'.ownBlock = (vs c).ownBlock ∨ ∀ b, v'.ownBlock = some b → ∀ c', c' < 3 → c' ≠ c → (vs c').ownBlock ≠ some b) : ET w (W'.setCell ⟨w.heap.size + 1 + 1, c, none⟩ v') g (upd vs c v') (upd ns c (ns c + 1)) (upd xs c (xs c ++ [u])) := by
  have hn : ∀ k, k < w.heap.size + 3 → some k ≠ (vs c).ownBlock := fun k hk => own_some (h.own c hc) (by omega)
  have b1 : Blk 39 W' (w.heap.size + 1 + 1) #[vs 0, vs 1, vs 2] := (hg.block _ h.box.lt (hn _ (by omega))).trans h.box
  have g1 : Blk 23 W' w.heap.size _ := (hg.block _ h.gb.lt (hn _ (by omega))).trans h.gb
  have r1 : Blk 39 W' (w.heap.size + 1) _ := (hg.block _ h.res.lt (hn _ (by omega))).trans h.res
  have g2 := grown_cell W' ⟨w.heap.size + 1 + 1, c, none⟩ v'
  have hother : ∀ c', c' < 3 → c' ≠ c → (vs c').ownBlock = none ∨ (vs c').ownBlock ≠ (vs c).ownBlock := fun c' hc' hne => by
    rcases hq : (vs c').ownBlock with _ | b
    · exact .inl rfl
    · exact .inr fun e => h.dis c' c hc' hc hne b hq e.symm
  have K : ∀ {v : Value} {p : List Nat}, Bg (w.heap.size + 3) W v p → Bg (w.heap.size + 3) (W'.setCell ⟨w.heap.size + 1 + 1, c, none⟩ v') v p := fun {v p} hh => by
    have h1 : Bg (w.heap.size + 3) W' v p := World.ownsRow.kept hh hg (own_own hh (h.own c hc) (by decide))
    exact World.ownsRow.kept h1 g2 (own_type h1 b1 (by simp))
  refine ⟨g1.other (by omega) _ _, r1.other (by omega) _ _, ?_, fun c' hc' => ?_, fun c' hc' i hi => ?_, fun c1 c2 h1 h2 hne b e1 e2 => ?_,
    (h.b.grown hg (by have := h.gb.lt; omega) (fun k e => by have := ((h.own c hc).lt k e).1; omega)).setCell (p := ⟨w.heap.size + 1 + 1, c, none⟩) (by show w.heap.size ≤ w.heap.size + 1 + 1; omega) v'⟩
  · have := b1.set c v'
    rcases (show c = 0 ∨ c = 1 ∨ c = 2 by omega) with rfl | rfl | rfl <;> exact this
  · by_cases e : c' = c
    · subst e
      simp only [upd, if_true]
      exact hw.kept g2 (own_type hw b1 (by simp))
    · simp only [upd, if_neg e]
      have h1 := (h.own c' hc').kept hg (hother c' hc' e)
      exact h1.kept g2 (own_type h1 b1 (by simp))
  · by_cases e : c' = c
    · subst e
      simp only [upd, if_true] at hi ⊢
      rw [getD_snoc, h.len hc']
      by_cases e2 : i = ns c'
      · rw [if_pos e2, e2]; exact K hu
      · rw [if_neg e2]; exact K (h.el c' hc' i (by omega))
    · simp only [upd, if_neg e] at hi ⊢
      exact K (h.el c' hc' i hi)
  · by_cases q1 : c1 = c
    · subst q1
      simp only [upd, if_true, if_neg (Ne.symm hne)] at e1 e2
      rcases hloc with e | e
      · exact h.dis c1 c2 h1 h2 hne b (by rw [← e]; exact e1) e2
      · exact e b e1 c2 h2 (Ne.symm hne) e2
    · by_cases q2 : c2 = c
      · subst q2
        simp only [upd, if_true, if_neg hne] at e1 e2
        rcases hloc with e | e
        · exact h.dis c1 c2 h1 h2 hne b e1 (by rw [← e]; exact e2)
        · exact e b e2 c1 h1 hne e1
      · simp only [upd, if_neg q1, if_neg q2] at e1 e2
        exact h.dis c1 c2 h1 h2 hne b e1 e2
theorem ET.fresh (h : ET w W g vs ns xs) {c : Nat} {v' : Value} (e : v'.ownBlock = (vs c).ownBlock ∨ v'.ownBlock = some W.heap.size) :
    v'.ownBlock = (vs c).ownBlock ∨ ∀ b, v'.ownBlock = some b → ∀ c', c' < 3 → c' ≠ c → (vs c').ownBlock ≠ some b :=
  e.imp id fun e b hb c' hc' _ q => by
    rw [e] at hb
    cases hb
    have := ((h.own c' hc').lt _ q).2
    omega
theorem ET.at (h : ET w W g vs ns xs) : (W.cell? ⟨w.heap.size + 1 + 1, 0, none⟩ = some (vs 0) ∧ W.cell? ⟨w.heap.size + 1 + 1, 1, none⟩ = some (vs 1) ∧ W.cell? ⟨w.heap.size + 1 + 1, 2, none⟩ = some (vs 2)) ∧
    (W.frozen? ⟨w.heap.size + 1 + 1, 0, none⟩ = false ∧ W.frozen? ⟨w.heap.size + 1 + 1, 1, none⟩ = false ∧ W.frozen? ⟨w.heap.size + 1 + 1, 2, none⟩ = false) ∧ W.cell? ⟨w.heap.size, 0, none⟩ = some (.int .u8 (kd g)) ∧ W.cell? ⟨w.heap.size, 1, none⟩ = some (.int .i64 (nm g)) :=
  ⟨⟨h.box.cell 0, h.box.cell 1, h.box.cell 2⟩, ⟨h.box.fr 0, h.box.fr 1, h.box.fr 2⟩, h.gb.at0.1, h.gb.at0.2⟩
theorem colD_bd {c i : Nat} (hg : g < 17) (hi : i < nE g) : (colD g c i).length ≤ 24 ∧ ∀ x ∈ colD g c i, x < 65536 := by
  unfold colD
  split
  · have := (tx hg hi).2.1; unfold ln at this; exact ⟨by omega, wd_bd hg hi⟩
  · split
    · exact ⟨by rw [pt_len]; exact (pg hg).1, pt_bd hg hi⟩
    · refine ⟨by rw [rw_length]; have := (tg hg).2.2.2.1; omega, fun x hx => ?_⟩
      obtain ⟨s, hs, rfl⟩ := List.mem_map.1 hx
      have := (tb hg hi (List.mem_range.1 hs)).2.1
      have := (tE hg).2
      omega
/-- A column, read. -/
theorem ET.read (h : ET w W g vs ns xs) (hg : g < 17) {c : Nat} (hc : c < 3) (hn : ns c ≤ nE g) {b n k : Nat} (hv : vs c = .slice (some ⟨b, 0, none⟩) n k) : n = ns c ∧ n ≤ k ∧ Pts W b n (colD g c) := by
  have ho := h.own c hc
  rw [hv] at ho
  have hnn : n = ns c := by
    obtain ⟨_, h2⟩ := ho
    rcases h2 with ⟨e, _⟩ | ⟨_, _, _, e, _⟩
    · simp at e
    · simp only [Value.slice.injEq] at e; exact e.2.1
  subst hnn
  have hcap : ns c ≤ k := by
    obtain ⟨_, h2⟩ := ho
    rcases h2 with ⟨e, _⟩ | ⟨_, _, _, e, _, _, h3, _⟩
    · simp at e
    · simp only [Value.slice.injEq] at e; omega
  refine ⟨rfl, hcap, fun i hi => ?_⟩
  have h6 := h.el c hc i hi
  obtain ⟨a, q, e⟩ := owns_form h6
  have hd := colD_bd (c := c) hg (show i < nE g by omega)
  refine ⟨a, q, by rw [own_cell ho hi, e], ?_⟩
  rw [e] at h6
  exact Bg.nats h6 (by omega) hd.2
end Go.Proofs.Ytlnbodpdgebflaa
