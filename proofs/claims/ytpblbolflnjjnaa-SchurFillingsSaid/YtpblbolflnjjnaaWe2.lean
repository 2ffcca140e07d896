/- fill: what a round does to the memory -/
import Derived.Test.YtpblbolflnjjnaaWe
import Derived.Deep.Cut
namespace Go.Proofs.Ytpblbolflnjjnaa
open Go.RowKit

/-- One number's part of the search. -/
def srchStep (caps : List Nat) (fuel i : Nat) (rs : List (List Int)) (left : List Int) (n : Nat) : List (List (List Int)) :=
  if left.getD (n - 1) 0 = 0 then [] else srch caps fuel i (rs.set i (rs.getD i [] ++ [(n : Int)])) (left.set (n - 1) (left.getD (n - 1) 0 - 1))

def LoopInv (f : Fb) (I : List (List (List Int)) → World → (Nat → Prop) → Prop) (fuel i : Nat) (rs : List (List Int)) (left : List Int) (acc : List (List (List Int))) (w : World) (fp : Nat → Prop) (lo c : Nat) (wr : World) : Prop :=
  ∃ fp', FillSt f wr rs left ∧ I (acc ++ (List.range' lo (c - lo)).flatMap (srchStep f.caps fuel i rs left)) wr fp' ∧ (∀ k, fp' k → ¬ f.mem k) ∧ Mod (fun k => f.mem k ∨ fp k) w wr ∧ ∀ k, fp' k → fp k ∨ w.heap.size ≤ k

theorem FillSt.leftCell {f : Fb} {w : World} {rs : List (List Int)} {left : List Int} (h : FillSt f w rs left) {k : Nat} (hk : k < 8) :
    w.cell? ⟨f.bL, k, none⟩ = some (.int .i64 (left.getD k 0)) ∧ w.frozen? ⟨f.bL, k, none⟩ = false := by
  have := h.hll
  simp [World.cell?, World.frozen?, h.hL, ints, show k < left.length by omega]

theorem FillSt.spare {f : Fb} {w : World} {rs : List (List Int)} {left : List Int} (h : FillSt f w rs left) {i : Nat} (hi : i < f.gs.length) {k : Nat} (hk : k < f.caps.getD i 0) :
    (w.cell? ⟨f.gs.getD i 0, k, none⟩).isSome = true ∧ w.frozen? ⟨f.gs.getD i 0, k, none⟩ = false := by
  obtain ⟨sp, h1, h2⟩ := h.hgs i hi
  simp only [World.cell?, World.frozen?, h2]
  have : k < (ints (rs.getD i []) ++ sp).length := by rw [List.length_append, ints_length]; omega
  generalize ints (rs.getD i []) ++ sp = l at *
  simp [this]

theorem range_step {lo c : Nat} (h : lo ≤ c) : List.range' lo (c + 1 - lo) = List.range' lo (c - lo) ++ [c] := by
  rw [show c + 1 - lo = (c - lo) + 1 by omega, List.range'_1_concat, show lo + (c - lo) = c by omega]

theorem heap_set_at {w : World} {b k : Nat} {cs : Array Value} {t : TypeId} {fr : Nat × Nat} (h : w.heap[b]? = some (.cells cs t fr)) (v : Value) :
    (w.setCell ⟨b, k, none⟩ v).heap[b]? = some (.cells (cs.setIfInBounds k v) t fr) := by
  simp [World.setCell, Array.getElem?_modify, h]

theorem types_ne {w : World} {a b : Nat} {cs cs' : Array Value} {t t' : TypeId} {fr fr' : Nat × Nat} (h : w.heap[a]? = some (.cells cs t fr)) (h' : w.heap[b]? = some (.cells cs' t' fr')) (ht : t ≠ t') : a ≠ b := by
  intro e; subst e
  rw [h] at h'
  simp at h'
  exact ht h'.2.1

/-- how often a number is left is turned. -/
theorem FillSt.setLeft {f : Fb} {w : World} {rs : List (List Int)} {left : List Int} (h : FillSt f w rs left) (k : Nat) (x : Int) (hx : 0 ≤ x ∧ x ≤ 8) :
    FillSt f (w.setCell ⟨f.bL, k, none⟩ (.int .i64 x)) rs (left.set k x) := by
  have key : ∀ b o, b ≠ f.bL → w.heap[b]? = some o → (w.setCell ⟨f.bL, k, none⟩ (.int .i64 x)).heap[b]? = some o := fun b o hb ho => by
    rw [Below.heap_setCell _ _ _ _ hb]; exact ho
  exact { hO := key _ _ (types_ne h.hO h.hL (by decide)) h.hO, hV := key _ _ (types_ne h.hV h.hL (by decide)) h.hV, hR := key _ _ (types_ne h.hR h.hL (by decide)) h.hR,
          hN := key _ _ (types_ne h.hN h.hL (by decide)) h.hN, hrb := key _ _ (types_ne h.hrb h.hL (by decide)) h.hrb,
          hL := by rw [heap_set_at h.hL]; simp [ints, List.map_set]
          hll := by simp [h.hll],
          hgs := fun i hi => by
            obtain ⟨sp, h1, h2⟩ := h.hgs i hi
            exact ⟨sp, h1, key _ _ (types_ne h2 h.hL (by decide)) h2⟩,
          hrs := h.hrs, hnd := h.hnd, hne := h.hne, hnum := h.hnum, hmem := h.hmem,
          hle := fun y hy => by
            rcases List.mem_or_eq_of_mem_set hy with hy | rfl
            · exact h.hle y hy
            · exact hx
          hbel := h.hbel.setCell (h.hmem _ (.inr (.inr (.inr (.inr (.inl rfl)))))) _ }

theorem leastS_bd {xss : List (List Int)} (hb : ∀ xs ∈ xss, ∀ x ∈ xs, 0 ≤ x ∧ x ≤ 8) (i j : Int) : 1 ≤ leastS xss i j ∧ leastS xss i j ≤ 9 := by
  have ha : ∀ i j, 0 ≤ atS xss i j ∧ atS xss i j ≤ 8 := by
    intro i j
    unfold atS
    split
    · by_cases c : i.toNat < xss.length
      · by_cases d : j.toNat < (xss.getD i.toNat []).length
        · exact hb _ (show xss.getD i.toNat [] ∈ xss by simp [List.getD, c]) _ (getD_mem d)
        · rw [getD_over (by omega)]; omega
      · rw [getD_over (l := xss) (by omega)]; simp
    · omega
  have h1 := ha i (j-1)
  have h2 := ha (i-1) j
  unfold leastS
  omega

theorem getD_set {α : Type} (l : List α) (i j : Nat) (x d : α) (hi : i < l.length) : (l.set i x).getD j d = if i = j then x else l.getD j d := by
  by_cases e : i = j
  · subst e; simp [List.getD, hi]
  · simp [List.getD, e]

theorem _root_.List.set_getElem_self' {α : Type} (l : List (List α)) (i : Nat) (h : i < l.length) : l.set i (l.getD i []) = l := by
  simp [List.getD, h]
theorem _root_.List.set_getElem_self'' (l : List Int) (i : Nat) (h : i < l.length) : l.set i (l.getD i 0) = l := by
  simp [List.getD, h]

theorem rowVals_set (f : Fb) (rs : List (List Int)) (i : Nat) (row : List Int) (hi : i < f.gs.length) (hrs : rs.length = f.gs.length) :
    ((List.range f.gs.length).map (f.rowVal rs)).set i (.slice (some ⟨f.gs.getD i 0, 0, none⟩) row.length (f.caps.getD i 0)) = (List.range f.gs.length).map (f.rowVal (rs.set i row)) := by
  refine List.ext_getElem (by simp) fun j h1 h2 => ?_
  have hj : j < f.gs.length := by simpa using h2
  rw [List.getElem_set]
  split
  · rename_i e; subst e
    have e3 : (rs.set i row).getD i [] = row := by rw [getD_set _ _ _ _ _ (by omega), if_pos rfl]
    simp only [List.getElem_map, List.getElem_range, Fb.rowVal]
    rw [e3]
  · rename_i e
    have e3 : (rs.set i row).getD j [] = rs.getD j [] := by rw [getD_set _ _ _ _ _ (by omega), if_neg e]
    simp only [List.getElem_map, List.getElem_range, Fb.rowVal]
    rw [e3]

/-- one row is turned. -/
theorem FillSt.turnRow {f : Fb} {w w' : World} {rs : List (List Int)} {left : List Int} (h : FillSt f w rs left) (i : Nat) (hi : i < f.gs.length) (row : List Int) (sp' : List Value)
    (hlen : row.length + sp'.length = f.caps.getD i 0) (hnum : ∀ x ∈ row, 0 ≤ x ∧ x ≤ 8)
    (hrest : ∀ k, f.mem k → k ≠ f.rb → k ≠ f.gs.getD i 0 → w'.heap[k]? = w.heap[k]?)
    (hrb : w'.heap[f.rb]? = some (.cells (((List.range f.gs.length).map (f.rowVal rs)).set i (.slice (some ⟨f.gs.getD i 0, 0, none⟩) row.length (f.caps.getD i 0))).toArray 22 (0, 0)))
    (hg : w'.heap[f.gs.getD i 0]? = some (.cells (ints row ++ sp').toArray 3 (0, 0))) (hbel : Below f.w0.heap.size w w') :
    FillSt f w' (rs.set i row) left := by
  obtain ⟨sp, hl0, hg0⟩ := h.hgs i hi
  have key : ∀ b o (t : TypeId) (cs : Array Value) (fr : Nat × Nat), f.mem b → b ≠ f.rb → w.heap[b]? = some o → o = .cells cs t fr → t ≠ 3 → w'.heap[b]? = some o := fun b o t cs fr hb hne ho hot ht => by
    rw [hrest b hb hne (types_ne (hot ▸ ho) hg0 ht)]; exact ho
  refine { hO := key _ _ _ _ _ (.inl rfl) h.hne h.hO rfl (by decide), hV := key _ _ _ _ _ (.inr (.inl rfl)) (types_ne h.hV h.hrb (by decide)) h.hV rfl (by decide),
           hR := key _ _ _ _ _ (.inr (.inr (.inl rfl))) (types_ne h.hR h.hrb (by decide)) h.hR rfl (by decide), hN := key _ _ _ _ _ (.inr (.inr (.inr (.inl rfl)))) (types_ne h.hN h.hrb (by decide)) h.hN rfl (by decide),
           hL := key _ _ _ _ _ (.inr (.inr (.inr (.inr (.inl rfl))))) (types_ne h.hL h.hrb (by decide)) h.hL rfl (by decide), hll := h.hll,
           hrb := by rw [hrb, rowVals_set f rs i row hi h.hrs], hgs := fun j hj => ?_, hrs := by simp [h.hrs], hnd := h.hnd, hne := h.hne, hle := h.hle, hnum := ?_, hmem := h.hmem, hbel := h.hbel.trans hbel }
  · rw [getD_set _ _ _ _ _ (by rw [h.hrs]; exact hi)]
    by_cases e : i = j
    · subst e
      rw [if_pos rfl]
      exact ⟨sp', hlen, hg⟩
    · rw [if_neg e]
      obtain ⟨spj, h1, h2⟩ := h.hgs j hj
      refine ⟨spj, h1, ?_⟩
      rw [hrest _ (.inr (.inr (.inr (.inr (.inr (.inr (by simp [List.getD, hj]))))))) (types_ne h2 h.hrb (by decide)) ?_]
      · exact h2
      · intro he
        have e1 : f.gs.getD j 0 = f.gs[j] := by simp [List.getD, hj]
        have e2 : f.gs.getD i 0 = f.gs[i] := by simp [List.getD, hi]
        rw [e1, e2] at he
        exact e ((List.getElem_inj h.hnd).1 he.symm)
  · intro xs hxs
    rcases List.mem_or_eq_of_mem_set hxs with hxs | rfl
    · exact h.hnum xs hxs
    · exact hnum

theorem newOne (w : World) (x : Value) (t : TypeId) : ∀ (j : Nat) (u : Value), [x][j]? = some u → (w.alloc (.cells #[x] t)).cell? ((⟨w.heap.size, 0, none⟩ : Addr).add j) = some u := by
  intro j u hj
  match j, hj with
  | 0, hj => simp at hj; subst hj; simp [Addr.add]

theorem oneInt (x : Int) : ∀ u ∈ [Value.int .i64 x], u.oneCell' = true := by
  intro u hu; simp at hu; subst hu; rfl

theorem spareOne {w : World} {g len : Nat} (h : (w.cell? ⟨g, len, none⟩).isSome = true ∧ w.frozen? ⟨g, len, none⟩ = false) (x : Value) (o : Obj) :
    ∀ j, j < [x].length → ((w.drew.alloc o).cell? ⟨g, 0 + len * 1 + j, none⟩).isSome = true ∧ (w.drew.alloc o).frozen? ⟨g, 0 + len * 1 + j, none⟩ = false := by
  intro j hj
  obtain rfl : j = 0 := by simpa using hj
  have hglt : g < w.heap.size := by
    obtain ⟨v, hv⟩ := Option.isSome_iff_exists.1 h.1
    exact World.block_lt_of_cell? w _ hv
  rw [World.cell?_of_block (w := w) (Below.heap_alloc w.drew _ _ hglt), World.frozen?_of_block (w := w) (Below.heap_alloc w.drew _ _ hglt)]
  simpa using h

theorem list_getD_bd {l : List Int} (h : ∀ x ∈ l, 0 ≤ x ∧ x ≤ 8) (k : Nat) : 0 ≤ l.getD k 0 ∧ l.getD k 0 ≤ 8 := by
  by_cases c : k < l.length
  · exact h _ (getD_mem c)
  · rw [getD_over (by omega)]; omega

theorem FillSt.push {f : Fb} {w : World} {rs : List (List Int)} {left : List Int} (h : FillSt f w rs left) {i : Nat} (hi : i < f.gs.length) {c : Int} (hc : 0 ≤ c ∧ c ≤ 8) {g len cap : Nat}
    (hg : g = f.gs.getD i 0) (hlen : len = (rs.getD i []).length) (hcap : cap = f.caps.getD i 0) (hlt : len < cap) (o : Obj) :
    (((w.alloc o).drew.setCells g len [.int .i64 c]).cell? ⟨f.rb, i, none⟩ = some (.slice (some ⟨g, 0, none⟩) len cap) ∧ ((w.alloc o).drew.setCells g len [.int .i64 c]).frozen? ⟨f.rb, i, none⟩ = false) ∧
    FillSt f (((w.alloc o).drew.setCells g len [.int .i64 c]).setCell ⟨f.rb, i, none⟩ (.slice (some ⟨g, 0, none⟩) (len + 1) cap)) (rs.set i (rs.getD i [] ++ [c])) left ∧
    Mod f.mem w (((w.alloc o).drew.setCells g len [.int .i64 c]).setCell ⟨f.rb, i, none⟩ (.slice (some ⟨g, 0, none⟩) (len + 1) cap)) := by
  obtain ⟨sp, h1, h2⟩ := h.hgs i hi
  rw [← hg] at h2
  rw [← hlen, ← hcap] at h1
  have hmg : f.mem g := .inr (.inr (.inr (.inr (.inr (.inr (by rw [hg]; simp [List.getD, hi]))))))
  have hmr : f.mem f.rb := .inr (.inr (.inr (.inr (.inr (.inl rfl)))))
  have hgr : g ≠ f.rb := types_ne h2 h.hrb (by decide)
  have hglt := h.memlt hmg
  have hrlt := h.memlt hmr
  have hW : (w.alloc o).drew.setCells g len [.int .i64 c] = (w.alloc o).drew.setCell ⟨g, len, none⟩ (.int .i64 c) := rfl
  rw [hW]
  have ha : ∀ k, k < w.heap.size → (w.alloc o).drew.heap[k]? = w.heap[k]? := fun k hk => Below.heap_alloc w o k hk
  have hr1 : ((w.alloc o).drew.setCell ⟨g, len, none⟩ (.int .i64 c)).heap[f.rb]? = w.heap[f.rb]? := by
    rw [Below.heap_setCell _ _ _ _ (Ne.symm hgr)]; exact ha _ hrlt
  obtain ⟨c1, c2⟩ := h.rowCell hi
  have hmod : Mod f.mem w (((w.alloc o).drew.setCell ⟨g, len, none⟩ (.int .i64 c)).setCell ⟨f.rb, i, none⟩ (.slice (some ⟨g, 0, none⟩) (len + 1) cap)) :=
    ((((Mod.refl _ _).alloc o).drew).setCell (.inl hmg) _).setCell (.inl hmr) _
  refine ⟨⟨?_, ?_⟩, ?_, hmod⟩
  · rw [World.cell?_of_block (w := w) hr1, c1, Fb.rowVal, hg, hlen, hcap]
  · rw [World.frozen?_of_block (w := w) hr1]; exact c2
  · refine h.turnRow i hi (rs.getD i [] ++ [c]) (sp.drop 1) ?_ ?_ ?_ ?_ ?_ (hmod.below h.hbel.size h.hmem)
    · rw [List.length_append, ← hlen, ← hcap, List.length_drop]; simp; omega
    · intro x hx
      rcases List.mem_append.1 hx with hx | hx
      · have : rs.getD i [] ∈ rs := by
          have : i < rs.length := by rw [h.hrs]; exact hi
          simp [List.getD, this]
        exact h.hnum _ this x hx
      · simp at hx; subst hx; exact hc
    · intro k hk hk1 hk2
      rw [← hg] at hk2
      rw [Below.heap_setCell _ _ _ _ hk1, Below.heap_setCell _ _ _ _ hk2]
      exact ha k (h.memlt hk)
    · rw [heap_set_at (hr1.trans h.hrb), ← hg, ← hcap]
      simp [hlen]
    · rw [← hg, Below.heap_setCell _ _ _ _ hgr, heap_set_at ((ha g hglt).trans h2)]
      have e : (ints (rs.getD i []) ++ sp).set len (.int .i64 c) = ints (rs.getD i [] ++ [c]) ++ sp.drop 1 := by
        have hl : (ints (rs.getD i [])).length = len := by rw [ints_length, hlen]
        rw [List.set_append_right _ _ (by omega), hl, Nat.sub_self]
        cases sp with
        | nil => simp at h1; omega
        | cons s t => simp [ints]
      simp only [List.setIfInBounds_toArray, e]

theorem FillSt.pushR {f : Fb} {w : World} {rs : List (List Int)} {left : List Int} (h : FillSt f w rs left) {i : Nat} (hi : i < f.gs.length) (c : Int) {g len : Nat} (hg : g = f.gs.getD i 0) (o : Obj) :
    ((w.alloc o).drew.setCells g len [.int .i64 c]).cell? ⟨f.bR, 0, none⟩ = some f.rowsVal := by
  obtain ⟨sp, h1, h2⟩ := h.hgs i hi
  rw [← hg] at h2
  have hne : f.bR ≠ g := types_ne h.hR h2 (by decide)
  have hr : ((w.alloc o).drew.setCells g len [.int .i64 c]).heap[f.bR]? = w.heap[f.bR]? := by
    show ((w.alloc o).drew.setCell ⟨g, len, none⟩ (.int .i64 c)).heap[f.bR]? = _
    rw [Below.heap_setCell _ _ _ _ hne]
    exact Below.heap_alloc w o _ (lt_of_block h.hR)
  rw [World.cell?_of_block (w := w) hr]
  exact cell_of_one h.hR

/-- a row is cut back. -/
theorem FillSt.pop {f : Fb} {w : World} {rs : List (List Int)} {left : List Int} (h : FillSt f w rs left) {i : Nat} (hi : i < f.gs.length) (row : List Int) (c : Int) (hrow : rs.getD i [] = row ++ [c]) {g len cap : Nat}
    (hg : g = f.gs.getD i 0) (hlen : len = row.length) (hcap : cap = f.caps.getD i 0) :
    FillSt f (w.drew.setCell ⟨f.rb, i, none⟩ (.slice (some ⟨g, 0, none⟩) len cap)) (rs.set i row) left ∧ Mod f.mem w (w.drew.setCell ⟨f.rb, i, none⟩ (.slice (some ⟨g, 0, none⟩) len cap)) := by
  obtain ⟨sp, h1, h2⟩ := h.hgs i hi
  rw [← hg, hrow] at h2
  rw [← hcap, hrow] at h1
  have hmr : f.mem f.rb := .inr (.inr (.inr (.inr (.inr (.inl rfl)))))
  have hgr : g ≠ f.rb := types_ne h2 h.hrb (by decide)
  have hmod : Mod f.mem w (w.drew.setCell ⟨f.rb, i, none⟩ (.slice (some ⟨g, 0, none⟩) len cap)) := ((Mod.refl _ _).drew).setCell (.inl hmr) _
  refine ⟨h.turnRow i hi row (.int .i64 c :: sp) ?_ ?_ ?_ ?_ ?_ (hmod.below h.hbel.size h.hmem), hmod⟩
  · rw [← hcap]; simp at h1 ⊢; omega
  · intro x hx
    have hm : rs.getD i [] ∈ rs := by
      have : i < rs.length := by rw [h.hrs]; exact hi
      simp [List.getD, this]
    exact h.hnum _ hm x (by rw [hrow]; simp [hx])
  · intro k hk hk1 hk2
    rw [Below.heap_setCell _ _ _ _ hk1]
    rfl
  · rw [heap_set_at (w := w.drew) h.hrb, ← hg, ← hcap, hlen]
    simp
  · rw [← hg, Below.heap_setCell _ _ _ _ hgr]
    rw [show w.drew.heap[g]? = w.heap[g]? from rfl, h2]
    simp [ints]

end Go.Proofs.Ytpblbolflnjjnaa
