/- fill -/
import Derived.Test.YtpblbolflnjjnaaWg
import Derived.Laws.EntriesVeiled
namespace Go.Proofs.Ytpblbolflnjjnaa
open Go.RowKit

/-- the rows with which a search begins: the boxes that are not there. -/
def initRows (caps : List Nat) (inner : List Int) : List (List Int) := (List.range caps.length).map fun i => List.replicate (inner.getD i 0).toNat 0

/-- fill's memory while it makes the rows. -/
structure MakeSt (w0 : World) (f : Fb) (inner : List Int) (left : List Int) (wE : World) (k : Nat) (gs : List Nat) (w : World) : Prop where
  hO : w.heap[f.bO]? = some (.cells #[f.vo] 22 (0, 0))
  hV : w.heap[f.bV]? = some (.cells #[f.fv] 83 (0, 0))
  hR : w.heap[f.bR]? = some (.cells #[.slice (some ⟨f.rb, 0, none⟩) f.caps.length f.caps.length] 34 (0, 0))
  hL : w.heap[f.bL]? = some (.cells (ints left).toArray 87 (0, 0))
  hrb : w.heap[f.rb]? = some (.cells ((List.range k).map (fun i => Value.slice (some ⟨gs.getD i 0, 0, none⟩) (inner.getD i 0).toNat (f.caps.getD i 0)) ++ List.replicate (f.caps.length - k) (Value.slice none 0 0)).toArray 22 (0, 0))
  hgs : ∀ i, i < k → w.heap[gs.getD i 0]? = some (.cells (ints (List.replicate (f.caps.getD i 0) 0)).toArray 3 (0, 0))
  hgl : gs.length = k
  hnd : gs.Nodup
  hge : ∀ g ∈ gs, wE.heap.size ≤ g
  hbel : Below wE.heap.size wE w
  hne : f.bO ≠ f.rb

theorem mk_cells (c : Nat) : (madeCells (Value.int .i64 0).cells (c * 1)) = (ints (List.replicate c 0)).toArray := by
  have := toList_madeCells_one (Value.int .i64 0) c
  simp only [Value.cells, Nat.mul_one]
  rw [← Array.toArray_toList (xs := madeCells #[Value.int .i64 0] c), this]
  simp [ints]

theorem run_make34 (n : Nat) (hn : n ≤ 100) (W : World) : (Instr.makeSlice 34 (.int .i64 n) (.int .i64 n)).run Try.prog W = .ok (.slice (some ⟨W.heap.size, 0, none⟩) n n) (W.alloc (.cells (List.replicate n (Value.slice none 0 0)).toArray 22)) := by
  obtain ⟨i22, hi22, hz0, hz1, hz2⟩ := info_parts Try.info22
  have h := run_make (P := Try.prog) W 34 22 i22 (.slice none 0 0) Try.underlying34 hi22 hz0 .i64 .i64 (n : Int) (n : Int) (by omega) (Int.le_refl _) (by rw [hz2]; omega) (by omega)
  rw [h, hz1]
  have e := toList_madeCells_one (Value.slice none 0 0) n
  simp only [Value.cells, Nat.mul_one, Int.toNat_natCast]
  rw [← Array.toArray_toList (xs := madeCells #[Value.slice none 0 0] n), e]

theorem run_make22 (p n : Nat) (hp : p ≤ n) (hn : n ≤ 100) (W : World) : (Instr.makeSlice 22 (.int .i64 p) (.int .i64 n)).run Try.prog W = .ok (.slice (some ⟨W.heap.size, 0, none⟩) p n) (W.alloc (.cells (ints (List.replicate n 0)).toArray 3)) := by
  obtain ⟨i3, hi3, hz0, hz1, hz2⟩ := info_parts Try.info3
  have h := run_make (P := Try.prog) W 22 3 i3 (.int .i64 0) Try.underlying22 hi3 hz0 .i64 .i64 (p : Int) (n : Int) (by omega) (by omega) (by rw [hz2]; omega) (by omega)
  rw [h, hz1]
  simp only [Int.toNat_natCast]
  rw [mk_cells]

theorem MakeSt.start (w0 w : World) (f : Fb) (inner left : List Int) (hO : f.bO = w.heap.size) (hL : f.bL = w.heap.size + 1) (hV : f.bV = w.heap.size + 1 + 1) (hrb : f.rb = w.heap.size + 1 + 1 + 1) (hR : f.bR = w.heap.size + 1 + 1 + 1 + 1) :
    MakeSt w0 f inner left w 0 [] (((((w.alloc (Obj.cells #[f.vo] 22)).alloc (Obj.cells (ints left).toArray 87)).alloc (Obj.cells #[f.fv] 83)).alloc (Obj.cells (Array.replicate f.caps.length (Value.slice none 0 0)) 22)).alloc
      (Obj.cells #[Value.slice (some ⟨w.heap.size + 1 + 1 + 1, 0, none⟩) f.caps.length f.caps.length] 34)) := by
  refine { hO := ?_, hV := ?_, hR := ?_, hL := ?_, hrb := ?_, hgs := fun i hi => by omega, hgl := rfl, hnd := List.nodup_nil, hge := fun g hg => by simp at hg, hbel := ?_, hne := by omega }
  · rw [hO]; show (((((w.heap.push _).push _).push _).push _).push _)[_]? = _; simp only [Array.getElem?_push, Array.size_push]; (repeat rw [if_neg (by omega)]); simp
  · rw [hV]; show (((((w.heap.push _).push _).push _).push _).push _)[_]? = _; simp only [Array.getElem?_push, Array.size_push]; (repeat rw [if_neg (by omega)]); simp
  · rw [hR, hrb]; show (((((w.heap.push _).push _).push _).push _).push _)[_]? = _; simp only [Array.getElem?_push, Array.size_push]; (repeat rw [if_neg (by omega)]); simp
  · rw [hL]; show (((((w.heap.push _).push _).push _).push _).push _)[_]? = _; simp only [Array.getElem?_push, Array.size_push]; (repeat rw [if_neg (by omega)]); simp
  · simp only [List.range_zero, List.map_nil, List.nil_append, Nat.sub_zero]; rw [← List.toArray_replicate, hrb]; show (((((w.heap.push _).push _).push _).push _).push _)[_]? = _; simp only [Array.getElem?_push, Array.size_push]; (repeat rw [if_neg (by omega)]); simp
  · exact (((((Below.refl _ _).alloc (by simp) _).alloc (by simp) _).alloc (by simp; omega) _).alloc (by simp; omega) _).alloc (by simp; omega) _

theorem MakeSt.rowCell {w0 : World} {f : Fb} {inner left : List Int} {wE w : World} {k : Nat} {gs : List Nat} (h : MakeSt w0 f inner left wE k gs w) (hk : k < f.caps.length) :
    w.cell? ⟨f.rb, k, none⟩ = some (.slice none 0 0) ∧ w.frozen? ⟨f.rb, k, none⟩ = false := by
  simp only [World.cell?, World.frozen?, h.hrb]
  constructor
  · simp only [Option.isSome_none, Bool.false_eq_true, if_false, List.getElem?_toArray]
    rw [List.getElem?_append_right (by simp), List.length_map, List.length_range, List.getElem?_replicate, if_pos (by omega)]
  · simp

theorem getD_snoc_last {l : List Nat} {x d : Nat} {k : Nat} (h : l.length = k) : (l ++ [x]).getD k d = x := by subst h; simp
theorem getD_snoc_lt {l : List Nat} {x d : Nat} {k : Nat} (h : k < l.length) : (l ++ [x]).getD k d = l.getD k d := by rw [List.getD, List.getD, List.getElem?_append_left h]

theorem MakeSt.step {w0 : World} {f : Fb} {inner left : List Int} {wE w : World} {k : Nat} {gs : List Nat} (h : MakeSt w0 f inner left wE k gs w) (hk : k < f.caps.length) {p : Nat} (hp : p = (inner.getD k 0).toNat) {c : Nat} (hc : c = f.caps.getD k 0) (hrbE : wE.heap.size ≤ f.rb) :
    MakeSt w0 f inner left wE (k + 1) (gs ++ [w.heap.size]) ((w.alloc (.cells (ints (List.replicate c 0)).toArray 3)).drew.setCell ⟨f.rb, k, none⟩ (.slice (some ⟨w.heap.size, 0, none⟩) p c)) := by
  have ha : ∀ b o, w.heap[b]? = some o → (w.alloc (.cells (ints (List.replicate c 0)).toArray 3)).drew.heap[b]? = some o := fun b o hb => (Below.heap_alloc w _ _ (lt_of_block hb)).trans hb
  have key : ∀ b o, w.heap[b]? = some o → b ≠ f.rb → ((w.alloc (.cells (ints (List.replicate c 0)).toArray 3)).drew.setCell ⟨f.rb, k, none⟩ (.slice (some ⟨w.heap.size, 0, none⟩) p c)).heap[b]? = some o := fun b o hb hne => by
    rw [Below.heap_setCell _ _ _ _ hne]; exact ha b o hb
  have hrlt := lt_of_block h.hrb
  have hnew : ((w.alloc (.cells (ints (List.replicate c 0)).toArray 3)).drew.setCell ⟨f.rb, k, none⟩ (.slice (some ⟨w.heap.size, 0, none⟩) p c)).heap[w.heap.size]? = some (.cells (ints (List.replicate c 0)).toArray 3 (0, 0)) := by
    rw [Below.heap_setCell _ _ _ _ (show w.heap.size ≠ f.rb by omega)]
    show (w.heap.push _)[w.heap.size]? = _
    simp
  have hgslt : ∀ g ∈ gs, g < w.heap.size := fun g hg => by
    obtain ⟨j, hj, rfl⟩ := List.mem_iff_getElem.1 hg
    have := h.hgs j (by rw [← h.hgl]; exact hj)
    have e : gs.getD j 0 = gs[j] := by simp [List.getD, hj]
    exact e ▸ lt_of_block this
  refine { hO := key _ _ h.hO h.hne, hV := key _ _ h.hV (types_ne h.hV h.hrb (by decide)), hR := key _ _ h.hR (types_ne h.hR h.hrb (by decide)), hL := key _ _ h.hL (types_ne h.hL h.hrb (by decide)), hrb := ?_, hgs := ?_, hgl := by simp [h.hgl], hnd := ?_, hge := ?_, hbel := ?_, hne := h.hne }
  · rw [heap_set_at (ha _ _ h.hrb)]
    have e1 : ((List.range k).map (fun i => Value.slice (some ⟨gs.getD i 0, 0, none⟩) (inner.getD i 0).toNat (f.caps.getD i 0)) ++ List.replicate (f.caps.length - k) (Value.slice none 0 0)).set k (.slice (some ⟨w.heap.size, 0, none⟩) p c) =
        (List.range (k + 1)).map (fun i => Value.slice (some ⟨(gs ++ [w.heap.size]).getD i 0, 0, none⟩) (inner.getD i 0).toNat (f.caps.getD i 0)) ++ List.replicate (f.caps.length - (k + 1)) (Value.slice none 0 0) := by
      rw [List.set_append_right _ _ (by simp), List.length_map, List.length_range, Nat.sub_self]
      obtain ⟨m, hm⟩ : ∃ m, f.caps.length - k = m + 1 := ⟨f.caps.length - k - 1, by omega⟩
      rw [hm, List.replicate_succ, List.set_cons_zero, show f.caps.length - (k + 1) = m by omega, List.range_succ, List.map_append, List.append_assoc]
      congr 1
      · refine List.map_congr_left fun i hi => ?_
        rw [getD_snoc_lt (by rw [h.hgl]; simpa using hi)]
      · simp only [List.map_cons, List.map_nil, List.cons_append, List.nil_append]
        rw [getD_snoc_last h.hgl, ← hp, ← hc]
    simp only [List.setIfInBounds_toArray, e1]
  · intro i hi
    rcases Nat.lt_or_ge i k with hik | hik
    · rw [getD_snoc_lt (by rw [h.hgl]; exact hik)]
      exact key _ _ (h.hgs i hik) (types_ne (h.hgs i hik) h.hrb (by decide))
    · obtain rfl : i = k := by omega
      rw [getD_snoc_last h.hgl, ← hc]
      exact hnew
  · rw [List.nodup_append]
    refine ⟨h.hnd, by simp, ?_⟩
    intro a ha' b hb
    simp at hb
    have := hgslt a ha'
    omega
  · intro g hg
    rcases List.mem_append.1 hg with hg | hg
    · exact h.hge g hg
    · simp at hg; subst hg; exact h.hbel.size
  · exact ((h.hbel.alloc h.hbel.size _).drew).setCell hrbE _

theorem setCell_alloc_swap (w : World) (o : Obj) (n i : Nat) (v : Value) (h : n < w.heap.size) : ((w.setCell ⟨n, i, none⟩ v).alloc o).drew = (w.alloc o).drew.setCell ⟨n, i, none⟩ v := by
  rw [← World.setCell_alloc_past (w := w) o n i v h]
  rfl

theorem initRows_getD (caps : List Nat) (inner : List Int) (i : Nat) (hi : i < caps.length) : (initRows caps inner).getD i [] = List.replicate (inner.getD i 0).toNat 0 := by
  simp [initRows, List.getD, hi]

theorem MakeSt.done {w0 : World} {f : Fb} {inner left : List Int} {wE w : World} {gs : List Nat} (h : MakeSt w0 f inner left wE f.caps.length gs w) (hw0 : f.w0 = w0) (hbN : f.bN = w.heap.size) (hg : f.gs = gs)
    (hll : left.length = 8) (hle : ∀ x ∈ left, 0 ≤ x ∧ x ≤ 8) (hin : ∀ i, i < f.caps.length → 0 ≤ inner.getD i 0 ∧ inner.getD i 0 ≤ f.caps.getD i 0) (hb0 : Below w0.heap.size w0 wE)
    (hge : wE.heap.size ≤ f.bO ∧ wE.heap.size ≤ f.bV ∧ wE.heap.size ≤ f.bR ∧ wE.heap.size ≤ f.bL ∧ wE.heap.size ≤ f.rb) :
    FillSt f (w.alloc (.cells #[.func (.func 106) #[] f.caught] 116)) (initRows f.caps inner) left ∧ ∀ k, f.mem k → wE.heap.size ≤ k := by
  have ha : ∀ b o, w.heap[b]? = some o → (w.alloc (.cells #[.func (.func 106) #[] f.caught] 116)).heap[b]? = some o := fun b o hb => (Below.heap_alloc w _ _ (lt_of_block hb)).trans hb
  have hmem : ∀ k, f.mem k → wE.heap.size ≤ k := by
    rintro k (rfl | rfl | rfl | rfl | rfl | rfl | hk)
    · exact hge.1
    · exact hge.2.1
    · exact hge.2.2.1
    · rw [hbN]; exact h.hbel.size
    · exact hge.2.2.2.1
    · exact hge.2.2.2.2
    · exact h.hge k (hg ▸ hk)
  have hgl : f.gs.length = f.caps.length := by rw [hg, h.hgl]
  refine ⟨{ hO := ha _ _ h.hO, hV := ha _ _ h.hV, hR := ?_, hN := ?_, hL := ha _ _ h.hL, hll := hll, hrb := ?_, hgs := fun i hi => ?_, hrs := by simp [initRows, hgl], hnd := hg ▸ h.hnd, hne := h.hne, hle := hle, hnum := ?_,
            hbel := ?_, hmem := ?_ }, hmem⟩
  · have := ha _ _ h.hR
    rw [Fb.rowsVal, hgl]; exact this
  · rw [hbN]
    show (w.heap.push _)[w.heap.size]? = _
    simp
  · rw [ha _ _ h.hrb, Nat.sub_self, List.replicate_zero, List.append_nil, hgl]
    congr 3
    refine List.map_congr_left fun i hi => ?_
    have hi : i < f.caps.length := by simpa using hi
    simp only [Fb.rowVal]
    rw [initRows_getD _ _ _ hi, List.length_replicate, hg]
  · have hi' : i < f.caps.length := by omega
    have := hin i hi'
    refine ⟨ints (List.replicate (f.caps.getD i 0 - (inner.getD i 0).toNat) 0), ?_, ?_⟩
    · rw [initRows_getD _ _ _ hi', List.length_replicate, ints_length, List.length_replicate]; omega
    · have e := ha _ _ (h.hgs i hi')
      rw [← hg] at e
      rw [e, initRows_getD _ _ _ hi']
      have e2 : ints (List.replicate (inner.getD i 0).toNat 0) ++ ints (List.replicate (f.caps.getD i 0 - (inner.getD i 0).toNat) 0) = ints (List.replicate (f.caps.getD i 0) 0) := by
        simp only [ints]
        rw [← List.map_append, List.replicate_append_replicate, show (inner.getD i 0).toNat + (f.caps.getD i 0 - (inner.getD i 0).toNat) = f.caps.getD i 0 by omega]
      rw [e2]
  · intro xs hxs x hx
    simp only [initRows, List.mem_map] at hxs
    obtain ⟨i, _, rfl⟩ := hxs
    have := List.eq_of_mem_replicate hx
    omega
  · rw [hw0]; exact (hb0.trans (h.hbel.mono hb0.size)).alloc (Nat.le_trans hb0.size h.hbel.size) _
  · intro k hk; rw [hw0]; exact Nat.le_trans hb0.size (hmem k hk)

set_option maxHeartbeats 2000000 in
theorem fill_any (w0 w : World) (hb0 : Below w0.heap.size w0 w) (vo vi fv : Value) (caps : List Nat) (inner : List Int) (left : List Int)
    (hvo : Ints w0 vo (caps.map (fun (c : Nat) => (c : Int)))) (hvi : Ints w0 vi inner) (hcaps : ∀ c ∈ caps, 1 ≤ c ∧ c ≤ 100) (hn : caps.length ≤ 100) (hll : left.length = 8) (hle : ∀ x ∈ left, 0 ≤ x ∧ x ≤ 8)
    (hin : ∀ i, i < caps.length → 0 ≤ inner.getD i 0 ∧ inner.getD i 0 ≤ caps.getD i 0)
    (I : List (List (List Int)) → World → (Nat → Prop) → Prop) (fid : Nat) (fcap : Array Value) (hfv : ∃ ao fn fc, fv = .func ao fn fc)
    (hv : ∀ f : Fb, f.w0 = w0 → f.fv = fv → f.caps.length ≤ 100 → f.gs.length = f.caps.length → (∀ c ∈ f.caps, c ≤ 100) → Visit f I fid fcap) (acc : List (List (List Int))) (fp : Nat → Prop) (hI : I acc w fp) (fuel : Nat) (hfuel : caps.length + caps.sum < fuel) (hM : acc.length + (srch caps fuel 0 (initRows caps inner) left).length ≤ 16777216) :
    Calls Try.prog 73 #[vo, vi, .agg (ints left).toArray, fv] w fun e w' => e = .returned (.tuple #[]) ∧ ∃ fp', I (acc ++ srch caps fuel 0 (initRows caps inner) left) w' fp' ∧ Mod fp w w' ∧ ∀ k, fp' k → fp k ∨ w.heap.size ≤ k := by
  have hvo' := hvo.below hb0 (Nat.le_refl _)
  obtain ⟨ao, cap, he, h1, h2, hc⟩ := hvo'.open
  simp only [List.length_map] at he h1 h2
  obtain ⟨i22, hi22, hz0, hz1, hz2⟩ := info_parts Try.info22
  obtain ⟨fn, fa, fb, rfl⟩ := hfv
  subst he
  have HV := hidIt hv
  have HI := hidIt hI
  have HMM := hidIt hM
  clear hM
  clear hv hI hvo'
  have hmk := run_make34 caps.length hn
  go_enter Try.func73, Try.ntmps73
  go_upto_region 3 with (fail)
  obtain ⟨f0, hf0⟩ : ∃ f0 : Fb, f0 = { bO := w.heap.size, bL := w.heap.size + 1, bV := w.heap.size + 1 + 1, rb := w.heap.size + 1 + 1 + 1, bR := w.heap.size + 1 + 1 + 1 + 1, bN := 0, gs := [], caps := caps, vo := .slice ao caps.length cap, fv := .func fn fa fb, w0 := w0 } := ⟨_, rfl⟩
  have hst := MakeSt.start w0 w f0 inner left (by rw [hf0]) (by rw [hf0]) (by rw [hf0]) (by rw [hf0]) (by rw [hf0])
  have e1 : f0.vo = .slice ao caps.length cap := by rw [hf0]
  have e2 : f0.fv = .func fn fa fb := by rw [hf0]
  have e3 : f0.caps = caps := by rw [hf0]
  rw [e1, e2, e3] at hst
  generalize hW : (((((w.alloc (Obj.cells #[Value.slice ao caps.length cap] 22)).alloc (Obj.cells (ints left).toArray 87)).alloc (Obj.cells #[Value.func fn fa fb] 83)).alloc (Obj.cells (Array.replicate caps.length (Value.slice none 0 0)) 22)).alloc
      (Obj.cells #[Value.slice (some ⟨w.heap.size + 1 + 1 + 1, 0, none⟩) caps.length caps.length] 34)) = w1 at hst ⊢
  clear hW
  have HST := hidIt hst
  have HF0 := hidIt hf0
  have HE1 := hidIt e1
  have HE3 := hidIt e3
  clear hst hf0 e1 e2 e3 hmk
  go_loopw [16] (fun s16 wr => ∃ (k : Nat) (gs : List Nat), k ≤ caps.length ∧ s16 = .int .i64 k ∧ MakeSt w0 f0 inner left w k gs wr) (fun s16 _ => caps.length - (intOf s16).toNat)
  case atStart => exact ⟨0, [], Nat.zero_le _, rfl, HST.out⟩
  case round =>
    obtain ⟨k, gs, hk, rfl, hst⟩ := hrel
    have HS := hidIt hst
    by_cases hlt : k < caps.length
    · have hbw : Below w0.heap.size w0 wr := hb0.trans (hst.hbel.mono hb0.size)
      have hvi' := hvi.below hbw (Nat.le_refl _)
      have hvo' := hvo.below hbw (Nat.le_refl _)
      have cO := cell_of_one hst.hO
      have cR := cell_of_one hst.hR
      obtain ⟨cRow, fRow⟩ := hst.rowCell (by rw [HE3.out]; exact hlt)
      rw [HE1.out] at cO
      rw [HE3.out] at cR
      rw [HF0.out] at cO cR cRow fRow
      simp only at cO cR cRow fRow
      obtain ⟨b, o, rfl, hck⟩ := hc k (by simp; omega)
      have hck' := (hst.hbel.cell (p := ⟨b, o + k, none⟩) (World.block_lt_of_cell? w _ hck)).trans hck
      have e0 : (List.map (fun (c : Nat) => (c : Int)) caps).getD k 0 = (caps.getD k 0 : Nat) := by simp [List.getD, hlt]
      rw [e0] at hck'
      have hik := hin k hlt
      obtain ⟨p, hp⟩ : ∃ p : Nat, p = (inner.getD k 0).toNat := ⟨_, rfl⟩
      have hpi : inner.getD k 0 = (p : Int) := by omega
      obtain ⟨c, hcc⟩ : ∃ c : Nat, c = caps.getD k 0 := ⟨_, rfl⟩
      have hcb := hcaps (caps.getD k 0) (by simp [List.getD, hlt])
      rw [← hcc] at hck' hik hcb
      rw [hpi] at hik
      have hpart := part_any vi inner k wr.drew (hvi'.below (Below.drew (Below.refl _ _)) (Nat.le_refl _))
      rw [hpi] at hpart
      have hstep := hst.step (by rw [HE3.out]; exact hlt) hp (c := c) (by rw [HE3.out]; exact hcc) (by rw [HF0.out]; simp; omega)
      rw [HF0.out] at hstep
      simp only at hstep
      rw [← HF0.out] at hstep
      have hmk := run_make22 p c (by omega) (by omega)
      have hrlt : w.heap.size + 1 + 1 + 1 < wr.heap.size := by have := lt_of_block hst.hrb; rw [HF0.out] at this; exact this
      have hRlt : w.heap.size + 1 + 1 + 1 + 1 < wr.heap.size := by have := lt_of_block hst.hR; rw [HF0.out] at this; exact this
      have hOlt : w.heap.size < wr.heap.size := by omega
      have hblt : b < wr.heap.size := World.block_lt_of_cell? wr _ hck'
      have HPA := hidIt hpart
      have HST2 := hidIt hstep
      clear hst hstep hpart hck hc e0 hbw hvi' hvo' hp hcc hpi
      go_upto_region 5 with (fail)
      go_region_with (go_at_call 105; refine HPA.out.mono ?_; rintro e w' ⟨rfl, rfl⟩)
      all_goals
        clear hmk cO cR cRow fRow hck' HPA
        go_wp2
        go_roundw
        case rel => exact ⟨k + 1, gs ++ [wr.heap.size], by omega, by go_num, by first | exact HST2.out | (rw [setCell_alloc_swap _ _ _ _ _ hrlt]; exact HST2.out)⟩
        case measure => simp [intOf]; omega
    · obtain rfl : k = caps.length := by omega
      obtain ⟨f, hf⟩ : ∃ f : Fb, f = { bO := w.heap.size, bL := w.heap.size + 1, bV := w.heap.size + 1 + 1, rb := w.heap.size + 1 + 1 + 1, bR := w.heap.size + 1 + 1 + 1 + 1, bN := wr.heap.size, gs := gs, caps := caps, vo := .slice ao caps.length cap, fv := .func fn fa fb, w0 := w0 } := ⟨_, rfl⟩
      have hmk : MakeSt w0 f inner left w f.caps.length gs wr := by
        rw [HF0.out] at hst
        rw [hf]
        exact ⟨hst.hO, hst.hV, hst.hR, hst.hL, hst.hrb, hst.hgs, hst.hgl, hst.hnd, hst.hge, hst.hbel, hst.hne⟩
      have HFF := hidIt hf
      have hcaps' : f.caps = caps := by rw [hf]
      have hgl : f.gs.length = f.caps.length := by rw [hcaps', hf]; exact hst.hgl
      obtain ⟨hfs, hmem⟩ := hmk.done (by rw [hf]) (by rw [hf]) (by rw [hf]) hll hle (by rw [hcaps']; exact hin) hb0 (by rw [hf]; simp; omega)
      have hV := HV.out f (by rw [hf]) (by rw [hf]) (by rw [hcaps']; exact hn) hgl (by rw [hcaps']; exact fun c hc => (hcaps c hc).2)
      have hnext := next_any f I fid fcap hV hgl.symm (by rw [hf]; exact hvo) (by rw [hcaps']; exact fun c hc => (hcaps c hc).2) (by rw [hgl, hcaps']; exact hn) fuel 0 (initRows f.caps inner) left acc _ fp (Nat.zero_le _)
        (by unfold need; rw [hgl, hcaps']; omega) hfs (hV.keeps _ _ _ _ HI.out ?k1 ?k2) ?k3 (by rw [hcaps']; exact HMM.out)
      case k1 =>
        intro k hk
        have hkw := (hV.fits _ _ _ HI.out k hk).2
        have hw := hst.hbel.block k hkw
        exact (Below.heap_alloc wr _ k (Nat.lt_of_lt_of_le hkw hst.hbel.size)).trans hw
      case k2 => exact Nat.le_trans hst.hbel.size (by simp)
      case k3 =>
        intro k hk hm
        have := hmem k hm
        have := (hV.fits _ _ _ HI.out k hk).2
        omega
      have HN := hidIt hnext
      have HB := hidIt hst.hbel
      have HMem := hidIt hmem
      have HFits := hidIt (hV.fits _ _ _ HI.out)
      have HC' := hidIt hcaps'
      clear hst hmk hfs hV hnext hgl hcaps' hf hmem hfuel
      have ecall : (#[.int .i64 ((0 : Nat) : Int)] ++ f.caught : Array Value) = #[.int .i64 0, .pointer (some ⟨w.heap.size, 0, none⟩), .pointer (some ⟨w.heap.size + 1 + 1, 0, none⟩), .pointer (some ⟨w.heap.size + 1 + 1 + 1 + 1, 0, none⟩), .pointer (some ⟨wr.heap.size, 0, none⟩), .pointer (some ⟨w.heap.size + 1, 0, none⟩)] := by
        rw [HFF.out]; rfl
      have ecaught : f.caught = #[.pointer (some ⟨w.heap.size, 0, none⟩), .pointer (some ⟨w.heap.size + 1 + 1, 0, none⟩), .pointer (some ⟨w.heap.size + 1 + 1 + 1 + 1, 0, none⟩), .pointer (some ⟨wr.heap.size, 0, none⟩), .pointer (some ⟨w.heap.size + 1, 0, none⟩)] := by
        rw [HFF.out]; rfl
      rw [ecall, ecaught] at HN
      clear ecall ecaught
      go_wp2_with fail
      refine HN.out.mono ?_
      intro e w' hq
      have HQ := hidIt hq
      obtain rfl := hq.1
      clear hq HN
      go_wp2
      go_end0
      obtain ⟨_, fp', _, q2, _, q4, q5⟩ := HQ.out
      rw [HC'.out] at q2
      have m0 : Mod fp w (wr.alloc (.cells #[.func (.func 106) #[] #[.pointer (some ⟨w.heap.size, 0, none⟩), .pointer (some ⟨w.heap.size + 1 + 1, 0, none⟩), .pointer (some ⟨w.heap.size + 1 + 1 + 1 + 1, 0, none⟩), .pointer (some ⟨wr.heap.size, 0, none⟩), .pointer (some ⟨w.heap.size + 1, 0, none⟩)]] 116)) :=
        (Mod.of_below HB.out).alloc _
      refine ⟨rfl, fp', q2, m0.trans q4 fun k hk => hk.elim (fun h => .inr (HMem.out k h)) .inl, fun k hk => (q5 k hk).elim .inl fun h => .inr ?_⟩
      exact Nat.le_trans m0.size h
end Go.Proofs.Ytpblbolflnjjnaa
