/- the reference's fillings -/
import Derived.Test.YtpblbolflnjjnaaRe
import Derived.Test.YtpblbolflnjjnaaWj
import Derived.Deep.DeepCutAuto
namespace Go.Proofs.Ytpblbolflnjjnaa
open Go.RowKit

def badB (rs : List (List Int)) (left : List Int) (i j x : Nat) : Bool :=
  decide (left.getD (x - 1) 0 = 0 ∨ (0 < j ∧ (x : Int) < (rs.getD i []).getD (j - 1) 0) ∨ (0 < i ∧ (x : Int) ≤ (rs.getD (i - 1) []).getD j 0))

/-- the reference's search. -/
def rsrch (caps : List Nat) : Nat → Nat → List (List Int) → List Int → List (List (List Int))
  | 0, _, _, _ => []
  | fuel + 1, i, rs, left =>
    if i = caps.length then [rs]
    else if (rs.getD i []).length = caps.getD i 0 then rsrch caps fuel (i + 1) rs left
    else (List.range' 1 left.length).flatMap fun x =>
      if badB rs left i (rs.getD i []).length x then [] else rsrch caps fuel i (rs.set i (rs.getD i [] ++ [(x : Int)])) (left.set (x - 1) (left.getD (x - 1) 0 - 1))

/-- what the search is handed. -/
structure RIn (caps : List Nat) (rs : List (List Int)) (left : List Int) : Prop where
  n : caps.length ≤ 8
  cb : ∀ c ∈ caps, c ≤ 8
  cs : caps.sum ≤ 8
  rl : rs.length = caps.length
  rb : ∀ j, j < rs.length → (rs.getD j []).length ≤ caps.getD j 0
  rx : ∀ xs ∈ rs, ∀ x ∈ xs, 0 ≤ x ∧ x ≤ 8
  ll : left.length ≤ 8
  lx : ∀ x ∈ left, 0 ≤ x ∧ x ≤ 8

/-- What a call of the reference's search leaves. -/
def RPost (acc : List (List (List Int))) (w : World) (e : Ending) (w' : World) : Prop := ∃ ao c, e = .returned (.slice ao acc.length c) ∧ OutI w (.slice ao acc.length c) acc w'

theorem RIn.len {caps : List Nat} {rs : List (List Int)} {left : List Int} (h : RIn caps rs left) : ∀ xs ∈ rs, xs.length ≤ 8 := fun xs hx => by
  obtain ⟨j, hj, rfl⟩ := List.mem_iff_getElem.1 hx
  have h1 := h.rb j hj
  have e : rs.getD j [] = rs[j] := by simp [List.getD, hj]
  rw [e] at h1
  have hj' : j < caps.length := by rw [← h.rl]; exact hj
  have h2 := h.cb (caps.getD j 0) (by simp [List.getD, hj'])
  omega

theorem RIn.small {caps : List Nat} {rs : List (List Int)} {left : List Int} (h : RIn caps rs left) : ∀ xs ∈ rs, xs.length ≤ 17592186044416 ∧ ∀ x ∈ xs, I64 x := fun xs hx =>
  ⟨by have := h.len xs hx; omega, fun x hx' => by have := h.rx xs hx x hx'; exact ⟨by omega, by omega⟩⟩

set_option maxRecDepth 100000 in
set_option maxHeartbeats 1000000 in
theorem rf_done (caps : List Nat) (fuel : Nat) (rs : List (List Int)) (left : List Int) (w : World) (vl vleft vrows : Value) (hl : Ints w vl (caps.map (fun (c : Nat) => (c : Int)))) (hr : MadeRows w vrows rs) (hin : RIn caps rs left) :
    Calls Try.prog 70 #[vl, vleft, vrows, .int .i64 caps.length] w (RPost (rsrch caps (fuel + 1) caps.length rs left) w) := by
  have e1 : rsrch caps (fuel + 1) caps.length rs left = [rs] := by simp [rsrch]
  rw [e1]
  obtain ⟨ao, cap, he, _, h2, _⟩ := hl.open
  rw [List.length_map] at he h2
  subst he
  have hn := hin.n
  have HC := hidIt (copied_any vrows rs w hr (by rw [hin.rl]; omega))
  have HS := hidIt hin.small
  have hrl := hin.rl
  have HL := hidIt hrl
  clear hl hr hin hrl
  go_enter Try.func70, Try.ntmps70
  go_wp2_with fail
  refine HC.out.mono ?_
  rintro e w1 ⟨a1, c1, rfl, ho, hb⟩
  have HO := hidIt ho
  have HB := hidIt hb
  have hsz := hb.size
  clear HC ho hb
  go_wp2
  go_ret
  refine ⟨_, _, rfl, fun k => w.heap.size ≤ k ∧ k < w1.heap.size, [.slice a1 rs.length c1], ?_, ?_, ?_, rfl, ?_, HB.out.alloc hsz _, fun h => by simp at h⟩
  · intro k hk; simp; omega
  · exact ⟨rfl, .inr ⟨w1.heap.size, 1, _, rfl, hsz, heap_alloc_new w1 _, Nat.le_refl _, by unfold maxLen; omega, rfl, rfl⟩⟩
  · intro g hg hk
    simp only [Value.ownBlock, Option.some.injEq] at hg
    omega
  · intro i u xss hu hx
    match i, hu, hx with
    | 0, hu, hx =>
      simp at hu hx; subst hu hx
      refine ⟨rfl, Rd.keep (OwnRows.rd (fp := fun k => w.heap.size ≤ k ∧ k < w1.heap.size) HO.out (by rw [HL.out]; omega) HS.out fun k h1 h2 => ⟨h1, h2⟩) (fun k hk => Below.heap_alloc _ _ _ hk.2) (by simp) fun k h => h⟩

theorem caps_getD (caps : List Nat) (i : Nat) (hi : i < caps.length) : (List.map (fun (c : Nat) => (c : Int)) caps).getD i 0 = (caps.getD i 0 : Nat) := by simp [List.getD, hi]

set_option maxRecDepth 100000 in
set_option maxHeartbeats 1000000 in
theorem rf_full (caps : List Nat) (acc : List (List (List Int))) (rs : List (List Int)) (left : List Int) (w : World) (vl vleft vrows : Value) (hl : Ints w vl (caps.map (fun (c : Nat) => (c : Int)))) (hr : MadeRows w vrows rs) (hin : RIn caps rs left)
    (i : Nat) (hi : i < caps.length) (hfull : (rs.getD i []).length = caps.getD i 0) (hnext : Calls Try.prog 70 #[vl, vleft, vrows, .int .i64 ((i : Int) + 1)] w (RPost acc w)) :
    Calls Try.prog 70 #[vl, vleft, vrows, .int .i64 i] w (RPost acc w) := by
  obtain ⟨ao, cap, he, _, h2, hc⟩ := hl.open
  rw [List.length_map] at he h2
  obtain ⟨b, o, rfl, hck⟩ := hc i (by simpa using hi)
  rw [caps_getD caps i hi] at hck
  obtain ⟨ar, capr, her, _, _, hcr⟩ := hr.open
  have hir : i < rs.length := by rw [hin.rl]; exact hi
  obtain ⟨br, or, u, rfl, hcku, hu, hnil⟩ := hcr i rs[i] (by simp [hir])
  obtain ⟨au, cu, rfl, _, _, _⟩ := hu.open
  have eg : rs.getD i [] = rs[i] := by simp [List.getD, hir]
  rw [eg] at hfull
  rw [hfull] at hcku
  have hn := hin.n
  have hrl := hin.rl
  rw [hrl] at her
  have HN := hidIt hnext
  clear hl hr hin hc hcr hu hnil eg hnext hfull hrl
  generalize caps.getD i 0 = c at *
  generalize caps.length = n at *
  subst he her
  have hne : ((i : Int) == (n : Int)) = false := by simp; omega
  go_enter Try.func70, Try.ntmps70
  go_wp2_with fail
  refine HN.out.mono ?_
  rintro e w1 ⟨a1, c1, rfl, ho⟩
  have HO := hidIt ho
  clear HN ho hck hcku
  go_wp2
  go_ret
  exact ⟨_, _, rfl, HO.out⟩

theorem RIn.push {caps : List Nat} {rs : List (List Int)} {left : List Int} (h : RIn caps rs left) {i x : Nat} (hi : i < caps.length) (hlt : (rs.getD i []).length < caps.getD i 0) (hx : 1 ≤ x ∧ x ≤ left.length) (hne : left.getD (x - 1) 0 ≠ 0) :
    RIn caps (rs.set i (rs.getD i [] ++ [(x : Int)])) (left.set (x - 1) (left.getD (x - 1) 0 - 1)) := by
  have hir : i < rs.length := by rw [h.rl]; exact hi
  have hll := h.ll
  refine { n := h.n, cb := h.cb, cs := h.cs, rl := by simp [h.rl], rb := fun j hj => ?_, rx := fun xs hxs => ?_, ll := by simpa using h.ll, lx := fun y hy => ?_ }
  · rw [getD_set _ _ _ _ _ hir]
    split
    · rename_i e; subst e
      rw [List.length_append, List.length_singleton]; omega
    · exact h.rb j (by simpa using hj)
  · rcases List.mem_or_eq_of_mem_set hxs with hxs | rfl
    · exact h.rx xs hxs
    · intro y hy
      rcases List.mem_append.1 hy with hy | hy
      · exact h.rx _ (by simp [List.getD, hir]) y hy
      · simp at hy; omega
  · have hb := list_getD_bd h.lx (x - 1)
    rcases List.mem_or_eq_of_mem_set hy with hy | rfl
    · exact h.lx y hy
    · omega

theorem rsrch_len (caps : List Nat) : ∀ (fuel i : Nat) (rs : List (List Int)) (left : List Int), RIn caps rs left → i ≤ caps.length → (rsrch caps fuel i rs left).length ≤ 8 ^ (caps.sum - nboxes rs) := by
  intro fuel
  induction fuel with
  | zero => intro i rs left _ _; simp [rsrch]
  | succ fuel ih =>
    intro i rs left h hi
    simp only [rsrch]
    split
    · exact Nat.one_le_pow _ _ (by omega)
    · split
      · exact ih _ _ _ h (by omega)
      · rename_i h1 h2
        have hlt : i < rs.length := by have := h.rl; omega
        have hrb := h.rb i hlt
        have hlt2 : (rs.getD i []).length < caps.getD i 0 := by omega
        have hn : nboxes rs < caps.sum := by
          have hh := nboxes_le (rs.set i (rs.getD i [] ++ [0])) caps (by simpa using h.rl) (fun j hj => by
            rw [getD_set _ _ _ _ _ hlt]
            split
            · rename_i e; subst e; rw [List.length_append, List.length_singleton]; omega
            · exact h.rb j (by simpa using hj))
          rw [nboxes_set _ _ _ hlt] at hh
          omega
        refine Nat.le_trans (flatMap_len _ _ (8 ^ (caps.sum - nboxes rs - 1)) fun x hx => ?_) ?_
        · split
          · exact Nat.zero_le _
          · rename_i hb
            have hx' := List.mem_range'_1.1 hx
            have hne : left.getD (x - 1) 0 ≠ 0 := fun e => hb (by simp only [badB, decide_eq_true_eq]; exact .inl e)
            refine Nat.le_trans (ih i _ _ (h.push (by omega) hlt2 (by omega) hne) hi) ?_
            rw [nboxes_set _ _ _ hlt]
            exact Nat.pow_le_pow_right (by omega) (by omega)
        · rw [List.length_range']
          have hll := h.ll
          have e : caps.sum - nboxes rs = (caps.sum - nboxes rs - 1) + 1 := by omega
          rw [e, Nat.pow_succ, Nat.mul_comm, show caps.sum - nboxes rs - 1 + 1 - 1 = caps.sum - nboxes rs - 1 by omega]
          exact Nat.mul_le_mul_left _ (by omega)

theorem rsrch_max {caps : List Nat} {fuel i : Nat} {rs : List (List Int)} {left : List Int} (h : RIn caps rs left) (hi : i ≤ caps.length) : (rsrch caps fuel i rs left).length ≤ 16777216 := by
  refine Nat.le_trans (rsrch_len caps fuel i rs left h hi) ?_
  have := h.cs
  exact Nat.pow_le_pow_right (n := 8) (by omega) (show _ ≤ 8 by omega)

/-- a number is written behind a row of a copy. -/
theorem OwnRows.pushRow {w1 w2 : World} {B g n cap i : Nat} {rs : List (List Int)} {vs : List Value} {u v' : Value} {x : Int} {o : Obj} (h1 : w1.ownsRow B 22 1 (.slice (some ⟨g, 0, none⟩) n cap) rs.length vs) (h2 : RowsOwned w1 B vs rs)
    (hn : n = rs.length) (hi : i < rs.length) (hu : vs[i]? = some u) (hg : (w1.alloc o).grownBy w2 u.ownBlock) (ho : w2.ownsRow B 3 1 v' ((rs.getD i []).length + 1) (ints (rs.getD i []) ++ [.int .i64 x]))
    (hsm : rs.length ≤ 100) (hm : ∀ xs ∈ rs, xs.length ≤ 100 ∧ ∀ y ∈ xs, I64 y) (hx : I64 x) :
    MadeRows (w2.setCell ⟨g, i, none⟩ v') (.slice (some ⟨g, 0, none⟩) n cap) (rs.set i (rs.getD i [] ++ [x])) ∧ w2.frozen? ⟨g, i, none⟩ = false ∧ w2.cell? ⟨g, i, none⟩ = some u ∧ Below B w1 (w2.setCell ⟨g, i, none⟩ v') := by
  subst hn
  have hvl : vs.length = rs.length := h2.1
  obtain ⟨cs0, fr0, hgh⟩ := owns_type h1 g rfl
  have hglt := lt_of_block hgh
  have hBg : B ≤ g := (h1.lt g rfl).1
  have hne : ∀ (y : Value) (ys : List Int) (W : World), W.ownsRow B 3 1 y ys.length (ints ys) → W.heap[g]? = w1.heap[g]? → y.ownBlock ≠ some g := by
    intro y ys W hy hW e
    obtain ⟨cs, fr, hh⟩ := owns_type hy g e
    rw [hW] at hh
    exact types_ne hgh hh (by decide) rfl
  have hu1 := h2.2.1 i u (rs[i]) hu (by simp [hi])
  have hgu : some g ≠ u.ownBlock := fun e => hne u _ w1 hu1 rfl e.symm
  have hg2 : w2.heap[g]? = w1.heap[g]? := (hg.block g (Nat.lt_of_lt_of_le hglt (by simp)) hgu).trans (Below.heap_alloc _ _ _ hglt)
  have h1a : w2.ownsRow B 22 1 (.slice (some ⟨g, 0, none⟩) rs.length cap) rs.length vs := (h1.alloc o).kept hg (.inr (by simpa [Value.ownBlock] using hgu))
  have hst := (World.ownsRow.stored h1a i v').1
  have hv'g : v'.ownBlock ≠ some g := by
    have e : (ints (rs.getD i []) ++ [.int .i64 x]) = ints (rs.getD i [] ++ [x]) := by simp [ints]
    rw [e] at ho
    exact hne v' (rs.getD i [] ++ [x]) w2 (by simpa using ho) hg2
  refine ⟨⟨vs.set i v', Sl.of_owns hst (by omega), by simp [hvl], fun j y ys hy hys => ?_⟩, h1a.frozenAt i, ?_, ?_⟩
  · by_cases e : i = j
    · subst e
      rw [List.getElem?_set_self (by omega)] at hy hys
      obtain rfl := Option.some.inj hy
      obtain rfl := Option.some.inj hys
      have ho' : (w2.setCell ⟨g, i, none⟩ v').ownsRow B 3 1 v' (rs.getD i [] ++ [x]).length (ints (rs.getD i [] ++ [x])) := by
        have e2 : (ints (rs.getD i []) ++ [.int .i64 x]) = ints (rs.getD i [] ++ [x]) := by simp [ints]
        rw [e2] at ho
        exact ownsRow_setCell_other (by simpa using ho) hv'g v'
      have hmem : rs.getD i [] ∈ rs := by simp [List.getD, hi]
      have hb := hm _ hmem
      exact ⟨⟨Sl.of_owns ho' (by simp at hb ⊢; omega), fun y hy => by
        rcases List.mem_append.1 hy with hy | hy
        · exact hb.2 y hy
        · simp at hy; subst hy; exact hx⟩, owns_nilok ho'⟩
    · rw [List.getElem?_set_ne e] at hy hys
      have hj := h2.2.1 j y ys hy hys
      have hyu : y.ownBlock = none ∨ y.ownBlock ≠ u.ownBlock := by
        cases hyb : y.ownBlock with
        | none => exact .inl rfl
        | some b =>
          right
          intro e2
          rcases Nat.lt_or_ge i j with hlt | hge
          · exact h2.2.2 i j u y b hlt hu hy e2.symm hyb
          · exact h2.2.2 j i y u b (by omega) hy hu hyb e2.symm
      have hj2 := (hj.alloc o).kept hg hyu
      have hj3 := ownsRow_setCell_other hj2 (hne y ys w2 hj2 hg2) (a := ⟨g, i, none⟩) v'
      have hb := hm ys (List.mem_of_getElem? hys)
      exact ⟨⟨Sl.of_owns hj3 (by omega), hb.2⟩, owns_nilok hj3⟩
  · rw [h1a.cellAt i (by omega)]; exact hu
  · have hb1 : Below B w1 w2 := ((Below.refl _ _).alloc (h1.lt g rfl |> fun h => by omega) o).grown hg (by have := (h1.lt g rfl); simp; omega) fun k hk => (hu1.lt k hk).1
    exact hb1.setCell hBg v'
end Go.Proofs.Ytpblbolflnjjnaa
